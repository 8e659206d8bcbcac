/- Plain facts on right disks: what is written, flushed and torn. -/
import Derived.Test.YtmmgnpjhlmiafaaPlainCrash
import Derived.Test.YtmmgnpjhlmiafaaDrawDk
import Derived.Test.YtmmgnpjhlmiafaaPlainBa
namespace Go.Proofs.Ytmmgnpjhlmiafaa

theorem crD_ok {d : Dk} (h : d.ok) (ks : List Int) (t : Int) : (crD d ks t).ok ∧ (crD d ks t).sec.length = d.sec.length ∧ (crD d ks t).cache = [] := by
  rw [← crS_eq, crS, if_pos h]
  obtain ⟨h1, h2, h3, h4, h5⟩ := id h
  have hl := crI_length d.sec d.cache ks (tearN t) (lastI ks d.cache.length) d.cache.length
  exact ⟨⟨by show 1 ≤ (crI _ _ _ _ _ _).length; omega, by show (crI _ _ _ _ _ _).length ≤ 100; omega, by simp, crI_size h ks _ (tearN_le t) _ _ (Nat.le_refl _), by simp⟩, hl, rfl⟩

theorem tearN_nat {n : Nat} (h : n ≤ 32) : tearN (n : Int) = n := by unfold tearN; omega

/-- One write upon a disk on which nothing waits, torn at n. -/
theorem torn_one {d : Dk} (h : d.ok) (hc : d.cache = []) {k : Nat} (hk : k < d.sec.length) {t : ByteArray} (ht : t.size = 32) {n : Nat} (hn : n ≤ 32) :
    wrOk d (k : Int) t ∧ (crD (wrD d (k : Int) t) [1] (n : Int)).sec = d.sec.set k (t.extract 0 n ++ d.sec[k].extract n 32) := by
  have hw : wrOk d (k : Int) t := ⟨h, by omega, ht, by rw [hc]; decide⟩
  refine ⟨hw, ?_⟩
  have hok := (wrD_ok h (k : Int) t).1
  have e : wrD d (k : Int) t = ⟨d.sec, [⟨(k : Int), t⟩]⟩ := by rw [wrD, if_pos hw, hc]; rfl
  rw [e] at hok ⊢
  rw [← crS_eq, crS, if_pos hok]
  show crI d.sec [⟨(k : Int), t⟩] [1] (tearN (n : Int)) (lastI [1] 1) 1 = _
  have ho : oddAt [1] 0 = true := rfl
  rw [crI_yes (i := 0) (by simp) ho, lastI_yes ho, tearN_nat hn]
  simp only [List.getElem_cons_zero, Int.toNat_natCast, crI]
  rw [if_pos trivial, List.getD_eq_getElem?_getD, List.getElem?_eq_getElem hk]
  rfl

/-- Nothing chosen: the sectors are as they were. -/
theorem crash_none {d : Dk} (h : d.ok) (t : Int) : (crD d [] t).sec = d.sec := by
  rw [← crS_eq, crS, if_pos h]
  show crI d.sec d.cache [] _ _ _ = _
  rw [← crI_end (i := 0) (Nat.zero_le _) (fun j _ _ => oddAt_out (by simp))]
  rfl

/-- All chosen, whole: as if it was flushed. -/
theorem crash_all {d : Dk} (h : d.ok) : crD d (List.replicate d.cache.length 1) 32 = flD d := by
  rw [← crS_eq, crS, if_pos h, flD, if_pos h]
  congr 1
  have hodd : ∀ i, i < d.cache.length → oddAt (List.replicate d.cache.length 1) i = true := by
    intro i hi
    rw [oddAt_in (by simpa using hi)]
    simp
  have key : ∀ i, i ≤ d.cache.length → crI d.sec d.cache (List.replicate d.cache.length 1) (tearN 32) (lastI (List.replicate d.cache.length 1) d.cache.length) i = flush d.sec (d.cache.take i) := by
    intro i
    induction i with
    | zero => intro _; rfl
    | succ i ih =>
      intro hi
      have hlt : i < d.cache.length := by omega
      rw [crI_yes hlt (hodd i hlt), ih (by omega), flush_take hlt]
      have h32 := (h.2.2.2.2 _ (List.getElem_mem hlt)).2.2
      have e1 : tearN 32 = 32 := rfl
      have ex : d.cache[i].text.extract 0 32 = d.cache[i].text := by
        have := extract_all d.cache[i].text
        rwa [h32] at this
      have ey : ∀ o : ByteArray, o.extract 32 32 = ⟨#[]⟩ := fun o => ba_ext (by rw [extract_data]; simp)
      rw [e1, ex, ey, ba_nil, ByteArray.append_empty]
      congr 1
      split <;> rfl
  rw [key _ (Nat.le_refl _), List.take_length]

/-- What stands in a sector when all is flushed. -/
theorem flush_get (sec : List ByteArray) (n : Nat) : ∀ c : List Wr, c.length = n → (∀ x ∈ c, 0 ≤ x.at_) → ∀ i, (hi : i < sec.length) → (flush sec c)[i]? = some ((lastAt c (i : Int)).getD sec[i]) := by
  induction n with
  | zero =>
    intro c hc _ i hi
    obtain rfl := List.length_eq_zero_iff.1 hc
    simp [flush, lastAt, hi]
  | succ n ih =>
    intro c hc hx i hi
    rcases List.eq_nil_or_concat c with h0 | ⟨c', x, rfl⟩
    · subst h0; simp at hc
    rw [List.concat_eq_append] at hc hx ⊢
    have hc' : c'.length = n := by simpa using hc
    have e : flush sec (c' ++ [x]) = (flush sec c').set x.at_.toNat x.text := by simp [flush, List.foldl_append]
    have hl := flush_length sec c'
    have h0 := hx x (by simp)
    rw [e, lastAt_append]
    by_cases hxi : x.at_ = (i : Int)
    · rw [if_pos hxi, hxi, Int.toNat_natCast, List.getElem?_set_self (by omega)]
      rfl
    · rw [if_neg hxi, List.getElem?_set_ne (by omega)]
      exact ih c' hc' (fun y hy => hx y (by simp [hy])) i hi

/-- What is read of a right disk. -/
def rdS (d : Dk) (i : Nat) : ByteArray := (lastAt d.cache (i : Int)).getD (d.sec.getD i ⟨#[]⟩)
theorem rdT_in {d : Dk} {i : Nat} (hi : i < d.sec.length) : rdT d (i : Int) = .tuple #[.string (rdS d i), .bool true] := by
  rw [rdT, if_pos ⟨by omega, by omega⟩, Int.toNat_natCast]; rfl

/-- One write upon a disk, and all flushed. -/
theorem wrote_told {d : Dk} (h : d.ok) (hc : d.cache.length < 60) {k : Nat} (hk : k < d.sec.length) {t : ByteArray} (ht : t.size = 32) :
    wrOk d (k : Int) t ∧ (wrD d (k : Int) t).sec = d.sec ∧ (∀ i, i < d.sec.length → rdS (wrD d (k : Int) t) i = if i = k then t else rdS d i) ∧ (∀ i, i < d.sec.length → rdS (flD (wrD d (k : Int) t)) i = if i = k then t else rdS d i) ∧ (flD (wrD d (k : Int) t)).sec[k]? = some t := by
  have hw : wrOk d (k : Int) t := ⟨h, by omega, ht, hc⟩
  have hok := (wrD_ok h (k : Int) t).1
  have e : wrD d (k : Int) t = ⟨d.sec, d.cache ++ [⟨(k : Int), t⟩]⟩ := by rw [wrD, if_pos hw]
  have r1 : ∀ i, i < d.sec.length → rdS (wrD d (k : Int) t) i = if i = k then t else rdS d i := by
    intro i hi
    rw [e]
    unfold rdS
    rw [lastAt_append]
    by_cases hik : i = k
    · subst hik; simp
    · rw [if_neg hik, if_neg (by simp only; omega)]
  have hfl : flD (wrD d (k : Int) t) = ⟨flush d.sec (d.cache ++ [⟨(k : Int), t⟩]), []⟩ := by rw [flD, if_pos hok, e]
  have hat : ∀ x ∈ d.cache ++ [(⟨(k : Int), t⟩ : Wr)], 0 ≤ x.at_ := by
    intro x hx
    rcases List.mem_append.1 hx with h1 | h1
    · exact (h.2.2.2.2 x h1).1
    · simp at h1; subst h1; simp
  have fg := fun i hi => flush_get d.sec _ (d.cache ++ [⟨(k : Int), t⟩]) rfl hat i hi
  have r2 : ∀ i, i < d.sec.length → rdS (flD (wrD d (k : Int) t)) i = if i = k then t else rdS d i := by
    intro i hi
    rw [← r1 i hi, hfl, e]
    have := fg i hi
    unfold rdS
    simp only [lastAt, Option.getD_none]
    rw [List.getD_eq_getElem?_getD, this, Option.getD_some, List.getD_eq_getElem?_getD, List.getElem?_eq_getElem hi]
    rfl
  refine ⟨hw, by rw [e], r1, r2, ?_⟩
  rw [hfl]
  have := fg k hk
  rw [lastAt_append, if_pos rfl] at this
  exact this

end Go.Proofs.Ytmmgnpjhlmiafaa
