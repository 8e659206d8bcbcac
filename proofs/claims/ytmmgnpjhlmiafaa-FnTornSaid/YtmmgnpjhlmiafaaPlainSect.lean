/- Plain facts on right disks: what is written, flushed and torn. -/
import Derived.Test.YtmmgnpjhlmiafaaPlainCrash
import Derived.Test.YtmmgnpjhlmiafaaDrawDk
import Derived.Test.YtmmgnpjhlmiafaaPlainBa
namespace Go.Proofs.Ytmmgnpjhlmiafaa

theorem crD_ok {d : Dk} (h : d.ok) (ks : List Int) (t : Int) : (crD d ks t).ok ∧ (crD d ks t).sec.length = d.sec.length ∧ (crD d ks t).cache = [] := by
  rw [← crS_eq, crS, if_pos h]
  obtain ⟨h1, h2, h3, h4, h5⟩ := id h
  have hl := crI_length d.sec d.cache ks (tearN t) (lastI ks d.cache.length) d.cache.length
  exact ⟨⟨by show 1 ≤ (crI _ _ _ _ _ _).length; omega, by show (crI _ _ _ _ _ _).length ≤ 100; omega, by simp, crI_size h ks _ (tearN_le t) _ _ (Nat.le_refl _), by simp⟩, hl, rfl⟩

theorem tearN_nat {n : Nat} (h : n ≤ 32) : tearN (n : Int) = n := by unfold tearN; omega

/-- One write upon a disk on which nothing waits, torn at n. -/
theorem torn_one {d : Dk} (h : d.ok) (hc : d.cache = []) {k : Nat} (hk : k < d.sec.length) {t : ByteArray} (ht : t.size = 32) {n : Nat} (hn : n ≤ 32) :
    wrOk d (k : Int) t ∧ (crD (wrD d (k : Int) t) [1] (n : Int)).sec = d.sec.set k (t.extract 0 n ++ d.sec[k].extract n 32) := by
  have hw : wrOk d (k : Int) t := ⟨h, by omega, ht, by rw [hc]; decide⟩
  refine ⟨hw, ?_⟩
  have hok := (wrD_ok h (k : Int) t).1
  have e : wrD d (k : Int) t = ⟨d.sec, [⟨(k : Int), t⟩]⟩ := by rw [wrD, if_pos hw, hc]; rfl
  rw [e] at hok ⊢
  rw [← crS_eq, crS, if_pos hok]
  show crI d.sec [⟨(k : Int), t⟩] [1] (tearN (n : Int)) (lastI [1] 1) 1 = _
  have ho : oddAt [1] 0 = true := rfl
  rw [crI_yes (i := 0) (by simp) ho, lastI_yes ho, tearN_nat hn]
  simp only [List.getElem_cons_zero, Int.toNat_natCast, crI]
  rw [if_pos trivial, List.getD_eq_getElem?_getD, List.getElem?_eq_getElem hk]
  rfl

/-- Nothing chosen: the sectors are as they were. -/
theorem crash_none {d : Dk} (h : d.ok) (t : Int) : (crD d [] t).sec = d.sec := by
  rw [← crS_eq, crS, if_pos h]
  show crI d.sec d.cache [] _ _ _ = _
  rw [← crI_end (i := 0) (Nat.zero_le _) (fun j _ _ => oddAt_out (by simp))]
  rfl

/-- All chosen, whole: as if it was flushed. -/
theorem crash_all {d : Dk} (h : d.ok) : crD d (List.replicate d.cache.length 1) 32 = flD d := by
  rw [← crS_eq, crS, if_pos h, flD, if_pos h]
  congr 1
  have hodd : ∀ i, i < d.cache.length → oddAt (List.replicate d.cache.length 1) i = true := by
    intro i hi
    rw [oddAt_in (by simpa using hi)]
    simp
  have key : ∀ i, i ≤ d.cache.length → crI d.sec d.cache (List.replicate d.cache.length 1) (tearN 32) (lastI (List.replicate d.cache.length 1) d.cache.length) i = flush d.sec (d.cache.take i) := by
    intro i
    induction i with
    | zero => intro _; rfl
    | succ i ih =>
      intro hi
      have hlt : i < d.cache.length := by omega
      rw [crI_yes hlt (hodd i hlt), ih (by omega), flush_take hlt]
      have h32 := (h.2.2.2.2 _ (List.getElem_mem hlt)).2.2
      have e1 : tearN 32 = 32 := rfl
      have ex : d.cache[i].text.extract 0 32 = d.cache[i].text := by
        have := extract_all d.cache[i].text
        rwa [h32] at this
      have ey : ∀ o : ByteArray, o.extract 32 32 = ⟨#[]⟩ := fun o => ba_ext (by rw [extract_data]; simp)
      rw [e1, ex, ey, ba_nil, ByteArray.append_empty]
      congr 1
      split <;> rfl
  rw [key _ (Nat.le_refl _), List.take_length]

end Go.Proofs.Ytmmgnpjhlmiafaa
