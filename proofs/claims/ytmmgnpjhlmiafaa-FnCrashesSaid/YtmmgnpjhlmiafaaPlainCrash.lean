/- Plain facts on crashes: which writes are chosen, and what is in the sectors behind them. -/
import Derived.Test.YtmmgnpjhlmiafaaImplCrash
import Derived.Test.YtmmgnpjhlmiafaaImplFlush
import Derived.Laws.Strings2
namespace Go.Proofs.Ytmmgnpjhlmiafaa
open Go.RowKit

/-- The place of the last chosen one of the first i. -/
def lastI (ks : List Int) : Nat → Int
  | 0 => -1
  | i + 1 => if oddAt ks i then (i : Int) else lastI ks i
theorem lastI_yes {ks : List Int} {i : Nat} (h : oddAt ks i = true) : lastI ks (i + 1) = (i : Int) := by rw [lastI, if_pos h]
theorem lastI_no {ks : List Int} {i : Nat} (h : oddAt ks i = false) : lastI ks (i + 1) = lastI ks i := by rw [lastI]; simp [h]
theorem lastI_end {ks : List Int} {i n : Nat} (hi : i ≤ n) (h : ∀ j, i ≤ j → j < n → oddAt ks j = false) : lastI ks i = lastI ks n := by
  induction n with
  | zero => have : i = 0 := by omega
            subst this; rfl
  | succ n ih =>
    by_cases e : i = n + 1
    · subst e; rfl
    · rw [lastI_no (h n (by omega) (by omega))]
      exact ih (by omega) (fun j h1 h2 => h j h1 (by omega))
theorem lastI_lt (ks : List Int) (i : Nat) : -1 ≤ lastI ks i ∧ lastI ks i < i ∧ lastI ks i < ks.length := by
  induction i with
  | zero => simp [lastI]; omega
  | succ i ih =>
    unfold lastI
    split
    · rename_i h
      have : i < ks.length := by
        rcases Nat.lt_or_ge i ks.length with h2 | h2
        · exact h2
        · rw [oddAt_out (by omega)] at h; cases h
      omega
    · omega
/-- The sectors behind the first i writes. -/
def crI (sec : List ByteArray) (c : List Wr) (ks : List Int) (n : Nat) (last : Int) : Nat → List ByteArray
  | 0 => sec
  | i + 1 => match c[i]? with
    | some x => if oddAt ks i then (crI sec c ks n last i).set x.at_.toNat (if (i : Int) = last then x.text.extract 0 n ++ ((crI sec c ks n last i).getD x.at_.toNat ⟨#[]⟩).extract n 32 else x.text) else crI sec c ks n last i
    | none => crI sec c ks n last i
theorem crI_length (sec : List ByteArray) (c : List Wr) (ks : List Int) (n : Nat) (last : Int) (i : Nat) : (crI sec c ks n last i).length = sec.length := by
  induction i with
  | zero => rfl
  | succ i ih => unfold crI; split <;> (try split) <;> simp [ih]
theorem crI_yes {sec : List ByteArray} {c : List Wr} {ks : List Int} {n : Nat} {last : Int} {i : Nat} (h : i < c.length) (ho : oddAt ks i = true) : crI sec c ks n last (i + 1) = (crI sec c ks n last i).set c[i].at_.toNat (if (i : Int) = last then c[i].text.extract 0 n ++ ((crI sec c ks n last i).getD c[i].at_.toNat ⟨#[]⟩).extract n 32 else c[i].text) := by
  rw [crI, List.getElem?_eq_getElem h]; simp [ho]
theorem crI_no {sec : List ByteArray} {c : List Wr} {ks : List Int} {n : Nat} {last : Int} {i : Nat} (ho : oddAt ks i = false) : crI sec c ks n last (i + 1) = crI sec c ks n last i := by
  rw [crI]; split <;> simp [ho]
theorem crI_end {sec : List ByteArray} {c : List Wr} {ks : List Int} {n m : Nat} {last : Int} {i : Nat} (hi : i ≤ m) (h : ∀ j, i ≤ j → j < m → oddAt ks j = false) : crI sec c ks n last i = crI sec c ks n last m := by
  induction m with
  | zero => have : i = 0 := by omega
            subst this; rfl
  | succ m ih =>
    by_cases e : i = m + 1
    · subst e; rfl
    · rw [crI_no (h m (by omega) (by omega))]
      exact ih (by omega) (fun j h1 h2 => h j h1 (by omega))
theorem lastI_max {ks : List Int} {n j : Nat} (hj : j < n) (h : lastI ks n < (j : Int)) : oddAt ks j = false := by
  induction n with
  | zero => omega
  | succ n ih =>
    cases ho : oddAt ks n with
    | true => rw [lastI_yes ho] at h; omega
    | false =>
      rw [lastI_no ho] at h
      by_cases e : j = n
      · subst e; exact ho
      · exact ih (by omega) h
/-- All sectors are whole ones. -/
theorem crI_size {d : Dk} (hok : d.ok) (ks : List Int) (n : Nat) (hn : n ≤ 32) (last : Int) (i : Nat) (hi : i ≤ d.cache.length) : ∀ s ∈ crI d.sec d.cache ks n last i, s.size = 32 := by
  induction i with
  | zero => exact hok.2.2.2.1
  | succ i ih =>
    have ih := ih (by omega)
    have hic : i < d.cache.length := by omega
    obtain ⟨a1, a2, a3⟩ := hok.2.2.2.2 _ (List.getElem_mem hic)
    cases ho : oddAt ks i with
    | false => rw [crI_no ho]; exact ih
    | true =>
      rw [crI_yes hic ho]
      intro s hs
      rcases List.mem_or_eq_of_mem_set hs with h | h
      · exact ih s h
      · subst h
        split
        · have hk : d.cache[i].at_.toNat < (crI d.sec d.cache ks n last i).length := by rw [crI_length]; omega
          rw [List.getD_eq_getElem?_getD, List.getElem?_eq_getElem hk]
          have := ih _ (List.getElem_mem hk)
          simp only [Option.getD_some]
          rw [ByteArray.size_append, ByteArray.size_extract, ByteArray.size_extract, a3, this]
          omega
        · exact a3
def crS (d : Dk) (ks : List Int) (t : Int) : Dk := if d.ok then ⟨crI d.sec d.cache ks (tearN t) (lastI ks d.cache.length) d.cache.length, []⟩ else d

theorem kptI_prefix {c : List Wr} {ks : List Int} {i m : Nat} (h : i ≤ m) : kptI c ks i <+: kptI c ks m := by
  induction m with
  | zero => have : i = 0 := by omega
            subst this; exact List.prefix_refl _
  | succ m ih =>
    by_cases e : i = m + 1
    · subst e; exact List.prefix_refl _
    · refine (ih (by omega)).trans ?_
      rw [kptI]
      split
      · split
        · exact List.prefix_append _ _
        · exact List.prefix_refl _
      · exact List.prefix_refl _
theorem kptI_end {c : List Wr} {ks : List Int} {i m : Nat} (hi : i ≤ m) (h : ∀ j, i ≤ j → j < m → oddAt ks j = false) : kptI c ks i = kptI c ks m := by
  induction m with
  | zero => have : i = 0 := by omega
            subst this; rfl
  | succ m ih =>
    by_cases e : i = m + 1
    · subst e; rfl
    · rw [kptI_no (h m (by omega) (by omega))]
      exact ih (by omega) (fun j h1 h2 => h j h1 (by omega))
theorem lastI_ge {ks : List Int} {n i : Nat} (hi : i < n) (ho : oddAt ks i = true) : (i : Int) ≤ lastI ks n := by
  rcases Int.lt_or_le (lastI ks n) (i : Int) with h | h
  · rw [lastI_max hi h] at ho; cases ho
  · exact h
theorem lastI_odd {ks : List Int} {n m : Nat} (h : lastI ks n = (m : Int)) : oddAt ks m = true := by
  induction n with
  | zero => simp [lastI] at h
  | succ n ih =>
    cases ho : oddAt ks n with
    | true => rw [lastI_yes ho] at h; have : n = m := by omega
              subst this; exact ho
    | false => rw [lastI_no ho] at h; exact ih h

theorem overS_str (s : Sec) {t : ByteArray} (ht : t.size = 32) {m : Nat} (hm : m ≤ 32) : (overS s t m).str = t.extract 0 m ++ s.str.extract m 32 := by
  obtain ⟨⟨tl⟩⟩ := t
  have hl : tl.length = 32 := ht
  have e : (overS s ⟨⟨tl⟩⟩ m).1 = tl.take m ++ s.1.drop m := by
    unfold overS splice
    simp [Nat.min_eq_left hm, hl]
  show (⟨(overS s ⟨⟨tl⟩⟩ m).1.toArray⟩ : ByteArray) = _
  rw [e]
  show _ = (ByteArray.mk tl.toArray).extract 0 m ++ (ByteArray.mk s.1.toArray).extract m 32
  rw [Go.ByteArray.extract_mk, Go.ByteArray.extract_mk]
  apply ByteArray.ext
  have h2 : (s.1.drop m).take (32 - m) = s.1.drop m := List.take_of_length_le (by rw [List.length_drop, s.2]; omega)
  rw [h2]
  simp

theorem map_putS {l : List Sec} {k : Nat} (h : k < l.length) (t : ByteArray) (m : Nat) : (putS l k t m).map Sec.str = (l.map Sec.str).set k (overS l[k] t m).str := by
  rw [putS_at h, List.map_set]

theorem landI_cr {d : Dk} (hok : d.ok) (ks : List Int) (n : Nat) (hn : n ≤ 32) (i : Nat) (hi : i ≤ d.cache.length) :
    (landI (d.sec.map secOf) (kptI d.cache ks d.cache.length) n (kptI d.cache ks i).length).map Sec.str = crI d.sec d.cache ks n (lastI ks d.cache.length) i := by
  induction i with
  | zero => exact map_secOf hok.2.2.2.1
  | succ i ih =>
    have ih := ih (by omega)
    have hic : i < d.cache.length := by omega
    obtain ⟨a1, a2, a3⟩ := hok.2.2.2.2 _ (List.getElem_mem hic)
    cases ho : oddAt ks i with
    | false => rw [kptI_no ho, crI_no ho]; exact ih
    | true =>
      have hy := kptI_yes (ks := ks) hic ho
      obtain ⟨r, hr⟩ := kptI_prefix (c := d.cache) (ks := ks) (show i + 1 ≤ d.cache.length by omega)
      rw [hy] at hr
      have hjl : (kptI d.cache ks i).length < (kptI d.cache ks d.cache.length).length := by rw [← hr]; simp
      have hj : (kptI d.cache ks d.cache.length)[(kptI d.cache ks i).length] = d.cache[i] := by
        have : (kptI d.cache ks d.cache.length)[(kptI d.cache ks i).length]? = some d.cache[i] := by rw [← hr]; simp
        rw [List.getElem?_eq_getElem hjl] at this
        exact Option.some.inj this
      have hcond : ((kptI d.cache ks i).length + 1 = (kptI d.cache ks d.cache.length).length) ↔ ((i : Int) = lastI ks d.cache.length) := by
        have hge := lastI_ge hic ho
        have hlt := lastI_lt ks d.cache.length
        constructor
        · intro he
          rcases Int.lt_or_eq_of_le hge with h | h
          · obtain ⟨m, hm⟩ := Int.eq_ofNat_of_zero_le (show 0 ≤ lastI ks d.cache.length by omega)
            have hmo := lastI_odd hm
            have hmc : m < d.cache.length := by omega
            have p1 := (kptI_prefix (c := d.cache) (ks := ks) (show i + 1 ≤ m by omega)).length_le
            have p2 := (kptI_prefix (c := d.cache) (ks := ks) (show m + 1 ≤ d.cache.length by omega)).length_le
            rw [kptI_yes hmc hmo] at p2
            rw [hy] at p1
            simp at p1 p2
            omega
          · exact h
        · intro he
          rw [← kptI_end (c := d.cache) (ks := ks) (show i + 1 ≤ d.cache.length by omega) (fun j h1 h2 => lastI_max h2 (by omega)), hy]
          simp
      have hk : d.cache[i].at_.toNat < (landI (d.sec.map secOf) (kptI d.cache ks d.cache.length) n (kptI d.cache ks i).length).length := by rw [landI_length, List.length_map]; omega
      rw [hy, List.length_append, List.length_singleton, landI_succ hjl, crI_yes hic ho, ← ih]
      simp only [hj]
      rw [map_putS hk]
      congr 1
      have hgd : ((landI (d.sec.map secOf) (kptI d.cache ks d.cache.length) n (kptI d.cache ks i).length).map Sec.str).getD d.cache[i].at_.toNat ⟨#[]⟩ = (landI (d.sec.map secOf) (kptI d.cache ks d.cache.length) n (kptI d.cache ks i).length)[d.cache[i].at_.toNat].str := by
        rw [List.getD_eq_getElem?_getD, List.getElem?_map, List.getElem?_eq_getElem hk]; rfl
      rw [hgd]
      by_cases hc : (i : Int) = lastI ks d.cache.length
      · rw [if_pos (hcond.2 hc), if_pos hc]
        exact overS_str _ a3 hn
      · rw [if_neg (fun h => hc (hcond.1 h)), if_neg hc]
        exact overS_whole _ a3

theorem crS_eq (d : Dk) (ks : List Int) (t : Int) : crS d ks t = crD d ks t := by
  unfold crS crD landD
  by_cases h : d.ok
  · rw [if_pos h, if_pos h, landI_cr h ks (tearN t) (tearN_le t) _ (Nat.le_refl _)]
  · rw [if_neg h, if_neg h]

end Go.Proofs.Ytmmgnpjhlmiafaa
