/- Texts of our own, joined. -/
import Derived.Test.YtlifgcgoehkinaaGreatDoorJcx
import Derived.Test.YtlifgcgoehkinaaGreatDoorJd
import Derived.Test.YtlifgcgoehkinaaGreatDoorJe
/- What is needed is what tells its subject, and is wanted. -/
namespace Go.Proofs.YtlifgcgoehkinaaGreatDoor

def noBig (l : List Itm) (x : Itm) : Bool := !(l.any fun y => decide (sjOf y = sjOf x) && bigB y x)
def othS (rK rV : Int) (y : Itm) : Bool := decide (y.2.valid = rV ∧ y.2.kind ≠ rK)
def wantO (l : List Itm) (f : Int × Int × Int → Option Nat) (x : Itm) : Bool :=
  if x.2.kind = 1 then boxO f x.2.valid else if x.2.kind = 2 then l.any (othS x.2.kind x.2.valid) else if x.2.kind = 5 then addO f x.2.valid x.2.uid else mailO f x.2.valid x.2.uid

theorem noBig_iff {l : List Itm} {x : Itm} : noBig l x = true ↔ ∀ y ∈ l, sjOf y = sjOf x → bigB y x = false := by
  unfold noBig
  rw [Bool.not_eq_true', List.any_eq_false]
  constructor
  · intro h y hy e
    have := h y hy
    simp only [Bool.and_eq_true, decide_eq_true_eq, not_and, Bool.not_eq_true] at this
    exact this e
  · intro h y hy
    simp only [Bool.and_eq_true, decide_eq_true_eq, not_and, Bool.not_eq_true]
    exact h y hy
theorem bigB_eq {a b : Itm} (h1 : bigB a b = false) (h2 : bigB b a = false) : a.1 = b.1 := by
  unfold bigB aheadB at *
  simp only [decide_eq_false_iff_not] at *
  omega

theorem tel_iff {l : List Itm} (hu : Uniq l) {i : Nat} {x : Itm} (hx : l[i]? = some x) : decide (telP l l.length (sjOf x) = some i) = (firstB l i x && noBig l x) := by
  have hi : i < l.length := (List.getElem?_eq_some_iff.1 hx).1
  have hxl : x ∈ l := List.mem_of_getElem? hx
  rcases telI l l.length (Nat.le_refl _) (sjOf x) with ⟨h1, h2⟩ | ⟨j, z, h1, h2, h3, h4, h5, h6⟩
  · exact absurd rfl (h2 i x hi hx)
  · have hzl : z ∈ l := List.mem_of_getElem? h3
    have hbig : ∀ y ∈ l, sjOf y = sjOf x → bigB y z = false := fun y hy e => by
      obtain ⟨q, hq⟩ := List.mem_iff_getElem?.1 hy
      exact h5 q y (List.getElem?_eq_some_iff.1 hq).1 hq e
    by_cases hji : j = i
    · subst hji
      have hzx : z = x := Option.some.inj (h3.symm.trans hx)
      subst hzx
      rw [decide_eq_true h1]
      have hf : firstB l j z = true := by
        unfold firstB
        have : (l.take j).any (fun y => decide (y.1 = z.1)) = false := by
          rw [List.any_eq_false]
          intro y hy
          simp only [decide_eq_true_eq]
          intro e
          obtain ⟨q, hq⟩ := List.mem_iff_getElem?.1 hy
          have hql : q < j := by have := (List.getElem?_eq_some_iff.1 hq).1; rw [List.length_take] at this; omega
          rw [List.getElem?_take_of_lt hql] at hq
          have hyz : y = z := hu y (List.mem_of_getElem? hq) z hzl e
          have := h6 q y hql hq (by rw [hyz])
          rw [hyz, bigB_self] at this
          cases this
        rw [this]; rfl
      rw [hf, noBig_iff.2 hbig]; rfl
    · rw [h1, decide_eq_false (fun e => hji (Option.some.inj e))]
      symm
      rw [Bool.and_eq_false_iff]
      by_cases hn : noBig l x = true
      · left
        have hzx : z = x := hu z hzl x hxl (bigB_eq (noBig_iff.1 hn z hzl h4) (hbig x hxl rfl))
        have hlt : j < i := by
          rcases Nat.lt_or_gt_of_ne hji with h | h
          · exact h
          · have := h6 i x h hx rfl
            rw [hzx, bigB_self] at this
            cases this
        unfold firstB
        rw [List.any_eq_true.2 ⟨z, List.mem_of_getElem? (i := j) (by rw [List.getElem?_take_of_lt hlt]; exact h3), by rw [hzx]; simp⟩]
        rfl
      · right
        exact Bool.eq_false_iff.2 hn

theorem tel_has {l : List Itm} (k v u : Int) : (telP l l.length (k, v, u)).isSome = hasO l k v u := by
  unfold hasO
  rcases telI l l.length (Nat.le_refl _) (k, v, u) with ⟨h1, h2⟩ | ⟨j, z, h1, h2, h3, h4, _⟩
  · rw [h1]
    cases hb : bestR k v u l with
    | none => rfl
    | some y =>
      obtain ⟨hy, e, _⟩ := bestR_some hb
      obtain ⟨q, hq⟩ := List.mem_iff_getElem?.1 hy
      exact absurd (by unfold sjOf; rw [e.1, e.2.1, e.2.2]) (h2 q y (List.getElem?_eq_some_iff.1 hq).1 hq)
  · rw [h1]
    have e : z.2.kind = k ∧ z.2.valid = v ∧ z.2.uid = u := by unfold sjOf at h4; simpa using h4
    obtain ⟨y, hy⟩ := bestR_there (List.mem_of_getElem? h3) e
    rw [hy]
    rfl

theorem ok_next {r : Rc} (h : r.ok) (hk : r.kind ≠ 1) : r.next = 0 := by
  have := h.2.2.1
  rw [if_neg hk] at this
  exact this.2.2
theorem tel_uid {r : Rc} (h : r.ok) (hk : r.kind < 3) : r.uid = 0 := by
  have := h.2.2.2.1
  rw [if_neg (by omega)] at this
  exact this

theorem seq_noBig {l : List Itm} (hok : ∀ y ∈ l, y.2.ok) {x : Itm} (hx : x ∈ l) (hk : x.2.kind ≠ 1) : seqB (bestR x.2.kind x.2.valid x.2.uid l) x = noBig l x := by
  obtain ⟨b, hb⟩ := bestR_there hx ⟨rfl, rfl, rfl⟩
  obtain ⟨hbl, hbe, hbm⟩ := bestR_some hb
  rw [hb]
  have hnx : ∀ y ∈ l, sjOf y = sjOf x → y.2.next = 0 := fun y hy e => ok_next (hok y hy) (by
    have : y.2.kind = x.2.kind := congrArg Prod.fst e
    rw [this]; exact hk)
  have hx0 := hnx x hx rfl
  have hxb : x.1 ≤ b.1 := hbm x hx rfl rfl rfl
  by_cases hn : noBig l x = true
  · rw [hn]
    have hs : sjOf b = sjOf x := by unfold sjOf; rw [hbe.1, hbe.2.1, hbe.2.2]
    have h1 := noBig_iff.1 hn b hbl hs
    have hb0 := hnx b hbl hs
    unfold bigB aheadB at h1
    simp only [decide_eq_false_iff_not] at h1
    show decide (b.1 = x.1) = true
    exact decide_eq_true (by omega)
  · rw [Bool.eq_false_iff.2 hn]
    show decide (b.1 = x.1) = false
    refine decide_eq_false (fun e => hn (noBig_iff.2 fun y hy hs => ?_))
    have h1 := hbm y hy (congrArg Prod.fst hs) (congrArg (fun s => s.2.1) hs) (congrArg (fun s => s.2.2) hs)
    have hy0 := hnx y hy hs
    unfold bigB aheadB
    simp only [decide_eq_false_iff_not]
    omega

theorem need_iff {l : List Itm} (hok : ∀ y ∈ l, y.2.ok) {x : Itm} (hx : x ∈ l) : needO l x = (noBig l x && wantO l (telP l l.length) x) := by
  have hb : ∀ v, boxO (telP l l.length) v = thereO l v := fun v => by unfold boxO thereO; rw [tel_has, tel_has]
  have ha : ∀ v u, addO (telP l l.length) v u = (thereO l v && hasO l 3 v u) := fun v u => by unfold addO; rw [hb, tel_has]
  have hm : ∀ v u, mailO (telP l l.length) v u = ((thereO l v && hasO l 3 v u) && !hasO l 5 v u) := fun v u => by unfold mailO; rw [ha, tel_has]
  have hxo := hok x hx
  unfold needO wantO
  by_cases h1 : x.2.kind = 1
  · rw [if_pos h1, if_pos h1, hb]
    congr 1
    unfold anyBig noBig
    congr 1
    have : ∀ y ∈ l, (decide (y.2.kind = 1 ∧ y.2.valid = x.2.valid) && bigB y x) = (decide (sjOf y = sjOf x) && bigB y x) := fun y hy => by
      congr 1
      apply decide_eq_decide.2
      unfold sjOf
      constructor
      · rintro ⟨e1, e2⟩
        rw [e1, e2, h1, tel_uid (hok y hy) (by omega), tel_uid hxo (by omega)]
      · intro e
        simp only [Prod.mk.injEq] at e
        exact ⟨by omega, e.2.1⟩
    rw [Bool.eq_iff_iff, List.any_eq_true, List.any_eq_true]
    constructor
    · rintro ⟨y, hy, e⟩; exact ⟨y, hy, by rw [← this y hy]; exact e⟩
    · rintro ⟨y, hy, e⟩; exact ⟨y, hy, by rw [this y hy]; exact e⟩
  · rw [if_neg h1, if_neg h1]
    by_cases h2 : x.2.kind = 2
    · rw [if_pos h2, if_pos h2]
      have hsb := seq_noBig hok hx h1
      rw [h2, tel_uid hxo (by omega)] at hsb
      rw [hsb, Bool.and_comm]
      congr 1
      unfold anyOther
      rw [h2, Bool.eq_iff_iff, List.any_eq_true, List.any_eq_true]
      constructor
      · rintro ⟨y, hy, e⟩; exact ⟨y, hy, by unfold othS; simp only [decide_eq_true_eq] at e ⊢; exact ⟨e.2, e.1⟩⟩
      · rintro ⟨y, hy, e⟩; exact ⟨y, hy, by unfold othS at e; simp only [decide_eq_true_eq] at e ⊢; exact ⟨e.2, e.1⟩⟩
    · rw [if_neg h2, if_neg h2]
      have hsb := seq_noBig hok hx h1
      by_cases h5 : x.2.kind = 5
      · rw [if_pos h5, if_pos h5, ha]
        rw [h5] at hsb
        rw [hsb, Bool.and_comm]
      · rw [if_neg h5, if_neg h5, hm, hsb, Bool.and_comm]

theorem needB_iff {l : List Itm} (hok : itemsOk l) {i : Nat} {x : Itm} (hx : l[i]? = some x) : needB l i x = (decide (telP l l.length (sjOf x) = some i) && wantO l (telP l l.length) x) := by
  rw [tel_iff hok.2.1 hx]
  unfold needB
  rw [need_iff (fun y hy => (hok.1 y hy).2) (List.mem_of_getElem? hx), Bool.and_assoc]

end Go.Proofs.YtlifgcgoehkinaaGreatDoor

/- How records lie in memory; two lists of records that are alike. -/
namespace Go.Proofs.YtlifgcgoehkinaaGreatDoor
open Go.RowKit




end Go.Proofs.YtlifgcgoehkinaaGreatDoor

/- How mails lie in memory. -/
namespace Go.Proofs.YtlifgcgoehkinaaGreatDoor
open Go.RowKit


end Go.Proofs.YtlifgcgoehkinaaGreatDoor
