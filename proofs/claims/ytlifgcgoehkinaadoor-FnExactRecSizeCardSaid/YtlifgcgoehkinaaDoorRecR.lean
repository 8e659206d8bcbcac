/- Records: what the model's ReadRec hands back. -/
import Derived.Test.YtlifgcgoehkinaaDoorRecC
import Derived.Deep.DeepCutAuto
namespace Go.Proofs.YtlifgcgoehkinaaDoor
open Go.RowKit

theorem cuV_go {t : ByteArray} {p : Nat} {b : Bool} {n q : Nat} (h : cuV t p b = (n, q, false)) : b = false ∧ rv t.data.toList p = some (n, q) := by
  unfold cuV at h
  cases b with
  | true => simp at h
  | false =>
    rcases hr : rv t.data.toList p with _ | ⟨n', q'⟩
    · simp [hr] at h
    · simp [hr] at h; exact ⟨rfl, by rw [h.1, h.2]⟩
theorem cuV_bad {t : ByteArray} {p : Nat} {n q : Nat} (h : cuV t p false = (n, q, true)) : rv t.data.toList p = none := by
  unfold cuV at h
  rcases hr : rv t.data.toList p with _ | ⟨n', q'⟩
  · rfl
  · simp [hr] at h
theorem cuS_go {t : ByteArray} {p : Nat} {b : Bool} {n : ByteArray} {q : Nat} (h : cuS t p b = (n, q, false)) : b = false ∧ rsO t p = some (n, q) := by
  unfold cuS at h
  cases b with
  | true => simp at h
  | false =>
    rcases hr : rsO t p with _ | ⟨n', q'⟩
    · simp [hr] at h
    · simp [hr] at h; exact ⟨rfl, by rw [h.1, h.2]⟩
theorem cuS_bad {t : ByteArray} {p : Nat} {n : ByteArray} {q : Nat} (h : cuS t p false = (n, q, true)) : rsO t p = none := by
  unfold cuS at h
  rcases hr : rsO t p with _ | ⟨n', q'⟩
  · rfl
  · simp [hr] at h

/-- What the reader has read is the record, unless it is bad. -/
theorem rd_told {t : ByteArray} {k : UInt8} {rest : List UInt8} (hk : t.data.toList = k :: rest) {n1 n2 n3 n4 : Nat} {x5 x6 x7 : ByteArray} {q1 q2 q3 q4 q5 q6 q7 : Nat} {d1 d2 d3 d4 d5 d6 d7 : Bool}
    (h1 : cuV t 1 false = (n1, q1, d1)) (h2 : cuV t q1 d1 = (n2, q2, d2)) (h3 : cuV t q2 d2 = (n3, q3, d3)) (h4 : cuV t q3 d3 = (n4, q4, d4))
    (h5 : cuS t q4 d4 = (x5, q5, d5)) (h6 : cuS t q5 d5 = (x6, q6, d6)) (h7 : cuS t q6 d6 = (x7, q7, d7)) :
    prs t = if d7 = true then none else some ⟨k.toNat, n1, n2, n3, n4, x5, x6, x7⟩ := by
  unfold prs
  cases d1 with
  | true =>
    have e1 := cuV_bad h1
    have : d7 = true := by
      cases d7 with
      | true => rfl
      | false => have a6 := cuS_go h7; have a5 := cuS_go (a6.1 ▸ h6); have a4 := cuS_go (a5.1 ▸ h5); have a3 := cuV_go (a4.1 ▸ h4); have a2 := cuV_go (a3.1 ▸ h3); have a1 := cuV_go (a2.1 ▸ h2); cases a1.1
    simp [hk, this, hk ▸ e1]
  | false =>
  have e1 := (cuV_go h1).2
  cases d2 with
  | true =>
    have e2 := cuV_bad h2
    have : d7 = true := by
      cases d7 with
      | true => rfl
      | false => have a6 := cuS_go h7; have a5 := cuS_go (a6.1 ▸ h6); have a4 := cuS_go (a5.1 ▸ h5); have a3 := cuV_go (a4.1 ▸ h4); have a2 := cuV_go (a3.1 ▸ h3); cases a2.1
    simp [hk, this, hk ▸ e1, hk ▸ e2]
  | false =>
  have e2 := (cuV_go h2).2
  cases d3 with
  | true =>
    have e3 := cuV_bad h3
    have : d7 = true := by
      cases d7 with
      | true => rfl
      | false => have a6 := cuS_go h7; have a5 := cuS_go (a6.1 ▸ h6); have a4 := cuS_go (a5.1 ▸ h5); have a3 := cuV_go (a4.1 ▸ h4); cases a3.1
    simp [hk, this, hk ▸ e1, hk ▸ e2, hk ▸ e3]
  | false =>
  have e3 := (cuV_go h3).2
  cases d4 with
  | true =>
    have e4 := cuV_bad h4
    have : d7 = true := by
      cases d7 with
      | true => rfl
      | false => have a6 := cuS_go h7; have a5 := cuS_go (a6.1 ▸ h6); have a4 := cuS_go (a5.1 ▸ h5); cases a4.1
    simp [hk, this, hk ▸ e1, hk ▸ e2, hk ▸ e3, hk ▸ e4]
  | false =>
  have e4 := (cuV_go h4).2
  cases d5 with
  | true =>
    have e5 := cuS_bad h5
    have : d7 = true := by
      cases d7 with
      | true => rfl
      | false => have a6 := cuS_go h7; have a5 := cuS_go (a6.1 ▸ h6); cases a5.1
    simp [hk, this, hk ▸ e1, hk ▸ e2, hk ▸ e3, hk ▸ e4, e5]
  | false =>
  have e5 := (cuS_go h5).2
  cases d6 with
  | true =>
    have e6 := cuS_bad h6
    have : d7 = true := by
      cases d7 with
      | true => rfl
      | false => have a6 := cuS_go h7; cases a6.1
    simp [hk, this, hk ▸ e1, hk ▸ e2, hk ▸ e3, hk ▸ e4, e5, e6]
  | false =>
  have e6 := (cuS_go h6).2
  cases d7 with
  | true =>
    have e7 := cuS_bad h7
    simp [hk, hk ▸ e1, hk ▸ e2, hk ▸ e3, hk ▸ e4, e5, e6, e7]
  | false =>
    have e7 := (cuS_go h7).2
    simp [hk, hk ▸ e1, hk ▸ e2, hk ▸ e3, hk ▸ e4, e5, e6, e7]

/-- No record. -/
def Rc.nil : Rc := ⟨0, 0, 0, 0, 0, emp, emp, emp⟩
/-- What ReadRec hands back. -/
def rrT (t : ByteArray) : Value := match rrO t with
  | some r => .tuple #[r.v, .bool true]
  | none => .tuple #[Rc.nil.v, .bool false]
theorem rrT_some {t : ByteArray} {r : Rc} (h : rrO t = some r) : rrT t = .tuple #[r.v, .bool true] := by rw [rrT, h]
theorem rrT_none {t : ByteArray} (h : rrO t = none) : rrT t = .tuple #[Rc.nil.v, .bool false] := by rw [rrT, h]
theorem rrO_emp : rrO emp = none := rfl
theorem rrO_bad {t : ByteArray} (h : prs t = none) : rrO t = none := by rw [rrO, h]
theorem rrO_if {t : ByteArray} {r : Rc} (h : prs t = some r) : rrO t = if r.ok ∧ r.tx = t then some r else none := by rw [rrO, h]

def set8 (w : World) (b : Nat) (v0 v1 v2 v3 v4 v5 v6 v7 : Value) : World := (((((((w.setCell ⟨b, 0, none⟩ v0).setCell ⟨b, 1, none⟩ v1).setCell ⟨b, 2, none⟩ v2).setCell ⟨b, 3, none⟩ v3).setCell ⟨b, 4, none⟩ v4).setCell ⟨b, 5, none⟩ v5).setCell ⟨b, 6, none⟩ v6).setCell ⟨b, 7, none⟩ v7
theorem Box.set8 {w : World} {b : Nat} {u0 u1 u2 u3 u4 u5 u6 u7 : Value} {t : TypeId} (h : Box w b #[u0, u1, u2, u3, u4, u5, u6, u7] t) (v0 v1 v2 v3 v4 v5 v6 v7 : Value) : Box (set8 w b v0 v1 v2 v3 v4 v5 v6 v7) b #[v0, v1, v2, v3, v4, v5, v6, v7] t :=
  have a0 : Box (w.setCell ⟨b, 0, none⟩ v0) b #[v0, u1, u2, u3, u4, u5, u6, u7] t := h.set 0 v0
  have a1 : Box ((w.setCell ⟨b, 0, none⟩ v0).setCell ⟨b, 1, none⟩ v1) b #[v0, v1, u2, u3, u4, u5, u6, u7] t := a0.set 1 v1
  have a2 : Box (((w.setCell ⟨b, 0, none⟩ v0).setCell ⟨b, 1, none⟩ v1).setCell ⟨b, 2, none⟩ v2) b #[v0, v1, v2, u3, u4, u5, u6, u7] t := a1.set 2 v2
  have a3 : Box ((((w.setCell ⟨b, 0, none⟩ v0).setCell ⟨b, 1, none⟩ v1).setCell ⟨b, 2, none⟩ v2).setCell ⟨b, 3, none⟩ v3) b #[v0, v1, v2, v3, u4, u5, u6, u7] t := a2.set 3 v3
  have a4 : Box (((((w.setCell ⟨b, 0, none⟩ v0).setCell ⟨b, 1, none⟩ v1).setCell ⟨b, 2, none⟩ v2).setCell ⟨b, 3, none⟩ v3).setCell ⟨b, 4, none⟩ v4) b #[v0, v1, v2, v3, v4, u5, u6, u7] t := a3.set 4 v4
  have a5 : Box ((((((w.setCell ⟨b, 0, none⟩ v0).setCell ⟨b, 1, none⟩ v1).setCell ⟨b, 2, none⟩ v2).setCell ⟨b, 3, none⟩ v3).setCell ⟨b, 4, none⟩ v4).setCell ⟨b, 5, none⟩ v5) b #[v0, v1, v2, v3, v4, v5, u6, u7] t := a4.set 5 v5
  have a6 : Box (((((((w.setCell ⟨b, 0, none⟩ v0).setCell ⟨b, 1, none⟩ v1).setCell ⟨b, 2, none⟩ v2).setCell ⟨b, 3, none⟩ v3).setCell ⟨b, 4, none⟩ v4).setCell ⟨b, 5, none⟩ v5).setCell ⟨b, 6, none⟩ v6) b #[v0, v1, v2, v3, v4, v5, v6, u7] t := a5.set 6 v6
  a6.set 7 v7
theorem below_set8 {B b : Nat} {w0 w : World} (h : Below B w0 w) (hb : B ≤ b) (v0 v1 v2 v3 v4 v5 v6 v7 : Value) : Below B w0 (set8 w b v0 v1 v2 v3 v4 v5 v6 v7) :=
  (((((((h.setCell (p := ⟨b, 0, none⟩) hb v0).setCell (p := ⟨b, 1, none⟩) hb v1).setCell (p := ⟨b, 2, none⟩) hb v2).setCell (p := ⟨b, 3, none⟩) hb v3).setCell (p := ⟨b, 4, none⟩) hb v4).setCell (p := ⟨b, 5, none⟩) hb v5).setCell (p := ⟨b, 6, none⟩) hb v6).setCell (p := ⟨b, 7, none⟩) hb v7
theorem grown_set8 (w : World) (b : Nat) (v0 v1 v2 v3 v4 v5 v6 v7 : Value) : w.grownBy (set8 w b v0 v1 v2 v3 v4 v5 v6 v7) (some b) :=
  (((((((stored_grown w b 0 v0).trans (stored_grown _ b 1 v1)).trans (stored_grown _ b 2 v2)).trans (stored_grown _ b 3 v3)).trans (stored_grown _ b 4 v4)).trans (stored_grown _ b 5 v5)).trans (stored_grown _ b 6 v6)).trans (stored_grown _ b 7 v7)
theorem Box.but {w X : World} {b g : Nat} {cs : Array Value} {t : TypeId} (h : Box w b cs t) (hg : w.grownBy X (some g)) (hne : b ≠ g) : Box X b cs t := (hg.block b h.lt (fun e => hne (Option.some.inj e))).trans h
theorem below_but {w w1 w2 : World} {g : Nat} (hb : Below w.heap.size w w1) (hp : w.heap.size ≤ g) (hg : w1.grownBy w2 (some g)) : Below w.heap.size w w2 :=
  hb.grown hg hb.size (fun k hk => by have := Option.some.inj hk; omega)

theorem Box.eight {w : World} {b : Nat} {u0 u1 u2 u3 u4 u5 u6 u7 : Value} {t : TypeId} (h : Box w b #[u0, u1, u2, u3, u4, u5, u6, u7] t) :
    w.cell? ⟨b, 0, none⟩ = some u0 ∧ w.cell? ⟨b, 1, none⟩ = some u1 ∧ w.cell? ⟨b, 2, none⟩ = some u2 ∧ w.cell? ⟨b, 3, none⟩ = some u3 ∧ w.cell? ⟨b, 4, none⟩ = some u4 ∧ w.cell? ⟨b, 5, none⟩ = some u5 ∧ w.cell? ⟨b, 6, none⟩ = some u6 ∧ w.cell? ⟨b, 7, none⟩ = some u7 ∧
    w.frozen? ⟨b, 0, none⟩ = false ∧ w.frozen? ⟨b, 1, none⟩ = false ∧ w.frozen? ⟨b, 2, none⟩ = false ∧ w.frozen? ⟨b, 3, none⟩ = false ∧ w.frozen? ⟨b, 4, none⟩ = false ∧ w.frozen? ⟨b, 5, none⟩ = false ∧ w.frozen? ⟨b, 6, none⟩ = false ∧ w.frozen? ⟨b, 7, none⟩ = false :=
  ⟨h.cell 0 _ rfl, h.cell 1 _ rfl, h.cell 2 _ rfl, h.cell 3 _ rfl, h.cell 4 _ rfl, h.cell 5 _ rfl, h.cell 6 _ rfl, h.cell 7 _ rfl, h.loose 0, h.loose 1, h.loose 2, h.loose 3, h.loose 4, h.loose 5, h.loose 6, h.loose 7⟩


theorem ba_beq (a b : ByteArray) : (a.toList == b.toList) = decide (a = b) := by
  by_cases h : a = b
  · simp [h]
  · have : ¬ a.toList = b.toList := fun e => h (by rw [Go.ByteArray.toList_eq, Go.ByteArray.toList_eq] at e; obtain ⟨⟨x⟩⟩ := a; obtain ⟨⟨y⟩⟩ := b; simp only at e; rw [e])
    rw [decide_eq_false h]
    simp [this]

/-- The end: what RecText hands back, and what ReadRec makes of it. -/
theorem rd_end {t : ByteArray} {r : Rc} {d : Bool} (h : prs t = if d = true then none else some r) :
    ∃ (bk : ByteArray) (o : Bool), rtT r = .tuple #[.string bk, .bool o] ∧ rrT t = if d = false ∧ o = true ∧ decide (bk = t) = true then .tuple #[r.v, .bool true] else .tuple #[Rc.nil.v, .bool false] := by
  by_cases hok : r.ok
  · refine ⟨r.tx, true, rtT_yes hok, ?_⟩
    cases d with
    | true => rw [rrT_none (rrO_bad h)]; simp
    | false =>
      have h' := rrO_if (show prs t = some r from h)
      by_cases he : r.tx = t
      · rw [if_pos ⟨hok, he⟩] at h'
        rw [rrT_some h', if_pos ⟨rfl, rfl, decide_eq_true he⟩]
      · rw [if_neg (fun c => he c.2)] at h'
        rw [rrT_none h', if_neg (fun c => he (of_decide_eq_true c.2.2))]
  · refine ⟨⟨#[]⟩, false, rtT_no hok, ?_⟩
    rw [if_neg (fun c => by cases c.2.1)]
    cases d with
    | true => exact rrT_none (rrO_bad h)
    | false =>
      have h' := rrO_if (show prs t = some r from h)
      rw [if_neg (fun c => hok c.1)] at h'
      exact rrT_none h'



end Go.Proofs.YtlifgcgoehkinaaDoor
