/- Texts of our own, joined. -/
import Derived.Test.YthlbokfajiahpaaJe
import Derived.Deep.DeepCutAuto
import Derived.Test.YthlbokfajiahpaaJa
import Derived.Test.YthlbokfajiahpaaJb
import Derived.Lib.Hide
import Derived.Deep.RegionHeld3
import Derived.Deep.QuietTactic
import Derived.BigQuiet
import Derived.Test.YthlbokfajiahpaaJc
/- Records: what the model's ReadRec hands back. -/
namespace Go.Proofs.Ythlbokfajiahpaa
open Go.RowKit

theorem cuV_go {t : ByteArray} {p : Nat} {b : Bool} {n q : Nat} (h : cuV t p b = (n, q, false)) : b = false ∧ rv t.data.toList p = some (n, q) := by
  unfold cuV at h
  cases b with
  | true => simp at h
  | false =>
    rcases hr : rv t.data.toList p with _ | ⟨n', q'⟩
    · simp [hr] at h
    · simp [hr] at h; exact ⟨rfl, by rw [h.1, h.2]⟩
theorem cuV_bad {t : ByteArray} {p : Nat} {n q : Nat} (h : cuV t p false = (n, q, true)) : rv t.data.toList p = none := by
  unfold cuV at h
  rcases hr : rv t.data.toList p with _ | ⟨n', q'⟩
  · rfl
  · simp [hr] at h
theorem cuS_go {t : ByteArray} {p : Nat} {b : Bool} {n : ByteArray} {q : Nat} (h : cuS t p b = (n, q, false)) : b = false ∧ rsO t p = some (n, q) := by
  unfold cuS at h
  cases b with
  | true => simp at h
  | false =>
    rcases hr : rsO t p with _ | ⟨n', q'⟩
    · simp [hr] at h
    · simp [hr] at h; exact ⟨rfl, by rw [h.1, h.2]⟩
theorem cuS_bad {t : ByteArray} {p : Nat} {n : ByteArray} {q : Nat} (h : cuS t p false = (n, q, true)) : rsO t p = none := by
  unfold cuS at h
  rcases hr : rsO t p with _ | ⟨n', q'⟩
  · rfl
  · simp [hr] at h

/-- What the reader has read is the record, unless it is bad. -/
theorem rd_told {t : ByteArray} {k : UInt8} {rest : List UInt8} (hk : t.data.toList = k :: rest) {n1 n2 n3 n4 : Nat} {x5 x6 x7 : ByteArray} {q1 q2 q3 q4 q5 q6 q7 : Nat} {d1 d2 d3 d4 d5 d6 d7 : Bool}
    (h1 : cuV t 1 false = (n1, q1, d1)) (h2 : cuV t q1 d1 = (n2, q2, d2)) (h3 : cuV t q2 d2 = (n3, q3, d3)) (h4 : cuV t q3 d3 = (n4, q4, d4))
    (h5 : cuS t q4 d4 = (x5, q5, d5)) (h6 : cuS t q5 d5 = (x6, q6, d6)) (h7 : cuS t q6 d6 = (x7, q7, d7)) :
    prs t = if d7 = true then none else some ⟨k.toNat, n1, n2, n3, n4, x5, x6, x7⟩ := by
  unfold prs
  cases d1 with
  | true =>
    have e1 := cuV_bad h1
    have : d7 = true := by
      cases d7 with
      | true => rfl
      | false => have a6 := cuS_go h7; have a5 := cuS_go (a6.1 ▸ h6); have a4 := cuS_go (a5.1 ▸ h5); have a3 := cuV_go (a4.1 ▸ h4); have a2 := cuV_go (a3.1 ▸ h3); have a1 := cuV_go (a2.1 ▸ h2); cases a1.1
    simp [hk, this, hk ▸ e1]
  | false =>
  have e1 := (cuV_go h1).2
  cases d2 with
  | true =>
    have e2 := cuV_bad h2
    have : d7 = true := by
      cases d7 with
      | true => rfl
      | false => have a6 := cuS_go h7; have a5 := cuS_go (a6.1 ▸ h6); have a4 := cuS_go (a5.1 ▸ h5); have a3 := cuV_go (a4.1 ▸ h4); have a2 := cuV_go (a3.1 ▸ h3); cases a2.1
    simp [hk, this, hk ▸ e1, hk ▸ e2]
  | false =>
  have e2 := (cuV_go h2).2
  cases d3 with
  | true =>
    have e3 := cuV_bad h3
    have : d7 = true := by
      cases d7 with
      | true => rfl
      | false => have a6 := cuS_go h7; have a5 := cuS_go (a6.1 ▸ h6); have a4 := cuS_go (a5.1 ▸ h5); have a3 := cuV_go (a4.1 ▸ h4); cases a3.1
    simp [hk, this, hk ▸ e1, hk ▸ e2, hk ▸ e3]
  | false =>
  have e3 := (cuV_go h3).2
  cases d4 with
  | true =>
    have e4 := cuV_bad h4
    have : d7 = true := by
      cases d7 with
      | true => rfl
      | false => have a6 := cuS_go h7; have a5 := cuS_go (a6.1 ▸ h6); have a4 := cuS_go (a5.1 ▸ h5); cases a4.1
    simp [hk, this, hk ▸ e1, hk ▸ e2, hk ▸ e3, hk ▸ e4]
  | false =>
  have e4 := (cuV_go h4).2
  cases d5 with
  | true =>
    have e5 := cuS_bad h5
    have : d7 = true := by
      cases d7 with
      | true => rfl
      | false => have a6 := cuS_go h7; have a5 := cuS_go (a6.1 ▸ h6); cases a5.1
    simp [hk, this, hk ▸ e1, hk ▸ e2, hk ▸ e3, hk ▸ e4, e5]
  | false =>
  have e5 := (cuS_go h5).2
  cases d6 with
  | true =>
    have e6 := cuS_bad h6
    have : d7 = true := by
      cases d7 with
      | true => rfl
      | false => have a6 := cuS_go h7; cases a6.1
    simp [hk, this, hk ▸ e1, hk ▸ e2, hk ▸ e3, hk ▸ e4, e5, e6]
  | false =>
  have e6 := (cuS_go h6).2
  cases d7 with
  | true =>
    have e7 := cuS_bad h7
    simp [hk, hk ▸ e1, hk ▸ e2, hk ▸ e3, hk ▸ e4, e5, e6, e7]
  | false =>
    have e7 := (cuS_go h7).2
    simp [hk, hk ▸ e1, hk ▸ e2, hk ▸ e3, hk ▸ e4, e5, e6, e7]

/-- No record. -/
def Rc.nil : Rc := ⟨0, 0, 0, 0, 0, emp, emp, emp⟩
/-- What ReadRec hands back. -/
def rrT (t : ByteArray) : Value := match rrO t with
  | some r => .tuple #[r.v, .bool true]
  | none => .tuple #[Rc.nil.v, .bool false]
theorem rrT_some {t : ByteArray} {r : Rc} (h : rrO t = some r) : rrT t = .tuple #[r.v, .bool true] := by rw [rrT, h]
theorem rrT_none {t : ByteArray} (h : rrO t = none) : rrT t = .tuple #[Rc.nil.v, .bool false] := by rw [rrT, h]
theorem rrO_emp : rrO emp = none := rfl
theorem rrO_bad {t : ByteArray} (h : prs t = none) : rrO t = none := by rw [rrO, h]
theorem rrO_if {t : ByteArray} {r : Rc} (h : prs t = some r) : rrO t = if r.ok ∧ r.tx = t then some r else none := by rw [rrO, h]

def set8 (w : World) (b : Nat) (v0 v1 v2 v3 v4 v5 v6 v7 : Value) : World := (((((((w.setCell ⟨b, 0, none⟩ v0).setCell ⟨b, 1, none⟩ v1).setCell ⟨b, 2, none⟩ v2).setCell ⟨b, 3, none⟩ v3).setCell ⟨b, 4, none⟩ v4).setCell ⟨b, 5, none⟩ v5).setCell ⟨b, 6, none⟩ v6).setCell ⟨b, 7, none⟩ v7
theorem Box.set8 {w : World} {b : Nat} {u0 u1 u2 u3 u4 u5 u6 u7 : Value} {t : TypeId} (h : Box w b #[u0, u1, u2, u3, u4, u5, u6, u7] t) (v0 v1 v2 v3 v4 v5 v6 v7 : Value) : Box (set8 w b v0 v1 v2 v3 v4 v5 v6 v7) b #[v0, v1, v2, v3, v4, v5, v6, v7] t :=
  have a0 : Box (w.setCell ⟨b, 0, none⟩ v0) b #[v0, u1, u2, u3, u4, u5, u6, u7] t := h.set 0 v0
  have a1 : Box ((w.setCell ⟨b, 0, none⟩ v0).setCell ⟨b, 1, none⟩ v1) b #[v0, v1, u2, u3, u4, u5, u6, u7] t := a0.set 1 v1
  have a2 : Box (((w.setCell ⟨b, 0, none⟩ v0).setCell ⟨b, 1, none⟩ v1).setCell ⟨b, 2, none⟩ v2) b #[v0, v1, v2, u3, u4, u5, u6, u7] t := a1.set 2 v2
  have a3 : Box ((((w.setCell ⟨b, 0, none⟩ v0).setCell ⟨b, 1, none⟩ v1).setCell ⟨b, 2, none⟩ v2).setCell ⟨b, 3, none⟩ v3) b #[v0, v1, v2, v3, u4, u5, u6, u7] t := a2.set 3 v3
  have a4 : Box (((((w.setCell ⟨b, 0, none⟩ v0).setCell ⟨b, 1, none⟩ v1).setCell ⟨b, 2, none⟩ v2).setCell ⟨b, 3, none⟩ v3).setCell ⟨b, 4, none⟩ v4) b #[v0, v1, v2, v3, v4, u5, u6, u7] t := a3.set 4 v4
  have a5 : Box ((((((w.setCell ⟨b, 0, none⟩ v0).setCell ⟨b, 1, none⟩ v1).setCell ⟨b, 2, none⟩ v2).setCell ⟨b, 3, none⟩ v3).setCell ⟨b, 4, none⟩ v4).setCell ⟨b, 5, none⟩ v5) b #[v0, v1, v2, v3, v4, v5, u6, u7] t := a4.set 5 v5
  have a6 : Box (((((((w.setCell ⟨b, 0, none⟩ v0).setCell ⟨b, 1, none⟩ v1).setCell ⟨b, 2, none⟩ v2).setCell ⟨b, 3, none⟩ v3).setCell ⟨b, 4, none⟩ v4).setCell ⟨b, 5, none⟩ v5).setCell ⟨b, 6, none⟩ v6) b #[v0, v1, v2, v3, v4, v5, v6, u7] t := a5.set 6 v6
  a6.set 7 v7
theorem below_set8 {B b : Nat} {w0 w : World} (h : Below B w0 w) (hb : B ≤ b) (v0 v1 v2 v3 v4 v5 v6 v7 : Value) : Below B w0 (set8 w b v0 v1 v2 v3 v4 v5 v6 v7) :=
  (((((((h.setCell (p := ⟨b, 0, none⟩) hb v0).setCell (p := ⟨b, 1, none⟩) hb v1).setCell (p := ⟨b, 2, none⟩) hb v2).setCell (p := ⟨b, 3, none⟩) hb v3).setCell (p := ⟨b, 4, none⟩) hb v4).setCell (p := ⟨b, 5, none⟩) hb v5).setCell (p := ⟨b, 6, none⟩) hb v6).setCell (p := ⟨b, 7, none⟩) hb v7
theorem grown_set8 (w : World) (b : Nat) (v0 v1 v2 v3 v4 v5 v6 v7 : Value) : w.grownBy (set8 w b v0 v1 v2 v3 v4 v5 v6 v7) (some b) :=
  (((((((stored_grown w b 0 v0).trans (stored_grown _ b 1 v1)).trans (stored_grown _ b 2 v2)).trans (stored_grown _ b 3 v3)).trans (stored_grown _ b 4 v4)).trans (stored_grown _ b 5 v5)).trans (stored_grown _ b 6 v6)).trans (stored_grown _ b 7 v7)
theorem Box.but {w X : World} {b g : Nat} {cs : Array Value} {t : TypeId} (h : Box w b cs t) (hg : w.grownBy X (some g)) (hne : b ≠ g) : Box X b cs t := (hg.block b h.lt (fun e => hne (Option.some.inj e))).trans h
theorem below_but {w w1 w2 : World} {g : Nat} (hb : Below w.heap.size w w1) (hp : w.heap.size ≤ g) (hg : w1.grownBy w2 (some g)) : Below w.heap.size w w2 :=
  hb.grown hg hb.size (fun k hk => by have := Option.some.inj hk; omega)

theorem Box.eight {w : World} {b : Nat} {u0 u1 u2 u3 u4 u5 u6 u7 : Value} {t : TypeId} (h : Box w b #[u0, u1, u2, u3, u4, u5, u6, u7] t) :
    w.cell? ⟨b, 0, none⟩ = some u0 ∧ w.cell? ⟨b, 1, none⟩ = some u1 ∧ w.cell? ⟨b, 2, none⟩ = some u2 ∧ w.cell? ⟨b, 3, none⟩ = some u3 ∧ w.cell? ⟨b, 4, none⟩ = some u4 ∧ w.cell? ⟨b, 5, none⟩ = some u5 ∧ w.cell? ⟨b, 6, none⟩ = some u6 ∧ w.cell? ⟨b, 7, none⟩ = some u7 ∧
    w.frozen? ⟨b, 0, none⟩ = false ∧ w.frozen? ⟨b, 1, none⟩ = false ∧ w.frozen? ⟨b, 2, none⟩ = false ∧ w.frozen? ⟨b, 3, none⟩ = false ∧ w.frozen? ⟨b, 4, none⟩ = false ∧ w.frozen? ⟨b, 5, none⟩ = false ∧ w.frozen? ⟨b, 6, none⟩ = false ∧ w.frozen? ⟨b, 7, none⟩ = false :=
  ⟨h.cell 0 _ rfl, h.cell 1 _ rfl, h.cell 2 _ rfl, h.cell 3 _ rfl, h.cell 4 _ rfl, h.cell 5 _ rfl, h.cell 6 _ rfl, h.cell 7 _ rfl, h.loose 0, h.loose 1, h.loose 2, h.loose 3, h.loose 4, h.loose 5, h.loose 6, h.loose 7⟩

/-- The reader at work: its answer's variable g0, its cursor g1, its record g5. -/
structure RdI (w : World) (g0 g1 g5 : Nat) (t : ByteArray) (p : Nat) (b : Bool) (cs : Array Value) (X : World) : Prop where
  res : Box X g0 Rc.nil.cs 25
  cur : CuB X g1 t p b
  rcd : Box X g5 cs 25
  bel : Below w.heap.size w X
  l0 : w.heap.size ≤ g0
  l1 : w.heap.size ≤ g1
  l5 : w.heap.size ≤ g5
  n01 : g0 ≠ g1
  n05 : g0 ≠ g5
  n15 : g1 ≠ g5

section
variable {w X Y : World} {g0 g1 g5 : Nat} {t : ByteArray} {p p' : Nat} {b b' : Bool} {cs : Array Value}
theorem RdI.call (h : RdI w g0 g1 g5 t p b cs X) (hc : CuB Y g1 t p' b') (hg : X.grownBy Y (some g1)) : RdI w g0 g1 g5 t p' b' cs Y :=
  ⟨h.res.but hg h.n01, hc, h.rcd.but hg (fun e => h.n15 e.symm), below_but h.bel h.l1 hg, h.l0, h.l1, h.l5, h.n01, h.n05, h.n15⟩
theorem RdI.store (h : RdI w g0 g1 g5 t p b cs X) (j : Nat) (v : Value) : RdI w g0 g1 g5 t p b (cs.setIfInBounds j v) (X.setCell ⟨g5, j, none⟩ v) :=
  ⟨h.res.other h.n05 j v, Box.other h.cur h.n15 j v, h.rcd.set j v, h.bel.setCell (p := ⟨g5, j, none⟩) h.l5 v, h.l0, h.l1, h.l5, h.n01, h.n05, h.n15⟩
theorem RdI.later (h : RdI w g0 g1 g5 t p b cs X) (hb : Below X.heap.size X Y) : RdI w g0 g1 g5 t p b cs Y :=
  ⟨h.res.later hb, Box.later h.cur hb, h.rcd.later hb, h.bel.trans (hb.mono h.bel.size), h.l0, h.l1, h.l5, h.n01, h.n05, h.n15⟩
end

theorem RdI.startA {w W wT : World} {g0 g1 : Nat} {t : ByteArray} {q : Nat} {d : Bool} (hx : Box W g0 Rc.nil.cs 25) (hb : Below w.heap.size w W) (l0 : w.heap.size ≤ g0) (l1 : w.heap.size ≤ g1) (n01 : g0 ≠ g1)
    (cT : CuB wT g1 t q d) (kT : W.drew.grownBy wT (some g1)) (cs : Array Value) : RdI w g0 g1 wT.heap.size t q d cs (wT.alloc (.cells cs 25)) := by
  have kT' : W.grownBy wT (some g1) := ⟨kT.os, kT.tape, kT.output, kT.size, kT.block⟩
  have bT := below_but hb l1 kT'
  have hr := hx.but kT' n01
  have h0 := hr.lt
  have h1 := Box.lt cT
  exact ⟨hr.later (belNew _ _), Box.later cT (belNew _ _), Box.new wT _ _, bT.trans ((belNew _ _).mono bT.size), l0, l1, by have := bT.size; omega, n01, by omega, by omega⟩
theorem RdI.startB {w W wT : World} {g0 g1 : Nat} {t : ByteArray} {q : Nat} {d : Bool} {cs : Array Value} {u0 u1 u2 u3 u4 u5 u6 u7 : Value} (hx : Box W g0 Rc.nil.cs 25) (hb : Below w.heap.size w W) (l0 : w.heap.size ≤ g0) (l1 : w.heap.size ≤ g1) (n01 : g0 ≠ g1) (hlt : g1 < W.heap.size)
    (cT : CuB wT g1 t q d) (kT : (W.alloc (.cells cs 25)).drew.grownBy wT (some g1)) (qx : Box wT W.heap.size #[u0, u1, u2, u3, u4, u5, u6, u7] 25) (v0 v1 v2 v3 v4 v5 v6 v7 : Value) :
    RdI w g0 g1 W.heap.size t q d #[v0, v1, v2, v3, v4, v5, v6, v7] (set8 wT W.heap.size v0 v1 v2 v3 v4 v5 v6 v7) := by
  have kT' : (W.alloc (.cells cs 25)).grownBy wT (some g1) := ⟨kT.os, kT.tape, kT.output, kT.size, kT.block⟩
  have bA := hb.trans ((belNew W (.cells cs 25)).mono hb.size)
  have bT := below_but bA l1 kT'
  have hr := (hx.later (belNew _ _)).but kT' n01
  have h0 := hx.lt
  have hg := grown_set8 wT W.heap.size v0 v1 v2 v3 v4 v5 v6 v7
  exact ⟨hr.but hg (by omega), Box.but cT hg (by omega), qx.set8 _ _ _ _ _ _ _ _, below_set8 bT hb.size _ _ _ _ _ _ _ _, l0, l1, hb.size, n01, by omega, by omega⟩


theorem ba_beq (a b : ByteArray) : (a.toList == b.toList) = decide (a = b) := by
  by_cases h : a = b
  · simp [h]
  · have : ¬ a.toList = b.toList := fun e => h (by rw [Go.ByteArray.toList_eq, Go.ByteArray.toList_eq] at e; obtain ⟨⟨x⟩⟩ := a; obtain ⟨⟨y⟩⟩ := b; simp only at e; rw [e])
    rw [decide_eq_false h]
    simp [this]

/-- The end: what RecText hands back, and what ReadRec makes of it. -/
theorem rd_end {t : ByteArray} {r : Rc} {d : Bool} (h : prs t = if d = true then none else some r) :
    ∃ (bk : ByteArray) (o : Bool), rtT r = .tuple #[.string bk, .bool o] ∧ rrT t = if d = false ∧ o = true ∧ decide (bk = t) = true then .tuple #[r.v, .bool true] else .tuple #[Rc.nil.v, .bool false] := by
  by_cases hok : r.ok
  · refine ⟨r.tx, true, rtT_yes hok, ?_⟩
    cases d with
    | true => rw [rrT_none (rrO_bad h)]; simp
    | false =>
      have h' := rrO_if (show prs t = some r from h)
      by_cases he : r.tx = t
      · rw [if_pos ⟨hok, he⟩] at h'
        rw [rrT_some h', if_pos ⟨rfl, rfl, decide_eq_true he⟩]
      · rw [if_neg (fun c => he c.2)] at h'
        rw [rrT_none h', if_neg (fun c => he (of_decide_eq_true c.2.2))]
  · refine ⟨⟨#[]⟩, false, rtT_no hok, ?_⟩
    rw [if_neg (fun c => by cases c.2.1)]
    cases d with
    | true => exact rrT_none (rrO_bad h)
    | false =>
      have h' := rrO_if (show prs t = some r from h)
      rw [if_neg (fun c => hok c.1)] at h'
      exact rrT_none h'

theorem l06Var_at {t : ByteArray} {p : Nat} {b : Bool} {g : Nat} {w : World} {n q : Nat} {d : Bool} (h : cuV t p b = (n, q, d)) (hx : CuB w g t p b) (hp : p ≤ t.size) (hs : t.size ≤ 1099511627776) :
    Calls Try.prog 54 #[.pointer (some ⟨g, 0, none⟩)] w fun e w' => e = .returned (.int .i64 (n : Int)) ∧ CuB w' g t q d ∧ w.grownBy w' (some g) := by
  have := l06Var_any t p b g w hx hp hs
  rw [h] at this
  exact this
theorem l06ReadShort_at {t : ByteArray} {p : Nat} {b : Bool} {g : Nat} {w : World} {n : ByteArray} {q : Nat} {d : Bool} (h : cuS t p b = (n, q, d)) (hx : CuB w g t p b) (hp : p ≤ t.size) (hs : t.size ≤ 1099511627776) :
    Calls Try.prog 55 #[.pointer (some ⟨g, 0, none⟩)] w fun e w' => e = .returned (.string n) ∧ CuB w' g t q d ∧ w.grownBy w' (some g) := by
  have := l06ReadShort_any t p b g w hx hp hs
  rw [h] at this
  exact this

set_option maxRecDepth 100000 in
set_option maxHeartbeats 1500000 in
theorem specReadRec_any (t : ByteArray) (w : World) (hs : t.size ≤ 1099511627776) :
    Calls Try.prog 14 #[.string t] w fun e w' => e = .returned (rrT t) ∧ Below w.heap.size w w' := by
  have b0 : Below w.heap.size w (w.alloc (.cells #[.int .i64 0, .int .i64 0, .int .i64 0, .int .i64 0, .int .i64 0, .string ⟨#[]⟩, .string ⟨#[]⟩, .string ⟨#[]⟩] 25)) := (Below.refl _ _).alloc (Nat.le_refl _) _
  have hx := Box.new w #[.int .i64 0, .int .i64 0, .int .i64 0, .int .i64 0, .int .i64 0, .string ⟨#[]⟩, .string ⟨#[]⟩, .string ⟨#[]⟩] 25
  by_cases ht : t = emp
  · subst ht
    have HZ := Lib.hid (rrT_none rrO_emp)
    have hq : (emp.toList == []) = true := by rw [emp_beq]; exact decide_eq_true rfl
    clear hx
    go_enter Try.func14, Try.ntmps14
    go_wp2
    refine bodyPost_ret (v := .tuple #[.agg #[.int .i64 0, .int .i64 0, .int .i64 0, .int .i64 0, .int .i64 0, .string ⟨#[]⟩, .string ⟨#[]⟩, .string ⟨#[]⟩], .bool false]) (by simp [results, Try.results14, go_sem]) rfl ?_
    exact ⟨by rw [HZ.out]; rfl, b0⟩
  · have hq : (t.toList == []) = false := by rw [emp_beq]; exact decide_eq_false ht
    obtain ⟨k, rest, hk⟩ : ∃ k rest, t.data.toList = k :: rest := by
      rcases h : t.data.toList with _ | ⟨k, rest⟩
      · exact absurd (by obtain ⟨⟨l⟩⟩ := t; simp only at h; rw [h]; rfl) ht
      · exact ⟨k, rest, rfl⟩
    have hz1 : 1 ≤ t.size := by
      have : t.data.toList.length = t.size := by simp
      rw [hk] at this; simp at this; omega
    have hi0 : ∀ wx, (Instr.index 9 (.string t) (.int .i64 0)).run Try.prog wx = .ok (.int .u8 (k.toNat : Int)) wx := fun wx => by
      have := index_atW t 0 (by omega) wx
      have e : t[0] = k := by
        show t.data[0] = k
        have h2 : t.data.toList[0]? = some k := by rw [hk]; rfl
        rw [Array.getElem?_toList] at h2
        exact (Array.getElem?_eq_some_iff.1 h2).2
      rw [e] at this; exact this
    have hkw : IntKind.i64.wrap (k.toNat : Int) = (k.toNat : Int) := by have := k.toNat_lt; exact IntWalk.i64_in _ ⟨by omega, by omega⟩
    obtain ⟨⟨n1, q1, d1⟩, h1⟩ : ∃ c, cuV t 1 false = c := ⟨_, rfl⟩
    have le1 := cuV_le t 1 false hz1; rw [h1] at le1; simp only at le1
    obtain ⟨⟨n2, q2, d2⟩, h2⟩ : ∃ c, cuV t q1 d1 = c := ⟨_, rfl⟩
    have le2 := cuV_le t q1 d1 le1.1; rw [h2] at le2; simp only at le2
    obtain ⟨⟨n3, q3, d3⟩, h3⟩ : ∃ c, cuV t q2 d2 = c := ⟨_, rfl⟩
    have le3 := cuV_le t q2 d2 le2.1; rw [h3] at le3; simp only at le3
    obtain ⟨⟨n4, q4, d4⟩, h4⟩ : ∃ c, cuV t q3 d3 = c := ⟨_, rfl⟩
    have le4 := cuV_le t q3 d3 le3.1; rw [h4] at le4; simp only at le4
    obtain ⟨⟨x5, q5, d5⟩, h5⟩ : ∃ c, cuS t q4 d4 = c := ⟨_, rfl⟩
    have le5 := cuS_le t q4 d4 le4.1; rw [h5] at le5; simp only at le5
    obtain ⟨⟨x6, q6, d6⟩, h6⟩ : ∃ c, cuS t q5 d5 = c := ⟨_, rfl⟩
    have le6 := cuS_le t q5 d5 le5.1; rw [h6] at le6; simp only at le6
    obtain ⟨⟨x7, q7, d7⟩, h7⟩ : ∃ c, cuS t q6 d6 = c := ⟨_, rfl⟩
    have le7 := cuS_le t q6 d6 le6.1; rw [h7] at le7; simp only at le7
    have hprs := rd_told hk h1 h2 h3 h4 h5 h6 h7
    obtain ⟨r, hr⟩ : ∃ r : Rc, r = ⟨(k.toNat : Int), n1, n2, n3, n4, x5, x6, x7⟩ := ⟨_, rfl⟩
    have hRT := fun wx => specRecText_any ⟨(k.toNat : Int), n1, n2, n3, n4, x5, x6, x7⟩ wx (by simp only; omega) (by simp only; omega) (by simp only; omega)
    rw [← hr] at hprs hRT
    have hv : r.v = .agg #[.int .i64 (k.toNat : Int), .int .i64 (n1 : Int), .int .i64 (n2 : Int), .int .i64 (n3 : Int), .int .i64 (n4 : Int), .string x5, .string x6, .string x7] := by rw [hr]; rfl
    have HV := Lib.hid hv
    rw [hv] at hRT
    have HRT := Lib.hid hRT
    have HPR := Lib.hid hprs
    have H1 := Lib.hid h1
    have H2 := Lib.hid h2
    have H3 := Lib.hid h3
    have H4 := Lib.hid h4
    have H5 := Lib.hid h5
    have H6 := Lib.hid h6
    have H7 := Lib.hid h7
    clear hRT hprs hv h1 h2 h3 h4 h5 h6 h7
    go_enter Try.func14, Try.ntmps14
    go_upto_region 4 with fail
    have hx1 := hx.later (belNew _ (.cells #[.string t, .int .i64 1, .bool false] 85))
    have hc1 := Box.new (w.alloc (.cells #[.int .i64 0, .int .i64 0, .int .i64 0, .int .i64 0, .int .i64 0, .string ⟨#[]⟩, .string ⟨#[]⟩, .string ⟨#[]⟩] 25)) #[.string t, .int .i64 1, .bool false] 85
    have b1 := b0.trans ((belNew (w.alloc (.cells #[.int .i64 0, .int .i64 0, .int .i64 0, .int .i64 0, .int .i64 0, .string ⟨#[]⟩, .string ⟨#[]⟩, .string ⟨#[]⟩] 25)) (.cells #[.string t, .int .i64 1, .bool false] 85)).mono b0.size)
    have hg1 : (w.alloc (.cells #[.int .i64 0, .int .i64 0, .int .i64 0, .int .i64 0, .int .i64 0, .string ⟨#[]⟩, .string ⟨#[]⟩, .string ⟨#[]⟩] 25)).heap.size = w.heap.size + 1 := by simp
    rw [hg1] at hc1
    obtain ⟨g1, hg⟩ : ∃ g1, w.heap.size + 1 = g1 := ⟨_, rfl⟩
    rw [hg] at hc1 ⊢
    have hl1 : w.heap.size ≤ g1 ∧ w.heap.size ≠ g1 := by omega
    clear hg1 hg hx b0 hq
    generalize (w.alloc (.cells #[.int .i64 0, .int .i64 0, .int .i64 0, .int .i64 0, .int .i64 0, .string ⟨#[]⟩, .string ⟨#[]⟩, .string ⟨#[]⟩] 25)).alloc (.cells #[.string t, .int .i64 1, .bool false] 85) = W at hx1 hc1 b1 ⊢
    have hlt := hc1.lt
    have HC0 : Hid (CuB W.drew g1 t 1 false) := hc1
    have HC1 : Hid (CuB (W.alloc (.cells #[.int .i64 0, .int .i64 0, .int .i64 0, .int .i64 0, .int .i64 0, .string ⟨#[]⟩, .string ⟨#[]⟩, .string ⟨#[]⟩] 25)).drew g1 t 1 false) := Box.later hc1 (belNew0 _ _)
    have HB5 : Hid (Box (W.alloc (.cells #[.int .i64 0, .int .i64 0, .int .i64 0, .int .i64 0, .int .i64 0, .string ⟨#[]⟩, .string ⟨#[]⟩, .string ⟨#[]⟩] 25)).drew W.heap.size #[.int .i64 0, .int .i64 0, .int .i64 0, .int .i64 0, .int .i64 0, .string ⟨#[]⟩, .string ⟨#[]⟩, .string ⟨#[]⟩] 25) := Box.new W _ _
    go_cut [5] (fun p wx => ∃ g5, p = .pointer (some ⟨g5, 0, none⟩) ∧ RdI w w.heap.size g1 g5 t q1 d1 #[.int .i64 (k.toNat : Int), .int .i64 (n1 : Int), .int .i64 0, .int .i64 0, .int .i64 0, .string ⟨#[]⟩, .string ⟨#[]⟩, .string ⟨#[]⟩] wx)
    case first =>
      go_region_held3 (fun _ => True) (trivial)
        (first | (go_at_call 54; refine (l06Var_at H1.out (by first | exact HC0.out | exact HC1.out) hz1 hs).mono ?_; rintro e wT ⟨rfl, cT, kT⟩; (first | (have qx := HB5.out.but kT (by omega); obtain ⟨y0, y1, y2, y3, y4, y5, y6, y7, f0, f1, f2, f3, f4, f5, f6, f7⟩ := qx.eight; have CT := Lib.hid cT; have KT := Lib.hid kT; have QX := Lib.hid qx; clear cT kT qx) | (have CT := Lib.hid cT; have KT := Lib.hid kT; clear cT kT))))
      all_goals
        go_wp2_with fail
        go_meet
        first
          | exact ⟨_, rfl, RdI.startA hx1 b1 (Nat.le_refl _) hl1.1 hl1.2 CT.out KT.out _⟩
          | exact ⟨_, rfl, RdI.startB hx1 b1 (Nat.le_refl _) hl1.1 hl1.2 hlt CT.out KT.out QX.out _ _ _ _ _ _ _ _⟩
    case rest =>
      obtain ⟨g5, rfl, I⟩ := hcut
      clear HC0 HC1 HB5 hx1 hc1 b1 hlt H1 hi0 hkw
      go_wp2_with fail
      refine (l06Var_at H2.out I.cur le1.1 hs).mono ?_
      rintro e w2 ⟨rfl, cc, kk⟩
      replace I := I.call cc kk
      clear cc kk
      have zz := I.rcd.cell 2 _ rfl
      have ff := I.rcd.loose 2
      go_wp2_with fail
      have I : RdI w w.heap.size g1 g5 t q2 d2 #[.int .i64 (k.toNat : Int), .int .i64 (n1 : Int), .int .i64 (n2 : Int), .int .i64 0, .int .i64 0, .string ⟨#[]⟩, .string ⟨#[]⟩, .string ⟨#[]⟩] _ := I.store 2 (.int .i64 (n2 : Int))
      generalize w2.setCell ⟨g5, 2, none⟩ (.int .i64 (n2 : Int)) = X2 at I ⊢
      clear zz ff
      refine (l06Var_at H3.out I.cur le2.1 hs).mono ?_
      rintro e w3 ⟨rfl, cc, kk⟩
      replace I := I.call cc kk
      clear cc kk
      have zz := I.rcd.cell 3 _ rfl
      have ff := I.rcd.loose 3
      go_wp2_with fail
      have I : RdI w w.heap.size g1 g5 t q3 d3 #[.int .i64 (k.toNat : Int), .int .i64 (n1 : Int), .int .i64 (n2 : Int), .int .i64 (n3 : Int), .int .i64 0, .string ⟨#[]⟩, .string ⟨#[]⟩, .string ⟨#[]⟩] _ := I.store 3 (.int .i64 (n3 : Int))
      generalize w3.setCell ⟨g5, 3, none⟩ (.int .i64 (n3 : Int)) = X3 at I ⊢
      clear zz ff
      refine (l06Var_at H4.out I.cur le3.1 hs).mono ?_
      rintro e w4 ⟨rfl, cc, kk⟩
      replace I := I.call cc kk
      clear cc kk
      have zz := I.rcd.cell 4 _ rfl
      have ff := I.rcd.loose 4
      go_wp2_with fail
      have I : RdI w w.heap.size g1 g5 t q4 d4 #[.int .i64 (k.toNat : Int), .int .i64 (n1 : Int), .int .i64 (n2 : Int), .int .i64 (n3 : Int), .int .i64 (n4 : Int), .string ⟨#[]⟩, .string ⟨#[]⟩, .string ⟨#[]⟩] _ := I.store 4 (.int .i64 (n4 : Int))
      generalize w4.setCell ⟨g5, 4, none⟩ (.int .i64 (n4 : Int)) = X4 at I ⊢
      clear zz ff
      refine (l06ReadShort_at H5.out I.cur le4.1 hs).mono ?_
      rintro e w5 ⟨rfl, cc, kk⟩
      replace I := I.call cc kk
      clear cc kk
      have zz := I.rcd.cell 5 _ rfl
      have ff := I.rcd.loose 5
      go_wp2_with fail
      have I : RdI w w.heap.size g1 g5 t q5 d5 #[.int .i64 (k.toNat : Int), .int .i64 (n1 : Int), .int .i64 (n2 : Int), .int .i64 (n3 : Int), .int .i64 (n4 : Int), .string x5, .string ⟨#[]⟩, .string ⟨#[]⟩] _ := I.store 5 (.string x5)
      generalize w5.setCell ⟨g5, 5, none⟩ (.string x5) = X5 at I ⊢
      clear zz ff
      refine (l06ReadShort_at H6.out I.cur le5.1 hs).mono ?_
      rintro e w6 ⟨rfl, cc, kk⟩
      replace I := I.call cc kk
      clear cc kk
      have zz := I.rcd.cell 6 _ rfl
      have ff := I.rcd.loose 6
      go_wp2_with fail
      have I : RdI w w.heap.size g1 g5 t q6 d6 #[.int .i64 (k.toNat : Int), .int .i64 (n1 : Int), .int .i64 (n2 : Int), .int .i64 (n3 : Int), .int .i64 (n4 : Int), .string x5, .string x6, .string ⟨#[]⟩] _ := I.store 6 (.string x6)
      generalize w6.setCell ⟨g5, 6, none⟩ (.string x6) = X6 at I ⊢
      clear zz ff
      refine (l06ReadShort_at H7.out I.cur le6.1 hs).mono ?_
      rintro e w7 ⟨rfl, cc, kk⟩
      replace I := I.call cc kk
      clear cc kk
      obtain ⟨y0, y1, y2, y3, y4, y5, y6, y7, f0, f1, f2, f3, f4, f5, f6, f7⟩ := I.rcd.eight
      go_wp2_with fail
      have I : RdI w w.heap.size g1 g5 t q7 d7 #[.int .i64 (k.toNat : Int), .int .i64 (n1 : Int), .int .i64 (n2 : Int), .int .i64 (n3 : Int), .int .i64 (n4 : Int), .string x5, .string x6, .string x7] _ := I.store 7 (.string x7)
      generalize w7.setCell ⟨g5, 7, none⟩ (.string x7) = X7 at I ⊢
      clear y0 y1 y2 y3 y4 y5 y6 y7 f0 f1 f2 f3 f4 f5 f6 f7
      refine (HRT.out _).mono ?_
      rintro e w8 ⟨rfl, k8⟩
      replace I := I.later k8
      clear k8 HRT
      obtain ⟨bk, o, hT, hE⟩ := rd_end HPR.out
      rw [hT]
      obtain ⟨eq, hq⟩ : ∃ eq, decide (bk = t) = eq := ⟨_, rfl⟩
      rw [hq] at hE
      have qb : (bk.toList == t.toList) = eq := by rw [ba_beq, hq]
      have HE := Lib.hid hE
      clear hE hT hq HPR
      obtain ⟨y0, y1, y2, y3, y4, y5, y6, y7, f0, f1, f2, f3, f4, f5, f6, f7⟩ := I.rcd.eight
      obtain ⟨u0, u1, u2, u3, u4, u5, u6, u7, v0, v1, v2, v3, v4, v5, v6, v7⟩ := Box.eight (u0 := .int .i64 0) (u1 := .int .i64 0) (u2 := .int .i64 0) (u3 := .int .i64 0) (u4 := .int .i64 0) (u5 := .string ⟨#[]⟩) (u6 := .string ⟨#[]⟩) (u7 := .string ⟨#[]⟩) I.res
      have zc := Box.cell I.cur 2 _ rfl
      have BB := Lib.hid I.bel
      clear I H2 H3 H4 H5 H6 H7
      cases d7 with
      | true =>
        go_wp2
        refine bodyPost_ret (v := .tuple #[.agg #[.int .i64 0, .int .i64 0, .int .i64 0, .int .i64 0, .int .i64 0, .string ⟨#[]⟩, .string ⟨#[]⟩, .string ⟨#[]⟩], .bool false]) (by simp [results, Try.results14, go_sem, u0, u1, u2, u3, u4, u5, u6, u7]) rfl ?_
        exact ⟨by rw [HE.out]; rfl, below_set8 BB.out (Nat.le_refl _) _ _ _ _ _ _ _ _⟩
      | false =>
        cases o with
        | false =>
          go_wp2
          refine bodyPost_ret (v := .tuple #[.agg #[.int .i64 0, .int .i64 0, .int .i64 0, .int .i64 0, .int .i64 0, .string ⟨#[]⟩, .string ⟨#[]⟩, .string ⟨#[]⟩], .bool false]) (by simp [results, Try.results14, go_sem, u0, u1, u2, u3, u4, u5, u6, u7]) rfl ?_
          exact ⟨by rw [HE.out]; rfl, below_set8 BB.out (Nat.le_refl _) _ _ _ _ _ _ _ _⟩
        | true =>
          cases eq with
          | false =>
            go_wp2
            refine bodyPost_ret (v := .tuple #[.agg #[.int .i64 0, .int .i64 0, .int .i64 0, .int .i64 0, .int .i64 0, .string ⟨#[]⟩, .string ⟨#[]⟩, .string ⟨#[]⟩], .bool false]) (by simp [results, Try.results14, go_sem, u0, u1, u2, u3, u4, u5, u6, u7]) rfl ?_
            exact ⟨by rw [HE.out]; rfl, below_set8 BB.out (Nat.le_refl _) _ _ _ _ _ _ _ _⟩
          | true =>
            go_wp2
            refine bodyPost_ret (v := .tuple #[.agg #[.int .i64 (k.toNat : Int), .int .i64 (n1 : Int), .int .i64 (n2 : Int), .int .i64 (n3 : Int), .int .i64 (n4 : Int), .string x5, .string x6, .string x7], .bool true]) (by simp [results, Try.results14, go_sem, u0, u1, u2, u3, u4, u5, u6, u7]) rfl ?_
            exact ⟨by rw [HE.out]; show _ = Ending.returned (.tuple #[r.v, .bool true]); rw [HV.out], below_set8 BB.out (Nat.le_refl _) _ _ _ _ _ _ _ _⟩

end Go.Proofs.Ythlbokfajiahpaa

/- Frames: what FrameOk hands back, of the model and of the program. -/
namespace Go.Proofs.Ythlbokfajiahpaa
open Go.RowKit

/-- A frame as a value. -/
def Fr.v (f : Fr) : Value := .agg #[.int .i64 f.gen, .int .i64 f.seq, .string f.body]
def Fr.numOk (n : Int) : Prop := 1 ≤ n ∧ n ≤ 1000000000
instance (n : Int) : Decidable (Fr.numOk n) := by unfold Fr.numOk; infer_instance

theorem numberOk_any (n : Int) (w : World) : Calls Try.prog 68 #[.int .i64 n] w fun e w' => e = .returned (.bool (decide (Fr.numOk n))) ∧ w = w' := by
  by_cases h1 : 1 ≤ n
  · by_cases h2 : n ≤ 1000000000
    all_goals
      have e : decide (Fr.numOk n) = decide (n ≤ 1000000000) := by simp [Fr.numOk, h1]
      rw [e]
      go_enter Try.func68, Try.ntmps68
      go_wp2
      go_ret
      simp [h2]
  · have e : decide (Fr.numOk n) = false := by simp [Fr.numOk, h1]
    rw [e]
    go_enter Try.func68, Try.ntmps68
    go_wp2
    go_ret
    simp

theorem box3_cells (w : World) (f : Fr) : (w.alloc (.cells #[.int .i64 f.gen, .int .i64 f.seq, .string f.body] 36)).cell? ⟨w.heap.size, 0, none⟩ = some (.int .i64 f.gen) ∧
    (w.alloc (.cells #[.int .i64 f.gen, .int .i64 f.seq, .string f.body] 36)).cell? ⟨w.heap.size, 1, none⟩ = some (.int .i64 f.seq) ∧
    (w.alloc (.cells #[.int .i64 f.gen, .int .i64 f.seq, .string f.body] 36)).cell? ⟨w.heap.size, 2, none⟩ = some (.string f.body) := by
  refine ⟨?_, ?_, ?_⟩ <;> simp [go_sem]

set_option maxRecDepth 100000 in
set_option maxHeartbeats 1000000 in
theorem implFrameOk_any (f : Fr) (w : World) (hs : f.body.size ≤ 1099511627776) :
    Calls Try.prog 59 #[f.v] w fun e w' => e = .returned (.bool (decide f.ok)) ∧ Below w.heap.size w w' := by
  obtain ⟨c0, c1, c2⟩ := box3_cells w f
  have b0 : Below w.heap.size w (w.alloc (.cells #[.int .i64 f.gen, .int .i64 f.seq, .string f.body] 36)) := (Below.refl _ _).alloc (Nat.le_refl _) _
  unfold Fr.v
  by_cases hg : Fr.numOk f.gen
  · by_cases hq : Fr.numOk f.seq
    · have e : decide f.ok = (decide (1 ≤ f.body.size) && decide (f.body.size ≤ 180)) := by
        have h1 := hg; have h2 := hq
        unfold Fr.numOk at h1 h2
        simp [Fr.ok, h1, h2]
      rw [e]
      by_cases h1 : 1 ≤ f.body.size
      · by_cases h2 : f.body.size ≤ 180
        all_goals
          have HG := Lib.hid hg; have HQ := Lib.hid hq
          clear hg hq e
          go_enter Try.func59, Try.ntmps59
          go_wp2_with (first
            | (go_at_call 68; refine (numberOk_any _ _).mono ?_; rintro e w1 ⟨rfl, rfl⟩; first | rw [decide_eq_true HG.out] | rw [decide_eq_true HQ.out]))
          go_ret
          exact ⟨by simp [h1, h2]; try omega, b0⟩
      · have HG := Lib.hid hg; have HQ := Lib.hid hq
        clear hg hq e
        go_enter Try.func59, Try.ntmps59
        go_wp2_with (first
          | (go_at_call 68; refine (numberOk_any _ _).mono ?_; rintro e w1 ⟨rfl, rfl⟩; first | rw [decide_eq_true HG.out] | rw [decide_eq_true HQ.out]))
        go_ret
        exact ⟨by simp, b0⟩
    · have e : decide f.ok = false := by
        apply decide_eq_false
        intro h
        exact hq h.2.1
      rw [e]
      have HG := Lib.hid hg; have HQ := Lib.hid hq
      clear hg hq e
      go_enter Try.func59, Try.ntmps59
      go_wp2_with (first
        | (go_at_call 68; refine (numberOk_any _ _).mono ?_; rintro e w1 ⟨rfl, rfl⟩; first | rw [decide_eq_true HG.out] | rw [decide_eq_false HQ.out]))
      go_ret
      exact ⟨rfl, b0⟩
  · have e : decide f.ok = false := by
      apply decide_eq_false
      intro h
      exact hg h.1
    rw [e]
    have HG := Lib.hid hg
    clear hg e
    go_enter Try.func59, Try.ntmps59
    go_wp2_with (first
      | (go_at_call 68; refine (numberOk_any _ _).mono ?_; rintro e w1 ⟨rfl, rfl⟩; rw [decide_eq_false HG.out]))
    go_ret
    exact ⟨rfl, b0⟩

theorem in_any (x a b : Int) (w : World) :
    Calls Try.prog 56 #[.int .i64 x, .int .i64 a, .int .i64 b] w fun e w' => e = .returned (.bool (decide (a ≤ x ∧ x ≤ b))) ∧ w = w' := by
  refine (l01In_any x a b w).mono ?_
  rintro e w' ⟨rfl, rfl⟩
  exact ⟨by simp, rfl⟩


end Go.Proofs.Ythlbokfajiahpaa

/- Items: what the model's ItemFrame and FrameItem hand back. -/
namespace Go.Proofs.Ythlbokfajiahpaa
open Go.RowKit

/-- An item's value: its number and its record's cells. -/
def itV (seq : Int) (r : Rc) : Value := .agg #[.int .i64 seq, .int .i64 r.kind, .int .i64 r.valid, .int .i64 r.uid, .int .i64 r.next, .int .i64 r.flags, .string r.user, .string r.name, .string r.text]
/-- What ItemFrame hands back. -/
def ifT (seq : Int) (r : Rc) (gen : Int) : Value :=
  if r.ok ∧ (⟨gen, seq, r.tx⟩ : Fr).ok then .tuple #[(⟨gen, seq, r.tx⟩ : Fr).v, .bool true] else .tuple #[.agg #[.int .i64 0, .int .i64 0, .string ⟨#[]⟩], .bool false]
theorem ifT_yes {seq : Int} {r : Rc} {gen : Int} (h : r.ok) (h2 : (⟨gen, seq, r.tx⟩ : Fr).ok) : ifT seq r gen = .tuple #[(⟨gen, seq, r.tx⟩ : Fr).v, .bool true] := if_pos ⟨h, h2⟩
theorem ifT_no {seq : Int} {r : Rc} {gen : Int} (h : ¬ (r.ok ∧ (⟨gen, seq, r.tx⟩ : Fr).ok)) : ifT seq r gen = .tuple #[.agg #[.int .i64 0, .int .i64 0, .string ⟨#[]⟩], .bool false] := if_neg h


/-- What FrameItem hands back. -/
def fiT (f : Fr) : Value := if f.ok then (match rrO f.body with
  | some r => .tuple #[itV f.seq r, .bool true]
  | none => .tuple #[itV 0 Rc.nil, .bool false]) else .tuple #[itV 0 Rc.nil, .bool false]
theorem fiT_out {f : Fr} (h : ¬ f.ok) : fiT f = .tuple #[itV 0 Rc.nil, .bool false] := if_neg h
theorem fiT_none {f : Fr} (h : rrO f.body = none) : fiT f = .tuple #[itV 0 Rc.nil, .bool false] := by
  unfold fiT; rw [h]; exact ite_self _
theorem fiT_some {f : Fr} {r : Rc} (h : f.ok) (hr : rrO f.body = some r) : fiT f = .tuple #[itV f.seq r, .bool true] := by
  unfold fiT; rw [hr, if_pos h]

theorem Box.nine {w : World} {b : Nat} {u0 u1 u2 u3 u4 u5 u6 u7 u8 : Value} {t : TypeId} (h : Box w b #[u0, u1, u2, u3, u4, u5, u6, u7, u8] t) :
    w.cell? ⟨b, 0, none⟩ = some u0 ∧ w.cell? ⟨b, 1, none⟩ = some u1 ∧ w.cell? ⟨b, 2, none⟩ = some u2 ∧ w.cell? ⟨b, 3, none⟩ = some u3 ∧ w.cell? ⟨b, 4, none⟩ = some u4 ∧ w.cell? ⟨b, 5, none⟩ = some u5 ∧ w.cell? ⟨b, 6, none⟩ = some u6 ∧ w.cell? ⟨b, 7, none⟩ = some u7 ∧ w.cell? ⟨b, 8, none⟩ = some u8 ∧
    w.frozen? ⟨b, 0, none⟩ = false ∧ w.frozen? ⟨b, 1, none⟩ = false ∧ w.frozen? ⟨b, 2, none⟩ = false ∧ w.frozen? ⟨b, 3, none⟩ = false ∧ w.frozen? ⟨b, 4, none⟩ = false ∧ w.frozen? ⟨b, 5, none⟩ = false ∧ w.frozen? ⟨b, 6, none⟩ = false ∧ w.frozen? ⟨b, 7, none⟩ = false ∧ w.frozen? ⟨b, 8, none⟩ = false :=
  ⟨h.cell 0 _ rfl, h.cell 1 _ rfl, h.cell 2 _ rfl, h.cell 3 _ rfl, h.cell 4 _ rfl, h.cell 5 _ rfl, h.cell 6 _ rfl, h.cell 7 _ rfl, h.cell 8 _ rfl, h.loose 0, h.loose 1, h.loose 2, h.loose 3, h.loose 4, h.loose 5, h.loose 6, h.loose 7, h.loose 8⟩
theorem below_set9 {B b : Nat} {w0 w : World} (h : Below B w0 w) (hb : B ≤ b) (v0 v1 v2 v3 v4 v5 v6 v7 v8 : Value) : Below B w0 ((set8 w b v0 v1 v2 v3 v4 v5 v6 v7).setCell ⟨b, 8, none⟩ v8) :=
  (below_set8 h hb v0 v1 v2 v3 v4 v5 v6 v7).setCell (p := ⟨b, 8, none⟩) hb v8



end Go.Proofs.Ythlbokfajiahpaa

/- Lists that can be read, and lists put anew element by element. -/
namespace Go.Proofs.Ythlbokfajiahpaa
open Go.RowKit

theorem Rows'.ways {α : Type} {E : Enc α} {w : World} {v : Value} {l : List α} (h : Rows' E w v l) : (l = [] ∧ ∃ (a : Option Addr) (cap : Nat), v = .slice a 0 cap) ∨
    (l ≠ [] ∧ ∃ g off cap : Nat, v = .slice (some ⟨g, off, none⟩) l.length cap ∧ l.length ≤ cap ∧ g < w.heap.size ∧ ∀ j x, l[j]? = some x → ∀ k u, (E.f x)[k]? = some u → w.cell? ⟨g, off + j * E.sz + k, none⟩ = some u) := by
  by_cases hl : l = []
  · subst hl
    rcases h with h | ⟨g, off, cap, hv, _⟩
    · exact .inl h
    · exact .inl ⟨rfl, _, _, hv⟩
  · rcases h with ⟨h, _⟩ | h
    · exact absurd h hl
    · exact .inr ⟨hl, h⟩

theorem grownBy_of_below {w w' : World} (hb : Below w.heap.size w w') (r : Option Nat) : w.grownBy w' r := ⟨hb.os, hb.tape, hb.output, hb.size, fun k hk _ => hb.block k hk⟩

theorem grownBy_store (w : World) (g i : Nat) (v : Value) : w.grownBy (w.setCell ⟨g, i, none⟩ v) (some g) :=
  have b := (Below.refl 0 w).setCell (p := ⟨g, i, none⟩) (Nat.zero_le _) v
  ⟨b.os, b.tape, b.output, b.size, fun k _ hne => Below.heap_setCell w _ _ _ (fun e => hne (by rw [e]))⟩

/-- The first i elements of l put anew. -/
def putTo {α : Type} (m : Nat → α) (l : List α) (i : Nat) : List α := (List.range i).map m ++ l.drop i
theorem putTo_length {α : Type} {m : Nat → α} {i : Nat} {l : List α} (h : i ≤ l.length) : (putTo m l i).length = l.length := by simp [putTo]; omega
theorem putTo_set {α : Type} {m : Nat → α} {i : Nat} {l : List α} (h : i < l.length) : (putTo m l i).set i (m i) = putTo m l (i + 1) := by
  unfold putTo
  rw [List.set_append_right _ _ (by simp)]
  simp only [List.length_map, List.length_range, Nat.sub_self]
  rw [List.drop_eq_getElem_cons h, List.set_cons_zero, List.range_succ, List.map_append, List.append_assoc]
  rfl
theorem putTo_zero {α : Type} (m : Nat → α) (l : List α) : putTo m l 0 = l := by simp [putTo]
theorem putTo_all {α : Type} (m : Nat → α) (l : List α) : putTo m l l.length = (List.range l.length).map m := by simp [putTo]
theorem putTo_at {α : Type} {m : Nat → α} {i : Nat} {l : List α} (h : i < l.length) : (putTo m l i)[i]? = some l[i] := by
  unfold putTo
  rw [List.getElem?_append_right (by simp)]
  simp [h]

end Go.Proofs.Ythlbokfajiahpaa

/- How items lie in memory. -/
namespace Go.Proofs.Ythlbokfajiahpaa
open Go.RowKit

def itE : Enc Itm where
  ty := 34
  sty := 42
  sz := 9
  bytes := 96
  zero := .agg #[.int .i64 0, .int .i64 0, .int .i64 0, .int .i64 0, .int .i64 0, .int .i64 0, .string ⟨#[]⟩, .string ⟨#[]⟩, .string ⟨#[]⟩]
  f := fun x => [.int .i64 x.1, .int .i64 x.2.kind, .int .i64 x.2.valid, .int .i64 x.2.uid, .int .i64 x.2.next, .int .i64 x.2.flags, .string x.2.user, .string x.2.name, .string x.2.text]
  len := fun _ => rfl
  pos := by decide
  one := fun _ u hu => by simp at hu; rcases hu with rfl | rfl | rfl | rfl | rfl | rfl | rfl | rfl | rfl <;> rfl
  und := Try.underlying42
  info := by kernel_rfl
  zc := rfl
  z0 := (0, Rc.nil)
  zf := rfl

/-- The nine cells of an item. -/
theorem it_cells {w w' : World} {g off : Nat} {l : List Itm} (hc : ∀ j x, l[j]? = some x → ∀ k u, (itE.f x)[k]? = some u → w.cell? ⟨g, off + j * itE.sz + k, none⟩ = some u)
    (hg : g < w.heap.size) (hb : Below w.heap.size w w') (i : Nat) (x : Itm) (hi : l[i]? = some x) :
    w'.cell? ⟨g, off + i * 9, none⟩ = some (.int .i64 x.1) ∧ w'.cell? ⟨g, off + i * 9 + 1, none⟩ = some (.int .i64 x.2.kind) ∧ w'.cell? ⟨g, off + i * 9 + 2, none⟩ = some (.int .i64 x.2.valid) ∧ w'.cell? ⟨g, off + i * 9 + 3, none⟩ = some (.int .i64 x.2.uid) ∧ w'.cell? ⟨g, off + i * 9 + 4, none⟩ = some (.int .i64 x.2.next) ∧
    w'.cell? ⟨g, off + i * 9 + 5, none⟩ = some (.int .i64 x.2.flags) ∧ w'.cell? ⟨g, off + i * 9 + 6, none⟩ = some (.string x.2.user) ∧ w'.cell? ⟨g, off + i * 9 + 7, none⟩ = some (.string x.2.name) ∧ w'.cell? ⟨g, off + i * 9 + 8, none⟩ = some (.string x.2.text) := by
  have h : ∀ k u, (itE.f x)[k]? = some u → w'.cell? ⟨g, off + i * 9 + k, none⟩ = some u := fun k u hu => (hb.cell (p := ⟨g, off + i * 9 + k, none⟩) hg).trans (hc i x hi k u hu)
  exact ⟨h 0 _ rfl, h 1 _ rfl, h 2 _ rfl, h 3 _ rfl, h 4 _ rfl, h 5 _ rfl, h 6 _ rfl, h 7 _ rfl, h 8 _ rfl⟩

end Go.Proofs.Ythlbokfajiahpaa

/- How frames lie in memory. -/
namespace Go.Proofs.Ythlbokfajiahpaa
open Go.RowKit


/-- The cells of one element in a new row, as an append asks for them. -/
theorem row_new {α : Type} (E : Enc α) (w : World) (x : α) : ∀ j u, (E.row [x])[j]? = some u → (w.alloc (.cells (E.f x).toArray E.ty)).cell? ((⟨w.heap.size, 0, none⟩ : Addr).add j) = some u := by
  intro j u hj
  rw [E.row_one] at hj
  rw [Addr.add_lit, Nat.zero_add]
  exact (Box.new w (E.f x).toArray E.ty).cell j u (by simpa using hj)

end Go.Proofs.Ythlbokfajiahpaa

/- What records tell: the model's choice of a record. -/
namespace Go.Proofs.Ythlbokfajiahpaa
open Go.RowKit

theorem Box.set9 {w : World} {b : Nat} {u0 u1 u2 u3 u4 u5 u6 u7 u8 : Value} {t : TypeId} (h : Box w b #[u0, u1, u2, u3, u4, u5, u6, u7, u8] t) (v0 v1 v2 v3 v4 v5 v6 v7 v8 : Value) : Box ((Go.Proofs.Ythlbokfajiahpaa.set8 w b v0 v1 v2 v3 v4 v5 v6 v7).setCell ⟨b, 8, none⟩ v8) b #[v0, v1, v2, v3, v4, v5, v6, v7, v8] t :=
  have a0 : Box (w.setCell ⟨b, 0, none⟩ v0) b #[v0, u1, u2, u3, u4, u5, u6, u7, u8] t := h.set 0 v0
  have a1 : Box ((w.setCell ⟨b, 0, none⟩ v0).setCell ⟨b, 1, none⟩ v1) b #[v0, v1, u2, u3, u4, u5, u6, u7, u8] t := a0.set 1 v1
  have a2 : Box (((w.setCell ⟨b, 0, none⟩ v0).setCell ⟨b, 1, none⟩ v1).setCell ⟨b, 2, none⟩ v2) b #[v0, v1, v2, u3, u4, u5, u6, u7, u8] t := a1.set 2 v2
  have a3 : Box ((((w.setCell ⟨b, 0, none⟩ v0).setCell ⟨b, 1, none⟩ v1).setCell ⟨b, 2, none⟩ v2).setCell ⟨b, 3, none⟩ v3) b #[v0, v1, v2, v3, u4, u5, u6, u7, u8] t := a2.set 3 v3
  have a4 : Box (((((w.setCell ⟨b, 0, none⟩ v0).setCell ⟨b, 1, none⟩ v1).setCell ⟨b, 2, none⟩ v2).setCell ⟨b, 3, none⟩ v3).setCell ⟨b, 4, none⟩ v4) b #[v0, v1, v2, v3, v4, u5, u6, u7, u8] t := a3.set 4 v4
  have a5 : Box ((((((w.setCell ⟨b, 0, none⟩ v0).setCell ⟨b, 1, none⟩ v1).setCell ⟨b, 2, none⟩ v2).setCell ⟨b, 3, none⟩ v3).setCell ⟨b, 4, none⟩ v4).setCell ⟨b, 5, none⟩ v5) b #[v0, v1, v2, v3, v4, v5, u6, u7, u8] t := a4.set 5 v5
  have a6 : Box (((((((w.setCell ⟨b, 0, none⟩ v0).setCell ⟨b, 1, none⟩ v1).setCell ⟨b, 2, none⟩ v2).setCell ⟨b, 3, none⟩ v3).setCell ⟨b, 4, none⟩ v4).setCell ⟨b, 5, none⟩ v5).setCell ⟨b, 6, none⟩ v6) b #[v0, v1, v2, v3, v4, v5, v6, u7, u8] t := a5.set 6 v6
  have a7 : Box ((((((((w.setCell ⟨b, 0, none⟩ v0).setCell ⟨b, 1, none⟩ v1).setCell ⟨b, 2, none⟩ v2).setCell ⟨b, 3, none⟩ v3).setCell ⟨b, 4, none⟩ v4).setCell ⟨b, 5, none⟩ v5).setCell ⟨b, 6, none⟩ v6).setCell ⟨b, 7, none⟩ v7) b #[v0, v1, v2, v3, v4, v5, v6, v7, u8] t := a6.set 7 v7
  have a8 : Box (((((((((w.setCell ⟨b, 0, none⟩ v0).setCell ⟨b, 1, none⟩ v1).setCell ⟨b, 2, none⟩ v2).setCell ⟨b, 3, none⟩ v3).setCell ⟨b, 4, none⟩ v4).setCell ⟨b, 5, none⟩ v5).setCell ⟨b, 6, none⟩ v6).setCell ⟨b, 7, none⟩ v7).setCell ⟨b, 8, none⟩ v8) b #[v0, v1, v2, v3, v4, v5, v6, v7, v8] t := a7.set 8 v8
  a8

theorem bestO_take {k : Itm → Int} {p : Itm → Bool} {l : List Itm} {i : Nat} {x : Itm} (h : l[i]? = some x) : bestO k p (l.take (i + 1)) = bestStep k p (bestO k p (l.take i)) x := by
  unfold bestO
  rw [List.take_add_one, h, List.foldl_append]
  rfl

/-- What the choice hands back. -/
def bestT (o : Option Itm) : Value := match o with
  | some x => .tuple #[itV x.1 x.2, .bool true]
  | none => .tuple #[itV 0 Rc.nil, .bool false]
/-- What stands in its variable. -/
def bestX (o : Option Itm) : Itm := o.getD (0, Rc.nil)
theorem bestT_eq (o : Option Itm) : bestT o = .tuple #[itV (bestX o).1 (bestX o).2, .bool o.isSome] := by cases o <;> rfl
def bestP (kind valid uid : Int) (x : Itm) : Bool := decide (x.2.kind = kind ∧ x.2.valid = valid ∧ x.2.uid = uid)
theorem bestStep_no {k : Itm → Int} {p : Itm → Bool} {o : Option Itm} {x : Itm} (h : p x = false) : bestStep k p o x = o := by
  unfold bestStep; rw [h]; rfl
theorem bestStep_yes {p : Itm → Bool} {o : Option Itm} {x : Itm} (h : p x = true) (h2 : o = none ∨ (bestX o).1 < x.1) : bestStep (fun _ => 0) p o x = some x := by
  unfold bestStep; rw [if_pos h]
  cases o with
  | none => rfl
  | some y =>
    have : y.1 < x.1 := by rcases h2 with h2 | h2; cases h2; exact h2
    exact if_pos (decide_eq_true (.inr ⟨rfl, this⟩))
theorem bestStep_old {p : Itm → Bool} {o : Option Itm} {x : Itm} (h : p x = true) (h1 : o.isSome = true) (h2 : ¬ (bestX o).1 < x.1) : bestStep (fun _ => 0) p o x = o := by
  unfold bestStep; rw [if_pos h]
  cases o with
  | none => cases h1
  | some y => exact if_neg (fun c => by have := of_decide_eq_true c; dsimp only at this; have h2 : ¬ y.1 < x.1 := h2; omega)

/-- The choice at work: its answer's variable g0, its own g1. -/
structure BsI (w : World) (g0 g1 : Nat) (x : Itm) (X : World) : Prop where
  res : Box X g0 #[.int .i64 0, .int .i64 0, .int .i64 0, .int .i64 0, .int .i64 0, .int .i64 0, .string ⟨#[]⟩, .string ⟨#[]⟩, .string ⟨#[]⟩] 34
  out : Box X g1 #[.int .i64 x.1, .int .i64 x.2.kind, .int .i64 x.2.valid, .int .i64 x.2.uid, .int .i64 x.2.next, .int .i64 x.2.flags, .string x.2.user, .string x.2.name, .string x.2.text] 34
  bel : Below w.heap.size w X
  l0 : w.heap.size ≤ g0
  l1 : w.heap.size ≤ g1
  n01 : g0 ≠ g1
theorem BsI.later {w X Y : World} {g0 g1 : Nat} {x : Itm} (h : BsI w g0 g1 x X) (hb : Below X.heap.size X Y) : BsI w g0 g1 x Y := ⟨h.res.later hb, h.out.later hb, h.bel.trans (hb.mono h.bel.size), h.l0, h.l1, h.n01⟩
theorem BsI.put {w X : World} {g0 g1 : Nat} {x : Itm} (h : BsI w g0 g1 x X) (y : Itm) : BsI w g0 g1 y ((set8 X g1 (.int .i64 y.1) (.int .i64 y.2.kind) (.int .i64 y.2.valid) (.int .i64 y.2.uid) (.int .i64 y.2.next) (.int .i64 y.2.flags) (.string y.2.user) (.string y.2.name)).setCell ⟨g1, 8, none⟩ (.string y.2.text)) :=
  ⟨h.res.but ((grown_set8 X g1 _ _ _ _ _ _ _ _).trans (stored_grown _ _ _ _)) h.n01, h.out.set9 _ _ _ _ _ _ _ _ _, below_set9 h.bel h.l1 _ _ _ _ _ _ _ _ _, h.l0, h.l1, h.n01⟩

set_option maxRecDepth 100000 in
set_option maxHeartbeats 2000000 in
theorem specBest_any (l : List Itm) (v : Value) (kind valid uid : Int) (w : World) (h : Rows' itE w v l) (hl : l.length ≤ 1099511627776) :
    Calls Try.prog 71 #[v, .int .i64 kind, .int .i64 valid, .int .i64 uid] w fun e w' => e = .returned (bestT (bestR kind valid uid l)) ∧ Below w.heap.size w w' := by
  rw [bestT_eq]
  obtain ⟨ad, cap, rfl, hrow⟩ : ∃ (ad : Option Addr) (cap : Nat), v = .slice ad l.length cap ∧ ∀ X, Below w.heap.size w X → ∀ i x, l[i]? = some x → ∃ g off, ad = some ⟨g, off, none⟩ ∧ X.cell? ⟨g, off + i * 9, none⟩ = some (.int .i64 x.1) ∧ X.cell? ⟨g, off + i * 9 + 1, none⟩ = some (.int .i64 x.2.kind) ∧ X.cell? ⟨g, off + i * 9 + 2, none⟩ = some (.int .i64 x.2.valid) ∧ X.cell? ⟨g, off + i * 9 + 3, none⟩ = some (.int .i64 x.2.uid) ∧ X.cell? ⟨g, off + i * 9 + 4, none⟩ = some (.int .i64 x.2.next) ∧ X.cell? ⟨g, off + i * 9 + 5, none⟩ = some (.int .i64 x.2.flags) ∧ X.cell? ⟨g, off + i * 9 + 6, none⟩ = some (.string x.2.user) ∧ X.cell? ⟨g, off + i * 9 + 7, none⟩ = some (.string x.2.name) ∧ X.cell? ⟨g, off + i * 9 + 8, none⟩ = some (.string x.2.text) := by
    rcases h.ways with ⟨rfl, a, c, rfl⟩ | ⟨hne, g, off, c, rfl, hc, hg, hcl⟩
    · exact ⟨a, c, rfl, fun X _ i x hi => by cases hi⟩
    · exact ⟨_, c, rfl, fun X hb i x hi => ⟨g, off, rfl, it_cells hcl hg hb i x hi⟩⟩
  have HR := Lib.hid hrow
  clear h hrow
  obtain ⟨p, hp⟩ : ∃ p, p = bestP kind valid uid := ⟨_, rfl⟩
  have hpx : ∀ x, p x = decide (x.2.kind = kind ∧ x.2.valid = valid ∧ x.2.uid = uid) := fun x => by rw [hp]; rfl
  have HPX := Lib.hid hpx
  have HB : Hid (bestR kind valid uid l = bestO (fun _ => 0) p (l.take l.length)) := by rw [hp, List.take_length]; rfl
  clear hp hpx
  have I0 : BsI w w.heap.size (w.heap.size + 1) (bestX (bestO (fun _ => 0) p (l.take 0))) ((w.alloc (.cells #[.int .i64 0, .int .i64 0, .int .i64 0, .int .i64 0, .int .i64 0, .int .i64 0, .string ⟨#[]⟩, .string ⟨#[]⟩, .string ⟨#[]⟩] 34)).alloc (.cells #[.int .i64 0, .int .i64 0, .int .i64 0, .int .i64 0, .int .i64 0, .int .i64 0, .string ⟨#[]⟩, .string ⟨#[]⟩, .string ⟨#[]⟩] 34)) := by
    have hb := (belNew w (.cells #[.int .i64 0, .int .i64 0, .int .i64 0, .int .i64 0, .int .i64 0, .int .i64 0, .string ⟨#[]⟩, .string ⟨#[]⟩, .string ⟨#[]⟩] 34)).trans ((belNew (w.alloc (.cells #[.int .i64 0, .int .i64 0, .int .i64 0, .int .i64 0, .int .i64 0, .int .i64 0, .string ⟨#[]⟩, .string ⟨#[]⟩, .string ⟨#[]⟩] 34)) (.cells #[.int .i64 0, .int .i64 0, .int .i64 0, .int .i64 0, .int .i64 0, .int .i64 0, .string ⟨#[]⟩, .string ⟨#[]⟩, .string ⟨#[]⟩] 34)).mono (by simp))
    have h2 := Box.new (w.alloc (.cells #[.int .i64 0, .int .i64 0, .int .i64 0, .int .i64 0, .int .i64 0, .int .i64 0, .string ⟨#[]⟩, .string ⟨#[]⟩, .string ⟨#[]⟩] 34)) #[.int .i64 0, .int .i64 0, .int .i64 0, .int .i64 0, .int .i64 0, .int .i64 0, .string ⟨#[]⟩, .string ⟨#[]⟩, .string ⟨#[]⟩] 34
    have e : (w.alloc (.cells #[.int .i64 0, .int .i64 0, .int .i64 0, .int .i64 0, .int .i64 0, .int .i64 0, .string ⟨#[]⟩, .string ⟨#[]⟩, .string ⟨#[]⟩] 34)).heap.size = w.heap.size + 1 := by simp
    rw [e] at h2
    exact ⟨(Box.new w _ _).later (belNew _ _), h2, hb, Nat.le_refl _, by omega, by omega⟩
  go_enter Try.func71, Try.ntmps71
  go_wp2
  generalize (w.alloc (.cells #[.int .i64 0, .int .i64 0, .int .i64 0, .int .i64 0, .int .i64 0, .int .i64 0, .string ⟨#[]⟩, .string ⟨#[]⟩, .string ⟨#[]⟩] 34)).alloc (.cells #[.int .i64 0, .int .i64 0, .int .i64 0, .int .i64 0, .int .i64 0, .int .i64 0, .string ⟨#[]⟩, .string ⟨#[]⟩, .string ⟨#[]⟩] 34) = W at I0 ⊢
  obtain ⟨g1, hg1⟩ : ∃ g1, w.heap.size + 1 = g1 := ⟨_, rfl⟩
  rw [hg1] at I0 ⊢
  clear hg1
  go_loopw [11, 12] (fun fv iv wr => ∃ i : Nat, i ≤ l.length ∧ iv = .int .i64 (i : Int) ∧ fv = .bool (bestO (fun _ => 0) p (l.take i)).isSome ∧ BsI w w.heap.size g1 (bestX (bestO (fun _ => 0) p (l.take i))) wr) (fun _ iv _ => l.length - (intOf iv).toNat)
  case atStart => exact ⟨0, by omega, rfl, rfl, I0⟩
  case round =>
    clear I0
    obtain ⟨i, hi, rfl, rfl, I⟩ := hrel
    by_cases hlt : i < l.length
    · have hgx : l[i]? = some l[i] := List.getElem?_eq_getElem hlt
      have hst := bestO_take (k := fun _ => 0) (p := p) hgx
      have hpx := HPX.out l[i]
      obtain ⟨ga, oa, rfl, a0, a1, a2, a3, a4, a5, a6, a7, a8⟩ := HR.out _ I.bel i _ hgx
      generalize l[i] = x at *
      obtain ⟨sq, K, V, U, N, FL, US, NM, TX⟩ := x
      simp only at a0 a1 a2 a3 a4 a5 a6 a7 a8 hpx
      generalize bestO (fun _ => 0) p (l.take i) = o at *
      have HST := Lib.hid hst
      have hi0 : (0 : Int) ≤ (i : Int) := by omega
      have hi1 : (i : Int) < (l.length : Int) := by omega
      clear hst hgx
      by_cases hk : K = kind
      · have hk := hk.symm
        subst hk
        by_cases hv : V = valid
        · have hv := hv.symm
          subst hv
          by_cases hd : U = uid
          · have hd := hd.symm
            subst hd
            have J := I.later (belNew wr (.cells #[.int .i64 sq, .int .i64 kind, .int .i64 valid, .int .i64 uid, .int .i64 N, .int .i64 FL, .string US, .string NM, .string TX] 34))
            obtain ⟨u0, u1, u2, u3, u4, u5, u6, u7, u8, v0, v1, v2, v3, v4, v5, v6, v7, v8⟩ := J.out.nine
            have HJ := Lib.hid J
            clear I J
            have hyes : p (sq, ⟨kind, valid, uid, N, FL, US, NM, TX⟩) = true := by rw [hpx]; exact decide_eq_true ⟨rfl, rfl, rfl⟩
            cases ho : o.isSome with
            | false =>
              have HE : Hid (bestO (fun _ => 0) p (l.take (i + 1)) = some (sq, ⟨kind, valid, uid, N, FL, US, NM, TX⟩)) := by rw [HST.out]; exact bestStep_yes hyes (.inl (by cases o; rfl; cases ho))
              clear hpx hyes
              go_wp2
              exact ⟨⟨i + 1, by omega, by simp, by rw [HE.out]; rfl, by rw [HE.out]; exact HJ.out.put (sq, ⟨kind, valid, uid, N, FL, US, NM, TX⟩)⟩, by first | omega | (simp [intOf]; omega) | (show _ - (intOf (Value.int .i64 ((i : Int) + 1))).toNat < _ - (intOf (Value.int .i64 (i : Int))).toNat; simp only [intOf]; omega)⟩
            | true =>
              by_cases hs : (bestX o).1 < sq
              · have HE : Hid (bestO (fun _ => 0) p (l.take (i + 1)) = some (sq, ⟨kind, valid, uid, N, FL, US, NM, TX⟩)) := by rw [HST.out]; exact bestStep_yes hyes (.inr hs)
                clear hpx hyes
                go_wp2
                exact ⟨⟨i + 1, by omega, by simp, by rw [HE.out]; rfl, by rw [HE.out]; exact HJ.out.put (sq, ⟨kind, valid, uid, N, FL, US, NM, TX⟩)⟩, by first | omega | (simp [intOf]; omega) | (show _ - (intOf (Value.int .i64 ((i : Int) + 1))).toNat < _ - (intOf (Value.int .i64 (i : Int))).toNat; simp only [intOf]; omega)⟩
              · have HE : Hid (bestO (fun _ => 0) p (l.take (i + 1)) = o) := by rw [HST.out]; exact bestStep_old hyes ho hs
                clear hpx hyes
                go_wp2
                exact ⟨⟨i + 1, by omega, by simp, by rw [HE.out, ho], by rw [HE.out]; exact HJ.out⟩, by first | omega | (simp [intOf]; omega) | (show _ - (intOf (Value.int .i64 ((i : Int) + 1))).toNat < _ - (intOf (Value.int .i64 (i : Int))).toNat; simp only [intOf]; omega)⟩
          · have J := I.later (belNew wr (.cells #[.int .i64 sq, .int .i64 kind, .int .i64 valid, .int .i64 U, .int .i64 N, .int .i64 FL, .string US, .string NM, .string TX] 34))
            obtain ⟨u0, u1, u2, u3, u4, u5, u6, u7, u8, v0, v1, v2, v3, v4, v5, v6, v7, v8⟩ := J.out.nine
            have HJ := Lib.hid J
            clear I J
            have hno : p (sq, ⟨kind, valid, U, N, FL, US, NM, TX⟩) = false := by rw [hpx]; exact decide_eq_false (fun c => hd c.2.2)
            have HE : Hid (bestO (fun _ => 0) p (l.take (i + 1)) = o) := by rw [HST.out]; exact bestStep_no hno
            clear hpx hno
            go_wp2
            exact ⟨⟨i + 1, by omega, by simp, by rw [HE.out], by rw [HE.out]; exact HJ.out⟩, by first | omega | (simp [intOf]; omega) | (show _ - (intOf (Value.int .i64 ((i : Int) + 1))).toNat < _ - (intOf (Value.int .i64 (i : Int))).toNat; simp only [intOf]; omega)⟩
        · have J := I.later (belNew wr (.cells #[.int .i64 sq, .int .i64 kind, .int .i64 V, .int .i64 U, .int .i64 N, .int .i64 FL, .string US, .string NM, .string TX] 34))
          obtain ⟨u0, u1, u2, u3, u4, u5, u6, u7, u8, v0, v1, v2, v3, v4, v5, v6, v7, v8⟩ := J.out.nine
          have HJ := Lib.hid J
          clear I J
          have hno : p (sq, ⟨kind, V, U, N, FL, US, NM, TX⟩) = false := by rw [hpx]; exact decide_eq_false (fun c => hv c.2.1)
          have HE : Hid (bestO (fun _ => 0) p (l.take (i + 1)) = o) := by rw [HST.out]; exact bestStep_no hno
          clear hpx hno
          go_wp2
          exact ⟨⟨i + 1, by omega, by simp, by rw [HE.out], by rw [HE.out]; exact HJ.out⟩, by first | omega | (simp [intOf]; omega) | (show _ - (intOf (Value.int .i64 ((i : Int) + 1))).toNat < _ - (intOf (Value.int .i64 (i : Int))).toNat; simp only [intOf]; omega)⟩
      · have J := I.later (belNew wr (.cells #[.int .i64 sq, .int .i64 K, .int .i64 V, .int .i64 U, .int .i64 N, .int .i64 FL, .string US, .string NM, .string TX] 34))
        obtain ⟨u0, u1, u2, u3, u4, u5, u6, u7, u8, v0, v1, v2, v3, v4, v5, v6, v7, v8⟩ := J.out.nine
        have HJ := Lib.hid J
        clear I J
        have hno : p (sq, ⟨K, V, U, N, FL, US, NM, TX⟩) = false := by rw [hpx]; exact decide_eq_false (fun c => hk c.1)
        have HE : Hid (bestO (fun _ => 0) p (l.take (i + 1)) = o) := by rw [HST.out]; exact bestStep_no hno
        clear hpx hno
        go_wp2
        exact ⟨⟨i + 1, by omega, by simp, by rw [HE.out], by rw [HE.out]; exact HJ.out⟩, by first | omega | (simp [intOf]; omega) | (show _ - (intOf (Value.int .i64 ((i : Int) + 1))).toNat < _ - (intOf (Value.int .i64 (i : Int))).toNat; simp only [intOf]; omega)⟩
    · have hie : i = l.length := by omega
      subst hie
      obtain ⟨u0, u1, u2, u3, u4, u5, u6, u7, u8, v0, v1, v2, v3, v4, v5, v6, v7, v8⟩ := I.out.nine
      obtain ⟨y0, y1, y2, y3, y4, y5, y6, y7, y8, f0, f1, f2, f3, f4, f5, f6, f7, f8⟩ := I.res.nine
      have BB := Lib.hid I.bel
      clear I
      generalize hoo : bestO (fun _ => 0) p (l.take l.length) = o at *
      have HO : Hid (bestR kind valid uid l = o) := HB.out
      clear hoo HB
      go_wp2
      refine bodyPost_ret (v := .tuple #[.agg #[.int .i64 (bestX o).1, .int .i64 (bestX o).2.kind, .int .i64 (bestX o).2.valid, .int .i64 (bestX o).2.uid, .int .i64 (bestX o).2.next, .int .i64 (bestX o).2.flags, .string (bestX o).2.user, .string (bestX o).2.name, .string (bestX o).2.text], .bool o.isSome]) (by simp [results, Try.results71, go_sem, y0, y1, y2, y3, y4, y5, y6, y7, y8]) rfl ?_
      exact ⟨by rw [HO.out]; rfl, below_set9 BB.out (Nat.le_refl _) _ _ _ _ _ _ _ _ _⟩

end Go.Proofs.Ythlbokfajiahpaa
