/- Texts of our own, joined. -/
import Derived.Test.YtieenkloiicnkaaGreatDoorJw
import Derived.Test.YtieenkloiicnkaaGreatDoorJx
import Derived.Test.YtieenkloiicnkaaGreatDoorJy
import Derived.Test.YtieenkloiicnkaaGreatDoorJt
/- A new log, plainly. -/
namespace Go.Proofs.YtieenkloiicnkaaGreatDoor
open Go.RowKit

def lg0 : Lg := ⟨⟨[], []⟩, 0, [], 0, 0, 0, 0⟩
def fm0 (segs : Int) : Lg := ⟨newD (8 + 8 * segs), segs, [], 1, 1, 0, 1⟩
theorem newD_ok {n : Int} (h : 1 ≤ n ∧ n ≤ 100) : (newD n).ok ∧ (newD n).sec.length = n.toNat ∧ (newD n).cache = [] := by
  unfold newD
  rw [if_pos h]
  refine ⟨⟨by simp; omega, by simp; omega, by simp, fun s hs => ?_, by simp⟩, by simp, rfl⟩
  have := (List.mem_replicate.1 hs).2
  subst this
  rfl
theorem fm0_ok {segs : Int} (h : 5 ≤ segs ∧ segs ≤ 11) : OpH (fm0 segs) := by
  obtain ⟨h1, h2, _⟩ := newD_ok (n := 8 + 8 * segs) (by omega)
  exact ⟨h1, ⟨by show 0 ≤ segs; omega, h.2⟩, by show 8 + 8 * segs.toNat ≤ (newD (8 + 8 * segs)).sec.length; omega, by show (1 : Int) ≤ 1 ∧ (1 : Int) ≤ 1000000000; omega⟩
theorem opO_is {L L' : Lg} {keep : Int} (h : OpH L) (ho : opO L keep = some L') : L'.d.ok ∧ L'.used.length = L.used.length + 1 ∧ L'.d.sec.length = L.d.sec.length ∧ L'.d.cache = [] := by
  unfold opO at ho
  split at ho
  case isFalse => cases ho
  case isTrue hc =>
    cases hw : sgW L.d (opN L) 0 (hdT L.ng) with
    | none => rw [hw] at ho; cases ho
    | some d =>
      rw [hw] at ho
      cases ho
      unfold sgW at hw
      split at hw
      case isFalse => cases hw
      case isTrue =>
        obtain ⟨r1, r2⟩ := wbL_ok _ _ (Nat.le_refl _) L.d d _ _ (by omega) h.ok hw
        obtain ⟨f1, f2, f3⟩ := flD_ok r1
        exact ⟨f1, by simp [opL], f2.trans r2, f3⟩
noncomputable def fmO (segs : Int) : Option Lg := if 5 ≤ segs ∧ segs ≤ 11 then (opO (fm0 segs) 0).bind (fun L => (wcO L.d (ckOf L)).map (fun D => ⟨D, L.segs, L.used, L.ng, L.ns, 1, L.nv⟩)) else none
theorem fmO_out {segs : Int} (h : ¬ (5 ≤ segs ∧ segs ≤ 11)) : fmO segs = none := if_neg h
theorem fmO_no {segs : Int} (h : opO (fm0 segs) 0 = none) : fmO segs = none := by unfold fmO; rw [h]; exact ite_self _
theorem fmO_none {segs : Int} {L : Lg} (h : opO (fm0 segs) 0 = some L) (hw : wcO L.d (ckOf L) = none) : fmO segs = none := by unfold fmO; rw [h]; simp [hw]
theorem fmO_some {segs : Int} {L : Lg} {E : Dk} (h0 : 5 ≤ segs ∧ segs ≤ 11) (h : opO (fm0 segs) 0 = some L) (hw : wcO L.d (ckOf L) = some E) : fmO segs = some ⟨E, L.segs, L.used, L.ng, L.ns, 1, L.nv⟩ := by unfold fmO; rw [if_pos h0, h]; simp [hw]

def FmR (O : Option Lg) (w : World) (e : Ending) (w' : World) : Prop := ∃ (v : Value) (f : Bool), e = .returned (.tuple #[v, .bool f]) ∧ LgO w.heap.size w'.heap.size w' v (O.getD lg0) ∧ f = O.isSome ∧ Below w.heap.size w w'
theorem lgP_nil {B : Nat} {w : World} (hB : B ≤ w.heap.size) : LgP B w.heap.size w (.slice none 0 0) (.slice none 0 0) (.slice none 0 0) lg0 [] :=
  ⟨nilOwn hB (Nat.le_refl _), nilOwn hB (Nat.le_refl _), .inl rfl, ⟨⟨⟨World.ownsRow_nil _ _ _ _, Below.refl _ _, hB⟩, rfl, (fun j h b h1 => by simp at h1), (fun j h h1 => by simp at h1), (fun i j h h' h1 => by simp at h1)⟩, Nat.le_refl _, (fun k hk => by cases hk), (fun j x hj => by simp at hj)⟩, fun k hk => by rcases hk with e | e <;> cases e⟩
theorem LgP.mkU {B C T T1 : Nat} {w : World} {va vb vu : Value} {L : Lg} {hs : List SgH} (hd : DOwn C T1 w (.agg #[va, vb]) L.d) (hg : GOwn B T w vu L.used hs) (hB : B ≤ C) (hT : T ≤ C) : LgP B w.heap.size w va vb vu L hs := by
  obtain ⟨ua, ub, e, l1, l2, l3⟩ := hd
  simp only [Value.agg.injEq, Array.mk.injEq, List.cons.injEq, and_true] at e
  obtain ⟨rfl, rfl⟩ := e
  refine ⟨(l1.deeper hB).wider l1.2.1 (Nat.le_refl _), (l2.deeper hB).wider l2.2.1 (Nat.le_refl _), l3, hg.widen (Nat.le_refl _) hg.le (Nat.le_refl _), fun k hk => ?_⟩
  have hlt : C ≤ k := by
    rcases hk with e | e
    · exact (l1.1.own.lt k e).1
    · exact (l2.1.own.lt k e).1
  refine ⟨fun e => ?_, fun j x hj e => ?_⟩
  · have := hg.row k e; omega
  · have := hg.its j x hj k e; omega
theorem LgP.mkN {B T : Nat} {w : World} {va vb : Value} {L : Lg} (hd : DOwn B T w (.agg #[va, vb]) L.d) (hu : L.used = []) (hB : B ≤ w.heap.size) (hT : T ≤ w.heap.size) : LgP B T w va vb (.slice none 0 0) L [] := by
  obtain ⟨ua, ub, e, l1, l2, l3⟩ := hd
  simp only [Value.agg.injEq, Array.mk.injEq, List.cons.injEq, and_true] at e
  obtain ⟨rfl, rfl⟩ := e
  rcases L with ⟨d, segs, us, ng, ns, st, nv⟩
  simp only at hu
  subst hu
  exact ⟨l1, l2, l3, ⟨⟨⟨World.ownsRow_nil _ _ _ _, Below.refl _ _, hB⟩, rfl, (fun j h b h1 => by simp at h1), (fun j h h1 => by simp at h1), (fun i j h h' h1 => by simp at h1)⟩, hT, (fun k hk => by cases hk), (fun j x hj => by simp at hj)⟩, fun k _ => ⟨(fun e => by cases e), (fun j x hj => by simp at hj)⟩⟩
theorem GOwn.beside {B T : Nat} {w w' : World} {v : Value} {l : List Sg} {hs : List SgH} (h : GOwn B T w v l hs) (hz : w.heap.size ≤ w'.heap.size) (P : Nat → Prop) (hk : ∀ q, q < w.heap.size → ¬ P q → w'.heap[q]? = w.heap[q]?) (hP : ∀ q, P q → ∃ cs t, Box w q cs t ∧ sgE.ty ≠ t ∧ itE.ty ≠ t) : GOwn B T w' v l hs := by
  refine ⟨h.own.stay hz (fun k e => ?_) (fun j x hj k e => ?_), Nat.le_trans h.le hz, h.row, h.its⟩
  · refine hk k (h.own.where'.1 k e).2 (fun hp => ?_)
    obtain ⟨cs, t, hb, h1, _⟩ := hP k hp
    exact hb.notRow h.own.row h1 e
  · refine hk k (h.own.where'.2 j x hj k e).2 (fun hp => ?_)
    obtain ⟨cs, t, hb, _, h2⟩ := hP k hp
    have hl : j < hs.length := (List.getElem?_eq_some_iff.1 hj).1
    have hb2 : l[j]? = some (l[j]'(by rw [← h.own.len]; exact hl)) := List.getElem?_eq_getElem _
    exact hb.notRow (h.own.at' j x _ hj hb2).2 h2 e

end Go.Proofs.YtieenkloiicnkaaGreatDoor
