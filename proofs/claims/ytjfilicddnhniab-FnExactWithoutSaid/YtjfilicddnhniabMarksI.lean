/- The helpers of the exact laws over lists of items: each is marked, and the marks are held. -/
import Derived.Test.YtjfilicddnhniabItemsL
namespace Go.Proofs.Ytjfilicddnhniab
open Go.RowKit


/-- The marks. -/
def markI (k : Nat) (j : Nat) : Itm := (((k + 9 * j : Nat) : Int), ⟨((k + 9 * j + 1 : Nat) : Int), ((k + 9 * j + 2 : Nat) : Int), ((k + 9 * j + 3 : Nat) : Int), ((k + 9 * j + 4 : Nat) : Int), ((k + 9 * j + 5 : Nat) : Int), mark (k + 9 * j + 6), mark (k + 9 * j + 7), mark (k + 9 * j + 8)⟩)
def marksI (k n : Nat) : List Itm := (List.range n).map (markI k)
theorem marksI_length (k n : Nat) : (marksI k n).length = n := by simp [marksI]
theorem marksI_at {k n i : Nat} (h : i < n) : (marksI k n)[i]? = some (markI k i) := by simp [marksI, h]
/-- The first i of them are marked, the next one is y. -/
def RMI (B : Nat) (w0 X : World) (g cap k : Nat) (l : List Itm) (i : Nat) (y : Itm) : Prop := RBuf itE B w0 X (.slice (some ⟨g, 0, none⟩) l.length cap) ((putTo (markI k) l i).set i y) ∧ i < l.length
theorem RMI.later {B : Nat} {w0 X Y : World} {g cap k i : Nat} {l : List Itm} {y : Itm} (h : RMI B w0 X g cap k l i y) (hb : Below X.heap.size X Y) : RMI B w0 Y g cap k l i y := ⟨h.1.later hb, h.2⟩
theorem RMI.start {B : Nat} {w0 X : World} {g cap k i : Nat} {l : List Itm} (h : RBuf itE B w0 X (.slice (some ⟨g, 0, none⟩) l.length cap) (putTo (markI k) l i)) (hi : i < l.length) : RMI B w0 X g cap k l i l[i] := by
  refine ⟨?_, hi⟩
  have e : (putTo (markI k) l i).set i l[i] = putTo (markI k) l i := by
    have h1 := putTo_at (m := markI k) hi
    obtain ⟨h2, h3⟩ := List.getElem?_eq_some_iff.1 h1
    rw [← h3]
    exact List.set_getElem_self h2
  rw [e]
  exact h
theorem RMI.done {B : Nat} {w0 X : World} {g cap k i : Nat} {l : List Itm} {y : Itm} (h : RMI B w0 X g cap k l i y) (hy : y = markI k i) : RBuf itE B w0 X (.slice (some ⟨g, 0, none⟩) l.length cap) (putTo (markI k) l (i + 1)) := by
  have h1 := h.1
  rw [hy, putTo_set h.2] at h1
  exact h1
theorem RMI.at0 {B : Nat} {w0 X : World} {g cap k i : Nat} {l : List Itm} {z0 z1 z2 z3 z4 z5 : Int} {z6 z7 z8 : ByteArray} (h : RMI B w0 X g cap k l i (z0, ⟨z1, z2, z3, z4, z5, z6, z7, z8⟩)) : X.cell? ⟨g, i * 9, none⟩ = some (.int .i64 (z0)) ∧ X.frozen? ⟨g, i * 9, none⟩ = false ∧ ∀ z : Int, RMI B w0 (X.setCell ⟨g, i * 9, none⟩ (.int .i64 (z))) g cap k l i (z, ⟨z1, z2, z3, z4, z5, z6, z7, z8⟩) := by
  obtain ⟨h1, h2⟩ := h
  have hl : ((putTo (markI k) l i).set i (z0, ⟨z1, z2, z3, z4, z5, z6, z7, z8⟩)).length = l.length := by rw [List.length_set]; exact putTo_length (by omega)
  have hat : ((putTo (markI k) l i).set i (z0, ⟨z1, z2, z3, z4, z5, z6, z7, z8⟩))[i]? = some (z0, ⟨z1, z2, z3, z4, z5, z6, z7, z8⟩) := List.getElem?_set_self (by rw [putTo_length (by omega)]; exact h2)
  rw [← hl] at h1
  refine ⟨h1.cell rfl i _ hat 0 _ rfl, h1.loose _, fun z => ⟨?_, h2⟩⟩
  have st := h1.stored i _ (z, ⟨z1, z2, z3, z4, z5, z6, z7, z8⟩) hat 0 (by decide) (.int .i64 (z)) rfl
  rw [List.set_set, hl] at st
  exact st
theorem RMI.at1 {B : Nat} {w0 X : World} {g cap k i : Nat} {l : List Itm} {z0 z1 z2 z3 z4 z5 : Int} {z6 z7 z8 : ByteArray} (h : RMI B w0 X g cap k l i (z0, ⟨z1, z2, z3, z4, z5, z6, z7, z8⟩)) : X.cell? ⟨g, i * 9 + 1, none⟩ = some (.int .i64 (z1)) ∧ X.frozen? ⟨g, i * 9 + 1, none⟩ = false ∧ ∀ z : Int, RMI B w0 (X.setCell ⟨g, i * 9 + 1, none⟩ (.int .i64 (z))) g cap k l i (z0, ⟨z, z2, z3, z4, z5, z6, z7, z8⟩) := by
  obtain ⟨h1, h2⟩ := h
  have hl : ((putTo (markI k) l i).set i (z0, ⟨z1, z2, z3, z4, z5, z6, z7, z8⟩)).length = l.length := by rw [List.length_set]; exact putTo_length (by omega)
  have hat : ((putTo (markI k) l i).set i (z0, ⟨z1, z2, z3, z4, z5, z6, z7, z8⟩))[i]? = some (z0, ⟨z1, z2, z3, z4, z5, z6, z7, z8⟩) := List.getElem?_set_self (by rw [putTo_length (by omega)]; exact h2)
  rw [← hl] at h1
  refine ⟨h1.cell rfl i _ hat 1 _ rfl, h1.loose _, fun z => ⟨?_, h2⟩⟩
  have st := h1.stored i _ (z0, ⟨z, z2, z3, z4, z5, z6, z7, z8⟩) hat 1 (by decide) (.int .i64 (z)) rfl
  rw [List.set_set, hl] at st
  exact st
theorem RMI.at2 {B : Nat} {w0 X : World} {g cap k i : Nat} {l : List Itm} {z0 z1 z2 z3 z4 z5 : Int} {z6 z7 z8 : ByteArray} (h : RMI B w0 X g cap k l i (z0, ⟨z1, z2, z3, z4, z5, z6, z7, z8⟩)) : X.cell? ⟨g, i * 9 + 2, none⟩ = some (.int .i64 (z2)) ∧ X.frozen? ⟨g, i * 9 + 2, none⟩ = false ∧ ∀ z : Int, RMI B w0 (X.setCell ⟨g, i * 9 + 2, none⟩ (.int .i64 (z))) g cap k l i (z0, ⟨z1, z, z3, z4, z5, z6, z7, z8⟩) := by
  obtain ⟨h1, h2⟩ := h
  have hl : ((putTo (markI k) l i).set i (z0, ⟨z1, z2, z3, z4, z5, z6, z7, z8⟩)).length = l.length := by rw [List.length_set]; exact putTo_length (by omega)
  have hat : ((putTo (markI k) l i).set i (z0, ⟨z1, z2, z3, z4, z5, z6, z7, z8⟩))[i]? = some (z0, ⟨z1, z2, z3, z4, z5, z6, z7, z8⟩) := List.getElem?_set_self (by rw [putTo_length (by omega)]; exact h2)
  rw [← hl] at h1
  refine ⟨h1.cell rfl i _ hat 2 _ rfl, h1.loose _, fun z => ⟨?_, h2⟩⟩
  have st := h1.stored i _ (z0, ⟨z1, z, z3, z4, z5, z6, z7, z8⟩) hat 2 (by decide) (.int .i64 (z)) rfl
  rw [List.set_set, hl] at st
  exact st
theorem RMI.at3 {B : Nat} {w0 X : World} {g cap k i : Nat} {l : List Itm} {z0 z1 z2 z3 z4 z5 : Int} {z6 z7 z8 : ByteArray} (h : RMI B w0 X g cap k l i (z0, ⟨z1, z2, z3, z4, z5, z6, z7, z8⟩)) : X.cell? ⟨g, i * 9 + 3, none⟩ = some (.int .i64 (z3)) ∧ X.frozen? ⟨g, i * 9 + 3, none⟩ = false ∧ ∀ z : Int, RMI B w0 (X.setCell ⟨g, i * 9 + 3, none⟩ (.int .i64 (z))) g cap k l i (z0, ⟨z1, z2, z, z4, z5, z6, z7, z8⟩) := by
  obtain ⟨h1, h2⟩ := h
  have hl : ((putTo (markI k) l i).set i (z0, ⟨z1, z2, z3, z4, z5, z6, z7, z8⟩)).length = l.length := by rw [List.length_set]; exact putTo_length (by omega)
  have hat : ((putTo (markI k) l i).set i (z0, ⟨z1, z2, z3, z4, z5, z6, z7, z8⟩))[i]? = some (z0, ⟨z1, z2, z3, z4, z5, z6, z7, z8⟩) := List.getElem?_set_self (by rw [putTo_length (by omega)]; exact h2)
  rw [← hl] at h1
  refine ⟨h1.cell rfl i _ hat 3 _ rfl, h1.loose _, fun z => ⟨?_, h2⟩⟩
  have st := h1.stored i _ (z0, ⟨z1, z2, z, z4, z5, z6, z7, z8⟩) hat 3 (by decide) (.int .i64 (z)) rfl
  rw [List.set_set, hl] at st
  exact st
theorem RMI.at4 {B : Nat} {w0 X : World} {g cap k i : Nat} {l : List Itm} {z0 z1 z2 z3 z4 z5 : Int} {z6 z7 z8 : ByteArray} (h : RMI B w0 X g cap k l i (z0, ⟨z1, z2, z3, z4, z5, z6, z7, z8⟩)) : X.cell? ⟨g, i * 9 + 4, none⟩ = some (.int .i64 (z4)) ∧ X.frozen? ⟨g, i * 9 + 4, none⟩ = false ∧ ∀ z : Int, RMI B w0 (X.setCell ⟨g, i * 9 + 4, none⟩ (.int .i64 (z))) g cap k l i (z0, ⟨z1, z2, z3, z, z5, z6, z7, z8⟩) := by
  obtain ⟨h1, h2⟩ := h
  have hl : ((putTo (markI k) l i).set i (z0, ⟨z1, z2, z3, z4, z5, z6, z7, z8⟩)).length = l.length := by rw [List.length_set]; exact putTo_length (by omega)
  have hat : ((putTo (markI k) l i).set i (z0, ⟨z1, z2, z3, z4, z5, z6, z7, z8⟩))[i]? = some (z0, ⟨z1, z2, z3, z4, z5, z6, z7, z8⟩) := List.getElem?_set_self (by rw [putTo_length (by omega)]; exact h2)
  rw [← hl] at h1
  refine ⟨h1.cell rfl i _ hat 4 _ rfl, h1.loose _, fun z => ⟨?_, h2⟩⟩
  have st := h1.stored i _ (z0, ⟨z1, z2, z3, z, z5, z6, z7, z8⟩) hat 4 (by decide) (.int .i64 (z)) rfl
  rw [List.set_set, hl] at st
  exact st
theorem RMI.at5 {B : Nat} {w0 X : World} {g cap k i : Nat} {l : List Itm} {z0 z1 z2 z3 z4 z5 : Int} {z6 z7 z8 : ByteArray} (h : RMI B w0 X g cap k l i (z0, ⟨z1, z2, z3, z4, z5, z6, z7, z8⟩)) : X.cell? ⟨g, i * 9 + 5, none⟩ = some (.int .i64 (z5)) ∧ X.frozen? ⟨g, i * 9 + 5, none⟩ = false ∧ ∀ z : Int, RMI B w0 (X.setCell ⟨g, i * 9 + 5, none⟩ (.int .i64 (z))) g cap k l i (z0, ⟨z1, z2, z3, z4, z, z6, z7, z8⟩) := by
  obtain ⟨h1, h2⟩ := h
  have hl : ((putTo (markI k) l i).set i (z0, ⟨z1, z2, z3, z4, z5, z6, z7, z8⟩)).length = l.length := by rw [List.length_set]; exact putTo_length (by omega)
  have hat : ((putTo (markI k) l i).set i (z0, ⟨z1, z2, z3, z4, z5, z6, z7, z8⟩))[i]? = some (z0, ⟨z1, z2, z3, z4, z5, z6, z7, z8⟩) := List.getElem?_set_self (by rw [putTo_length (by omega)]; exact h2)
  rw [← hl] at h1
  refine ⟨h1.cell rfl i _ hat 5 _ rfl, h1.loose _, fun z => ⟨?_, h2⟩⟩
  have st := h1.stored i _ (z0, ⟨z1, z2, z3, z4, z, z6, z7, z8⟩) hat 5 (by decide) (.int .i64 (z)) rfl
  rw [List.set_set, hl] at st
  exact st
theorem RMI.at6 {B : Nat} {w0 X : World} {g cap k i : Nat} {l : List Itm} {z0 z1 z2 z3 z4 z5 : Int} {z6 z7 z8 : ByteArray} (h : RMI B w0 X g cap k l i (z0, ⟨z1, z2, z3, z4, z5, z6, z7, z8⟩)) : X.cell? ⟨g, i * 9 + 6, none⟩ = some (.string (z6)) ∧ X.frozen? ⟨g, i * 9 + 6, none⟩ = false ∧ ∀ z : ByteArray, RMI B w0 (X.setCell ⟨g, i * 9 + 6, none⟩ (.string (z))) g cap k l i (z0, ⟨z1, z2, z3, z4, z5, z, z7, z8⟩) := by
  obtain ⟨h1, h2⟩ := h
  have hl : ((putTo (markI k) l i).set i (z0, ⟨z1, z2, z3, z4, z5, z6, z7, z8⟩)).length = l.length := by rw [List.length_set]; exact putTo_length (by omega)
  have hat : ((putTo (markI k) l i).set i (z0, ⟨z1, z2, z3, z4, z5, z6, z7, z8⟩))[i]? = some (z0, ⟨z1, z2, z3, z4, z5, z6, z7, z8⟩) := List.getElem?_set_self (by rw [putTo_length (by omega)]; exact h2)
  rw [← hl] at h1
  refine ⟨h1.cell rfl i _ hat 6 _ rfl, h1.loose _, fun z => ⟨?_, h2⟩⟩
  have st := h1.stored i _ (z0, ⟨z1, z2, z3, z4, z5, z, z7, z8⟩) hat 6 (by decide) (.string (z)) rfl
  rw [List.set_set, hl] at st
  exact st
theorem RMI.at7 {B : Nat} {w0 X : World} {g cap k i : Nat} {l : List Itm} {z0 z1 z2 z3 z4 z5 : Int} {z6 z7 z8 : ByteArray} (h : RMI B w0 X g cap k l i (z0, ⟨z1, z2, z3, z4, z5, z6, z7, z8⟩)) : X.cell? ⟨g, i * 9 + 7, none⟩ = some (.string (z7)) ∧ X.frozen? ⟨g, i * 9 + 7, none⟩ = false ∧ ∀ z : ByteArray, RMI B w0 (X.setCell ⟨g, i * 9 + 7, none⟩ (.string (z))) g cap k l i (z0, ⟨z1, z2, z3, z4, z5, z6, z, z8⟩) := by
  obtain ⟨h1, h2⟩ := h
  have hl : ((putTo (markI k) l i).set i (z0, ⟨z1, z2, z3, z4, z5, z6, z7, z8⟩)).length = l.length := by rw [List.length_set]; exact putTo_length (by omega)
  have hat : ((putTo (markI k) l i).set i (z0, ⟨z1, z2, z3, z4, z5, z6, z7, z8⟩))[i]? = some (z0, ⟨z1, z2, z3, z4, z5, z6, z7, z8⟩) := List.getElem?_set_self (by rw [putTo_length (by omega)]; exact h2)
  rw [← hl] at h1
  refine ⟨h1.cell rfl i _ hat 7 _ rfl, h1.loose _, fun z => ⟨?_, h2⟩⟩
  have st := h1.stored i _ (z0, ⟨z1, z2, z3, z4, z5, z6, z, z8⟩) hat 7 (by decide) (.string (z)) rfl
  rw [List.set_set, hl] at st
  exact st
theorem RMI.at8 {B : Nat} {w0 X : World} {g cap k i : Nat} {l : List Itm} {z0 z1 z2 z3 z4 z5 : Int} {z6 z7 z8 : ByteArray} (h : RMI B w0 X g cap k l i (z0, ⟨z1, z2, z3, z4, z5, z6, z7, z8⟩)) : X.cell? ⟨g, i * 9 + 8, none⟩ = some (.string (z8)) ∧ X.frozen? ⟨g, i * 9 + 8, none⟩ = false ∧ ∀ z : ByteArray, RMI B w0 (X.setCell ⟨g, i * 9 + 8, none⟩ (.string (z))) g cap k l i (z0, ⟨z1, z2, z3, z4, z5, z6, z7, z⟩) := by
  obtain ⟨h1, h2⟩ := h
  have hl : ((putTo (markI k) l i).set i (z0, ⟨z1, z2, z3, z4, z5, z6, z7, z8⟩)).length = l.length := by rw [List.length_set]; exact putTo_length (by omega)
  have hat : ((putTo (markI k) l i).set i (z0, ⟨z1, z2, z3, z4, z5, z6, z7, z8⟩))[i]? = some (z0, ⟨z1, z2, z3, z4, z5, z6, z7, z8⟩) := List.getElem?_set_self (by rw [putTo_length (by omega)]; exact h2)
  rw [← hl] at h1
  refine ⟨h1.cell rfl i _ hat 8 _ rfl, h1.loose _, fun z => ⟨?_, h2⟩⟩
  have st := h1.stored i _ (z0, ⟨z1, z2, z3, z4, z5, z6, z7, z⟩) hat 8 (by decide) (.string (z)) rfl
  rw [List.set_set, hl] at st
  exact st

set_option maxRecDepth 100000 in
set_option maxHeartbeats 4000000 in
theorem markItemS_put (l : List Itm) (v : Value) (k B : Nat) (w0 w : World) (h : RBuf itE B w0 w v l) (hk : 1 ≤ k) (hk2 : k + 9 * l.length ≤ 1099511627776) :
    Calls Try.prog 24 #[v, .int .i64 (k : Int)] w fun e w' => e = .returned (.int .i64 ((k + 9 * l.length : Nat) : Int)) ∧ RBuf itE B w0 w' v (marksI k l.length) ∧ w.grownBy w' v.ownBlock := by
  rcases h.own.2 with ⟨rfl, h0⟩ | ⟨g, cap, cur, rfl, hg, hh, hnc, hcp, hcs, htake⟩
  · obtain rfl := List.length_eq_zero_iff.1 h0
    go_enter Try.func24, Try.ntmps24
    go_wp2
    go_loop [1, 5] (fun kv iv => kv = .int .i64 (k : Int) ∧ iv = .int .i64 0) (fun _ _ => 0)
    case atStart => exact ⟨rfl, rfl⟩
    case round =>
      obtain ⟨rfl, rfl⟩ := hrel
      go_wp2
      go_ret
      exact ⟨rfl, h, World.grownBy.refl _ _⟩
  · clear hh hcs htake hcp
    have hle : l.length ≤ 1099511627776 := by omega
    go_enter Try.func24, Try.ntmps24
    go_wp2
    go_loopw [1, 5] (fun kv iv wr => ∃ i : Nat, i ≤ l.length ∧ iv = .int .i64 (i : Int) ∧ kv = .int .i64 ((k + 9 * i : Nat) : Int) ∧ RBuf itE B w0 wr (.slice (some ⟨g, 0, none⟩) l.length cap) (putTo (markI k) l i) ∧ w.grownBy wr (some g)) (fun _ iv _ => l.length - (intOf iv).toNat)
    case atStart => exact ⟨0, by omega, rfl, rfl, by rw [putTo_zero]; exact h, World.grownBy.refl _ _⟩
    case round =>
      obtain ⟨i, hi, rfl, rfl, hbr, hG⟩ := hrel
      by_cases hlt : i < l.length
      · have hi0 : (0 : Int) ≤ (i : Int) := by omega
        have hi1 : (i : Int) < (l.length : Int) := by omega
        obtain ⟨K, hK⟩ : ∃ K : Nat, K = k + 9 * i := ⟨_, rfl⟩
        have HK := Lib.hid hK
        rw [← hK]
        have hK1 : K + 9 ≤ 4611686018427387904 := by omega
        have hK2 : 1 ≤ K := by omega
        clear hK
        have R := RMI.start hbr hlt
        generalize l[i] = x at R
        obtain ⟨z0, z1, z2, z3, z4, z5, z6, z7, z8⟩ := x
        obtain ⟨c0, f0, R0⟩ := R.at0
        have R0' : RMI B w0 (wr.setCell ⟨g, i * 9, none⟩ (.int .i64 (K : Int))) g cap k l i ((K : Int), ⟨z1, z2, z3, z4, z5, z6, z7, z8⟩) := R0 _
        have G0 : w.grownBy (wr.setCell ⟨g, i * 9, none⟩ (.int .i64 (K : Int))) (some g) := hG.trans (grownBy_store _ g (i * 9) (.int .i64 (K : Int)))
        obtain ⟨c1, f1, R1⟩ := R0'.at1
        have R1' : RMI B w0 ((wr.setCell ⟨g, i * 9, none⟩ (.int .i64 (K : Int))).setCell ⟨g, i * 9 + 1, none⟩ (.int .i64 ((K : Int) + 1))) g cap k l i ((K : Int), ⟨((K : Int) + 1), z2, z3, z4, z5, z6, z7, z8⟩) := R1 _
        have G1 : w.grownBy ((wr.setCell ⟨g, i * 9, none⟩ (.int .i64 (K : Int))).setCell ⟨g, i * 9 + 1, none⟩ (.int .i64 ((K : Int) + 1))) (some g) := G0.trans (grownBy_store _ g (i * 9 + 1) (.int .i64 ((K : Int) + 1)))
        obtain ⟨c2, f2, R2⟩ := R1'.at2
        have R2' : RMI B w0 (((wr.setCell ⟨g, i * 9, none⟩ (.int .i64 (K : Int))).setCell ⟨g, i * 9 + 1, none⟩ (.int .i64 ((K : Int) + 1))).setCell ⟨g, i * 9 + 2, none⟩ (.int .i64 ((K : Int) + 1 + 1))) g cap k l i ((K : Int), ⟨((K : Int) + 1), ((K : Int) + 1 + 1), z3, z4, z5, z6, z7, z8⟩) := R2 _
        have G2 : w.grownBy (((wr.setCell ⟨g, i * 9, none⟩ (.int .i64 (K : Int))).setCell ⟨g, i * 9 + 1, none⟩ (.int .i64 ((K : Int) + 1))).setCell ⟨g, i * 9 + 2, none⟩ (.int .i64 ((K : Int) + 1 + 1))) (some g) := G1.trans (grownBy_store _ g (i * 9 + 2) (.int .i64 ((K : Int) + 1 + 1)))
        obtain ⟨c3, f3, R3⟩ := R2'.at3
        have R3' : RMI B w0 ((((wr.setCell ⟨g, i * 9, none⟩ (.int .i64 (K : Int))).setCell ⟨g, i * 9 + 1, none⟩ (.int .i64 ((K : Int) + 1))).setCell ⟨g, i * 9 + 2, none⟩ (.int .i64 ((K : Int) + 1 + 1))).setCell ⟨g, i * 9 + 3, none⟩ (.int .i64 ((K : Int) + 1 + 1 + 1))) g cap k l i ((K : Int), ⟨((K : Int) + 1), ((K : Int) + 1 + 1), ((K : Int) + 1 + 1 + 1), z4, z5, z6, z7, z8⟩) := R3 _
        have G3 : w.grownBy ((((wr.setCell ⟨g, i * 9, none⟩ (.int .i64 (K : Int))).setCell ⟨g, i * 9 + 1, none⟩ (.int .i64 ((K : Int) + 1))).setCell ⟨g, i * 9 + 2, none⟩ (.int .i64 ((K : Int) + 1 + 1))).setCell ⟨g, i * 9 + 3, none⟩ (.int .i64 ((K : Int) + 1 + 1 + 1))) (some g) := G2.trans (grownBy_store _ g (i * 9 + 3) (.int .i64 ((K : Int) + 1 + 1 + 1)))
        obtain ⟨c4, f4, R4⟩ := R3'.at4
        have R4' : RMI B w0 (((((wr.setCell ⟨g, i * 9, none⟩ (.int .i64 (K : Int))).setCell ⟨g, i * 9 + 1, none⟩ (.int .i64 ((K : Int) + 1))).setCell ⟨g, i * 9 + 2, none⟩ (.int .i64 ((K : Int) + 1 + 1))).setCell ⟨g, i * 9 + 3, none⟩ (.int .i64 ((K : Int) + 1 + 1 + 1))).setCell ⟨g, i * 9 + 4, none⟩ (.int .i64 ((K : Int) + 1 + 1 + 1 + 1))) g cap k l i ((K : Int), ⟨((K : Int) + 1), ((K : Int) + 1 + 1), ((K : Int) + 1 + 1 + 1), ((K : Int) + 1 + 1 + 1 + 1), z5, z6, z7, z8⟩) := R4 _
        have G4 : w.grownBy (((((wr.setCell ⟨g, i * 9, none⟩ (.int .i64 (K : Int))).setCell ⟨g, i * 9 + 1, none⟩ (.int .i64 ((K : Int) + 1))).setCell ⟨g, i * 9 + 2, none⟩ (.int .i64 ((K : Int) + 1 + 1))).setCell ⟨g, i * 9 + 3, none⟩ (.int .i64 ((K : Int) + 1 + 1 + 1))).setCell ⟨g, i * 9 + 4, none⟩ (.int .i64 ((K : Int) + 1 + 1 + 1 + 1))) (some g) := G3.trans (grownBy_store _ g (i * 9 + 4) (.int .i64 ((K : Int) + 1 + 1 + 1 + 1)))
        obtain ⟨c5, f5, R5⟩ := R4'.at5
        have R5' : RMI B w0 ((((((wr.setCell ⟨g, i * 9, none⟩ (.int .i64 (K : Int))).setCell ⟨g, i * 9 + 1, none⟩ (.int .i64 ((K : Int) + 1))).setCell ⟨g, i * 9 + 2, none⟩ (.int .i64 ((K : Int) + 1 + 1))).setCell ⟨g, i * 9 + 3, none⟩ (.int .i64 ((K : Int) + 1 + 1 + 1))).setCell ⟨g, i * 9 + 4, none⟩ (.int .i64 ((K : Int) + 1 + 1 + 1 + 1))).setCell ⟨g, i * 9 + 5, none⟩ (.int .i64 ((K : Int) + 1 + 1 + 1 + 1 + 1))) g cap k l i ((K : Int), ⟨((K : Int) + 1), ((K : Int) + 1 + 1), ((K : Int) + 1 + 1 + 1), ((K : Int) + 1 + 1 + 1 + 1), ((K : Int) + 1 + 1 + 1 + 1 + 1), z6, z7, z8⟩) := R5 _
        have G5 : w.grownBy ((((((wr.setCell ⟨g, i * 9, none⟩ (.int .i64 (K : Int))).setCell ⟨g, i * 9 + 1, none⟩ (.int .i64 ((K : Int) + 1))).setCell ⟨g, i * 9 + 2, none⟩ (.int .i64 ((K : Int) + 1 + 1))).setCell ⟨g, i * 9 + 3, none⟩ (.int .i64 ((K : Int) + 1 + 1 + 1))).setCell ⟨g, i * 9 + 4, none⟩ (.int .i64 ((K : Int) + 1 + 1 + 1 + 1))).setCell ⟨g, i * 9 + 5, none⟩ (.int .i64 ((K : Int) + 1 + 1 + 1 + 1 + 1))) (some g) := G4.trans (grownBy_store _ g (i * 9 + 5) (.int .i64 ((K : Int) + 1 + 1 + 1 + 1 + 1)))
        clear R0 R1 R2 R3 R4 R5 R0' R1' R2' R3' R4' G0 G1 G2 G3 G4 R hG hbr
        go_wp2_with fail
        clear c0 f0 c1 f1 c2 f2 c3 f3 c4 f4 c5 f5
        generalize ((((((wr.setCell ⟨g, i * 9, none⟩ (.int .i64 (K : Int))).setCell ⟨g, i * 9 + 1, none⟩ (.int .i64 ((K : Int) + 1))).setCell ⟨g, i * 9 + 2, none⟩ (.int .i64 ((K : Int) + 1 + 1))).setCell ⟨g, i * 9 + 3, none⟩ (.int .i64 ((K : Int) + 1 + 1 + 1))).setCell ⟨g, i * 9 + 4, none⟩ (.int .i64 ((K : Int) + 1 + 1 + 1 + 1))).setCell ⟨g, i * 9 + 5, none⟩ (.int .i64 ((K : Int) + 1 + 1 + 1 + 1 + 1))) = X5 at R5' G5 ⊢
        refine (markText_at _ (K + 6) _ (by omega) (by omega) (by omega)).mono ?_
        rintro e w6 ⟨rfl, k6⟩
        obtain ⟨c6, f6, R6⟩ := (R5'.later k6).at6
        have R6' := R6 (mark (K + 6))
        have G6 := (G5.trans (grownBy_of_below k6 (some g))).trans (grownBy_store w6 g (i * 9 + 6) (.string (mark (K + 6))))
        clear R5' G5 k6 R6
        go_wp2_with fail
        clear c6 f6
        generalize w6.setCell ⟨g, i * 9 + 6, none⟩ (.string (mark (K + 6))) = X6 at R6' G6 ⊢
        refine (markText_at _ (K + 7) _ (by omega) (by omega) (by omega)).mono ?_
        rintro e w7 ⟨rfl, k7⟩
        obtain ⟨c7, f7, R7⟩ := (R6'.later k7).at7
        have R7' := R7 (mark (K + 7))
        have G7 := (G6.trans (grownBy_of_below k7 (some g))).trans (grownBy_store w7 g (i * 9 + 7) (.string (mark (K + 7))))
        clear R6' G6 k7 R7
        go_wp2_with fail
        clear c7 f7
        generalize w7.setCell ⟨g, i * 9 + 7, none⟩ (.string (mark (K + 7))) = X7 at R7' G7 ⊢
        refine (markText_at _ (K + 8) _ (by omega) (by omega) (by omega)).mono ?_
        rintro e w8 ⟨rfl, k8⟩
        obtain ⟨c8, f8, R8⟩ := (R7'.later k8).at8
        have R8' := R8 (mark (K + 8))
        have G8 := (G7.trans (grownBy_of_below k8 (some g))).trans (grownBy_store w8 g (i * 9 + 8) (.string (mark (K + 8))))
        clear R7' G7 k8 R8
        have RF := Lib.hid (R8'.done (by rw [HK.out]; rfl))
        have GF := Lib.hid G8
        clear R8' G8
        go_wp2
        exact ⟨⟨i + 1, by omega, by simp, by rw [HK.out]; first | go_num | (congr 1; omega), RF.out, GF.out⟩, by first | omega | (simp [intOf]; omega)⟩
      · have hfin : Hid (i = l.length) := by show i = l.length; omega
        go_wp2
        go_ret
        refine ⟨?_, ?_, hG⟩
        · rw [← hfin.out]; rfl
        · have := hbr
          rw [hfin.out, putTo_all] at this
          exact this

set_option maxRecDepth 100000 in
set_option maxHeartbeats 4000000 in
theorem heldItemS_any (n : Nat) (v : Value) (k : Nat) (w : World) (hb : Rows' itE w v (marksI k n)) (hk : 1 ≤ k) (hk2 : k + 9 * n ≤ 1099511627776) :
    Calls Try.prog 30 #[v, .int .i64 (k : Int)] w fun e w' => e = .returned (.int .i64 ((k + 9 * n : Nat) : Int)) ∧ Below w.heap.size w w' := by
  have hmn := marksI_length k n
  rcases hb.ways with ⟨h0, a, c, rfl⟩ | ⟨hne, g, off, cap, rfl, hca, hg, hcl⟩
  · obtain rfl : n = 0 := by rw [h0] at hmn; simpa using hmn.symm
    clear hb h0 hmn
    go_enter Try.func30, Try.ntmps30
    go_wp2
    go_loop [1, 5] (fun kv iv => kv = .int .i64 (k : Int) ∧ iv = .int .i64 0) (fun _ _ => 0)
    case atStart => exact ⟨rfl, rfl⟩
    case round =>
      obtain ⟨rfl, rfl⟩ := hrel
      go_wp2
      go_ret
      exact ⟨rfl, Below.refl _ _⟩
  · rw [hmn] at *
    have HC := Lib.hid hcl
    clear hcl hb hne hmn
    go_enter Try.func30, Try.ntmps30
    go_wp2
    go_loopw [1, 5] (fun kv iv wr => ∃ i : Nat, i ≤ n ∧ iv = .int .i64 (i : Int) ∧ kv = .int .i64 ((k + 9 * i : Nat) : Int) ∧ Below w.heap.size w wr) (fun _ iv _ => n - (intOf iv).toNat)
    case atStart => exact ⟨0, by omega, rfl, rfl, Below.refl _ _⟩
    case round =>
      obtain ⟨i, hi, rfl, rfl, hbel⟩ := hrel
      by_cases hlt : i < n
      · have hi0 : (0 : Int) ≤ (i : Int) := by omega
        have hi1 : (i : Int) < (n : Int) := by omega
        obtain ⟨K, hK⟩ : ∃ K : Nat, K = k + 9 * i := ⟨_, rfl⟩
        have HK := Lib.hid hK
        obtain ⟨t6, ht60⟩ : ∃ t, mark (K + 6) = t := ⟨_, rfl⟩
        have ht6 := Lib.hid ht60
        obtain ⟨t7, ht70⟩ : ∃ t, mark (K + 7) = t := ⟨_, rfl⟩
        have ht7 := Lib.hid ht70
        obtain ⟨t8, ht80⟩ : ∃ t, mark (K + 8) = t := ⟨_, rfl⟩
        have ht8 := Lib.hid ht80
        have HS : Hid (∀ x, Below w.heap.size w x → x.cell? ⟨g, off + i * 9, none⟩ = some (.int .i64 (K : Int)) ∧ x.cell? ⟨g, off + i * 9 + 1, none⟩ = some (.int .i64 ((K : Int) + 1)) ∧ x.cell? ⟨g, off + i * 9 + 2, none⟩ = some (.int .i64 ((K : Int) + 1 + 1)) ∧ x.cell? ⟨g, off + i * 9 + 3, none⟩ = some (.int .i64 ((K : Int) + 1 + 1 + 1)) ∧ x.cell? ⟨g, off + i * 9 + 4, none⟩ = some (.int .i64 ((K : Int) + 1 + 1 + 1 + 1)) ∧ x.cell? ⟨g, off + i * 9 + 5, none⟩ = some (.int .i64 ((K : Int) + 1 + 1 + 1 + 1 + 1)) ∧ x.cell? ⟨g, off + i * 9 + 6, none⟩ = some (.string t6) ∧ x.cell? ⟨g, off + i * 9 + 7, none⟩ = some (.string t7) ∧ x.cell? ⟨g, off + i * 9 + 8, none⟩ = some (.string t8)) := by
          intro x hx
          obtain ⟨c0, c1, c2, c3, c4, c5, c6, c7, c8⟩ := it_cells HC.out hg hx i _ (marksI_at hlt)
          simp only [markI] at c0 c1 c2 c3 c4 c5 c6 c7 c8
          rw [← hK] at c0 c1 c2 c3 c4 c5 c6 c7 c8
          rw [ht60] at c6
          rw [ht70] at c7
          rw [ht80] at c8
          exact ⟨c0, by rw [c1]; first | rfl | (congr 2; omega), by rw [c2]; first | rfl | (congr 2; omega), by rw [c3]; first | rfl | (congr 2; omega), by rw [c4]; first | rfl | (congr 2; omega), by rw [c5]; first | rfl | (congr 2; omega), c6, c7, c8⟩
        rw [← hK]
        have hK1 : K + 9 ≤ 4611686018427387904 := by omega
        have hK2 : 1 ≤ K := by omega
        clear hK ht60 ht70 ht80
        obtain ⟨c0, c1, c2, c3, c4, c5, c6, c7, c8⟩ := HS.out _ hbel
        go_wp2
        have HT6 : Hid (∀ x, Below wr.drew.heap.size wr.drew x → x.cell? ⟨g, off + i * 9 + 6, none⟩ = some (.string t6) ∧ Below w.heap.size w x) := fun x hx => by
          have hx2 : Below w.heap.size w x := hbel.drew.trans (hx.mono hbel.size)
          obtain ⟨c0, c1, c2, c3, c4, c5, c6, c7, c8⟩ := HS.out _ hx2
          exact ⟨c6, hx2⟩
        go_region_held3 (fun x => x.cell? ⟨g, off + i * 9 + 6, none⟩ = some (.string t6))
          (first | go_keep | exact (HT6.out _ hb6).1)
          (first | (go_at_call 54; refine (markText_at _ (K + 6) _ (by omega) (by omega) (by omega)).mono ?_; rintro e w6 ⟨rfl, hb6⟩; rw [ht6.out]))
        all_goals
          have bel6 := (HT6.out _ hb6).2
          obtain ⟨c0, c1, c2, c3, c4, c5, c6, c7, c8⟩ := HS.out _ bel6
          clear HT6 hb6
          go_wp2
          have HT7 : Hid (∀ x, Below w6.drew.heap.size w6.drew x → x.cell? ⟨g, off + i * 9 + 7, none⟩ = some (.string t7) ∧ Below w.heap.size w x) := fun x hx => by
            have hx2 : Below w.heap.size w x := bel6.drew.trans (hx.mono bel6.size)
            obtain ⟨c0, c1, c2, c3, c4, c5, c6, c7, c8⟩ := HS.out _ hx2
            exact ⟨c7, hx2⟩
          go_region_held3 (fun x => x.cell? ⟨g, off + i * 9 + 7, none⟩ = some (.string t7))
            (first | go_keep | exact (HT7.out _ hb7).1)
            (first | (go_at_call 54; refine (markText_at _ (K + 7) _ (by omega) (by omega) (by omega)).mono ?_; rintro e w7 ⟨rfl, hb7⟩; rw [ht7.out]))
          all_goals
            have bel7 := (HT7.out _ hb7).2
            obtain ⟨c0, c1, c2, c3, c4, c5, c6, c7, c8⟩ := HS.out _ bel7
            clear HT7 hb7
            go_wp2
            have HT8 : Hid (∀ x, Below w7.drew.heap.size w7.drew x → x.cell? ⟨g, off + i * 9 + 8, none⟩ = some (.string t8) ∧ Below w.heap.size w x) := fun x hx => by
              have hx2 : Below w.heap.size w x := bel7.drew.trans (hx.mono bel7.size)
              obtain ⟨c0, c1, c2, c3, c4, c5, c6, c7, c8⟩ := HS.out _ hx2
              exact ⟨c8, hx2⟩
            go_region_held3 (fun x => x.cell? ⟨g, off + i * 9 + 8, none⟩ = some (.string t8))
              (first | go_keep | exact (HT8.out _ hb8).1)
              (first | (go_at_call 54; refine (markText_at _ (K + 8) _ (by omega) (by omega) (by omega)).mono ?_; rintro e w8 ⟨rfl, hb8⟩; rw [ht8.out]))
            all_goals
              have bel8 := (HT8.out _ hb8).2
              go_wp2
              go_roundw
              case rel => exact ⟨i + 1, by omega, by go_num, by rw [HK.out]; go_num, bel8⟩
              case measure => simp [intOf]; omega
      · have hfin : Hid (i = n) := by show i = n; omega
        go_wp2
        go_ret
        exact ⟨by rw [← hfin.out]; rfl, hbel⟩

end Go.Proofs.Ytjfilicddnhniab
