/- Texts of our own, joined. -/
import Derived.Test.YtjfilicddnhniabJe
import Derived.Test.YtjfilicddnhniabJh
import Derived.Lib.SmallJoins
import Derived.ProofKit
import Derived.Test.YtjfilicddnhniabJo
import Derived.Test.YtjfilicddnhniabJi
/- The helpers of the exact laws over lists of records: each is marked, and the marks are held. -/
namespace Go.Proofs.Ytjfilicddnhniab
open Go.RowKit


/-- The marks. -/
def markR (k : Nat) (j : Nat) : Rc := ⟨((k + 8 * j : Nat) : Int), ((k + 8 * j + 1 : Nat) : Int), ((k + 8 * j + 2 : Nat) : Int), ((k + 8 * j + 3 : Nat) : Int), ((k + 8 * j + 4 : Nat) : Int), mark (k + 8 * j + 5), mark (k + 8 * j + 6), mark (k + 8 * j + 7)⟩
def marksR (k n : Nat) : List Rc := (List.range n).map (markR k)
theorem marksR_length (k n : Nat) : (marksR k n).length = n := by simp [marksR]
theorem marksR_at {k n i : Nat} (h : i < n) : (marksR k n)[i]? = some (markR k i) := by simp [marksR, h]
/-- The first i of them are marked, the next one is y. -/
def RMR (B : Nat) (w0 X : World) (g cap k : Nat) (l : List Rc) (i : Nat) (y : Rc) : Prop := RBuf rcE B w0 X (.slice (some ⟨g, 0, none⟩) l.length cap) ((putTo (markR k) l i).set i y) ∧ i < l.length
theorem RMR.later {B : Nat} {w0 X Y : World} {g cap k i : Nat} {l : List Rc} {y : Rc} (h : RMR B w0 X g cap k l i y) (hb : Below X.heap.size X Y) : RMR B w0 Y g cap k l i y := ⟨h.1.later hb, h.2⟩
theorem RMR.start {B : Nat} {w0 X : World} {g cap k i : Nat} {l : List Rc} (h : RBuf rcE B w0 X (.slice (some ⟨g, 0, none⟩) l.length cap) (putTo (markR k) l i)) (hi : i < l.length) : RMR B w0 X g cap k l i l[i] := by
  refine ⟨?_, hi⟩
  have e : (putTo (markR k) l i).set i l[i] = putTo (markR k) l i := by
    have h1 := putTo_at (m := markR k) hi
    obtain ⟨h2, h3⟩ := List.getElem?_eq_some_iff.1 h1
    rw [← h3]
    exact List.set_getElem_self h2
  rw [e]
  exact h
theorem RMR.done {B : Nat} {w0 X : World} {g cap k i : Nat} {l : List Rc} {y : Rc} (h : RMR B w0 X g cap k l i y) (hy : y = markR k i) : RBuf rcE B w0 X (.slice (some ⟨g, 0, none⟩) l.length cap) (putTo (markR k) l (i + 1)) := by
  have h1 := h.1
  rw [hy, putTo_set h.2] at h1
  exact h1
theorem RMR.at0 {B : Nat} {w0 X : World} {g cap k i : Nat} {l : List Rc} {z0 z1 z2 z3 z4 : Int} {z5 z6 z7 : ByteArray} (h : RMR B w0 X g cap k l i ⟨z0, z1, z2, z3, z4, z5, z6, z7⟩) : X.cell? ⟨g, i * 8, none⟩ = some (.int .i64 (z0)) ∧ X.frozen? ⟨g, i * 8, none⟩ = false ∧ ∀ z : Int, RMR B w0 (X.setCell ⟨g, i * 8, none⟩ (.int .i64 (z))) g cap k l i ⟨z, z1, z2, z3, z4, z5, z6, z7⟩ := by
  obtain ⟨h1, h2⟩ := h
  have hl : ((putTo (markR k) l i).set i ⟨z0, z1, z2, z3, z4, z5, z6, z7⟩).length = l.length := by rw [List.length_set]; exact putTo_length (by omega)
  have hat : ((putTo (markR k) l i).set i ⟨z0, z1, z2, z3, z4, z5, z6, z7⟩)[i]? = some ⟨z0, z1, z2, z3, z4, z5, z6, z7⟩ := List.getElem?_set_self (by rw [putTo_length (by omega)]; exact h2)
  rw [← hl] at h1
  refine ⟨h1.cell rfl i _ hat 0 _ rfl, h1.loose _, fun z => ⟨?_, h2⟩⟩
  have st := h1.stored i _ ⟨z, z1, z2, z3, z4, z5, z6, z7⟩ hat 0 (by decide) (.int .i64 (z)) rfl
  rw [List.set_set, hl] at st
  exact st
theorem RMR.at1 {B : Nat} {w0 X : World} {g cap k i : Nat} {l : List Rc} {z0 z1 z2 z3 z4 : Int} {z5 z6 z7 : ByteArray} (h : RMR B w0 X g cap k l i ⟨z0, z1, z2, z3, z4, z5, z6, z7⟩) : X.cell? ⟨g, i * 8 + 1, none⟩ = some (.int .i64 (z1)) ∧ X.frozen? ⟨g, i * 8 + 1, none⟩ = false ∧ ∀ z : Int, RMR B w0 (X.setCell ⟨g, i * 8 + 1, none⟩ (.int .i64 (z))) g cap k l i ⟨z0, z, z2, z3, z4, z5, z6, z7⟩ := by
  obtain ⟨h1, h2⟩ := h
  have hl : ((putTo (markR k) l i).set i ⟨z0, z1, z2, z3, z4, z5, z6, z7⟩).length = l.length := by rw [List.length_set]; exact putTo_length (by omega)
  have hat : ((putTo (markR k) l i).set i ⟨z0, z1, z2, z3, z4, z5, z6, z7⟩)[i]? = some ⟨z0, z1, z2, z3, z4, z5, z6, z7⟩ := List.getElem?_set_self (by rw [putTo_length (by omega)]; exact h2)
  rw [← hl] at h1
  refine ⟨h1.cell rfl i _ hat 1 _ rfl, h1.loose _, fun z => ⟨?_, h2⟩⟩
  have st := h1.stored i _ ⟨z0, z, z2, z3, z4, z5, z6, z7⟩ hat 1 (by decide) (.int .i64 (z)) rfl
  rw [List.set_set, hl] at st
  exact st
theorem RMR.at2 {B : Nat} {w0 X : World} {g cap k i : Nat} {l : List Rc} {z0 z1 z2 z3 z4 : Int} {z5 z6 z7 : ByteArray} (h : RMR B w0 X g cap k l i ⟨z0, z1, z2, z3, z4, z5, z6, z7⟩) : X.cell? ⟨g, i * 8 + 2, none⟩ = some (.int .i64 (z2)) ∧ X.frozen? ⟨g, i * 8 + 2, none⟩ = false ∧ ∀ z : Int, RMR B w0 (X.setCell ⟨g, i * 8 + 2, none⟩ (.int .i64 (z))) g cap k l i ⟨z0, z1, z, z3, z4, z5, z6, z7⟩ := by
  obtain ⟨h1, h2⟩ := h
  have hl : ((putTo (markR k) l i).set i ⟨z0, z1, z2, z3, z4, z5, z6, z7⟩).length = l.length := by rw [List.length_set]; exact putTo_length (by omega)
  have hat : ((putTo (markR k) l i).set i ⟨z0, z1, z2, z3, z4, z5, z6, z7⟩)[i]? = some ⟨z0, z1, z2, z3, z4, z5, z6, z7⟩ := List.getElem?_set_self (by rw [putTo_length (by omega)]; exact h2)
  rw [← hl] at h1
  refine ⟨h1.cell rfl i _ hat 2 _ rfl, h1.loose _, fun z => ⟨?_, h2⟩⟩
  have st := h1.stored i _ ⟨z0, z1, z, z3, z4, z5, z6, z7⟩ hat 2 (by decide) (.int .i64 (z)) rfl
  rw [List.set_set, hl] at st
  exact st
theorem RMR.at3 {B : Nat} {w0 X : World} {g cap k i : Nat} {l : List Rc} {z0 z1 z2 z3 z4 : Int} {z5 z6 z7 : ByteArray} (h : RMR B w0 X g cap k l i ⟨z0, z1, z2, z3, z4, z5, z6, z7⟩) : X.cell? ⟨g, i * 8 + 3, none⟩ = some (.int .i64 (z3)) ∧ X.frozen? ⟨g, i * 8 + 3, none⟩ = false ∧ ∀ z : Int, RMR B w0 (X.setCell ⟨g, i * 8 + 3, none⟩ (.int .i64 (z))) g cap k l i ⟨z0, z1, z2, z, z4, z5, z6, z7⟩ := by
  obtain ⟨h1, h2⟩ := h
  have hl : ((putTo (markR k) l i).set i ⟨z0, z1, z2, z3, z4, z5, z6, z7⟩).length = l.length := by rw [List.length_set]; exact putTo_length (by omega)
  have hat : ((putTo (markR k) l i).set i ⟨z0, z1, z2, z3, z4, z5, z6, z7⟩)[i]? = some ⟨z0, z1, z2, z3, z4, z5, z6, z7⟩ := List.getElem?_set_self (by rw [putTo_length (by omega)]; exact h2)
  rw [← hl] at h1
  refine ⟨h1.cell rfl i _ hat 3 _ rfl, h1.loose _, fun z => ⟨?_, h2⟩⟩
  have st := h1.stored i _ ⟨z0, z1, z2, z, z4, z5, z6, z7⟩ hat 3 (by decide) (.int .i64 (z)) rfl
  rw [List.set_set, hl] at st
  exact st
theorem RMR.at4 {B : Nat} {w0 X : World} {g cap k i : Nat} {l : List Rc} {z0 z1 z2 z3 z4 : Int} {z5 z6 z7 : ByteArray} (h : RMR B w0 X g cap k l i ⟨z0, z1, z2, z3, z4, z5, z6, z7⟩) : X.cell? ⟨g, i * 8 + 4, none⟩ = some (.int .i64 (z4)) ∧ X.frozen? ⟨g, i * 8 + 4, none⟩ = false ∧ ∀ z : Int, RMR B w0 (X.setCell ⟨g, i * 8 + 4, none⟩ (.int .i64 (z))) g cap k l i ⟨z0, z1, z2, z3, z, z5, z6, z7⟩ := by
  obtain ⟨h1, h2⟩ := h
  have hl : ((putTo (markR k) l i).set i ⟨z0, z1, z2, z3, z4, z5, z6, z7⟩).length = l.length := by rw [List.length_set]; exact putTo_length (by omega)
  have hat : ((putTo (markR k) l i).set i ⟨z0, z1, z2, z3, z4, z5, z6, z7⟩)[i]? = some ⟨z0, z1, z2, z3, z4, z5, z6, z7⟩ := List.getElem?_set_self (by rw [putTo_length (by omega)]; exact h2)
  rw [← hl] at h1
  refine ⟨h1.cell rfl i _ hat 4 _ rfl, h1.loose _, fun z => ⟨?_, h2⟩⟩
  have st := h1.stored i _ ⟨z0, z1, z2, z3, z, z5, z6, z7⟩ hat 4 (by decide) (.int .i64 (z)) rfl
  rw [List.set_set, hl] at st
  exact st
theorem RMR.at5 {B : Nat} {w0 X : World} {g cap k i : Nat} {l : List Rc} {z0 z1 z2 z3 z4 : Int} {z5 z6 z7 : ByteArray} (h : RMR B w0 X g cap k l i ⟨z0, z1, z2, z3, z4, z5, z6, z7⟩) : X.cell? ⟨g, i * 8 + 5, none⟩ = some (.string (z5)) ∧ X.frozen? ⟨g, i * 8 + 5, none⟩ = false ∧ ∀ z : ByteArray, RMR B w0 (X.setCell ⟨g, i * 8 + 5, none⟩ (.string (z))) g cap k l i ⟨z0, z1, z2, z3, z4, z, z6, z7⟩ := by
  obtain ⟨h1, h2⟩ := h
  have hl : ((putTo (markR k) l i).set i ⟨z0, z1, z2, z3, z4, z5, z6, z7⟩).length = l.length := by rw [List.length_set]; exact putTo_length (by omega)
  have hat : ((putTo (markR k) l i).set i ⟨z0, z1, z2, z3, z4, z5, z6, z7⟩)[i]? = some ⟨z0, z1, z2, z3, z4, z5, z6, z7⟩ := List.getElem?_set_self (by rw [putTo_length (by omega)]; exact h2)
  rw [← hl] at h1
  refine ⟨h1.cell rfl i _ hat 5 _ rfl, h1.loose _, fun z => ⟨?_, h2⟩⟩
  have st := h1.stored i _ ⟨z0, z1, z2, z3, z4, z, z6, z7⟩ hat 5 (by decide) (.string (z)) rfl
  rw [List.set_set, hl] at st
  exact st
theorem RMR.at6 {B : Nat} {w0 X : World} {g cap k i : Nat} {l : List Rc} {z0 z1 z2 z3 z4 : Int} {z5 z6 z7 : ByteArray} (h : RMR B w0 X g cap k l i ⟨z0, z1, z2, z3, z4, z5, z6, z7⟩) : X.cell? ⟨g, i * 8 + 6, none⟩ = some (.string (z6)) ∧ X.frozen? ⟨g, i * 8 + 6, none⟩ = false ∧ ∀ z : ByteArray, RMR B w0 (X.setCell ⟨g, i * 8 + 6, none⟩ (.string (z))) g cap k l i ⟨z0, z1, z2, z3, z4, z5, z, z7⟩ := by
  obtain ⟨h1, h2⟩ := h
  have hl : ((putTo (markR k) l i).set i ⟨z0, z1, z2, z3, z4, z5, z6, z7⟩).length = l.length := by rw [List.length_set]; exact putTo_length (by omega)
  have hat : ((putTo (markR k) l i).set i ⟨z0, z1, z2, z3, z4, z5, z6, z7⟩)[i]? = some ⟨z0, z1, z2, z3, z4, z5, z6, z7⟩ := List.getElem?_set_self (by rw [putTo_length (by omega)]; exact h2)
  rw [← hl] at h1
  refine ⟨h1.cell rfl i _ hat 6 _ rfl, h1.loose _, fun z => ⟨?_, h2⟩⟩
  have st := h1.stored i _ ⟨z0, z1, z2, z3, z4, z5, z, z7⟩ hat 6 (by decide) (.string (z)) rfl
  rw [List.set_set, hl] at st
  exact st
theorem RMR.at7 {B : Nat} {w0 X : World} {g cap k i : Nat} {l : List Rc} {z0 z1 z2 z3 z4 : Int} {z5 z6 z7 : ByteArray} (h : RMR B w0 X g cap k l i ⟨z0, z1, z2, z3, z4, z5, z6, z7⟩) : X.cell? ⟨g, i * 8 + 7, none⟩ = some (.string (z7)) ∧ X.frozen? ⟨g, i * 8 + 7, none⟩ = false ∧ ∀ z : ByteArray, RMR B w0 (X.setCell ⟨g, i * 8 + 7, none⟩ (.string (z))) g cap k l i ⟨z0, z1, z2, z3, z4, z5, z6, z⟩ := by
  obtain ⟨h1, h2⟩ := h
  have hl : ((putTo (markR k) l i).set i ⟨z0, z1, z2, z3, z4, z5, z6, z7⟩).length = l.length := by rw [List.length_set]; exact putTo_length (by omega)
  have hat : ((putTo (markR k) l i).set i ⟨z0, z1, z2, z3, z4, z5, z6, z7⟩)[i]? = some ⟨z0, z1, z2, z3, z4, z5, z6, z7⟩ := List.getElem?_set_self (by rw [putTo_length (by omega)]; exact h2)
  rw [← hl] at h1
  refine ⟨h1.cell rfl i _ hat 7 _ rfl, h1.loose _, fun z => ⟨?_, h2⟩⟩
  have st := h1.stored i _ ⟨z0, z1, z2, z3, z4, z5, z6, z⟩ hat 7 (by decide) (.string (z)) rfl
  rw [List.set_set, hl] at st
  exact st

set_option maxRecDepth 100000 in
set_option maxHeartbeats 4000000 in
theorem markRecS_put (l : List Rc) (v : Value) (k B : Nat) (w0 w : World) (h : RBuf rcE B w0 w v l) (hk : 1 ≤ k) (hk2 : k + 8 * l.length ≤ 1099511627776) :
    Calls Try.prog 34 #[v, .int .i64 (k : Int)] w fun e w' => e = .returned (.int .i64 ((k + 8 * l.length : Nat) : Int)) ∧ RBuf rcE B w0 w' v (marksR k l.length) ∧ w.grownBy w' v.ownBlock := by
  rcases h.own.2 with ⟨rfl, h0⟩ | ⟨g, cap, cur, rfl, hg, hh, hnc, hcp, hcs, htake⟩
  · obtain rfl := List.length_eq_zero_iff.1 h0
    go_enter Try.func34, Try.ntmps34
    go_wp2
    go_loop [1, 5] (fun kv iv => kv = .int .i64 (k : Int) ∧ iv = .int .i64 0) (fun _ _ => 0)
    case atStart => exact ⟨rfl, rfl⟩
    case round =>
      obtain ⟨rfl, rfl⟩ := hrel
      go_wp2
      go_ret
      exact ⟨rfl, h, World.grownBy.refl _ _⟩
  · clear hh hcs htake hcp
    have hle : l.length ≤ 1099511627776 := by omega
    go_enter Try.func34, Try.ntmps34
    go_wp2
    go_loopw [1, 5] (fun kv iv wr => ∃ i : Nat, i ≤ l.length ∧ iv = .int .i64 (i : Int) ∧ kv = .int .i64 ((k + 8 * i : Nat) : Int) ∧ RBuf rcE B w0 wr (.slice (some ⟨g, 0, none⟩) l.length cap) (putTo (markR k) l i) ∧ w.grownBy wr (some g)) (fun _ iv _ => l.length - (intOf iv).toNat)
    case atStart => exact ⟨0, by omega, rfl, rfl, by rw [putTo_zero]; exact h, World.grownBy.refl _ _⟩
    case round =>
      obtain ⟨i, hi, rfl, rfl, hbr, hG⟩ := hrel
      by_cases hlt : i < l.length
      · have hi0 : (0 : Int) ≤ (i : Int) := by omega
        have hi1 : (i : Int) < (l.length : Int) := by omega
        obtain ⟨K, hK⟩ : ∃ K : Nat, K = k + 8 * i := ⟨_, rfl⟩
        have HK := Lib.hid hK
        rw [← hK]
        have hK1 : K + 9 ≤ 4611686018427387904 := by omega
        have hK2 : 1 ≤ K := by omega
        clear hK
        have R := RMR.start hbr hlt
        generalize l[i] = x at R
        obtain ⟨z0, z1, z2, z3, z4, z5, z6, z7⟩ := x
        obtain ⟨c0, f0, R0⟩ := R.at0
        have R0' : RMR B w0 (wr.setCell ⟨g, i * 8, none⟩ (.int .i64 (K : Int))) g cap k l i ⟨(K : Int), z1, z2, z3, z4, z5, z6, z7⟩ := R0 _
        have G0 : w.grownBy (wr.setCell ⟨g, i * 8, none⟩ (.int .i64 (K : Int))) (some g) := hG.trans (grownBy_store _ g (i * 8) (.int .i64 (K : Int)))
        obtain ⟨c1, f1, R1⟩ := R0'.at1
        have R1' : RMR B w0 ((wr.setCell ⟨g, i * 8, none⟩ (.int .i64 (K : Int))).setCell ⟨g, i * 8 + 1, none⟩ (.int .i64 ((K : Int) + 1))) g cap k l i ⟨(K : Int), ((K : Int) + 1), z2, z3, z4, z5, z6, z7⟩ := R1 _
        have G1 : w.grownBy ((wr.setCell ⟨g, i * 8, none⟩ (.int .i64 (K : Int))).setCell ⟨g, i * 8 + 1, none⟩ (.int .i64 ((K : Int) + 1))) (some g) := G0.trans (grownBy_store _ g (i * 8 + 1) (.int .i64 ((K : Int) + 1)))
        obtain ⟨c2, f2, R2⟩ := R1'.at2
        have R2' : RMR B w0 (((wr.setCell ⟨g, i * 8, none⟩ (.int .i64 (K : Int))).setCell ⟨g, i * 8 + 1, none⟩ (.int .i64 ((K : Int) + 1))).setCell ⟨g, i * 8 + 2, none⟩ (.int .i64 ((K : Int) + 1 + 1))) g cap k l i ⟨(K : Int), ((K : Int) + 1), ((K : Int) + 1 + 1), z3, z4, z5, z6, z7⟩ := R2 _
        have G2 : w.grownBy (((wr.setCell ⟨g, i * 8, none⟩ (.int .i64 (K : Int))).setCell ⟨g, i * 8 + 1, none⟩ (.int .i64 ((K : Int) + 1))).setCell ⟨g, i * 8 + 2, none⟩ (.int .i64 ((K : Int) + 1 + 1))) (some g) := G1.trans (grownBy_store _ g (i * 8 + 2) (.int .i64 ((K : Int) + 1 + 1)))
        obtain ⟨c3, f3, R3⟩ := R2'.at3
        have R3' : RMR B w0 ((((wr.setCell ⟨g, i * 8, none⟩ (.int .i64 (K : Int))).setCell ⟨g, i * 8 + 1, none⟩ (.int .i64 ((K : Int) + 1))).setCell ⟨g, i * 8 + 2, none⟩ (.int .i64 ((K : Int) + 1 + 1))).setCell ⟨g, i * 8 + 3, none⟩ (.int .i64 ((K : Int) + 1 + 1 + 1))) g cap k l i ⟨(K : Int), ((K : Int) + 1), ((K : Int) + 1 + 1), ((K : Int) + 1 + 1 + 1), z4, z5, z6, z7⟩ := R3 _
        have G3 : w.grownBy ((((wr.setCell ⟨g, i * 8, none⟩ (.int .i64 (K : Int))).setCell ⟨g, i * 8 + 1, none⟩ (.int .i64 ((K : Int) + 1))).setCell ⟨g, i * 8 + 2, none⟩ (.int .i64 ((K : Int) + 1 + 1))).setCell ⟨g, i * 8 + 3, none⟩ (.int .i64 ((K : Int) + 1 + 1 + 1))) (some g) := G2.trans (grownBy_store _ g (i * 8 + 3) (.int .i64 ((K : Int) + 1 + 1 + 1)))
        obtain ⟨c4, f4, R4⟩ := R3'.at4
        have R4' : RMR B w0 (((((wr.setCell ⟨g, i * 8, none⟩ (.int .i64 (K : Int))).setCell ⟨g, i * 8 + 1, none⟩ (.int .i64 ((K : Int) + 1))).setCell ⟨g, i * 8 + 2, none⟩ (.int .i64 ((K : Int) + 1 + 1))).setCell ⟨g, i * 8 + 3, none⟩ (.int .i64 ((K : Int) + 1 + 1 + 1))).setCell ⟨g, i * 8 + 4, none⟩ (.int .i64 ((K : Int) + 1 + 1 + 1 + 1))) g cap k l i ⟨(K : Int), ((K : Int) + 1), ((K : Int) + 1 + 1), ((K : Int) + 1 + 1 + 1), ((K : Int) + 1 + 1 + 1 + 1), z5, z6, z7⟩ := R4 _
        have G4 : w.grownBy (((((wr.setCell ⟨g, i * 8, none⟩ (.int .i64 (K : Int))).setCell ⟨g, i * 8 + 1, none⟩ (.int .i64 ((K : Int) + 1))).setCell ⟨g, i * 8 + 2, none⟩ (.int .i64 ((K : Int) + 1 + 1))).setCell ⟨g, i * 8 + 3, none⟩ (.int .i64 ((K : Int) + 1 + 1 + 1))).setCell ⟨g, i * 8 + 4, none⟩ (.int .i64 ((K : Int) + 1 + 1 + 1 + 1))) (some g) := G3.trans (grownBy_store _ g (i * 8 + 4) (.int .i64 ((K : Int) + 1 + 1 + 1 + 1)))
        clear R0 R1 R2 R3 R4 R0' R1' R2' R3' G0 G1 G2 G3 R hG hbr
        go_wp2_with fail
        clear c0 f0 c1 f1 c2 f2 c3 f3 c4 f4
        generalize (((((wr.setCell ⟨g, i * 8, none⟩ (.int .i64 (K : Int))).setCell ⟨g, i * 8 + 1, none⟩ (.int .i64 ((K : Int) + 1))).setCell ⟨g, i * 8 + 2, none⟩ (.int .i64 ((K : Int) + 1 + 1))).setCell ⟨g, i * 8 + 3, none⟩ (.int .i64 ((K : Int) + 1 + 1 + 1))).setCell ⟨g, i * 8 + 4, none⟩ (.int .i64 ((K : Int) + 1 + 1 + 1 + 1))) = X4 at R4' G4 ⊢
        refine (markText_at _ (K + 5) _ (by omega) (by omega) (by omega)).mono ?_
        rintro e w5 ⟨rfl, k5⟩
        obtain ⟨c5, f5, R5⟩ := (R4'.later k5).at5
        have R5' := R5 (mark (K + 5))
        have G5 := (G4.trans (grownBy_of_below k5 (some g))).trans (grownBy_store w5 g (i * 8 + 5) (.string (mark (K + 5))))
        clear R4' G4 k5 R5
        go_wp2_with fail
        clear c5 f5
        generalize w5.setCell ⟨g, i * 8 + 5, none⟩ (.string (mark (K + 5))) = X5 at R5' G5 ⊢
        refine (markText_at _ (K + 6) _ (by omega) (by omega) (by omega)).mono ?_
        rintro e w6 ⟨rfl, k6⟩
        obtain ⟨c6, f6, R6⟩ := (R5'.later k6).at6
        have R6' := R6 (mark (K + 6))
        have G6 := (G5.trans (grownBy_of_below k6 (some g))).trans (grownBy_store w6 g (i * 8 + 6) (.string (mark (K + 6))))
        clear R5' G5 k6 R6
        go_wp2_with fail
        clear c6 f6
        generalize w6.setCell ⟨g, i * 8 + 6, none⟩ (.string (mark (K + 6))) = X6 at R6' G6 ⊢
        refine (markText_at _ (K + 7) _ (by omega) (by omega) (by omega)).mono ?_
        rintro e w7 ⟨rfl, k7⟩
        obtain ⟨c7, f7, R7⟩ := (R6'.later k7).at7
        have R7' := R7 (mark (K + 7))
        have G7 := (G6.trans (grownBy_of_below k7 (some g))).trans (grownBy_store w7 g (i * 8 + 7) (.string (mark (K + 7))))
        clear R6' G6 k7 R7
        have RF := Lib.hid (R7'.done (by rw [HK.out]; rfl))
        have GF := Lib.hid G7
        clear R7' G7
        go_wp2
        exact ⟨⟨i + 1, by omega, by simp, by rw [HK.out]; first | go_num | (congr 1; omega), RF.out, GF.out⟩, by first | omega | (simp [intOf]; omega)⟩
      · have hfin : Hid (i = l.length) := by show i = l.length; omega
        go_wp2
        go_ret
        refine ⟨?_, ?_, hG⟩
        · rw [← hfin.out]; rfl
        · have := hbr
          rw [hfin.out, putTo_all] at this
          exact this

set_option maxRecDepth 100000 in
set_option maxHeartbeats 4000000 in
theorem heldRecS_any (n : Nat) (v : Value) (k : Nat) (w : World) (hb : Rows' rcE w v (marksR k n)) (hk : 1 ≤ k) (hk2 : k + 8 * n ≤ 1099511627776) :
    Calls Try.prog 35 #[v, .int .i64 (k : Int)] w fun e w' => e = .returned (.int .i64 ((k + 8 * n : Nat) : Int)) ∧ Below w.heap.size w w' := by
  have hmn := marksR_length k n
  rcases hb.ways with ⟨h0, a, c, rfl⟩ | ⟨hne, g, off, cap, rfl, hca, hg, hcl⟩
  · obtain rfl : n = 0 := by rw [h0] at hmn; simpa using hmn.symm
    clear hb h0 hmn
    go_enter Try.func35, Try.ntmps35
    go_wp2
    go_loop [1, 5] (fun kv iv => kv = .int .i64 (k : Int) ∧ iv = .int .i64 0) (fun _ _ => 0)
    case atStart => exact ⟨rfl, rfl⟩
    case round =>
      obtain ⟨rfl, rfl⟩ := hrel
      go_wp2
      go_ret
      exact ⟨rfl, Below.refl _ _⟩
  · rw [hmn] at *
    have HC := Lib.hid hcl
    clear hcl hb hne hmn
    go_enter Try.func35, Try.ntmps35
    go_wp2
    go_loopw [1, 5] (fun kv iv wr => ∃ i : Nat, i ≤ n ∧ iv = .int .i64 (i : Int) ∧ kv = .int .i64 ((k + 8 * i : Nat) : Int) ∧ Below w.heap.size w wr) (fun _ iv _ => n - (intOf iv).toNat)
    case atStart => exact ⟨0, by omega, rfl, rfl, Below.refl _ _⟩
    case round =>
      obtain ⟨i, hi, rfl, rfl, hbel⟩ := hrel
      by_cases hlt : i < n
      · have hi0 : (0 : Int) ≤ (i : Int) := by omega
        have hi1 : (i : Int) < (n : Int) := by omega
        obtain ⟨K, hK⟩ : ∃ K : Nat, K = k + 8 * i := ⟨_, rfl⟩
        have HK := Lib.hid hK
        obtain ⟨t5, ht50⟩ : ∃ t, mark (K + 5) = t := ⟨_, rfl⟩
        have ht5 := Lib.hid ht50
        obtain ⟨t6, ht60⟩ : ∃ t, mark (K + 6) = t := ⟨_, rfl⟩
        have ht6 := Lib.hid ht60
        obtain ⟨t7, ht70⟩ : ∃ t, mark (K + 7) = t := ⟨_, rfl⟩
        have ht7 := Lib.hid ht70
        have HS : Hid (∀ x, Below w.heap.size w x → x.cell? ⟨g, off + i * 8, none⟩ = some (.int .i64 (K : Int)) ∧ x.cell? ⟨g, off + i * 8 + 1, none⟩ = some (.int .i64 ((K : Int) + 1)) ∧ x.cell? ⟨g, off + i * 8 + 2, none⟩ = some (.int .i64 ((K : Int) + 1 + 1)) ∧ x.cell? ⟨g, off + i * 8 + 3, none⟩ = some (.int .i64 ((K : Int) + 1 + 1 + 1)) ∧ x.cell? ⟨g, off + i * 8 + 4, none⟩ = some (.int .i64 ((K : Int) + 1 + 1 + 1 + 1)) ∧ x.cell? ⟨g, off + i * 8 + 5, none⟩ = some (.string t5) ∧ x.cell? ⟨g, off + i * 8 + 6, none⟩ = some (.string t6) ∧ x.cell? ⟨g, off + i * 8 + 7, none⟩ = some (.string t7)) := by
          intro x hx
          obtain ⟨c0, c1, c2, c3, c4, c5, c6, c7⟩ := rc_cells HC.out hg hx i _ (marksR_at hlt)
          simp only [markR] at c0 c1 c2 c3 c4 c5 c6 c7
          rw [← hK] at c0 c1 c2 c3 c4 c5 c6 c7
          rw [ht50] at c5
          rw [ht60] at c6
          rw [ht70] at c7
          exact ⟨c0, by rw [c1]; first | rfl | (congr 2; omega), by rw [c2]; first | rfl | (congr 2; omega), by rw [c3]; first | rfl | (congr 2; omega), by rw [c4]; first | rfl | (congr 2; omega), c5, c6, c7⟩
        rw [← hK]
        have hK1 : K + 9 ≤ 4611686018427387904 := by omega
        have hK2 : 1 ≤ K := by omega
        clear hK ht50 ht60 ht70
        obtain ⟨c0, c1, c2, c3, c4, c5, c6, c7⟩ := HS.out _ hbel
        go_wp2
        have HT5 : Hid (∀ x, Below wr.drew.heap.size wr.drew x → x.cell? ⟨g, off + i * 8 + 5, none⟩ = some (.string t5) ∧ Below w.heap.size w x) := fun x hx => by
          have hx2 : Below w.heap.size w x := hbel.drew.trans (hx.mono hbel.size)
          obtain ⟨c0, c1, c2, c3, c4, c5, c6, c7⟩ := HS.out _ hx2
          exact ⟨c5, hx2⟩
        go_region_held3 (fun x => x.cell? ⟨g, off + i * 8 + 5, none⟩ = some (.string t5))
          (first | go_keep | exact (HT5.out _ hb5).1)
          (first | (go_at_call 54; refine (markText_at _ (K + 5) _ (by omega) (by omega) (by omega)).mono ?_; rintro e w5 ⟨rfl, hb5⟩; rw [ht5.out]))
        all_goals
          have bel5 := (HT5.out _ hb5).2
          obtain ⟨c0, c1, c2, c3, c4, c5, c6, c7⟩ := HS.out _ bel5
          clear HT5 hb5
          go_wp2
          have HT6 : Hid (∀ x, Below w5.drew.heap.size w5.drew x → x.cell? ⟨g, off + i * 8 + 6, none⟩ = some (.string t6) ∧ Below w.heap.size w x) := fun x hx => by
            have hx2 : Below w.heap.size w x := bel5.drew.trans (hx.mono bel5.size)
            obtain ⟨c0, c1, c2, c3, c4, c5, c6, c7⟩ := HS.out _ hx2
            exact ⟨c6, hx2⟩
          go_region_held3 (fun x => x.cell? ⟨g, off + i * 8 + 6, none⟩ = some (.string t6))
            (first | go_keep | exact (HT6.out _ hb6).1)
            (first | (go_at_call 54; refine (markText_at _ (K + 6) _ (by omega) (by omega) (by omega)).mono ?_; rintro e w6 ⟨rfl, hb6⟩; rw [ht6.out]))
          all_goals
            have bel6 := (HT6.out _ hb6).2
            obtain ⟨c0, c1, c2, c3, c4, c5, c6, c7⟩ := HS.out _ bel6
            clear HT6 hb6
            go_wp2
            have HT7 : Hid (∀ x, Below w6.drew.heap.size w6.drew x → x.cell? ⟨g, off + i * 8 + 7, none⟩ = some (.string t7) ∧ Below w.heap.size w x) := fun x hx => by
              have hx2 : Below w.heap.size w x := bel6.drew.trans (hx.mono bel6.size)
              obtain ⟨c0, c1, c2, c3, c4, c5, c6, c7⟩ := HS.out _ hx2
              exact ⟨c7, hx2⟩
            go_region_held3 (fun x => x.cell? ⟨g, off + i * 8 + 7, none⟩ = some (.string t7))
              (first | go_keep | exact (HT7.out _ hb7).1)
              (first | (go_at_call 54; refine (markText_at _ (K + 7) _ (by omega) (by omega) (by omega)).mono ?_; rintro e w7 ⟨rfl, hb7⟩; rw [ht7.out]))
            all_goals
              have bel7 := (HT7.out _ hb7).2
              go_wp2
              go_roundw
              case rel => exact ⟨i + 1, by omega, by go_num, by rw [HK.out]; go_num, bel7⟩
              case measure => simp [intOf]; omega
      · have hfin : Hid (i = n) := by show i = n; omega
        go_wp2
        go_ret
        exact ⟨by rw [← hfin.out]; rfl, hbel⟩

end Go.Proofs.Ytjfilicddnhniab

/- Records and items that come in as arguments. -/
namespace Go.Proofs.Ytjfilicddnhniab
open Go.RowKit Go.ChangeShapes Go.WideShapes Go.ChangeAt Go.Deep Go.Joins

theorem list8 {α : Type} {l : List α} (h : l.length = 8) : ∃ v0 v1 v2 v3 v4 v5 v6 v7, l = [v0, v1, v2, v3, v4, v5, v6, v7] := by
  match l, h with
  | [v0, v1, v2, v3, v4, v5, v6, v7], _ => exact ⟨v0, v1, v2, v3, v4, v5, v6, v7, rfl⟩
theorem list9 {α : Type} {l : List α} (h : l.length = 9) : ∃ c v0 v1 v2 v3 v4 v5 v6 v7, l = c :: [v0, v1, v2, v3, v4, v5, v6, v7] := by
  match l, h with
  | [c, v0, v1, v2, v3, v4, v5, v6, v7], _ => exact ⟨c, v0, v1, v2, v3, v4, v5, v6, v7, rfl⟩

section
variable {H : Type} {enc : TypeId × Value → H} {P : Program} {w : World} {base : Nat} {spare : Nat → Bool} {held : Bool}

/-- The eight fields of a struct, each of one cell. -/
theorem trod_eight {t : TypeId} {f0 f1 f2 f3 f4 f5 f6 f7 : Field} {fuel : Nat} {cs : List Value} {x : DataW H × List MemPlace} (hs : P.underlying t = some (.struct #[f0, f1, f2, f3, f4, f5, f6, f7])) (hone : oneCellFields P #[f0, f1, f2, f3, f4, f5, f6, f7] = true) (hC : P.cellsOf t = 8)
    (h : DataW.trod enc P w base spare held fuel t cs = some x) :
    ∃ (v0 v1 v2 v3 v4 v5 v6 v7 : Value) (n : Nat), cs = [v0, v1, v2, v3, v4, v5, v6, v7] ∧ (∃ y, DataW.trod enc P w base spare held n f0.type [v0] = some y) ∧ (∃ y, DataW.trod enc P w base spare held n f1.type [v1] = some y) ∧ (∃ y, DataW.trod enc P w base spare held n f2.type [v2] = some y) ∧ (∃ y, DataW.trod enc P w base spare held n f3.type [v3] = some y) ∧ (∃ y, DataW.trod enc P w base spare held n f4.type [v4] = some y) ∧ (∃ y, DataW.trod enc P w base spare held n f5.type [v5] = some y) ∧ (∃ y, DataW.trod enc P w base spare held n f6.type [v6] = some y) ∧ (∃ y, DataW.trod enc P w base spare held n f7.type [v7] = some y) := by
  obtain ⟨xs, n, _, _, hl, hlen, hf⟩ := DataW.trod_struct hs h
  obtain ⟨v0, v1, v2, v3, v4, v5, v6, v7, rfl⟩ := list8 (hl.trans hC)
  have g : ∀ (i : Nat) (f : Field) (v : Value), #[f0, f1, f2, f3, f4, f5, f6, f7][i]? = some f → [v0, v1, v2, v3, v4, v5, v6, v7][i]? = some v → ∃ y, DataW.trod enc P w base spare held n f.type [v] = some y := by
    intro i f v hi hv
    obtain ⟨o, k⟩ := hone_of hone i f hi
    have hx := hf i f hi
    rw [o, k] at hx
    have e : (List.drop i [v0, v1, v2, v3, v4, v5, v6, v7]).take 1 = [v] := by
      rw [List.take_one, List.head?_drop, hv]; rfl
    rw [e] at hx
    have hi' : i < xs.length := by
      rw [hlen]
      exact (Array.getElem?_eq_some_iff.1 hi).1
    exact ⟨xs[i], by first | (rw [hx]; exact List.getElem?_eq_getElem hi') | (rw [List.getElem?_eq_getElem hi'] at hx; exact hx) | simpa [hi'] using hx⟩
  exact ⟨v0, v1, v2, v3, v4, v5, v6, v7, n, rfl, g 0 f0 v0 rfl rfl, g 1 f1 v1 rfl rfl, g 2 f2 v2 rfl rfl, g 3 f3 v3 rfl rfl, g 4 f4 v4 rfl rfl, g 5 f5 v5 rfl rfl, g 6 f6 v6 rfl rfl, g 7 f7 v7 rfl rfl⟩
end

/-- A record that came in: its texts are texts. -/
def RIn (v : Value) (r : Rc) : Prop := v = r.v ∧ r.user.size ≤ 9223372036854775807 ∧ r.name.size ≤ 9223372036854775807 ∧ r.text.size ≤ 9223372036854775807
/-- An item that came in. -/
def IIn (v : Value) (seq : Int) (r : Rc) : Prop := v = itV seq r ∧ r.user.size ≤ 9223372036854775807 ∧ r.name.size ≤ 9223372036854775807 ∧ r.text.size ≤ 9223372036854775807

section
variable {H : Type} {enc : TypeId × Value → H} {W : World}

set_option maxRecDepth 100000 in
theorem rec_form {fuel : Nat} {cs : List Value} {x : DataW H × List MemPlace} (h : DataW.trod enc Try.prog W 0 (fun _ => true) true fuel 73 cs = some x) :
    ∃ r : Rc, cs = r.cs.toList ∧ r.user.size ≤ 9223372036854775807 ∧ r.name.size ≤ 9223372036854775807 ∧ r.text.size ≤ 9223372036854775807 := by
  obtain ⟨v0, v1, v2, v3, v4, v5, v6, v7, n, rfl, ⟨y0, h0⟩, ⟨y1, h1⟩, ⟨y2, h2⟩, ⟨y3, h3⟩, ⟨y4, h4⟩, ⟨y5, h5⟩, ⟨y6, h6⟩, ⟨y7, h7⟩⟩ := trod_eight Try.underlying73 (by kernel_rfl) (by kernel_rfl) h
  obtain ⟨k0, hk0, _, _⟩ := DataW.trod_int Try.underlying3 h0
  obtain ⟨k1, hk1, _, _⟩ := DataW.trod_int Try.underlying3 h1
  obtain ⟨k2, hk2, _, _⟩ := DataW.trod_int Try.underlying3 h2
  obtain ⟨k3, hk3, _, _⟩ := DataW.trod_int Try.underlying3 h3
  obtain ⟨k4, hk4, _, _⟩ := DataW.trod_int Try.underlying3 h4
  obtain ⟨s5, hk5, _, z5⟩ := DataW.trod_string Try.underlying9 h5
  obtain ⟨s6, hk6, _, z6⟩ := DataW.trod_string Try.underlying9 h6
  obtain ⟨s7, hk7, _, z7⟩ := DataW.trod_string Try.underlying9 h7
  simp at hk0 hk1 hk2 hk3 hk4 hk5 hk6 hk7
  have hml : maxLen ≤ 9223372036854775807 := by decide
  exact ⟨⟨k0, k1, k2, k3, k4, s5, s6, s7⟩, by rw [hk0, hk1, hk2, hk3, hk4, hk5, hk6, hk7]; rfl, Nat.le_trans z5 hml, Nat.le_trans z6 hml, Nat.le_trans z7 hml⟩

set_option maxRecDepth 100000 in
theorem open_Rec {b0 : Nat} {r : Reach} {v : Value} {d : DataW H} {p : List MemPlace} (hv : Value.okWide Try.prog W r b0 73 v) (h : DataW.Trod enc Try.prog W 0 (fun _ => true) true 73 v d p) : ∃ D : Rc, RIn v D := by
  obtain ⟨cs, rfl, hsz⟩ := okWide_struct Try.underlying73 hv
  obtain ⟨fuel, hf⟩ := h
  obtain ⟨D, hD, z⟩ := rec_form hf
  refine ⟨D, ?_, z⟩
  obtain ⟨l⟩ := cs
  simp [Value.cells] at hD
  rw [hD]; rfl

set_option maxRecDepth 100000 in
theorem open_Item {b0 : Nat} {r : Reach} {v : Value} {d : DataW H} {p : List MemPlace} (hv : Value.okWide Try.prog W r b0 75 v) (h : DataW.Trod enc Try.prog W 0 (fun _ => true) true 75 v d p) : ∃ (seq : Int) (D : Rc), IIn v seq D := by
  obtain ⟨cs, rfl, hsz⟩ := okWide_struct Try.underlying75 hv
  obtain ⟨fuel, hf⟩ := h
  have hC : Try.prog.cellsOf 75 = 9 := by kernel_rfl
  have hR : Try.prog.cellsOf 73 = 8 := by kernel_rfl
  have hN : Try.prog.cellsOf 3 = 1 := by kernel_rfl
  obtain ⟨l⟩ := cs
  obtain ⟨c, v0, v1, v2, v3, v4, v5, v6, v7, rfl⟩ := list9 (show l.length = 9 from hsz.trans hC)
  obtain ⟨y0, y1, n, _, _, h0, h1⟩ := trod_struct2 Try.underlying75 hf
  simp [Value.cells, hR, hN] at h0 h1
  obtain ⟨k0, hk0, _, _⟩ := DataW.trod_int Try.underlying3 h0
  obtain ⟨D, hD, z⟩ := rec_form h1
  simp at hk0
  refine ⟨k0, D, ?_, z⟩
  have e : [v0, v1, v2, v3, v4, v5, v6, v7] = D.cs.toList := hD
  show Value.agg ⟨c :: [v0, v1, v2, v3, v4, v5, v6, v7]⟩ = _
  rw [e, hk0]; rfl
end

end Go.Proofs.Ytjfilicddnhniab

/- Lists of items that come in as an argument. -/
namespace Go.Proofs.Ytjfilicddnhniab
open Go.RowKit Go.ChangeShapes Go.WideShapes Go.ChangeAt Go.Deep Go.Joins

/-- Items that came in: they can be read; their texts are texts. -/
def ItsIn (W : World) (v : Value) (l : List Itm) : Prop := Rows' litE W v l ∧ l.length ≤ 9223372036854775807 ∧ ∀ x ∈ l, x.2.user.size ≤ 9223372036854775807 ∧ x.2.name.size ≤ 9223372036854775807 ∧ x.2.text.size ≤ 9223372036854775807

instance : Inhabited Itm := ⟨(0, Rc.nil)⟩

section
variable {H : Type} {enc : TypeId × Value → H} {W : World}

set_option maxRecDepth 100000 in
theorem item_form {fuel : Nat} {l : List Value} {x : DataW H × List MemPlace} (hl : l.length = 9) (hf : DataW.trod enc Try.prog W 0 (fun _ => true) true fuel 75 l = some x) :
    ∃ y : Itm, l = litE.f y ∧ y.2.user.size ≤ 9223372036854775807 ∧ y.2.name.size ≤ 9223372036854775807 ∧ y.2.text.size ≤ 9223372036854775807 := by
  have hR : Try.prog.cellsOf 73 = 8 := by kernel_rfl
  have hN : Try.prog.cellsOf 3 = 1 := by kernel_rfl
  obtain ⟨c, v0, v1, v2, v3, v4, v5, v6, v7, rfl⟩ := list9 hl
  obtain ⟨y0, y1, n, _, _, h0, h1⟩ := trod_struct2 Try.underlying75 hf
  simp [hR, hN] at h0 h1
  obtain ⟨k0, hk0, _, _⟩ := DataW.trod_int Try.underlying3 h0
  obtain ⟨D, hD, z⟩ := rec_form h1
  simp at hk0
  refine ⟨(k0, D), ?_, z⟩
  rw [hD, hk0]; rfl

set_option maxRecDepth 100000 in
theorem items_of_trod {fuel : Nat} {v : Value} {x : DataW H × List MemPlace} (h : DataW.trod enc Try.prog W 0 (fun _ => true) true fuel 34 [v] = some x) : ∃ l : List Itm, ItsIn W v l := by
  have hC : Try.prog.cellsOf 75 = 9 := by kernel_rfl
  have hml : maxLen ≤ 9223372036854775807 := by decide
  rcases open_slice Try.underlying34 h with ⟨hv, _⟩ | ⟨a, len, cap, m, n, D, Pl, hv, _, hl, hm, hmm, _, hc⟩
  · simp at hv; subst hv
    exact ⟨[], .inl ⟨rfl, _, _, rfl⟩, by simp, by simp⟩
  · simp at hv; subst hv
    have hm2 : m = cap := by simpa using hmm
    have hex : ∀ i, i < len → ∃ y : Itm, (∀ k u, (litE.f y)[k]? = some u → W.cell? (a.add (i * 9 + k)) = some u) ∧ y.2.user.size ≤ 9223372036854775807 ∧ y.2.name.size ≤ 9223372036854775807 ∧ y.2.text.size ≤ 9223372036854775807 := by
      intro i hi
      obtain ⟨cs', h1, h2⟩ := hc i (by omega)
      rw [hC] at h1
      obtain ⟨_, hlen, hcell⟩ := World.cells?_some h1
      obtain ⟨y, hy, z⟩ := item_form hlen h2
      refine ⟨y, fun k u hu => ?_, z⟩
      have hk : k < 9 := by have h9 := (List.getElem?_eq_some_iff.1 hu).1; rw [litE.len y] at h9; exact h9
      have := hcell k hk
      rw [add_add] at this
      rw [this, hy]
      exact hu
    obtain ⟨l, hlen, hr, hp⟩ := rows_of_cells litE hl (fun i hi => by
      obtain ⟨y, hy, _⟩ := hex i hi
      exact ⟨y, hy⟩) (fun y => y.2.user.size ≤ 9223372036854775807 ∧ y.2.name.size ≤ 9223372036854775807 ∧ y.2.text.size ≤ 9223372036854775807) (fun i hi y hy => by
      obtain ⟨z, hz, hs⟩ := hex i hi
      have e6 := hy 6 _ rfl
      have e7 := hy 7 _ rfl
      have e8 := hy 8 _ rfl
      have g6 := hz 6 _ rfl
      have g7 := hz 7 _ rfl
      have g8 := hz 8 _ rfl
      change W.cell? (a.add (i * 9 + 6)) = _ at e6
      change W.cell? (a.add (i * 9 + 7)) = _ at e7
      change W.cell? (a.add (i * 9 + 8)) = _ at e8
      rw [g6] at e6
      rw [g7] at e7
      rw [g8] at e8
      simp at e6 e7 e8
      rw [← e6, ← e7, ← e8]
      exact hs)
    exact ⟨l, hr, by omega, hp⟩

set_option maxRecDepth 100000 in
theorem open_ItemS {b0 : Nat} {r : Reach} {v : Value} {d : DataW H} {p : List MemPlace} (hv : Value.okWide Try.prog W r b0 34 v) (h : DataW.Trod enc Try.prog W 0 (fun _ => true) true 34 v d p) : ∃ l : List Itm, ItsIn W v l := by
  obtain ⟨fuel, h⟩ := h
  obtain ⟨a0, len0, cap0, rfl⟩ := okWide_slice Try.underlying34 hv
  exact items_of_trod h
end

end Go.Proofs.Ytjfilicddnhniab
