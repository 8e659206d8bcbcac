/- Texts of our own, joined. -/
import Derived.Test.YtieenkloiicnkaaGreatDoorJo
import Derived.Test.YtieenkloiicnkaaGreatDoorJl
import Derived.Lib.Hide
import Derived.Test.YtieenkloiicnkaaGreatDoorJa
import Derived.Deep.Slices
import Derived.Lib.SmallJoins
import Derived.ProofKit
import Derived.Test.YtieenkloiicnkaaGreatDoorJb
import Derived.Deep.SlicePairs
/- The helpers of the exact laws over segments: two alike are alike. -/
namespace Go.Proofs.YtieenkloiicnkaaGreatDoor
open Go.RowKit

/-- Segments that can be read. -/
def GRd (w : World) (v : Value) (bs : List Sg) : Prop := ∃ hs : List SgH, Rows' sgE w v hs ∧ hs.length = bs.length ∧
  ∀ (j : Nat) (h : SgH) (b : Sg), hs[j]? = some h → bs[j]? = some b → (h.no = b.no ∧ h.gen = b.gen ∧ h.ende = b.ende) ∧ Rows' itE w h.mv b.items
theorem SgO.rd {B : Nat} {w : World} {v : Value} {bs : List Sg} {hs : List SgH} (h : SgO B w v bs hs) : GRd w v bs :=
  ⟨hs, h.row.rows, h.len, fun j x b h1 h2 => ⟨(h.at' j x b h1 h2).1, (h.at' j x b h1 h2).2.rows⟩⟩
theorem GRd.later {w w' : World} {v : Value} {bs : List Sg} (h : GRd w v bs) (hb : Below w.heap.size w w') : GRd w' v bs := by
  obtain ⟨hs, h1, h2, h3⟩ := h
  exact ⟨hs, h1.later hb, h2, fun j x b e1 e2 => ⟨(h3 j x b e1 e2).1, (h3 j x b e1 e2).2.later hb⟩⟩
/-- As a loop reads them. -/
theorem GRd.segs {w : World} {v : Value} {bs : List Sg} (h : GRd w v bs) : ∃ (ad : Option Addr) (cap : Nat), v = .slice ad bs.length cap ∧ ∀ X, Below w.heap.size w X → ∀ (i : Nat) (b : Sg), bs[i]? = some b → ∃ (g off : Nat) (a : Option Addr) (n c : Nat), ad = some ⟨g, off, none⟩ ∧
    X.cell? ⟨g, off + i * 4, none⟩ = some (.int .i64 b.no) ∧ X.cell? ⟨g, off + i * 4 + 1, none⟩ = some (.int .i64 b.gen) ∧ X.cell? ⟨g, off + i * 4 + 2, none⟩ = some (.int .i64 b.ende) ∧ X.cell? ⟨g, off + i * 4 + 3, none⟩ = some (.slice a n c) ∧ Rows' itE w (.slice a n c) b.items := by
  obtain ⟨hs, h1, h2, h3⟩ := h
  rcases h1.ways with ⟨rfl, a, c, rfl⟩ | ⟨hne, g, off, c, rfl, hc, hg, hcl⟩
  · have : bs = [] := by rw [← List.length_eq_zero_iff, ← h2]; rfl
    subst this
    exact ⟨a, c, rfl, fun X _ i b hi => by cases hi⟩
  · refine ⟨_, c, by rw [h2], fun X hb i b hi => ?_⟩
    have hl : i < hs.length := by rw [h2]; exact (List.getElem?_eq_some_iff.1 hi).1
    have hx : hs[i]? = some hs[i] := List.getElem?_eq_getElem hl
    obtain ⟨⟨e1, e2, e3⟩, hm⟩ := h3 i _ b hx hi
    have hk : ∀ k u, (sgE.f hs[i])[k]? = some u → X.cell? ⟨g, off + i * 4 + k, none⟩ = some u := fun k u hu => (hb.cell (p := ⟨g, off + i * 4 + k, none⟩) hg).trans (hcl i _ hx k u hu)
    refine ⟨g, off, hs[i].a, hs[i].n, hs[i].c, rfl, ?_, ?_, ?_, hk 3 _ rfl, hm⟩
    · rw [← e1]; exact hk 0 _ rfl
    · rw [← e2]; exact hk 1 _ rfl
    · rw [← e3]; exact hk 2 _ rfl

set_option maxRecDepth 100000 in
set_option maxHeartbeats 1000000 in
theorem eqSeg_same (b : Sg) (a1 a2 : Option Addr) (n1 n2 c1 c2 : Nat) (w : World) (ha : Rows' itE w (.slice a1 n1 c1) b.items) (hb : Rows' itE w (.slice a2 n2 c2) b.items) (hl : b.items.length ≤ 1099511627776) :
    Calls Tryz.prog 10 #[.agg #[.int .i64 b.no, .int .i64 b.gen, .int .i64 b.ende, .slice a1 n1 c1], .agg #[.int .i64 b.no, .int .i64 b.gen, .int .i64 b.ende, .slice a2 n2 c2]] w fun e w' => e = .returned (.bool true) ∧ Below w.heap.size w w' := by
  have b1 : Below w.heap.size w ((w.alloc (.cells #[.int .i64 b.no, .int .i64 b.gen, .int .i64 b.ende, .slice a1 n1 c1] 29)).alloc (.cells #[.int .i64 b.no, .int .i64 b.gen, .int .i64 b.ende, .slice a2 n2 c2] 29)) := ((Below.refl _ _).alloc (Nat.le_refl _) _).alloc (by simp) _
  have HE := Lib.hid (fun wx (hx : Below w.heap.size w wx) => eqItemS_same b.items _ _ wx (ha.later hx) (hb.later hx) hl)
  clear ha hb
  go_enter Tryz.func10, Tryz.ntmps10
  go_wp2_with (go_at_call 35; refine (HE.out _ b1).mono ?_; rintro e w1 ⟨rfl, k1⟩)
  go_ret
  exact ⟨rfl, b1.trans (k1.mono b1.size)⟩

set_option maxRecDepth 100000 in
set_option maxHeartbeats 2000000 in
theorem eqSegS_same (bs : List Sg) (va vb : Value) (w : World) (ha : GRd w va bs) (hb : GRd w vb bs) (hl : bs.length ≤ 1099511627776) (hm : ∀ b ∈ bs, b.items.length ≤ 1099511627776) :
    Calls Tryz.prog 65 #[va, vb] w fun e w' => e = .returned (.bool true) ∧ Below w.heap.size w w' := by
  obtain ⟨ad, cap, rfl, hrowa⟩ := ha.segs
  obtain ⟨ad2, cap2, rfl, hrowb⟩ := hb.segs
  have HA := Lib.hid hrowa
  have HB := Lib.hid hrowb
  have HM := Lib.hid hm
  clear ha hb hrowa hrowb hm
  go_enter Tryz.func65, Tryz.ntmps65
  go_wp2
  go_loopw [5] (fun iv wr => ∃ i : Nat, i ≤ bs.length ∧ iv = .int .i64 (i : Int) ∧ Below w.heap.size w wr) (fun iv _ => bs.length - (intOf iv).toNat)
  case atStart => exact ⟨0, by omega, rfl, Below.refl _ _⟩
  case round =>
    obtain ⟨i, hi, rfl, hbel⟩ := hrel
    by_cases hlt : i < bs.length
    · have hg : bs[i]? = some bs[i] := List.getElem?_eq_getElem hlt
      have hbd : Below w.heap.size w wr.drew := hbel.drew
      obtain ⟨ga, oa, a1, n1, c1, rfl, p0, p1, p2, p3, ra⟩ := HA.out _ hbd i _ hg
      obtain ⟨gb, ob, a2, n2, c2, rfl, q0, q1, q2, q3, rb⟩ := HB.out _ hbd i _ hg
      have hml := HM.out bs[i] (List.getElem_mem hlt)
      have HS : Hid (∀ X, Below wr.drew.heap.size wr.drew X → X.cell? ⟨ga, oa + i * 4, none⟩ = some (.int .i64 bs[i].no) ∧ X.cell? ⟨ga, oa + i * 4 + 1, none⟩ = some (.int .i64 bs[i].gen) ∧ X.cell? ⟨ga, oa + i * 4 + 2, none⟩ = some (.int .i64 bs[i].ende) ∧ X.cell? ⟨ga, oa + i * 4 + 3, none⟩ = some (.slice a1 n1 c1) ∧
          X.cell? ⟨gb, ob + i * 4, none⟩ = some (.int .i64 bs[i].no) ∧ X.cell? ⟨gb, ob + i * 4 + 1, none⟩ = some (.int .i64 bs[i].gen) ∧ X.cell? ⟨gb, ob + i * 4 + 2, none⟩ = some (.int .i64 bs[i].ende) ∧ X.cell? ⟨gb, ob + i * 4 + 3, none⟩ = some (.slice a2 n2 c2)) := by
        intro X hX
        have cc : ∀ {g o : Nat} {u : Value}, wr.drew.cell? ⟨g, o, none⟩ = some u → X.cell? ⟨g, o, none⟩ = some u := fun {g o u} h => (hX.cell (p := ⟨g, o, none⟩) (World.block_lt_of_cell? _ _ h)).trans h
        exact ⟨cc p0, cc p1, cc p2, cc p3, cc q0, cc q1, cc q2, cc q3⟩
      have HE := Lib.hid (fun wx (hx : Below w.heap.size w wx) => eqSeg_same bs[i] a1 a2 n1 n2 c1 c2 wx (ra.later hx) (rb.later hx) hml)
      generalize bs[i] = b at *
      have hi0 : (0 : Int) ≤ (i : Int) := by omega
      have hi1 : (i : Int) < (bs.length : Int) := by omega
      clear hg ra rb hml
      go_wp2
      go_region_held3 (fun X => X.cell? ⟨ga, oa + i * 4, none⟩ = some (.int .i64 b.no) ∧ X.cell? ⟨ga, oa + i * 4 + 1, none⟩ = some (.int .i64 b.gen) ∧ X.cell? ⟨ga, oa + i * 4 + 2, none⟩ = some (.int .i64 b.ende) ∧ X.cell? ⟨ga, oa + i * 4 + 3, none⟩ = some (.slice a1 n1 c1) ∧
          X.cell? ⟨gb, ob + i * 4, none⟩ = some (.int .i64 b.no) ∧ X.cell? ⟨gb, ob + i * 4 + 1, none⟩ = some (.int .i64 b.gen) ∧ X.cell? ⟨gb, ob + i * 4 + 2, none⟩ = some (.int .i64 b.ende) ∧ X.cell? ⟨gb, ob + i * 4 + 3, none⟩ = some (.slice a2 n2 c2))
        (first | exact HS.out _ (Below.refl _ _) | exact HS.out _ hb1)
        (first | (go_at_call 10; refine (HE.out _ hbd).mono ?_; rintro e w1 ⟨rfl, hb1⟩))
      all_goals
        go_wp2
        go_roundw
        case rel => exact ⟨i + 1, by omega, by go_num, hbd.trans (hb1.mono hbd.size)⟩
        case measure => simp [intOf]; omega
    · go_wp2
      go_ret
      exact ⟨rfl, hbel⟩

end Go.Proofs.YtieenkloiicnkaaGreatDoor

/- The helpers of the exact laws over lists of items: each is marked, and the marks are held. -/
namespace Go.Proofs.YtieenkloiicnkaaGreatDoor
open Go.RowKit


/-- The marks. -/
def markI (k : Nat) (j : Nat) : Itm := (((k + 9 * j : Nat) : Int), ⟨((k + 9 * j + 1 : Nat) : Int), ((k + 9 * j + 2 : Nat) : Int), ((k + 9 * j + 3 : Nat) : Int), ((k + 9 * j + 4 : Nat) : Int), ((k + 9 * j + 5 : Nat) : Int), mark (k + 9 * j + 6), mark (k + 9 * j + 7), mark (k + 9 * j + 8)⟩)
def marksI (k n : Nat) : List Itm := (List.range n).map (markI k)
theorem marksI_length (k n : Nat) : (marksI k n).length = n := by simp [marksI]
theorem marksI_at {k n i : Nat} (h : i < n) : (marksI k n)[i]? = some (markI k i) := by simp [marksI, h]
/-- The first i of them are marked, the next one is y. -/
def RMI (B : Nat) (w0 X : World) (g cap k : Nat) (l : List Itm) (i : Nat) (y : Itm) : Prop := RBuf itE B w0 X (.slice (some ⟨g, 0, none⟩) l.length cap) ((putTo (markI k) l i).set i y) ∧ i < l.length
theorem RMI.later {B : Nat} {w0 X Y : World} {g cap k i : Nat} {l : List Itm} {y : Itm} (h : RMI B w0 X g cap k l i y) (hb : Below X.heap.size X Y) : RMI B w0 Y g cap k l i y := ⟨h.1.later hb, h.2⟩
theorem RMI.start {B : Nat} {w0 X : World} {g cap k i : Nat} {l : List Itm} (h : RBuf itE B w0 X (.slice (some ⟨g, 0, none⟩) l.length cap) (putTo (markI k) l i)) (hi : i < l.length) : RMI B w0 X g cap k l i l[i] := by
  refine ⟨?_, hi⟩
  have e : (putTo (markI k) l i).set i l[i] = putTo (markI k) l i := by
    have h1 := putTo_at (m := markI k) hi
    obtain ⟨h2, h3⟩ := List.getElem?_eq_some_iff.1 h1
    rw [← h3]
    exact List.set_getElem_self h2
  rw [e]
  exact h
theorem RMI.done {B : Nat} {w0 X : World} {g cap k i : Nat} {l : List Itm} {y : Itm} (h : RMI B w0 X g cap k l i y) (hy : y = markI k i) : RBuf itE B w0 X (.slice (some ⟨g, 0, none⟩) l.length cap) (putTo (markI k) l (i + 1)) := by
  have h1 := h.1
  rw [hy, putTo_set h.2] at h1
  exact h1
theorem RMI.at0 {B : Nat} {w0 X : World} {g cap k i : Nat} {l : List Itm} {z0 z1 z2 z3 z4 z5 : Int} {z6 z7 z8 : ByteArray} (h : RMI B w0 X g cap k l i (z0, ⟨z1, z2, z3, z4, z5, z6, z7, z8⟩)) : X.cell? ⟨g, i * 9, none⟩ = some (.int .i64 (z0)) ∧ X.frozen? ⟨g, i * 9, none⟩ = false ∧ ∀ z : Int, RMI B w0 (X.setCell ⟨g, i * 9, none⟩ (.int .i64 (z))) g cap k l i (z, ⟨z1, z2, z3, z4, z5, z6, z7, z8⟩) := by
  obtain ⟨h1, h2⟩ := h
  have hl : ((putTo (markI k) l i).set i (z0, ⟨z1, z2, z3, z4, z5, z6, z7, z8⟩)).length = l.length := by rw [List.length_set]; exact putTo_length (by omega)
  have hat : ((putTo (markI k) l i).set i (z0, ⟨z1, z2, z3, z4, z5, z6, z7, z8⟩))[i]? = some (z0, ⟨z1, z2, z3, z4, z5, z6, z7, z8⟩) := List.getElem?_set_self (by rw [putTo_length (by omega)]; exact h2)
  rw [← hl] at h1
  refine ⟨h1.cell rfl i _ hat 0 _ rfl, h1.loose _, fun z => ⟨?_, h2⟩⟩
  have st := h1.stored i _ (z, ⟨z1, z2, z3, z4, z5, z6, z7, z8⟩) hat 0 (by decide) (.int .i64 (z)) rfl
  rw [List.set_set, hl] at st
  exact st
theorem RMI.at1 {B : Nat} {w0 X : World} {g cap k i : Nat} {l : List Itm} {z0 z1 z2 z3 z4 z5 : Int} {z6 z7 z8 : ByteArray} (h : RMI B w0 X g cap k l i (z0, ⟨z1, z2, z3, z4, z5, z6, z7, z8⟩)) : X.cell? ⟨g, i * 9 + 1, none⟩ = some (.int .i64 (z1)) ∧ X.frozen? ⟨g, i * 9 + 1, none⟩ = false ∧ ∀ z : Int, RMI B w0 (X.setCell ⟨g, i * 9 + 1, none⟩ (.int .i64 (z))) g cap k l i (z0, ⟨z, z2, z3, z4, z5, z6, z7, z8⟩) := by
  obtain ⟨h1, h2⟩ := h
  have hl : ((putTo (markI k) l i).set i (z0, ⟨z1, z2, z3, z4, z5, z6, z7, z8⟩)).length = l.length := by rw [List.length_set]; exact putTo_length (by omega)
  have hat : ((putTo (markI k) l i).set i (z0, ⟨z1, z2, z3, z4, z5, z6, z7, z8⟩))[i]? = some (z0, ⟨z1, z2, z3, z4, z5, z6, z7, z8⟩) := List.getElem?_set_self (by rw [putTo_length (by omega)]; exact h2)
  rw [← hl] at h1
  refine ⟨h1.cell rfl i _ hat 1 _ rfl, h1.loose _, fun z => ⟨?_, h2⟩⟩
  have st := h1.stored i _ (z0, ⟨z, z2, z3, z4, z5, z6, z7, z8⟩) hat 1 (by decide) (.int .i64 (z)) rfl
  rw [List.set_set, hl] at st
  exact st
theorem RMI.at2 {B : Nat} {w0 X : World} {g cap k i : Nat} {l : List Itm} {z0 z1 z2 z3 z4 z5 : Int} {z6 z7 z8 : ByteArray} (h : RMI B w0 X g cap k l i (z0, ⟨z1, z2, z3, z4, z5, z6, z7, z8⟩)) : X.cell? ⟨g, i * 9 + 2, none⟩ = some (.int .i64 (z2)) ∧ X.frozen? ⟨g, i * 9 + 2, none⟩ = false ∧ ∀ z : Int, RMI B w0 (X.setCell ⟨g, i * 9 + 2, none⟩ (.int .i64 (z))) g cap k l i (z0, ⟨z1, z, z3, z4, z5, z6, z7, z8⟩) := by
  obtain ⟨h1, h2⟩ := h
  have hl : ((putTo (markI k) l i).set i (z0, ⟨z1, z2, z3, z4, z5, z6, z7, z8⟩)).length = l.length := by rw [List.length_set]; exact putTo_length (by omega)
  have hat : ((putTo (markI k) l i).set i (z0, ⟨z1, z2, z3, z4, z5, z6, z7, z8⟩))[i]? = some (z0, ⟨z1, z2, z3, z4, z5, z6, z7, z8⟩) := List.getElem?_set_self (by rw [putTo_length (by omega)]; exact h2)
  rw [← hl] at h1
  refine ⟨h1.cell rfl i _ hat 2 _ rfl, h1.loose _, fun z => ⟨?_, h2⟩⟩
  have st := h1.stored i _ (z0, ⟨z1, z, z3, z4, z5, z6, z7, z8⟩) hat 2 (by decide) (.int .i64 (z)) rfl
  rw [List.set_set, hl] at st
  exact st
theorem RMI.at3 {B : Nat} {w0 X : World} {g cap k i : Nat} {l : List Itm} {z0 z1 z2 z3 z4 z5 : Int} {z6 z7 z8 : ByteArray} (h : RMI B w0 X g cap k l i (z0, ⟨z1, z2, z3, z4, z5, z6, z7, z8⟩)) : X.cell? ⟨g, i * 9 + 3, none⟩ = some (.int .i64 (z3)) ∧ X.frozen? ⟨g, i * 9 + 3, none⟩ = false ∧ ∀ z : Int, RMI B w0 (X.setCell ⟨g, i * 9 + 3, none⟩ (.int .i64 (z))) g cap k l i (z0, ⟨z1, z2, z, z4, z5, z6, z7, z8⟩) := by
  obtain ⟨h1, h2⟩ := h
  have hl : ((putTo (markI k) l i).set i (z0, ⟨z1, z2, z3, z4, z5, z6, z7, z8⟩)).length = l.length := by rw [List.length_set]; exact putTo_length (by omega)
  have hat : ((putTo (markI k) l i).set i (z0, ⟨z1, z2, z3, z4, z5, z6, z7, z8⟩))[i]? = some (z0, ⟨z1, z2, z3, z4, z5, z6, z7, z8⟩) := List.getElem?_set_self (by rw [putTo_length (by omega)]; exact h2)
  rw [← hl] at h1
  refine ⟨h1.cell rfl i _ hat 3 _ rfl, h1.loose _, fun z => ⟨?_, h2⟩⟩
  have st := h1.stored i _ (z0, ⟨z1, z2, z, z4, z5, z6, z7, z8⟩) hat 3 (by decide) (.int .i64 (z)) rfl
  rw [List.set_set, hl] at st
  exact st
theorem RMI.at4 {B : Nat} {w0 X : World} {g cap k i : Nat} {l : List Itm} {z0 z1 z2 z3 z4 z5 : Int} {z6 z7 z8 : ByteArray} (h : RMI B w0 X g cap k l i (z0, ⟨z1, z2, z3, z4, z5, z6, z7, z8⟩)) : X.cell? ⟨g, i * 9 + 4, none⟩ = some (.int .i64 (z4)) ∧ X.frozen? ⟨g, i * 9 + 4, none⟩ = false ∧ ∀ z : Int, RMI B w0 (X.setCell ⟨g, i * 9 + 4, none⟩ (.int .i64 (z))) g cap k l i (z0, ⟨z1, z2, z3, z, z5, z6, z7, z8⟩) := by
  obtain ⟨h1, h2⟩ := h
  have hl : ((putTo (markI k) l i).set i (z0, ⟨z1, z2, z3, z4, z5, z6, z7, z8⟩)).length = l.length := by rw [List.length_set]; exact putTo_length (by omega)
  have hat : ((putTo (markI k) l i).set i (z0, ⟨z1, z2, z3, z4, z5, z6, z7, z8⟩))[i]? = some (z0, ⟨z1, z2, z3, z4, z5, z6, z7, z8⟩) := List.getElem?_set_self (by rw [putTo_length (by omega)]; exact h2)
  rw [← hl] at h1
  refine ⟨h1.cell rfl i _ hat 4 _ rfl, h1.loose _, fun z => ⟨?_, h2⟩⟩
  have st := h1.stored i _ (z0, ⟨z1, z2, z3, z, z5, z6, z7, z8⟩) hat 4 (by decide) (.int .i64 (z)) rfl
  rw [List.set_set, hl] at st
  exact st
theorem RMI.at5 {B : Nat} {w0 X : World} {g cap k i : Nat} {l : List Itm} {z0 z1 z2 z3 z4 z5 : Int} {z6 z7 z8 : ByteArray} (h : RMI B w0 X g cap k l i (z0, ⟨z1, z2, z3, z4, z5, z6, z7, z8⟩)) : X.cell? ⟨g, i * 9 + 5, none⟩ = some (.int .i64 (z5)) ∧ X.frozen? ⟨g, i * 9 + 5, none⟩ = false ∧ ∀ z : Int, RMI B w0 (X.setCell ⟨g, i * 9 + 5, none⟩ (.int .i64 (z))) g cap k l i (z0, ⟨z1, z2, z3, z4, z, z6, z7, z8⟩) := by
  obtain ⟨h1, h2⟩ := h
  have hl : ((putTo (markI k) l i).set i (z0, ⟨z1, z2, z3, z4, z5, z6, z7, z8⟩)).length = l.length := by rw [List.length_set]; exact putTo_length (by omega)
  have hat : ((putTo (markI k) l i).set i (z0, ⟨z1, z2, z3, z4, z5, z6, z7, z8⟩))[i]? = some (z0, ⟨z1, z2, z3, z4, z5, z6, z7, z8⟩) := List.getElem?_set_self (by rw [putTo_length (by omega)]; exact h2)
  rw [← hl] at h1
  refine ⟨h1.cell rfl i _ hat 5 _ rfl, h1.loose _, fun z => ⟨?_, h2⟩⟩
  have st := h1.stored i _ (z0, ⟨z1, z2, z3, z4, z, z6, z7, z8⟩) hat 5 (by decide) (.int .i64 (z)) rfl
  rw [List.set_set, hl] at st
  exact st
theorem RMI.at6 {B : Nat} {w0 X : World} {g cap k i : Nat} {l : List Itm} {z0 z1 z2 z3 z4 z5 : Int} {z6 z7 z8 : ByteArray} (h : RMI B w0 X g cap k l i (z0, ⟨z1, z2, z3, z4, z5, z6, z7, z8⟩)) : X.cell? ⟨g, i * 9 + 6, none⟩ = some (.string (z6)) ∧ X.frozen? ⟨g, i * 9 + 6, none⟩ = false ∧ ∀ z : ByteArray, RMI B w0 (X.setCell ⟨g, i * 9 + 6, none⟩ (.string (z))) g cap k l i (z0, ⟨z1, z2, z3, z4, z5, z, z7, z8⟩) := by
  obtain ⟨h1, h2⟩ := h
  have hl : ((putTo (markI k) l i).set i (z0, ⟨z1, z2, z3, z4, z5, z6, z7, z8⟩)).length = l.length := by rw [List.length_set]; exact putTo_length (by omega)
  have hat : ((putTo (markI k) l i).set i (z0, ⟨z1, z2, z3, z4, z5, z6, z7, z8⟩))[i]? = some (z0, ⟨z1, z2, z3, z4, z5, z6, z7, z8⟩) := List.getElem?_set_self (by rw [putTo_length (by omega)]; exact h2)
  rw [← hl] at h1
  refine ⟨h1.cell rfl i _ hat 6 _ rfl, h1.loose _, fun z => ⟨?_, h2⟩⟩
  have st := h1.stored i _ (z0, ⟨z1, z2, z3, z4, z5, z, z7, z8⟩) hat 6 (by decide) (.string (z)) rfl
  rw [List.set_set, hl] at st
  exact st
theorem RMI.at7 {B : Nat} {w0 X : World} {g cap k i : Nat} {l : List Itm} {z0 z1 z2 z3 z4 z5 : Int} {z6 z7 z8 : ByteArray} (h : RMI B w0 X g cap k l i (z0, ⟨z1, z2, z3, z4, z5, z6, z7, z8⟩)) : X.cell? ⟨g, i * 9 + 7, none⟩ = some (.string (z7)) ∧ X.frozen? ⟨g, i * 9 + 7, none⟩ = false ∧ ∀ z : ByteArray, RMI B w0 (X.setCell ⟨g, i * 9 + 7, none⟩ (.string (z))) g cap k l i (z0, ⟨z1, z2, z3, z4, z5, z6, z, z8⟩) := by
  obtain ⟨h1, h2⟩ := h
  have hl : ((putTo (markI k) l i).set i (z0, ⟨z1, z2, z3, z4, z5, z6, z7, z8⟩)).length = l.length := by rw [List.length_set]; exact putTo_length (by omega)
  have hat : ((putTo (markI k) l i).set i (z0, ⟨z1, z2, z3, z4, z5, z6, z7, z8⟩))[i]? = some (z0, ⟨z1, z2, z3, z4, z5, z6, z7, z8⟩) := List.getElem?_set_self (by rw [putTo_length (by omega)]; exact h2)
  rw [← hl] at h1
  refine ⟨h1.cell rfl i _ hat 7 _ rfl, h1.loose _, fun z => ⟨?_, h2⟩⟩
  have st := h1.stored i _ (z0, ⟨z1, z2, z3, z4, z5, z6, z, z8⟩) hat 7 (by decide) (.string (z)) rfl
  rw [List.set_set, hl] at st
  exact st
theorem RMI.at8 {B : Nat} {w0 X : World} {g cap k i : Nat} {l : List Itm} {z0 z1 z2 z3 z4 z5 : Int} {z6 z7 z8 : ByteArray} (h : RMI B w0 X g cap k l i (z0, ⟨z1, z2, z3, z4, z5, z6, z7, z8⟩)) : X.cell? ⟨g, i * 9 + 8, none⟩ = some (.string (z8)) ∧ X.frozen? ⟨g, i * 9 + 8, none⟩ = false ∧ ∀ z : ByteArray, RMI B w0 (X.setCell ⟨g, i * 9 + 8, none⟩ (.string (z))) g cap k l i (z0, ⟨z1, z2, z3, z4, z5, z6, z7, z⟩) := by
  obtain ⟨h1, h2⟩ := h
  have hl : ((putTo (markI k) l i).set i (z0, ⟨z1, z2, z3, z4, z5, z6, z7, z8⟩)).length = l.length := by rw [List.length_set]; exact putTo_length (by omega)
  have hat : ((putTo (markI k) l i).set i (z0, ⟨z1, z2, z3, z4, z5, z6, z7, z8⟩))[i]? = some (z0, ⟨z1, z2, z3, z4, z5, z6, z7, z8⟩) := List.getElem?_set_self (by rw [putTo_length (by omega)]; exact h2)
  rw [← hl] at h1
  refine ⟨h1.cell rfl i _ hat 8 _ rfl, h1.loose _, fun z => ⟨?_, h2⟩⟩
  have st := h1.stored i _ (z0, ⟨z1, z2, z3, z4, z5, z6, z7, z⟩) hat 8 (by decide) (.string (z)) rfl
  rw [List.set_set, hl] at st
  exact st

set_option maxRecDepth 100000 in
set_option maxHeartbeats 4000000 in
theorem markItemS_put (l : List Itm) (v : Value) (k B : Nat) (w0 w : World) (h : RBuf itE B w0 w v l) (hk : 1 ≤ k) (hk2 : k + 9 * l.length ≤ 1099511627776) :
    Calls Tryz.prog 40 #[v, .int .i64 (k : Int)] w fun e w' => e = .returned (.int .i64 ((k + 9 * l.length : Nat) : Int)) ∧ RBuf itE B w0 w' v (marksI k l.length) ∧ w.grownBy w' v.ownBlock := by
  rcases h.own.2 with ⟨rfl, h0⟩ | ⟨g, cap, cur, rfl, hg, hh, hnc, hcp, hcs, htake⟩
  · obtain rfl := List.length_eq_zero_iff.1 h0
    go_enter Tryz.func40, Tryz.ntmps40
    go_wp2
    go_loop [1, 5] (fun kv iv => kv = .int .i64 (k : Int) ∧ iv = .int .i64 0) (fun _ _ => 0)
    case atStart => exact ⟨rfl, rfl⟩
    case round =>
      obtain ⟨rfl, rfl⟩ := hrel
      go_wp2
      go_ret
      exact ⟨rfl, h, World.grownBy.refl _ _⟩
  · clear hh hcs htake hcp
    have hle : l.length ≤ 1099511627776 := by omega
    go_enter Tryz.func40, Tryz.ntmps40
    go_wp2
    go_loopw [1, 5] (fun kv iv wr => ∃ i : Nat, i ≤ l.length ∧ iv = .int .i64 (i : Int) ∧ kv = .int .i64 ((k + 9 * i : Nat) : Int) ∧ RBuf itE B w0 wr (.slice (some ⟨g, 0, none⟩) l.length cap) (putTo (markI k) l i) ∧ w.grownBy wr (some g)) (fun _ iv _ => l.length - (intOf iv).toNat)
    case atStart => exact ⟨0, by omega, rfl, rfl, by rw [putTo_zero]; exact h, World.grownBy.refl _ _⟩
    case round =>
      obtain ⟨i, hi, rfl, rfl, hbr, hG⟩ := hrel
      by_cases hlt : i < l.length
      · have hi0 : (0 : Int) ≤ (i : Int) := by omega
        have hi1 : (i : Int) < (l.length : Int) := by omega
        obtain ⟨K, hK⟩ : ∃ K : Nat, K = k + 9 * i := ⟨_, rfl⟩
        have HK := Lib.hid hK
        rw [← hK]
        have hK1 : K + 9 ≤ 4611686018427387904 := by omega
        have hK2 : 1 ≤ K := by omega
        clear hK
        have R := RMI.start hbr hlt
        generalize l[i] = x at R
        obtain ⟨z0, z1, z2, z3, z4, z5, z6, z7, z8⟩ := x
        obtain ⟨c0, f0, R0⟩ := R.at0
        have R0' : RMI B w0 (wr.setCell ⟨g, i * 9, none⟩ (.int .i64 (K : Int))) g cap k l i ((K : Int), ⟨z1, z2, z3, z4, z5, z6, z7, z8⟩) := R0 _
        have G0 : w.grownBy (wr.setCell ⟨g, i * 9, none⟩ (.int .i64 (K : Int))) (some g) := hG.trans (grownBy_store _ g (i * 9) (.int .i64 (K : Int)))
        obtain ⟨c1, f1, R1⟩ := R0'.at1
        have R1' : RMI B w0 ((wr.setCell ⟨g, i * 9, none⟩ (.int .i64 (K : Int))).setCell ⟨g, i * 9 + 1, none⟩ (.int .i64 ((K : Int) + 1))) g cap k l i ((K : Int), ⟨((K : Int) + 1), z2, z3, z4, z5, z6, z7, z8⟩) := R1 _
        have G1 : w.grownBy ((wr.setCell ⟨g, i * 9, none⟩ (.int .i64 (K : Int))).setCell ⟨g, i * 9 + 1, none⟩ (.int .i64 ((K : Int) + 1))) (some g) := G0.trans (grownBy_store _ g (i * 9 + 1) (.int .i64 ((K : Int) + 1)))
        obtain ⟨c2, f2, R2⟩ := R1'.at2
        have R2' : RMI B w0 (((wr.setCell ⟨g, i * 9, none⟩ (.int .i64 (K : Int))).setCell ⟨g, i * 9 + 1, none⟩ (.int .i64 ((K : Int) + 1))).setCell ⟨g, i * 9 + 2, none⟩ (.int .i64 ((K : Int) + 1 + 1))) g cap k l i ((K : Int), ⟨((K : Int) + 1), ((K : Int) + 1 + 1), z3, z4, z5, z6, z7, z8⟩) := R2 _
        have G2 : w.grownBy (((wr.setCell ⟨g, i * 9, none⟩ (.int .i64 (K : Int))).setCell ⟨g, i * 9 + 1, none⟩ (.int .i64 ((K : Int) + 1))).setCell ⟨g, i * 9 + 2, none⟩ (.int .i64 ((K : Int) + 1 + 1))) (some g) := G1.trans (grownBy_store _ g (i * 9 + 2) (.int .i64 ((K : Int) + 1 + 1)))
        obtain ⟨c3, f3, R3⟩ := R2'.at3
        have R3' : RMI B w0 ((((wr.setCell ⟨g, i * 9, none⟩ (.int .i64 (K : Int))).setCell ⟨g, i * 9 + 1, none⟩ (.int .i64 ((K : Int) + 1))).setCell ⟨g, i * 9 + 2, none⟩ (.int .i64 ((K : Int) + 1 + 1))).setCell ⟨g, i * 9 + 3, none⟩ (.int .i64 ((K : Int) + 1 + 1 + 1))) g cap k l i ((K : Int), ⟨((K : Int) + 1), ((K : Int) + 1 + 1), ((K : Int) + 1 + 1 + 1), z4, z5, z6, z7, z8⟩) := R3 _
        have G3 : w.grownBy ((((wr.setCell ⟨g, i * 9, none⟩ (.int .i64 (K : Int))).setCell ⟨g, i * 9 + 1, none⟩ (.int .i64 ((K : Int) + 1))).setCell ⟨g, i * 9 + 2, none⟩ (.int .i64 ((K : Int) + 1 + 1))).setCell ⟨g, i * 9 + 3, none⟩ (.int .i64 ((K : Int) + 1 + 1 + 1))) (some g) := G2.trans (grownBy_store _ g (i * 9 + 3) (.int .i64 ((K : Int) + 1 + 1 + 1)))
        obtain ⟨c4, f4, R4⟩ := R3'.at4
        have R4' : RMI B w0 (((((wr.setCell ⟨g, i * 9, none⟩ (.int .i64 (K : Int))).setCell ⟨g, i * 9 + 1, none⟩ (.int .i64 ((K : Int) + 1))).setCell ⟨g, i * 9 + 2, none⟩ (.int .i64 ((K : Int) + 1 + 1))).setCell ⟨g, i * 9 + 3, none⟩ (.int .i64 ((K : Int) + 1 + 1 + 1))).setCell ⟨g, i * 9 + 4, none⟩ (.int .i64 ((K : Int) + 1 + 1 + 1 + 1))) g cap k l i ((K : Int), ⟨((K : Int) + 1), ((K : Int) + 1 + 1), ((K : Int) + 1 + 1 + 1), ((K : Int) + 1 + 1 + 1 + 1), z5, z6, z7, z8⟩) := R4 _
        have G4 : w.grownBy (((((wr.setCell ⟨g, i * 9, none⟩ (.int .i64 (K : Int))).setCell ⟨g, i * 9 + 1, none⟩ (.int .i64 ((K : Int) + 1))).setCell ⟨g, i * 9 + 2, none⟩ (.int .i64 ((K : Int) + 1 + 1))).setCell ⟨g, i * 9 + 3, none⟩ (.int .i64 ((K : Int) + 1 + 1 + 1))).setCell ⟨g, i * 9 + 4, none⟩ (.int .i64 ((K : Int) + 1 + 1 + 1 + 1))) (some g) := G3.trans (grownBy_store _ g (i * 9 + 4) (.int .i64 ((K : Int) + 1 + 1 + 1 + 1)))
        obtain ⟨c5, f5, R5⟩ := R4'.at5
        have R5' : RMI B w0 ((((((wr.setCell ⟨g, i * 9, none⟩ (.int .i64 (K : Int))).setCell ⟨g, i * 9 + 1, none⟩ (.int .i64 ((K : Int) + 1))).setCell ⟨g, i * 9 + 2, none⟩ (.int .i64 ((K : Int) + 1 + 1))).setCell ⟨g, i * 9 + 3, none⟩ (.int .i64 ((K : Int) + 1 + 1 + 1))).setCell ⟨g, i * 9 + 4, none⟩ (.int .i64 ((K : Int) + 1 + 1 + 1 + 1))).setCell ⟨g, i * 9 + 5, none⟩ (.int .i64 ((K : Int) + 1 + 1 + 1 + 1 + 1))) g cap k l i ((K : Int), ⟨((K : Int) + 1), ((K : Int) + 1 + 1), ((K : Int) + 1 + 1 + 1), ((K : Int) + 1 + 1 + 1 + 1), ((K : Int) + 1 + 1 + 1 + 1 + 1), z6, z7, z8⟩) := R5 _
        have G5 : w.grownBy ((((((wr.setCell ⟨g, i * 9, none⟩ (.int .i64 (K : Int))).setCell ⟨g, i * 9 + 1, none⟩ (.int .i64 ((K : Int) + 1))).setCell ⟨g, i * 9 + 2, none⟩ (.int .i64 ((K : Int) + 1 + 1))).setCell ⟨g, i * 9 + 3, none⟩ (.int .i64 ((K : Int) + 1 + 1 + 1))).setCell ⟨g, i * 9 + 4, none⟩ (.int .i64 ((K : Int) + 1 + 1 + 1 + 1))).setCell ⟨g, i * 9 + 5, none⟩ (.int .i64 ((K : Int) + 1 + 1 + 1 + 1 + 1))) (some g) := G4.trans (grownBy_store _ g (i * 9 + 5) (.int .i64 ((K : Int) + 1 + 1 + 1 + 1 + 1)))
        clear R0 R1 R2 R3 R4 R5 R0' R1' R2' R3' R4' G0 G1 G2 G3 G4 R hG hbr
        go_wp2_with fail
        clear c0 f0 c1 f1 c2 f2 c3 f3 c4 f4 c5 f5
        generalize ((((((wr.setCell ⟨g, i * 9, none⟩ (.int .i64 (K : Int))).setCell ⟨g, i * 9 + 1, none⟩ (.int .i64 ((K : Int) + 1))).setCell ⟨g, i * 9 + 2, none⟩ (.int .i64 ((K : Int) + 1 + 1))).setCell ⟨g, i * 9 + 3, none⟩ (.int .i64 ((K : Int) + 1 + 1 + 1))).setCell ⟨g, i * 9 + 4, none⟩ (.int .i64 ((K : Int) + 1 + 1 + 1 + 1))).setCell ⟨g, i * 9 + 5, none⟩ (.int .i64 ((K : Int) + 1 + 1 + 1 + 1 + 1))) = X5 at R5' G5 ⊢
        refine (markText_at _ (K + 6) _ (by omega) (by omega) (by omega)).mono ?_
        rintro e w6 ⟨rfl, k6⟩
        obtain ⟨c6, f6, R6⟩ := (R5'.later k6).at6
        have R6' := R6 (mark (K + 6))
        have G6 := (G5.trans (grownBy_of_below k6 (some g))).trans (grownBy_store w6 g (i * 9 + 6) (.string (mark (K + 6))))
        clear R5' G5 k6 R6
        go_wp2_with fail
        clear c6 f6
        generalize w6.setCell ⟨g, i * 9 + 6, none⟩ (.string (mark (K + 6))) = X6 at R6' G6 ⊢
        refine (markText_at _ (K + 7) _ (by omega) (by omega) (by omega)).mono ?_
        rintro e w7 ⟨rfl, k7⟩
        obtain ⟨c7, f7, R7⟩ := (R6'.later k7).at7
        have R7' := R7 (mark (K + 7))
        have G7 := (G6.trans (grownBy_of_below k7 (some g))).trans (grownBy_store w7 g (i * 9 + 7) (.string (mark (K + 7))))
        clear R6' G6 k7 R7
        go_wp2_with fail
        clear c7 f7
        generalize w7.setCell ⟨g, i * 9 + 7, none⟩ (.string (mark (K + 7))) = X7 at R7' G7 ⊢
        refine (markText_at _ (K + 8) _ (by omega) (by omega) (by omega)).mono ?_
        rintro e w8 ⟨rfl, k8⟩
        obtain ⟨c8, f8, R8⟩ := (R7'.later k8).at8
        have R8' := R8 (mark (K + 8))
        have G8 := (G7.trans (grownBy_of_below k8 (some g))).trans (grownBy_store w8 g (i * 9 + 8) (.string (mark (K + 8))))
        clear R7' G7 k8 R8
        have RF := Lib.hid (R8'.done (by rw [HK.out]; rfl))
        have GF := Lib.hid G8
        clear R8' G8
        go_wp2
        exact ⟨⟨i + 1, by omega, by simp, by rw [HK.out]; first | go_num | (congr 1; omega), RF.out, GF.out⟩, by first | omega | (simp [intOf]; omega)⟩
      · have hfin : Hid (i = l.length) := by show i = l.length; omega
        go_wp2
        go_ret
        refine ⟨?_, ?_, hG⟩
        · rw [← hfin.out]; rfl
        · have := hbr
          rw [hfin.out, putTo_all] at this
          exact this

set_option maxRecDepth 100000 in
set_option maxHeartbeats 4000000 in
theorem heldItemS_any (n : Nat) (v : Value) (k : Nat) (w : World) (hb : Rows' itE w v (marksI k n)) (hk : 1 ≤ k) (hk2 : k + 9 * n ≤ 1099511627776) :
    Calls Tryz.prog 41 #[v, .int .i64 (k : Int)] w fun e w' => e = .returned (.int .i64 ((k + 9 * n : Nat) : Int)) ∧ Below w.heap.size w w' := by
  have hmn := marksI_length k n
  rcases hb.ways with ⟨h0, a, c, rfl⟩ | ⟨hne, g, off, cap, rfl, hca, hg, hcl⟩
  · obtain rfl : n = 0 := by rw [h0] at hmn; simpa using hmn.symm
    clear hb h0 hmn
    go_enter Tryz.func41, Tryz.ntmps41
    go_wp2
    go_loop [1, 5] (fun kv iv => kv = .int .i64 (k : Int) ∧ iv = .int .i64 0) (fun _ _ => 0)
    case atStart => exact ⟨rfl, rfl⟩
    case round =>
      obtain ⟨rfl, rfl⟩ := hrel
      go_wp2
      go_ret
      exact ⟨rfl, Below.refl _ _⟩
  · rw [hmn] at *
    have HC := Lib.hid hcl
    clear hcl hb hne hmn
    go_enter Tryz.func41, Tryz.ntmps41
    go_wp2
    go_loopw [1, 5] (fun kv iv wr => ∃ i : Nat, i ≤ n ∧ iv = .int .i64 (i : Int) ∧ kv = .int .i64 ((k + 9 * i : Nat) : Int) ∧ Below w.heap.size w wr) (fun _ iv _ => n - (intOf iv).toNat)
    case atStart => exact ⟨0, by omega, rfl, rfl, Below.refl _ _⟩
    case round =>
      obtain ⟨i, hi, rfl, rfl, hbel⟩ := hrel
      by_cases hlt : i < n
      · have hi0 : (0 : Int) ≤ (i : Int) := by omega
        have hi1 : (i : Int) < (n : Int) := by omega
        obtain ⟨K, hK⟩ : ∃ K : Nat, K = k + 9 * i := ⟨_, rfl⟩
        have HK := Lib.hid hK
        obtain ⟨t6, ht60⟩ : ∃ t, mark (K + 6) = t := ⟨_, rfl⟩
        have ht6 := Lib.hid ht60
        obtain ⟨t7, ht70⟩ : ∃ t, mark (K + 7) = t := ⟨_, rfl⟩
        have ht7 := Lib.hid ht70
        obtain ⟨t8, ht80⟩ : ∃ t, mark (K + 8) = t := ⟨_, rfl⟩
        have ht8 := Lib.hid ht80
        have HS : Hid (∀ x, Below w.heap.size w x → x.cell? ⟨g, off + i * 9, none⟩ = some (.int .i64 (K : Int)) ∧ x.cell? ⟨g, off + i * 9 + 1, none⟩ = some (.int .i64 ((K : Int) + 1)) ∧ x.cell? ⟨g, off + i * 9 + 2, none⟩ = some (.int .i64 ((K : Int) + 1 + 1)) ∧ x.cell? ⟨g, off + i * 9 + 3, none⟩ = some (.int .i64 ((K : Int) + 1 + 1 + 1)) ∧ x.cell? ⟨g, off + i * 9 + 4, none⟩ = some (.int .i64 ((K : Int) + 1 + 1 + 1 + 1)) ∧ x.cell? ⟨g, off + i * 9 + 5, none⟩ = some (.int .i64 ((K : Int) + 1 + 1 + 1 + 1 + 1)) ∧ x.cell? ⟨g, off + i * 9 + 6, none⟩ = some (.string t6) ∧ x.cell? ⟨g, off + i * 9 + 7, none⟩ = some (.string t7) ∧ x.cell? ⟨g, off + i * 9 + 8, none⟩ = some (.string t8)) := by
          intro x hx
          obtain ⟨c0, c1, c2, c3, c4, c5, c6, c7, c8⟩ := it_cells HC.out hg hx i _ (marksI_at hlt)
          simp only [markI] at c0 c1 c2 c3 c4 c5 c6 c7 c8
          rw [← hK] at c0 c1 c2 c3 c4 c5 c6 c7 c8
          rw [ht60] at c6
          rw [ht70] at c7
          rw [ht80] at c8
          exact ⟨c0, by rw [c1]; first | rfl | (congr 2; omega), by rw [c2]; first | rfl | (congr 2; omega), by rw [c3]; first | rfl | (congr 2; omega), by rw [c4]; first | rfl | (congr 2; omega), by rw [c5]; first | rfl | (congr 2; omega), c6, c7, c8⟩
        rw [← hK]
        have hK1 : K + 9 ≤ 4611686018427387904 := by omega
        have hK2 : 1 ≤ K := by omega
        clear hK ht60 ht70 ht80
        obtain ⟨c0, c1, c2, c3, c4, c5, c6, c7, c8⟩ := HS.out _ hbel
        go_wp2
        have HT6 : Hid (∀ x, Below wr.drew.heap.size wr.drew x → x.cell? ⟨g, off + i * 9 + 6, none⟩ = some (.string t6) ∧ Below w.heap.size w x) := fun x hx => by
          have hx2 : Below w.heap.size w x := hbel.drew.trans (hx.mono hbel.size)
          obtain ⟨c0, c1, c2, c3, c4, c5, c6, c7, c8⟩ := HS.out _ hx2
          exact ⟨c6, hx2⟩
        go_region_held3 (fun x => x.cell? ⟨g, off + i * 9 + 6, none⟩ = some (.string t6))
          (first | go_keep | exact (HT6.out _ hb6).1)
          (first | (go_at_call 80; refine (markText_at _ (K + 6) _ (by omega) (by omega) (by omega)).mono ?_; rintro e w6 ⟨rfl, hb6⟩; rw [ht6.out]))
        all_goals
          have bel6 := (HT6.out _ hb6).2
          obtain ⟨c0, c1, c2, c3, c4, c5, c6, c7, c8⟩ := HS.out _ bel6
          clear HT6 hb6
          go_wp2
          have HT7 : Hid (∀ x, Below w6.drew.heap.size w6.drew x → x.cell? ⟨g, off + i * 9 + 7, none⟩ = some (.string t7) ∧ Below w.heap.size w x) := fun x hx => by
            have hx2 : Below w.heap.size w x := bel6.drew.trans (hx.mono bel6.size)
            obtain ⟨c0, c1, c2, c3, c4, c5, c6, c7, c8⟩ := HS.out _ hx2
            exact ⟨c7, hx2⟩
          go_region_held3 (fun x => x.cell? ⟨g, off + i * 9 + 7, none⟩ = some (.string t7))
            (first | go_keep | exact (HT7.out _ hb7).1)
            (first | (go_at_call 80; refine (markText_at _ (K + 7) _ (by omega) (by omega) (by omega)).mono ?_; rintro e w7 ⟨rfl, hb7⟩; rw [ht7.out]))
          all_goals
            have bel7 := (HT7.out _ hb7).2
            obtain ⟨c0, c1, c2, c3, c4, c5, c6, c7, c8⟩ := HS.out _ bel7
            clear HT7 hb7
            go_wp2
            have HT8 : Hid (∀ x, Below w7.drew.heap.size w7.drew x → x.cell? ⟨g, off + i * 9 + 8, none⟩ = some (.string t8) ∧ Below w.heap.size w x) := fun x hx => by
              have hx2 : Below w.heap.size w x := bel7.drew.trans (hx.mono bel7.size)
              obtain ⟨c0, c1, c2, c3, c4, c5, c6, c7, c8⟩ := HS.out _ hx2
              exact ⟨c8, hx2⟩
            go_region_held3 (fun x => x.cell? ⟨g, off + i * 9 + 8, none⟩ = some (.string t8))
              (first | go_keep | exact (HT8.out _ hb8).1)
              (first | (go_at_call 80; refine (markText_at _ (K + 8) _ (by omega) (by omega) (by omega)).mono ?_; rintro e w8 ⟨rfl, hb8⟩; rw [ht8.out]))
            all_goals
              have bel8 := (HT8.out _ hb8).2
              go_wp2
              go_roundw
              case rel => exact ⟨i + 1, by omega, by go_num, by rw [HK.out]; go_num, bel8⟩
              case measure => simp [intOf]; omega
      · have hfin : Hid (i = n) := by show i = n; omega
        go_wp2
        go_ret
        exact ⟨by rw [← hfin.out]; rfl, hbel⟩

end Go.Proofs.YtieenkloiicnkaaGreatDoor

/- Lists that came in: a row read cell by cell is a list. -/
namespace Go.Proofs.YtieenkloiicnkaaGreatDoor
open Go.RowKit Go.ChangeShapes Go.WideShapes Go.ChangeAt Go.Deep Go.Joins

section
variable {W : World}

theorem rows_of_cells {α : Type} [Inhabited α] (E : Enc α) {a : Addr} {len cap : Nat} (hl : len ≤ cap) (hp : ∀ i, i < len → ∃ x : α, ∀ k u, (E.f x)[k]? = some u → W.cell? (a.add (i * E.sz + k)) = some u) (Pr : α → Prop)
    (hpr : ∀ i, i < len → ∀ x : α, (∀ k u, (E.f x)[k]? = some u → W.cell? (a.add (i * E.sz + k)) = some u) → Pr x) :
    ∃ l : List α, l.length = len ∧ Rows' E W (.slice (some a) len cap) l ∧ ∀ x ∈ l, Pr x := by
  obtain ⟨f, hf⟩ := choose_lt hp
  refine ⟨(List.range len).map f, by simp, ?_, ?_⟩
  · by_cases h0 : len = 0
    · subst h0
      exact .inl ⟨rfl, _, _, rfl⟩
    · have hsp : a.spot = none := by
        have hne : (E.f (f 0))[0]? = some ((E.f (f 0))[0]'(by rw [E.len]; exact E.pos)) := List.getElem?_eq_getElem _
        have := hf 0 (by omega) 0 _ hne
        have h2 := World.cell?_spot this
        simpa [Addr.add] using h2
      obtain ⟨b, off, spot⟩ := a
      simp only at hsp
      subst hsp
      refine .inr ⟨b, off, cap, by simp, by simpa using hl, ?_, ?_⟩
      · have hne : (E.f (f 0))[0]? = some ((E.f (f 0))[0]'(by rw [E.len]; exact E.pos)) := List.getElem?_eq_getElem _
        have := hf 0 (by omega) 0 _ hne
        rw [Addr.add_lit] at this
        exact World.block_lt_of_cell? W _ this
      · intro j x hj k u hu
        have hjl : j < len := by have := (List.getElem?_eq_some_iff.1 hj).1; simpa using this
        have hx : f j = x := by simpa [hjl] using hj
        subst hx
        have := hf j hjl k u hu
        rw [Addr.add_lit] at this
        rw [Nat.add_assoc]
        exact this
  · intro x hx
    simp only [List.mem_map, List.mem_range] at hx
    obtain ⟨i, hi, rfl⟩ := hx
    exact hpr i hi _ (hf i hi)
end

end Go.Proofs.YtieenkloiicnkaaGreatDoor

/- What a disk is that comes in as an argument: its rows can be read. -/
namespace Go.Proofs.YtieenkloiicnkaaGreatDoor
open Go.RowKit Go.ChangeShapes Go.WideShapes Go.ChangeAt Go.Deep Go.Joins

section
variable {H : Type} {enc : TypeId × Value → H} {W : World}

set_option maxRecDepth 100000 in
theorem strs_of_trod {fuel : Nat} {v : Value} {x : DataW H × List MemPlace} (h : DataW.trod enc Tryz.prog W 0 (fun _ => true) true fuel 22 [v] = some x) :
    ∃ l : List ByteArray, Rows' strE W v l ∧ l.length ≤ maxLen ∧ ∀ s ∈ l, s.size ≤ maxLen := by
  rcases open_slice1 Tryz.underlying22 (by kernel_rfl) h with ⟨hv, _⟩ | ⟨a, len, cap, m, n, V, D, Pl, hv, _, hl, hm, hmm, _, hc⟩
  · simp at hv; subst hv
    exact ⟨[], .inl ⟨rfl, _, _, rfl⟩, by decide, by simp⟩
  · simp at hv; subst hv
    have hm2 : m = cap := by simpa using hmm
    have hex : ∀ i, i < len → ∃ s : ByteArray, W.cell? (a.add i) = some (.string s) ∧ s.size ≤ maxLen := by
      intro i hi
      obtain ⟨h1, h2⟩ := hc i (by omega)
      obtain ⟨s, hs, _, hsz⟩ := DataW.trod_string Tryz.underlying9 h2
      simp at hs
      exact ⟨s, by rw [h1, hs], hsz⟩
    obtain ⟨l, hlen, hr, hp⟩ := rows_of_cells strE hl (fun i hi => by
      obtain ⟨s, hs, _⟩ := hex i hi
      refine ⟨s, fun k u hu => ?_⟩
      match k, hu with
      | 0, hu => simp [strE] at hu; subst hu; rw [show strE.sz = 1 from rfl, Nat.mul_one, Nat.add_zero]; exact hs
      | k + 1, hu => simp [strE] at hu) (fun s => s.size ≤ maxLen) (fun i hi s hs => by
      obtain ⟨t, ht, hts⟩ := hex i hi
      have := hs 0 (.string s) rfl
      rw [show strE.sz = 1 from rfl, Nat.mul_one, Nat.add_zero, ht] at this
      simp at this
      subst this
      exact hts)
    exact ⟨l, hr, by omega, hp⟩

instance : Inhabited Wr := ⟨⟨0, ⟨#[]⟩⟩⟩

set_option maxRecDepth 100000 in
theorem writes_of_trod {fuel : Nat} {v : Value} {x : DataW H × List MemPlace} (h : DataW.trod enc Tryz.prog W 0 (fun _ => true) true fuel 23 [v] = some x) :
    ∃ l : List Wr, Rows' lwrE W v l ∧ l.length ≤ maxLen ∧ ∀ x ∈ l, x.text.size ≤ maxLen := by
  rcases open_slice_pairs Tryz.underlying23 Tryz.underlying110 (by kernel_rfl) rfl rfl (by kernel_rfl) (by kernel_rfl) h with ⟨hv, _⟩ | ⟨a, len, cap, m, n, V0, V1, D0, D1, P0, P1, hv, _, hl, hm, hmm, _, hc⟩
  · simp at hv; subst hv
    exact ⟨[], .inl ⟨rfl, _, _, rfl⟩, by decide, by simp⟩
  · simp at hv; subst hv
    have hm2 : m = cap := by simpa using hmm
    have hex : ∀ i, i < len → ∃ x : Wr, W.cell? (a.add (i * 2)) = some (.int .i64 x.at_) ∧ W.cell? (a.add (i * 2 + 1)) = some (.string x.text) ∧ x.text.size ≤ maxLen := by
      intro i hi
      obtain ⟨h1, h2, h3, h4⟩ := hc i (by omega)
      obtain ⟨s, hs, _, hsz⟩ := DataW.trod_string Tryz.underlying9 h4
      obtain ⟨k, hk, _, _⟩ := DataW.trod_int Tryz.underlying3 h3
      simp at hs hk
      exact ⟨⟨k, s⟩, by rw [h1, hk], by rw [h2, hs], hsz⟩
    obtain ⟨l, hlen, hr, hp⟩ := rows_of_cells lwrE hl (fun i hi => by
      obtain ⟨x, h0, h1, _⟩ := hex i hi
      refine ⟨x, fun k u hu => ?_⟩
      match k, hu with
      | 0, hu => simp [lwrE] at hu; subst hu; exact h0
      | 1, hu => simp [lwrE] at hu; subst hu; exact h1
      | k + 2, hu => simp [lwrE] at hu) (fun x => x.text.size ≤ maxLen) (fun i hi x hx => by
      obtain ⟨y, _, h1, hys⟩ := hex i hi
      have : W.cell? (a.add (i * 2 + 1)) = some (.string x.text) := hx 1 (.string x.text) rfl
      rw [h1] at this
      simp at this
      rw [← this]
      exact hys)
    exact ⟨l, hr, by omega, hp⟩

set_option maxRecDepth 100000 in
theorem open_Disk {b0 : Nat} {r : Reach} {v : Value} {d : DataW H} {p : List MemPlace} (hv : Value.okWide Tryz.prog W r b0 25 v) (h : DataW.Trod enc Tryz.prog W 0 (fun _ => true) true 25 v d p) : ∃ D : Dk, DIn W v D := by
  obtain ⟨va, vb, y0, y1, n, rfl, _, _, h0, h1⟩ := open_agg2 Tryz.underlying25 (by kernel_rfl) (by kernel_rfl) hv h
  obtain ⟨l, hl1, hl2, hl3⟩ := strs_of_trod h0
  obtain ⟨c, hc1, hc2, hc3⟩ := writes_of_trod h1
  have hml : maxLen ≤ 9223372036854775807 := by decide
  exact ⟨⟨l, c⟩, va, vb, rfl, hl1, hc1, Nat.le_trans hl2 hml, Nat.le_trans hc2 hml, fun s hs => Nat.le_trans (hl3 s hs) hml, fun x hx => Nat.le_trans (hc3 x hx) hml⟩
end

end Go.Proofs.YtieenkloiicnkaaGreatDoor
