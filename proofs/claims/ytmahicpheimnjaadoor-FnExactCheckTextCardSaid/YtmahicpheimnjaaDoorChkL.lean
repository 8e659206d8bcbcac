/- The helpers of the exact laws over checks that come in: their size, their copies; and how they come in. -/
import Derived.Test.YtmahicpheimnjaaDoorEncC
import Derived.Test.YtmahicpheimnjaaDoorRowsOf
import Derived.Test.YtmahicpheimnjaaDoorCopyTo
import Derived.Deep.Slices
import Derived.Lib.SmallJoins
import Derived.ProofKit
namespace Go.Proofs.YtmahicpheimnjaaDoor
open Go.RowKit Go.ChangeShapes Go.WideShapes Go.ChangeAt Go.Deep Go.Joins

instance : Inhabited Rf := ⟨(0, 0)⟩
theorem Box.fiveC' {w : World} {b : Nat} {u0 u1 u2 u3 u4 : Value} {t : TypeId} (h : Box w b #[u0, u1, u2, u3, u4] t) : w.cell? ⟨b, 0, none⟩ = some u0 ∧ w.cell? ⟨b, 1, none⟩ = some u1 ∧ w.cell? ⟨b, 2, none⟩ = some u2 ∧ w.cell? ⟨b, 3, none⟩ = some u3 ∧ w.cell? ⟨b, 4, none⟩ = some u4 :=
  ⟨h.cell 0 _ rfl, h.cell 1 _ rfl, h.cell 2 _ rfl, h.cell 3 _ rfl, h.cell 4 _ rfl⟩
theorem RBuf.asideC {α : Type} {E : Enc α} {B : Nat} {w : World} {v : Value} {l : List α} (h : RBuf E B w w v l) (g i : Nat) (u : Value) (hg : g < B) : RBuf E B (w.setCell ⟨g, i, none⟩ u) (w.setCell ⟨g, i, none⟩ u) v l :=
  h.shift (stored_grown w g i u) (.inr (fun e => by have := (h.own.lt g e).1; omega))
def set5C (w : World) (b : Nat) (v0 v1 v2 v3 v4 : Value) : World := ((((w.setCell ⟨b, 0, none⟩ v0).setCell ⟨b, 1, none⟩ v1).setCell ⟨b, 2, none⟩ v2).setCell ⟨b, 3, none⟩ v3).setCell ⟨b, 4, none⟩ v4

def lrfE : Enc Rf where
  ty := 51
  sty := 22
  sz := 2
  bytes := 16
  zero := .agg #[.int .i64 0, .int .i64 0]
  f := fun x => [.int .i64 x.1, .int .i64 x.2]
  len := fun _ => rfl
  pos := by decide
  one := fun _ u hu => by simp at hu; rcases hu with rfl | rfl <;> rfl
  und := Tryd.underlying22
  info := by kernel_rfl
  zc := rfl
  z0 := (0, 0)
  zf := rfl
theorem Rows'.lrefs {w : World} {v : Value} {l : List Rf} (h : Rows' lrfE w v l) : ∃ (ad : Option Addr) (cap : Nat), v = .slice ad l.length cap ∧ ∀ X, Below w.heap.size w X → ∀ (i : Nat) (x : Rf), l[i]? = some x → ∃ g off, ad = some ⟨g, off, none⟩ ∧ X.cell? ⟨g, off + i * 2, none⟩ = some (.int .i64 x.1) ∧ X.cell? ⟨g, off + i * 2 + 1, none⟩ = some (.int .i64 x.2) := by
  rcases h.ways with ⟨rfl, a, c, rfl⟩ | ⟨hne, g, off, c, rfl, hc, hg, hcl⟩
  · exact ⟨a, c, rfl, fun X _ i x hi => by cases hi⟩
  · exact ⟨_, c, rfl, fun X hb i x hi => ⟨g, off, rfl, (hb.cell (p := ⟨g, off + i * 2 + 0, none⟩) hg).trans (hcl i x hi 0 _ rfl), (hb.cell (p := ⟨g, off + i * 2 + 1, none⟩) hg).trans (hcl i x hi 1 _ rfl)⟩⟩
/-- A check that came in. -/
def CIn (W : World) (v : Value) (c : Ck) : Prop := ∃ (a : Option Addr) (cap : Nat), v = .agg #[.int .i64 c.st, .int .i64 c.ng, .int .i64 c.ns, .int .i64 c.nv, .slice a c.refs.length cap] ∧ Rows' lrfE W (.slice a c.refs.length cap) c.refs ∧ c.refs.length ≤ 9223372036854775807
theorem CIn.later {W X : World} {v : Value} {c : Ck} (h : CIn W v c) (hb : Below W.heap.size W X) : CIn X v c := by
  obtain ⟨a, cap, e, hr, hl⟩ := h
  exact ⟨a, cap, e, hr.later hb, hl⟩

set_option maxRecDepth 100000 in
theorem szRefS_any (l : List Rf) (a : Option Addr) (cap : Nat) (left : Int) (w : World) (h1 : 0 ≤ left) (h2 : left ≤ 1048576) (hl : l.length ≤ 9223372036854775807) :
    Calls Tryd.prog 12 #[.slice a l.length cap, .int .i64 left] w fun e w' => (∃ r : Int, e = .returned (.int .i64 r) ∧ (0 ≤ r → (l.length : Int) ≤ left) ∧ (r < 0 ∨ 0 ≤ r)) ∧ w = w' := by
  by_cases hz : left - (l.length : Int) < 0
  · have hw : IntKind.i64.wrap (left - (l.length : Int)) = left - (l.length : Int) := IntWalk.i64_in _ ⟨by omega, by omega⟩
    go_enter Tryd.func12, Tryd.ntmps12
    go_wp2
    go_ret
    exact ⟨⟨-1, rfl, fun h => by omega, by omega⟩, rfl⟩
  · have hw : IntKind.i64.wrap (left - (l.length : Int)) = left - (l.length : Int) := IntWalk.i64_in _ ⟨by omega, by omega⟩
    go_enter Tryd.func12, Tryd.ntmps12
    go_wp2
    go_ret
    exact ⟨⟨left - (l.length : Int), by first | rfl | (rw [hw]; rfl), fun h => by omega, by omega⟩, rfl⟩

set_option maxRecDepth 100000 in
set_option maxHeartbeats 1000000 in
theorem szCheck_any (c : Ck) (a : Option Addr) (cap : Nat) (w : World) (hl : c.refs.length ≤ 9223372036854775807) :
    Calls Tryd.prog 5 #[.agg #[.int .i64 c.st, .int .i64 c.ng, .int .i64 c.ns, .int .i64 c.nv, .slice a c.refs.length cap], .int .i64 1048576] w fun e w' => (∃ r : Int, e = .returned (.int .i64 r) ∧ (0 ≤ r → c.refs.length ≤ 1048576)) ∧ Below w.heap.size w w' := by
  have X0 := Box.new w #[.int .i64 c.st, .int .i64 c.ng, .int .i64 c.ns, .int .i64 c.nv, .slice a c.refs.length cap] 24
  have b0 := belNew w (.cells #[.int .i64 c.st, .int .i64 c.ng, .int .i64 c.ns, .int .i64 c.nv, .slice a c.refs.length cap] 24)
  obtain ⟨x0, x1, x2, x3, x4⟩ := X0.fiveC'
  clear X0
  go_enter Tryd.func5, Tryd.ntmps5
  go_wp2_with fail
  refine (szRefS_any c.refs a cap 1048576 _ (by omega) (by omega) hl).mono ?_
  rintro e w1 ⟨⟨r, rfl, hr, hs⟩, rfl⟩
  clear x0 x1 x2 x3 x4
  by_cases hn : r < 0
  · go_wp2
    go_ret
    exact ⟨⟨-1, rfl, fun h => by omega⟩, b0⟩
  · have HR := Lib.hid hr
    clear hr
    go_wp2
    go_ret
    exact ⟨⟨r, rfl, fun h => by have := HR.out h; omega⟩, b0⟩

set_option maxRecDepth 100000 in
set_option maxHeartbeats 1000000 in
theorem toRef_any (x y : Int) (w : World) : Calls Tryd.prog 22 #[.agg #[.int .i64 x, .int .i64 y]] w fun e w' => e = .returned (.agg #[.int .i64 x, .int .i64 y]) ∧ Below w.heap.size w w' := by
  go_enter Tryd.func22, Tryd.ntmps22
  go_wp2
  refine bodyPost_ret (v := .agg #[.int .i64 x, .int .i64 y]) (by simp [results, Tryd.results22, go_sem]) rfl ?_
  exact ⟨rfl, (((Below.refl _ _).alloc (Nat.le_refl _) _).alloc (by simp) _).alloc (by simp; omega) _⟩

theorem RBuf.putR {B : Nat} {w0 w : World} {g cap : Nat} {l : List Rf} (h : RBuf rfE B w0 w (.slice (some ⟨g, 0, none⟩) l.length cap) l) (i : Nat) (x : Rf) (hi : l[i]? = some x) (y1 y2 : Int) :
    RBuf rfE B w0 ((w.setCell ⟨g, i * 2, none⟩ (.int .i64 y1)).setCell ⟨g, i * 2 + 1, none⟩ (.int .i64 y2)) (.slice (some ⟨g, 0, none⟩) l.length cap) (l.set i (y1, y2)) := by
  have hlt : i < l.length := (List.getElem?_eq_some_iff.1 hi).1
  have hl1 : ∀ z : Rf, (l.set i z).length = l.length := fun z => by simp
  have ha1 : ∀ z : Rf, (l.set i z)[i]? = some z := fun z => List.getElem?_set_self hlt
  have s0 : RBuf rfE B w0 (w.setCell ⟨g, i * 2, none⟩ (.int .i64 y1)) (.slice (some ⟨g, 0, none⟩) l.length cap) (l.set i (y1, x.2)) := h.stored i _ (y1, x.2) hi 0 (by decide) (.int .i64 y1) rfl
  rw [← hl1 (y1, x.2)] at s0
  have s1 := s0.stored i _ (y1, y2) (ha1 _) 1 (by decide) (.int .i64 y2) rfl
  rw [List.set_set, hl1] at s1
  exact s1

set_option maxRecDepth 100000 in
set_option maxHeartbeats 2000000 in
theorem toRefS_any (l : List Rf) (v : Value) (w : World) (h : Rows' lrfE w v l) (hl : l.length ≤ 1048576) :
    Calls Tryd.prog 14 #[v] w fun e w' => ∃ v', e = .returned v' ∧ RBuf rfE w.heap.size w w' v' l := by
  obtain ⟨a, cap, rfl, hrow⟩ := h.lrefs
  have HR := Lib.hid hrow
  clear h hrow
  go_enter Tryd.func14, Tryd.ntmps14
  go_wp2_with (at_make; refine wpList_make_rows rfl _ _ rfE rfl .i64 .i64 _ _ l.length rfl rfl rfl rfl (by show 17 * l.length ≤ _; omega) ?_; intro w1 hr1 hs1)
  go_loopw [4] (fun iv wr => ∃ i : Nat, i ≤ l.length ∧ iv = .int .i64 (i : Int) ∧ RBuf rfE w.heap.size w wr (.slice (some ⟨w.heap.size, 0, none⟩) l.length l.length) (copyTo rfE.z0 l i)) (fun iv _ => l.length - (intOf iv).toNat)
  case atStart => exact ⟨0, by omega, rfl, by rw [copyTo_zero]; exact hr1⟩
  case round =>
    obtain ⟨i, hi, rfl, hbr⟩ := hrel
    by_cases hlt : i < l.length
    · have hgx : l[i]? = some l[i] := List.getElem?_eq_getElem hlt
      obtain ⟨ga, oa, rfl, a0, a1⟩ := HR.out _ hbr.bel i _ hgx
      have hi0 : (0 : Int) ≤ (i : Int) := by omega
      have hi1 : (i : Int) < (l.length : Int) := by omega
      have hml := copyTo_length (z := rfE.z0) hi
      have hms := copyTo_set (z := rfE.z0) hlt
      have hat := copyTo_at (z := rfE.z0) hlt
      rw [← hml] at hbr
      have HF : Hid (∀ w1, Below wr.heap.size wr w1 → (w1.cell? ⟨w.heap.size, i * 2, none⟩ = some (.int .i64 0) ∧ w1.frozen? ⟨w.heap.size, i * 2, none⟩ = false ∧ w1.cell? ⟨w.heap.size, i * 2 + 1, none⟩ = some (.int .i64 0) ∧ w1.frozen? ⟨w.heap.size, i * 2 + 1, none⟩ = false)) := by
        intro w1 hb1
        have h1 := hbr.later hb1
        exact ⟨h1.cell rfl i _ hat 0 _ rfl, h1.loose _, h1.cell rfl i _ hat 1 _ rfl, h1.loose _⟩
      generalize hx : l[i] = x at *
      obtain ⟨x1, x2⟩ := x
      simp only at a0 a1
      clear hgx
      go_wp2_with (go_at_call 22; refine (toRef_any x1 x2 _).mono ?_; rintro e w1 ⟨rfl, hb1⟩; obtain ⟨d0, f0, d1, f1⟩ := HF.out w1 hb1)
      have hp := (hbr.later hb1).putR i _ hat x1 x2
      rw [hms, hml] at hp
      go_roundw
      case rel => exact ⟨i + 1, by omega, by go_num, hp⟩
      case measure => simp [intOf]; omega
    · go_wp2
      go_ret
      rw [copyTo_all (by omega)] at hbr
      exact ⟨_, rfl, hbr⟩

set_option maxRecDepth 100000 in
set_option maxHeartbeats 2000000 in
theorem toCheck_any (b : Ck) (a : Option Addr) (n c : Nat) (w : World) (h : Rows' lrfE w (.slice a n c) b.refs) (hl : b.refs.length ≤ 1048576) :
    Calls Tryd.prog 7 #[.agg #[.int .i64 b.st, .int .i64 b.ng, .int .i64 b.ns, .int .i64 b.nv, .slice a n c]] w fun e w' => ∃ (p : Option Addr) (k q : Nat), e = .returned (.agg #[.int .i64 b.st, .int .i64 b.ng, .int .i64 b.ns, .int .i64 b.nv, .slice p k q]) ∧ RBuf rfE w.heap.size w' w' (.slice p k q) b.refs ∧ Below w.heap.size w w' := by
  have bA := belNew w (.cells #[.int .i64 b.st, .int .i64 b.ng, .int .i64 b.ns, .int .i64 b.nv, .slice a n c] 24)
  obtain ⟨wA, hwA⟩ : ∃ wA, wA = w.alloc (.cells #[.int .i64 b.st, .int .i64 b.ng, .int .i64 b.ns, .int .i64 b.nv, .slice a n c] 24) := ⟨_, rfl⟩
  have eA : wA.heap.size = w.heap.size + 1 := by rw [hwA]; simp
  rw [← hwA] at bA
  have hB := Box.new wA #[.int .i64 0, .int .i64 0, .int .i64 0, .int .i64 0, .slice none 0 0] 29
  have bB := bA.trans ((belNew wA (.cells #[.int .i64 0, .int .i64 0, .int .i64 0, .int .i64 0, .slice none 0 0] 29)).mono bA.size)
  obtain ⟨wB, hwB⟩ : ∃ wB, wB = wA.alloc (.cells #[.int .i64 0, .int .i64 0, .int .i64 0, .int .i64 0, .slice none 0 0] 29) := ⟨_, rfl⟩
  have eB : wB.heap.size = w.heap.size + 1 + 1 := by rw [hwB]; simp; omega
  rw [← hwB] at hB bB
  rw [eA] at hB
  have hC := Box.new wB #[.int .i64 b.st, .int .i64 b.ng, .int .i64 b.ns, .int .i64 b.nv, .slice none 0 0] 29
  have kC := belNew wB (.cells #[.int .i64 b.st, .int .i64 b.ng, .int .i64 b.ns, .int .i64 b.nv, .slice none 0 0] 29)
  have bC := bB.trans (kC.mono bB.size)
  obtain ⟨wC, hwC⟩ : ∃ wC, wC = wB.alloc (.cells #[.int .i64 b.st, .int .i64 b.ng, .int .i64 b.ns, .int .i64 b.nv, .slice none 0 0] 29) := ⟨_, rfl⟩
  have eC : wC.heap.size = w.heap.size + 1 + 1 + 1 := by rw [hwC]; simp; omega
  rw [← hwC] at hC kC bC
  rw [eB] at hC
  have hB' := hB.later kC
  have HT := Lib.hid (toRefS_any b.refs _ wC (h.later bC) hl)
  have HEC := Lib.hid eC
  have HWC : Hid (wC = ((w.alloc (.cells #[.int .i64 b.st, .int .i64 b.ng, .int .i64 b.ns, .int .i64 b.nv, .slice a n c] 24)).alloc (.cells #[.int .i64 0, .int .i64 0, .int .i64 0, .int .i64 0, .slice none 0 0] 29)).alloc (.cells #[.int .i64 b.st, .int .i64 b.ng, .int .i64 b.ns, .int .i64 b.nv, .slice none 0 0] 29)) := by rw [← hwA, ← hwB, ← hwC]; exact rfl
  clear h hB bB bA kC eA eB eC hwA hwB hwC
  go_enter Tryd.func7, Tryd.ntmps7
  go_wp2_with fail
  rw [← HWC.out]
  refine HT.out.mono ?_
  rintro e w1 ⟨v1, rfl, R1⟩
  obtain ⟨p, q, rfl⟩ := R1.form
  have B1 := hB'.later R1.bel
  have C1 := hC.later R1.bel
  have b1 := bC.trans (R1.bel.mono bC.size)
  obtain ⟨u0, u1, u2, u3, u4⟩ := B1.fiveC'
  obtain ⟨x0, x1, x2, x3, x4⟩ := C1.fiveC'
  have f0 := B1.loose 0
  have f1 := B1.loose 1
  have f2 := B1.loose 2
  have f3 := B1.loose 3
  have f4 := B1.loose 4
  have y4 := C1.loose 4
  have C2 : Box (w1.setCell ⟨w.heap.size + 1 + 1, 4, none⟩ (.slice p b.refs.length q)) (w.heap.size + 1 + 1) #[.int .i64 b.st, .int .i64 b.ng, .int .i64 b.ns, .int .i64 b.nv, .slice p b.refs.length q] 29 := C1.set 4 _
  have B2 : Box (w1.setCell ⟨w.heap.size + 1 + 1, 4, none⟩ (.slice p b.refs.length q)) (w.heap.size + 1) #[.int .i64 0, .int .i64 0, .int .i64 0, .int .i64 0, .slice none 0 0] 29 := B1.other (by omega) 4 _
  have hg1 : w.heap.size + 1 + 1 < wC.heap.size := by have := HEC.out; omega
  have R2 := Lib.hid (R1.here.asideC (w.heap.size + 1 + 1) 4 (.slice p b.refs.length q) hg1)
  have b2 := Lib.hid (b1.setCell (p := ⟨w.heap.size + 1 + 1, 4, none⟩) (show w.heap.size ≤ w.heap.size + 1 + 1 by omega) (.slice p b.refs.length q))
  have HG := Lib.hid hg1
  clear hB' hC bC HT HWC HEC B1 C1 b1 R1 hg1
  go_upto_region 7 with fail
  generalize w1.setCell ⟨w.heap.size + 1 + 1, 4, none⟩ (.slice p b.refs.length q) = w2 at C2 B2 R2 b2 ⊢
  clear u0 u1 u2 u3 u4 x0 x1 x2 x3 x4 f0 f1 f2 f3 f4 y4
  obtain ⟨u0, u1, u2, u3, u4⟩ := B2.fiveC'
  obtain ⟨x0, x1, x2, x3, x4⟩ := C2.fiveC'
  have f0 := B2.loose 0
  have f1 := B2.loose 1
  have f2 := B2.loose 2
  have f3 := B2.loose 3
  have f4 := B2.loose 4
  have L5 : Box (set5C w2 (w.heap.size + 1) (.int .i64 b.st) (.int .i64 b.ng) (.int .i64 b.ns) (.int .i64 b.nv) (.slice p b.refs.length q)) (w.heap.size + 1) #[.int .i64 b.st, .int .i64 b.ng, .int .i64 b.ns, .int .i64 b.nv, .slice p b.refs.length q] 29 := ((((B2.set 0 _).set 1 _).set 2 _).set 3 _).set 4 _
  unfold set5C at L5
  obtain ⟨z0, z1, z2, z3, z4⟩ := L5.fiveC'
  clear L5 B2 C2
  go_wp2
  refine bodyPost_ret (v := .agg #[.int .i64 b.st, .int .i64 b.ng, .int .i64 b.ns, .int .i64 b.nv, .slice p b.refs.length q]) (by simp [results, Tryd.results7, go_sem, z0, z1, z2, z3, z4]) rfl ⟨_, _, _, rfl, ?_, ?_⟩
  · have hl : w.heap.size + 1 < wC.heap.size := by have := HG.out; omega
    exact (((((R2.out.asideC _ 0 _ hl).asideC _ 1 _ hl).asideC _ 2 _ hl).asideC _ 3 _ hl).asideC _ 4 _ hl).lower (by omega)
  · exact ((((b2.out.setCell (p := ⟨w.heap.size + 1, 0, none⟩) (by simp) _).setCell (p := ⟨w.heap.size + 1, 1, none⟩) (by simp) _).setCell (p := ⟨w.heap.size + 1, 2, none⟩) (by simp) _).setCell (p := ⟨w.heap.size + 1, 3, none⟩) (by simp) _).setCell (p := ⟨w.heap.size + 1, 4, none⟩) (by simp) _

theorem list2C {α : Type} {l : List α} (h : l.length = 2) : ∃ v0 v1, l = [v0, v1] := by
  match l, h with
  | [v0, v1], _ => exact ⟨v0, v1, rfl⟩
theorem list5C {α : Type} {l : List α} (h : l.length = 5) : ∃ v0 v1 v2 v3 v4, l = [v0, v1, v2, v3, v4] := by
  match l, h with
  | [v0, v1, v2, v3, v4], _ => exact ⟨v0, v1, v2, v3, v4, rfl⟩

section
variable {H : Type} {enc : TypeId × Value → H} {P : Program} {w : World} {base : Nat} {spare : Nat → Bool} {held : Bool}
/-- The fields of a struct, each of one cell. -/
theorem trod_onesC {t : TypeId} {fs : Array Field} {fuel : Nat} {cs : List Value} {x : DataW H × List MemPlace} (hs : P.underlying t = some (.struct fs)) (hone : oneCellFields P fs = true)
    (h : DataW.trod enc P w base spare held fuel t cs = some x) :
    ∃ n : Nat, cs.length = P.cellsOf t ∧ ∀ (i : Nat) (f : Field) (v : Value), fs[i]? = some f → cs[i]? = some v → ∃ y, DataW.trod enc P w base spare held n f.type [v] = some y := by
  obtain ⟨xs, n, _, _, hl, hlen, hf⟩ := DataW.trod_struct hs h
  refine ⟨n, hl, fun i f v hi hv => ?_⟩
  obtain ⟨o, k⟩ := hone_of hone i f hi
  have hx := hf i f hi
  rw [o, k] at hx
  have e : (List.drop i cs).take 1 = [v] := by
    rw [List.take_one, List.head?_drop, hv]; rfl
  rw [e] at hx
  have hi' : i < xs.length := by
    rw [hlen]
    exact (Array.getElem?_eq_some_iff.1 hi).1
  exact ⟨xs[i], by first | (rw [hx]; exact List.getElem?_eq_getElem hi') | (rw [List.getElem?_eq_getElem hi'] at hx; exact hx) | simpa [hi'] using hx⟩
end

section
variable {H : Type} {enc : TypeId × Value → H} {W : World}
set_option maxRecDepth 100000 in
theorem ref_form {fuel : Nat} {l : List Value} {x : DataW H × List MemPlace} (hf : DataW.trod enc Tryd.prog W 0 (fun _ => true) true fuel 51 l = some x) : ∃ y : Rf, l = lrfE.f y := by
  have hC : Tryd.prog.cellsOf 51 = 2 := by kernel_rfl
  obtain ⟨n, hl, hx⟩ := trod_onesC Tryd.underlying51 (by kernel_rfl) hf
  obtain ⟨v0, v1, rfl⟩ := list2C (hl.trans hC)
  obtain ⟨y0, h0⟩ := hx 0 _ v0 rfl rfl
  obtain ⟨y1, h1⟩ := hx 1 _ v1 rfl rfl
  obtain ⟨k0, hk0, _, _⟩ := DataW.trod_int Tryd.underlying3 h0
  obtain ⟨k1, hk1, _, _⟩ := DataW.trod_int Tryd.underlying3 h1
  simp at hk0 hk1
  exact ⟨(k0, k1), by rw [hk0, hk1]; rfl⟩
set_option maxRecDepth 100000 in
theorem refs_of_trod {fuel : Nat} {v : Value} {x : DataW H × List MemPlace} (h : DataW.trod enc Tryd.prog W 0 (fun _ => true) true fuel 22 [v] = some x) : ∃ l : List Rf, Rows' lrfE W v l ∧ l.length ≤ 9223372036854775807 := by
  have hC : Tryd.prog.cellsOf 51 = 2 := by kernel_rfl
  have hml : maxLen ≤ 9223372036854775807 := by decide
  rcases open_slice Tryd.underlying22 h with ⟨hv, _⟩ | ⟨a, len, cap, m, n, D, Pl, hv, _, hl, hm, hmm, _, hc⟩
  · simp at hv; subst hv
    exact ⟨[], .inl ⟨rfl, _, _, rfl⟩, by simp⟩
  · simp at hv; subst hv
    have hm2 : m = cap := by simpa using hmm
    have hex : ∀ i, i < len → ∃ y : Rf, ∀ k u, (lrfE.f y)[k]? = some u → W.cell? (a.add (i * 2 + k)) = some u := by
      intro i hi
      obtain ⟨cs', h1, h2⟩ := hc i (by omega)
      rw [hC] at h1
      obtain ⟨_, hlen, hcell⟩ := World.cells?_some h1
      obtain ⟨y, hy⟩ := ref_form h2
      refine ⟨y, fun k u hu => ?_⟩
      have hk : k < 2 := by have h9 := (List.getElem?_eq_some_iff.1 hu).1; rw [lrfE.len y] at h9; exact h9
      have := hcell k hk
      rw [add_add] at this
      rw [this, hy]
      exact hu
    obtain ⟨l, hlen, hr, _⟩ := rows_of_cells lrfE hl (fun i hi => hex i hi) (fun _ => True) (fun i hi y hy => trivial)
    exact ⟨l, hr, by omega⟩
set_option maxRecDepth 100000 in
theorem open_Check {b0 : Nat} {r : Reach} {v : Value} {d : DataW H} {p : List MemPlace} (hv : Value.okWide Tryd.prog W r b0 24 v) (h : DataW.Trod enc Tryd.prog W 0 (fun _ => true) true 24 v d p) : ∃ c : Ck, CIn W v c := by
  obtain ⟨cs, rfl, hsz⟩ := okWide_struct Tryd.underlying24 hv
  obtain ⟨fuel, hf⟩ := h
  obtain ⟨l⟩ := cs
  have hC : Tryd.prog.cellsOf 24 = 5 := by kernel_rfl
  have hf' : DataW.trod enc Tryd.prog W 0 (fun _ => true) true fuel 24 l = some (d, p) := hf
  obtain ⟨n, hl, hx⟩ := trod_onesC Tryd.underlying24 (by kernel_rfl) hf'
  obtain ⟨v0, v1, v2, v3, v4, rfl⟩ := list5C (hl.trans hC)
  obtain ⟨y0, h0⟩ := hx 0 _ v0 rfl rfl
  obtain ⟨y1, h1⟩ := hx 1 _ v1 rfl rfl
  obtain ⟨y2, h2⟩ := hx 2 _ v2 rfl rfl
  obtain ⟨y3, h3⟩ := hx 3 _ v3 rfl rfl
  obtain ⟨y4, h4⟩ := hx 4 _ v4 rfl rfl
  obtain ⟨k0, hk0, _, _⟩ := DataW.trod_int Tryd.underlying3 h0
  obtain ⟨k1, hk1, _, _⟩ := DataW.trod_int Tryd.underlying3 h1
  obtain ⟨k2, hk2, _, _⟩ := DataW.trod_int Tryd.underlying3 h2
  obtain ⟨k3, hk3, _, _⟩ := DataW.trod_int Tryd.underlying3 h3
  obtain ⟨rs, hr, hn⟩ := refs_of_trod h4
  simp at hk0 hk1 hk2 hk3
  obtain ⟨a, c, rfl⟩ : ∃ ad cap, v4 = .slice ad rs.length cap := by
    obtain ⟨ad, cap, e, _⟩ := hr.lrefs
    exact ⟨ad, cap, e⟩
  exact ⟨⟨k0, k1, k2, k3, rs⟩, a, c, by rw [hk0, hk1, hk2, hk3], hr, hn⟩
end

end Go.Proofs.YtmahicpheimnjaaDoor
