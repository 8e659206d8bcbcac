/- Checks in memory: references, and what is fixed. -/
import Derived.Test.YtmahicpheimnjaaDoorKitR2
import Derived.Test.YtmahicpheimnjaaDoorPuts
import Derived.Test.YtmahicpheimnjaaDoorRecT
import Derived.Test.YtmahicpheimnjaaDoorCopyTo
import Derived.Test.YtmahicpheimnjaaDoorRowsOf
import Derived.Deep.Slices
import Derived.ProofKit
import Derived.Lib.Hide
import Derived.WalkSmall
import Derived.Test.YtmahicpheimnjaaDoorBox
import Derived.Test.YtmahicpheimnjaaDoorKitO
import Derived.Deep.QuietTactic
import Derived.BigQuiet
import Derived.Deep.RegionHeld3
namespace Go.Proofs.YtmahicpheimnjaaDoor
open Go.RowKit

/-- A reference: the segment's number, and its Gen. -/
abbrev Rf := Int × Int
/-- What is fixed. -/
structure Ck where
  st : Int
  ng : Int
  ns : Int
  nv : Int
  refs : List Rf

def rfE : Enc Rf where
  ty := 38
  sty := 27
  sz := 2
  bytes := 16
  zero := .agg #[.int .i64 0, .int .i64 0]
  f := fun x => [.int .i64 x.1, .int .i64 x.2]
  len := fun _ => rfl
  pos := by decide
  one := fun _ u hu => by simp at hu; rcases hu with rfl | rfl <;> rfl
  und := Tryd.underlying27
  info := by kernel_rfl
  zc := rfl
  z0 := (0, 0)
  zf := rfl

/-- References as a loop reads them. -/
theorem Rows'.refs {w : World} {v : Value} {l : List Rf} (h : Rows' rfE w v l) : ∃ (ad : Option Addr) (cap : Nat), v = .slice ad l.length cap ∧ ∀ X, Below w.heap.size w X → ∀ (i : Nat) (x : Rf), l[i]? = some x → ∃ g off, ad = some ⟨g, off, none⟩ ∧ X.cell? ⟨g, off + i * 2, none⟩ = some (.int .i64 x.1) ∧ X.cell? ⟨g, off + i * 2 + 1, none⟩ = some (.int .i64 x.2) := by
  rcases h.ways with ⟨rfl, a, c, rfl⟩ | ⟨hne, g, off, c, rfl, hc, hg, hcl⟩
  · exact ⟨a, c, rfl, fun X _ i x hi => by cases hi⟩
  · exact ⟨_, c, rfl, fun X hb i x hi => ⟨g, off, rfl, (hb.cell (p := ⟨g, off + i * 2 + 0, none⟩) hg).trans (hcl i x hi 0 _ rfl), (hb.cell (p := ⟨g, off + i * 2 + 1, none⟩) hg).trans (hcl i x hi 1 _ rfl)⟩⟩

/-- The marks of references. -/
def markF2 (k : Nat) (j : Nat) : Rf := (((k + 2 * j : Nat) : Int), ((k + 2 * j + 1 : Nat) : Int))
def marksF2 (k n : Nat) : List Rf := (List.range n).map (markF2 k)
theorem marksF2_length (k n : Nat) : (marksF2 k n).length = n := by simp [marksF2]
theorem marksF2_at {k n i : Nat} (h : i < n) : (marksF2 k n)[i]? = some (markF2 k i) := by simp [marksF2, h]

set_option maxRecDepth 100000 in
theorem eqRef_same (a b : Int) (w : World) : Calls Tryd.prog 27 #[.agg #[.int .i64 a, .int .i64 b], .agg #[.int .i64 a, .int .i64 b]] w fun e w' => e = .returned (.bool true) ∧ Below w.heap.size w w' := by
  have bA := belNew w (.cells #[.int .i64 a, .int .i64 b] 38)
  have HB := Lib.hid (bA.trans ((belNew (w.alloc (.cells #[.int .i64 a, .int .i64 b] 38)) (.cells #[.int .i64 a, .int .i64 b] 38)).mono bA.size))
  clear bA
  go_enter Tryd.func27, Tryd.ntmps27
  go_wp2
  go_ret
  exact ⟨rfl, HB.out⟩

set_option maxRecDepth 100000 in
set_option maxHeartbeats 2000000 in
theorem eqRefS_same (l : List Rf) (va vb : Value) (w : World) (ha : Rows' rfE w va l) (hb : Rows' rfE w vb l) (hl : l.length ≤ 1099511627776) :
    Calls Tryd.prog 17 #[va, vb] w fun e w' => e = .returned (.bool true) ∧ Below w.heap.size w w' := by
  obtain ⟨ad, cap, rfl, hrowa⟩ := ha.refs
  obtain ⟨ad2, cap2, rfl, hrowb⟩ := hb.refs
  have HA := Lib.hid hrowa
  have HB := Lib.hid hrowb
  clear ha hb hrowa hrowb
  go_enter Tryd.func17, Tryd.ntmps17
  go_wp2
  go_loopw [5] (fun iv wr => ∃ i : Nat, i ≤ l.length ∧ iv = .int .i64 (i : Int) ∧ Below w.heap.size w wr) (fun iv _ => l.length - (intOf iv).toNat)
  case atStart => exact ⟨0, by omega, rfl, Below.refl _ _⟩
  case round =>
    obtain ⟨i, hi, rfl, hbel⟩ := hrel
    by_cases hlt : i < l.length
    · have hg : l[i]? = some l[i] := List.getElem?_eq_getElem hlt
      have hbd : Below w.heap.size w wr.drew := hbel.drew
      have HXA : Hid (∀ X, Below wr.drew.heap.size wr.drew X → ∃ ga oa gb ob, ad = some ⟨ga, oa, none⟩ ∧ ad2 = some ⟨gb, ob, none⟩ ∧ (X.cell? ⟨ga, oa + i * 2, none⟩ = some (.int .i64 l[i].1) ∧ X.cell? ⟨ga, oa + i * 2 + 1, none⟩ = some (.int .i64 l[i].2)) ∧ (X.cell? ⟨gb, ob + i * 2, none⟩ = some (.int .i64 l[i].1) ∧ X.cell? ⟨gb, ob + i * 2 + 1, none⟩ = some (.int .i64 l[i].2))) := fun X hX => by
        obtain ⟨ga, oa, e1, p⟩ := HA.out X (hbd.trans (hX.mono hbd.size)) i _ hg
        obtain ⟨gb, ob, e2, q⟩ := HB.out X (hbd.trans (hX.mono hbd.size)) i _ hg
        exact ⟨ga, oa, gb, ob, e1, e2, p, q⟩
      generalize l[i] = x at *
      obtain ⟨x1, x2⟩ := x
      simp only at HXA
      obtain ⟨ga, oa, gb, ob, rfl, rfl, p0, q0⟩ := HXA.out _ (Below.refl _ _)
      have HS : Hid (∀ X, Below wr.drew.heap.size wr.drew X → (X.cell? ⟨ga, oa + i * 2, none⟩ = some (.int .i64 x1) ∧ X.cell? ⟨ga, oa + i * 2 + 1, none⟩ = some (.int .i64 x2)) ∧ (X.cell? ⟨gb, ob + i * 2, none⟩ = some (.int .i64 x1) ∧ X.cell? ⟨gb, ob + i * 2 + 1, none⟩ = some (.int .i64 x2))) := fun X hX => by
        obtain ⟨ga2, oa2, gb2, ob2, e1, e2, p, q⟩ := HXA.out X hX
        cases e1
        cases e2
        exact ⟨p, q⟩
      have hi0 : (0 : Int) ≤ (i : Int) := by omega
      have hi1 : (i : Int) < (l.length : Int) := by omega
      clear hg HXA p0 q0
      go_wp2
      go_region_held3 (fun X => (X.cell? ⟨ga, oa + i * 2, none⟩ = some (.int .i64 x1) ∧ X.cell? ⟨ga, oa + i * 2 + 1, none⟩ = some (.int .i64 x2)) ∧ (X.cell? ⟨gb, ob + i * 2, none⟩ = some (.int .i64 x1) ∧ X.cell? ⟨gb, ob + i * 2 + 1, none⟩ = some (.int .i64 x2)))
        (first | exact HS.out _ (Below.refl _ _) | exact HS.out _ hb1)
        (first | (go_at_call 27; refine (eqRef_same x1 x2 _).mono ?_; rintro e w1 ⟨rfl, hb1⟩))
      all_goals
        go_wp2
        go_roundw
        case rel => exact ⟨i + 1, by omega, by go_num, hbd.trans (hb1.mono hbd.size)⟩
        case measure => simp [intOf]; omega
    · go_wp2
      go_ret
      exact ⟨rfl, hbel⟩



/-- A check's value, its references a slice. -/
def Ck.val (c : Ck) (a : Option Addr) (cap : Nat) : Value := .agg #[.int .i64 c.st, .int .i64 c.ng, .int .i64 c.ns, .int .i64 c.nv, .slice a c.refs.length cap]

theorem Box.fiveC {w : World} {b : Nat} {u0 u1 u2 u3 u4 : Value} {t : TypeId} (h : Box w b #[u0, u1, u2, u3, u4] t) :
    w.cell? ⟨b, 0, none⟩ = some u0 ∧ w.cell? ⟨b, 1, none⟩ = some u1 ∧ w.cell? ⟨b, 2, none⟩ = some u2 ∧ w.cell? ⟨b, 3, none⟩ = some u3 ∧ w.cell? ⟨b, 4, none⟩ = some u4 ∧
    w.frozen? ⟨b, 0, none⟩ = false ∧ w.frozen? ⟨b, 1, none⟩ = false ∧ w.frozen? ⟨b, 2, none⟩ = false ∧ w.frozen? ⟨b, 3, none⟩ = false ∧ w.frozen? ⟨b, 4, none⟩ = false :=
  ⟨h.cell 0 _ rfl, h.cell 1 _ rfl, h.cell 2 _ rfl, h.cell 3 _ rfl, h.cell 4 _ rfl, h.loose 0, h.loose 1, h.loose 2, h.loose 3, h.loose 4⟩

set_option maxRecDepth 100000 in
set_option maxHeartbeats 2000000 in
theorem eqCheck_same (c : Ck) (a b : Option Addr) (ca cb : Nat) (w : World) (ha : Rows' rfE w (.slice a c.refs.length ca) c.refs) (hb : Rows' rfE w (.slice b c.refs.length cb) c.refs) (hl : c.refs.length ≤ 1099511627776) :
    Calls Tryd.prog 9 #[.agg #[.int .i64 c.st, .int .i64 c.ng, .int .i64 c.ns, .int .i64 c.nv, .slice a c.refs.length ca], .agg #[.int .i64 c.st, .int .i64 c.ng, .int .i64 c.ns, .int .i64 c.nv, .slice b c.refs.length cb]] w fun e w' => e = .returned (.bool true) ∧ Below w.heap.size w w' := by
  obtain ⟨st, ng, ns, nv, rs⟩ := c
  simp only at *
  have XA := Box.new w #[.int .i64 st, .int .i64 ng, .int .i64 ns, .int .i64 nv, .slice a rs.length ca] 29
  have kA := belNew w (.cells #[.int .i64 st, .int .i64 ng, .int .i64 ns, .int .i64 nv, .slice a rs.length ca] 29)
  have XB := Box.new (w.alloc (.cells #[.int .i64 st, .int .i64 ng, .int .i64 ns, .int .i64 nv, .slice a rs.length ca] 29)) #[.int .i64 st, .int .i64 ng, .int .i64 ns, .int .i64 nv, .slice b rs.length cb] 29
  have kB := belNew (w.alloc (.cells #[.int .i64 st, .int .i64 ng, .int .i64 ns, .int .i64 nv, .slice a rs.length ca] 29)) (.cells #[.int .i64 st, .int .i64 ng, .int .i64 ns, .int .i64 nv, .slice b rs.length cb] 29)
  rw [show (w.alloc (.cells #[.int .i64 st, .int .i64 ng, .int .i64 ns, .int .i64 nv, .slice a rs.length ca] 29)).heap.size = w.heap.size + 1 by simp] at XB
  have k3 := kA.trans (kB.mono kA.size)
  have XA3 := XA.later kB
  have ha3 := ha.later k3
  have hb3 := hb.later k3
  obtain ⟨n, hn⟩ : ∃ n, rs.length = n := ⟨_, rfl⟩
  have HRA := Lib.hid ha3
  have HRB := Lib.hid hb3
  have hln : n ≤ 1099511627776 := by omega
  have HN := Lib.hid hn
  rw [hn] at XA3 XB k3 HRA HRB ⊢
  clear XA kA kB ha hb ha3 hb3 hn
  go_enter Tryd.func9, Tryd.ntmps9
  obtain ⟨x0, x1, x2, x3, x4, _⟩ := XA3.fiveC
  obtain ⟨y0, y1, y2, y3, y4, _⟩ := XB.fiveC
  clear XA3 XB
  go_wp2_with fail
  generalize (w.alloc (.cells #[.int .i64 st, .int .i64 ng, .int .i64 ns, .int .i64 nv, .slice a n ca] 29)).alloc (.cells #[.int .i64 st, .int .i64 ng, .int .i64 ns, .int .i64 nv, .slice b n cb] 29) = W at *
  refine (eqRefS_same rs _ _ _ HRA.out HRB.out (by rw [HN.out]; exact hln)).mono ?_
  rintro e w1 ⟨rfl, k1⟩
  have BB := Lib.hid (k3.trans (k1.mono k3.size))
  clear k3 k1 x0 x1 x2 x3 x4 y0 y1 y2 y3 y4
  go_wp2
  go_ret
  exact ⟨rfl, BB.out⟩



end Go.Proofs.YtmahicpheimnjaaDoor
