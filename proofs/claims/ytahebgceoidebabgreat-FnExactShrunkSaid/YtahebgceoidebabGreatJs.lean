/- Texts of our own, joined. -/
import Derived.Test.YtahebgceoidebabGreatJh
import Derived.Test.YtahebgceoidebabGreatJd
import Derived.Test.YtahebgceoidebabGreatJc
import Derived.Deep.Slices
import Derived.Deep.QuietTactic
import Derived.BigQuiet
import Derived.ProofKit
import Derived.Test.YtahebgceoidebabGreatJr
import Derived.OpenShut
import Derived.Lib.Hide
import Derived.WalkSmall
import Derived.Test.YtahebgceoidebabGreatJe
import Derived.Lib.SmallJoins
/- Lists of bools in the exact laws: a copy, two alike, marks, marks held; and one that comes in. -/
namespace Go.Proofs.YtahebgceoidebabGreat
open Go.RowKit Go.ChangeShapes Go.WideShapes Go.ChangeAt Go.Deep Go.Joins

set_option maxRecDepth 100000 in
set_option maxHeartbeats 1000000 in
theorem toBoolS_any (l : List Bool) (v : Value) (w : World) (hb : Rows' boE w v l) (hl : l.length ≤ 1048576) :
    Calls Tryz.prog 7 #[v] w fun e w' => ∃ v', e = .returned v' ∧ RBuf boE w.heap.size w w' v' l := by
  obtain ⟨a, cap, rfl⟩ : ∃ (a : Option Addr) (cap : Nat), v = .slice a l.length cap := by
    rcases hb with ⟨rfl, a, c, rfl⟩ | ⟨g, off, c, rfl, _⟩
    · exact ⟨a, c, rfl⟩
    · exact ⟨_, c, rfl⟩
  have HB := Lib.hid hb
  clear hb
  go_enter Tryz.func7, Tryz.ntmps7
  go_wp2_with (at_make; refine wpList_make_rows rfl _ _ boE rfl .i64 .i64 _ _ l.length rfl rfl rfl rfl (by show 2 * l.length ≤ _; omega) ?_; intro w1 hr1 hs1)
  go_loopw [4] (fun iv wr => ∃ i : Nat, i ≤ l.length ∧ iv = .int .i64 (i : Int) ∧ RBuf boE w.heap.size w wr (.slice (some ⟨w.heap.size, 0, none⟩) l.length l.length) (copyTo boE.z0 l i)) (fun iv _ => l.length - (intOf iv).toNat)
  case atStart => exact ⟨0, by omega, rfl, by rw [copyTo_zero]; exact hr1⟩
  case round =>
    obtain ⟨i, hi, rfl, hbr⟩ := hrel
    by_cases hlt : i < l.length
    · obtain ⟨g, off, rfl, hcl⟩ := HB.out.at i hlt
      have hcs := hcl wr hbr.bel 0 _ rfl
      rw [show boE.sz = 1 from rfl, Nat.mul_one, Nat.add_zero] at hcs
      have hi0 : (0 : Int) ≤ (i : Int) := by omega
      have hi1 : (i : Int) < (l.length : Int) := by omega
      have hml := copyTo_length (z := boE.z0) hi
      have hms := copyTo_set (z := boE.z0) hlt
      have hat := copyTo_at (z := boE.z0) hlt
      rw [← hml] at hbr
      have cd : wr.cell? ⟨w.heap.size, i, none⟩ = some (.bool boE.z0) := by
        have := hbr.cell rfl i _ hat 0 _ rfl
        rw [show boE.sz = 1 from rfl, Nat.mul_one, Nat.add_zero] at this
        exact this
      have fd := hbr.loose i
      have hst := hbr.stored i _ l[i] hat 0 (by decide) (.bool l[i]) rfl
      rw [show boE.sz = 1 from rfl, Nat.mul_one, Nat.add_zero, hms, hml] at hst
      clear hcl hbr hat hml hms
      generalize l[i] = t at *
      go_wp2
      go_roundw
      case rel => exact ⟨i + 1, by omega, by go_num, hst⟩
      case measure => simp [intOf]; omega
    · go_wp2
      go_ret
      rw [copyTo_all (by omega)] at hbr
      exact ⟨_, rfl, hbr⟩

set_option maxRecDepth 100000 in
set_option maxHeartbeats 1000000 in
theorem eqBoolS_same (l : List Bool) (va vb : Value) (w : World) (ha : Rows' boE w va l) (hb : Rows' boE w vb l) (hl : l.length ≤ 1099511627776) :
    Calls Tryz.prog 10 #[va, vb] w fun e w' => e = .returned (.bool true) ∧ Below w.heap.size w w' := by
  rcases ha.ways with ⟨rfl, a, c, rfl⟩ | ⟨hne, ga, oa, ca, rfl, hca, hga, hcla⟩
  · rcases hb.ways with ⟨_, b, d, rfl⟩ | ⟨hne, _⟩
    · clear ha hb
      go_enter Tryz.func10, Tryz.ntmps10
      go_wp2
      go_loop [5] (fun iv => iv = .int .i64 0) (fun _ => 0)
      case atStart => rfl
      case round =>
        obtain rfl := hrel
        go_wp2
        go_ret
        exact ⟨rfl, Below.refl _ _⟩
    · exact absurd rfl hne
  · rcases hb.ways with ⟨e, _⟩ | ⟨_, gb, ob, cb, rfl, hcb, hgb, hclb⟩
    · exact absurd e hne
    · clear ha hb
      have HA := Lib.hid hcla
      have HB := Lib.hid hclb
      clear hcla hclb
      go_enter Tryz.func10, Tryz.ntmps10
      go_wp2
      go_loopw [5] (fun iv wr => ∃ i : Nat, i ≤ l.length ∧ iv = .int .i64 (i : Int) ∧ Below w.heap.size w wr) (fun iv _ => l.length - (intOf iv).toNat)
      case atStart => exact ⟨0, by omega, rfl, Below.refl _ _⟩
      case round =>
        obtain ⟨i, hi, rfl, hbel⟩ := hrel
        by_cases hlt : i < l.length
        · have hg : l[i]? = some l[i] := List.getElem?_eq_getElem hlt
          have h1 := (hbel.cell (p := ⟨ga, oa + i * boE.sz + 0, none⟩) hga).trans (HA.out i _ hg 0 _ rfl)
          have h2 := (hbel.cell (p := ⟨gb, ob + i * boE.sz + 0, none⟩) hgb).trans (HB.out i _ hg 0 _ rfl)
          rw [show boE.sz = 1 from rfl, Nat.mul_one, Nat.add_zero] at h1 h2
          generalize l[i] = t at *
          have hi0 : (0 : Int) ≤ (i : Int) := by omega
          have hi1 : (i : Int) < (l.length : Int) := by omega
          clear hg
          go_wp2
          go_quiet (fail)
          go_wp2
          go_roundw
          case rel => exact ⟨i + 1, by omega, by go_num, below_drewN hbel _⟩
          case measure => simp [intOf]; omega
        · go_wp2
          go_ret
          exact ⟨rfl, hbel⟩

/-- The marks of a list of bools. -/
def markO (k : Nat) (j : Nat) : Bool := decide ((k + j) % 3 = 0)
def marksO (k n : Nat) : List Bool := (List.range n).map (markO k)
theorem marksO_length (k n : Nat) : (marksO k n).length = n := by simp [marksO]
theorem marksO_at {k n i : Nat} (h : i < n) : (marksO k n)[i]? = some (markO k i) := by simp [marksO, h]
theorem tmod_three (K : Nat) : Int.tmod (K : Int) 3 = ((K % 3 : Nat) : Int) := by
  rw [Int.tmod_eq_emod_of_nonneg (by omega)]; omega

set_option maxRecDepth 100000 in
set_option maxHeartbeats 1000000 in
theorem markBoolS_any (l : List Bool) (v : Value) (k B : Nat) (w0 w : World) (hb : RBuf boE B w0 w v l) (hk2 : k + l.length ≤ 1099511627776) :
    Calls Tryz.prog 12 #[v, .int .i64 (k : Int)] w fun e w' => e = .returned (.int .i64 ((k + l.length : Nat) : Int)) ∧ RBuf boE B w0 w' v (marksO k l.length) ∧ w.grownBy w' v.ownBlock := by
  rcases hb.own.2 with ⟨rfl, h0⟩ | ⟨g, cap, cur, rfl, hg, hh, hnc, hcp, hcs, htake⟩
  · obtain rfl := List.length_eq_zero_iff.1 h0
    go_enter Tryz.func12, Tryz.ntmps12
    go_wp2
    go_loop [1, 5] (fun kv iv => kv = .int .i64 (k : Int) ∧ iv = .int .i64 0) (fun _ _ => 0)
    case atStart => exact ⟨rfl, rfl⟩
    case round =>
      obtain ⟨rfl, rfl⟩ := hrel
      go_wp2
      go_ret
      exact ⟨rfl, hb, World.grownBy.refl _ _⟩
  · clear hh hcs htake hcp
    have hle : l.length ≤ 1099511627776 := by omega
    go_enter Tryz.func12, Tryz.ntmps12
    go_wp2
    go_loopw [1, 5] (fun kv iv wr => ∃ i : Nat, i ≤ l.length ∧ iv = .int .i64 (i : Int) ∧ kv = .int .i64 ((k + i : Nat) : Int) ∧ RBuf boE B w0 wr (.slice (some ⟨g, 0, none⟩) l.length cap) (putTo (markO k) l i) ∧ w.grownBy wr (some g)) (fun _ iv _ => l.length - (intOf iv).toNat)
    case atStart => exact ⟨0, by omega, rfl, rfl, by rw [putTo_zero]; exact hb, World.grownBy.refl _ _⟩
    case round =>
      obtain ⟨i, hi, rfl, rfl, hbr, hgr⟩ := hrel
      by_cases hlt : i < l.length
      · have hi0 : (0 : Int) ≤ (i : Int) := by omega
        have hi1 : (i : Int) < (l.length : Int) := by omega
        have hml := putTo_length (m := markO k) hi
        have hat := putTo_at (m := markO k) hlt
        have hms := putTo_set (m := markO k) hlt
        rw [← hml] at hbr
        obtain ⟨K, hK⟩ : ∃ K : Nat, K = k + i := ⟨_, rfl⟩
        have HK := Lib.hid hK
        have hmk : markO k i = decide (Int.tmod (K : Int) 3 = 0) := by
          rw [tmod_three, hK]; unfold markO; congr 1; apply propext; omega
        rw [← hK]
        have hK1 : K + 1 ≤ 4611686018427387904 := by omega
        clear hK
        generalize l[i] = x at hat
        have cs : wr.cell? ⟨g, i, none⟩ = some (.bool x) := by
          have := hbr.cell rfl i _ hat 0 _ rfl
          rw [show boE.sz = 1 from rfl, Nat.mul_one, Nat.add_zero] at this
          exact this
        have fs := hbr.loose i
        have hst := hbr.stored i _ (markO k i) hat 0 (by decide) (.bool (markO k i)) rfl
        rw [show boE.sz = 1 from rfl, Nat.mul_one, Nat.add_zero, hml, hms] at hst
        have hg2 := hgr.trans (grownBy_store wr g i (.bool (markO k i)))
        rw [hmk] at hst hg2
        have HST := Lib.hid (And.intro hst hg2)
        clear hbr hat hst hg2 hgr hmk hms hml
        go_wp2
        go_roundw
        case rel => exact ⟨i + 1, by omega, by go_num, by rw [HK.out]; go_num, HST.out.1, HST.out.2⟩
        case measure => simp [intOf]; omega
      · have hfin : Hid (i = l.length) := by show i = l.length; omega
        go_wp2
        go_ret
        refine ⟨?_, ?_, hgr⟩
        · rw [← hfin.out]; rfl
        · have := hbr
          rw [hfin.out, putTo_all] at this
          exact this


/-- A list of numbers that comes in. -/
def BoIn (w : World) (v : Value) (l : List Bool) : Prop := Rows' boE w v l ∧ l.length ≤ 9223372036854775807


set_option maxRecDepth 100000 in
theorem open_BoolS {H : Type} {enc : TypeId × Value → H} {W : World} {b0 : Nat} {r : Reach} {v : Value} {d : DataW H} {p : List MemPlace} (hv : Value.okWide Tryz.prog W r b0 23 v) (h : DataW.Trod enc Tryz.prog W 0 (fun _ => true) true 23 v d p) : ∃ l : List Bool, BoIn W v l := by
  obtain ⟨fuel, h⟩ := h
  obtain ⟨a0, len0, cap0, rfl⟩ := okWide_slice Tryz.underlying23 hv
  have hml : maxLen ≤ 9223372036854775807 := by decide
  rcases open_slice1 Tryz.underlying23 (by kernel_rfl) h with ⟨hv, _⟩ | ⟨a, len, cap, m, n, V, D, Pl, hv, _, hl, hm, hmm, _, hc⟩
  · simp [Value.cells] at hv
    obtain ⟨rfl, rfl, rfl⟩ := hv
    exact ⟨[], .inl ⟨rfl, _, _, rfl⟩, by simp⟩
  · simp [Value.cells] at hv
    obtain ⟨rfl, rfl, rfl⟩ := hv
    have hm2 : m = cap0 := by simpa using hmm
    have hex : ∀ i, i < len0 → ∃ s : Bool, W.cell? (a.add i) = some (.bool s) := by
      intro i hi
      obtain ⟨h1, h2⟩ := hc i (by omega)
      obtain ⟨s, hs, _⟩ := DataW.trod_bool Tryz.underlying4 h2
      simp at hs
      exact ⟨s, by rw [h1, hs]⟩
    obtain ⟨l, hlen, hr, _⟩ := rows_of_cells boE hl (fun i hi => by
      obtain ⟨s, hs⟩ := hex i hi
      refine ⟨s, fun k u hu => ?_⟩
      match k, hu with
      | 0, hu => simp [boE] at hu; subst hu; rw [show boE.sz = 1 from rfl, Nat.mul_one, Nat.add_zero]; exact hs
      | k + 1, hu => simp [boE] at hu) (fun _ => True) (fun _ _ _ _ => trivial)
    exact ⟨l, hr, by omega⟩

end Go.Proofs.YtahebgceoidebabGreat

/- The helpers of the exact laws over lists of items: each is marked, and the marks are held. -/
namespace Go.Proofs.YtahebgceoidebabGreat
open Go.RowKit


/-- The marks. -/
def markI (k : Nat) (j : Nat) : Itm := (((k + 9 * j : Nat) : Int), ⟨((k + 9 * j + 1 : Nat) : Int), ((k + 9 * j + 2 : Nat) : Int), ((k + 9 * j + 3 : Nat) : Int), ((k + 9 * j + 4 : Nat) : Int), ((k + 9 * j + 5 : Nat) : Int), mark (k + 9 * j + 6), mark (k + 9 * j + 7), mark (k + 9 * j + 8)⟩)
def marksI (k n : Nat) : List Itm := (List.range n).map (markI k)
theorem marksI_length (k n : Nat) : (marksI k n).length = n := by simp [marksI]
theorem marksI_at {k n i : Nat} (h : i < n) : (marksI k n)[i]? = some (markI k i) := by simp [marksI, h]
/-- The first i of them are marked, the next one is y. -/
def RMI (B : Nat) (w0 X : World) (g cap k : Nat) (l : List Itm) (i : Nat) (y : Itm) : Prop := RBuf itE B w0 X (.slice (some ⟨g, 0, none⟩) l.length cap) ((putTo (markI k) l i).set i y) ∧ i < l.length
theorem RMI.later {B : Nat} {w0 X Y : World} {g cap k i : Nat} {l : List Itm} {y : Itm} (h : RMI B w0 X g cap k l i y) (hb : Below X.heap.size X Y) : RMI B w0 Y g cap k l i y := ⟨h.1.later hb, h.2⟩
theorem RMI.start {B : Nat} {w0 X : World} {g cap k i : Nat} {l : List Itm} (h : RBuf itE B w0 X (.slice (some ⟨g, 0, none⟩) l.length cap) (putTo (markI k) l i)) (hi : i < l.length) : RMI B w0 X g cap k l i l[i] := by
  refine ⟨?_, hi⟩
  have e : (putTo (markI k) l i).set i l[i] = putTo (markI k) l i := by
    have h1 := putTo_at (m := markI k) hi
    obtain ⟨h2, h3⟩ := List.getElem?_eq_some_iff.1 h1
    rw [← h3]
    exact List.set_getElem_self h2
  rw [e]
  exact h
theorem RMI.done {B : Nat} {w0 X : World} {g cap k i : Nat} {l : List Itm} {y : Itm} (h : RMI B w0 X g cap k l i y) (hy : y = markI k i) : RBuf itE B w0 X (.slice (some ⟨g, 0, none⟩) l.length cap) (putTo (markI k) l (i + 1)) := by
  have h1 := h.1
  rw [hy, putTo_set h.2] at h1
  exact h1
theorem RMI.at0 {B : Nat} {w0 X : World} {g cap k i : Nat} {l : List Itm} {z0 z1 z2 z3 z4 z5 : Int} {z6 z7 z8 : ByteArray} (h : RMI B w0 X g cap k l i (z0, ⟨z1, z2, z3, z4, z5, z6, z7, z8⟩)) : X.cell? ⟨g, i * 9, none⟩ = some (.int .i64 (z0)) ∧ X.frozen? ⟨g, i * 9, none⟩ = false ∧ ∀ z : Int, RMI B w0 (X.setCell ⟨g, i * 9, none⟩ (.int .i64 (z))) g cap k l i (z, ⟨z1, z2, z3, z4, z5, z6, z7, z8⟩) := by
  obtain ⟨h1, h2⟩ := h
  have hl : ((putTo (markI k) l i).set i (z0, ⟨z1, z2, z3, z4, z5, z6, z7, z8⟩)).length = l.length := by rw [List.length_set]; exact putTo_length (by omega)
  have hat : ((putTo (markI k) l i).set i (z0, ⟨z1, z2, z3, z4, z5, z6, z7, z8⟩))[i]? = some (z0, ⟨z1, z2, z3, z4, z5, z6, z7, z8⟩) := List.getElem?_set_self (by rw [putTo_length (by omega)]; exact h2)
  rw [← hl] at h1
  refine ⟨h1.cell rfl i _ hat 0 _ rfl, h1.loose _, fun z => ⟨?_, h2⟩⟩
  have st := h1.stored i _ (z, ⟨z1, z2, z3, z4, z5, z6, z7, z8⟩) hat 0 (by decide) (.int .i64 (z)) rfl
  rw [List.set_set, hl] at st
  exact st
theorem RMI.at1 {B : Nat} {w0 X : World} {g cap k i : Nat} {l : List Itm} {z0 z1 z2 z3 z4 z5 : Int} {z6 z7 z8 : ByteArray} (h : RMI B w0 X g cap k l i (z0, ⟨z1, z2, z3, z4, z5, z6, z7, z8⟩)) : X.cell? ⟨g, i * 9 + 1, none⟩ = some (.int .i64 (z1)) ∧ X.frozen? ⟨g, i * 9 + 1, none⟩ = false ∧ ∀ z : Int, RMI B w0 (X.setCell ⟨g, i * 9 + 1, none⟩ (.int .i64 (z))) g cap k l i (z0, ⟨z, z2, z3, z4, z5, z6, z7, z8⟩) := by
  obtain ⟨h1, h2⟩ := h
  have hl : ((putTo (markI k) l i).set i (z0, ⟨z1, z2, z3, z4, z5, z6, z7, z8⟩)).length = l.length := by rw [List.length_set]; exact putTo_length (by omega)
  have hat : ((putTo (markI k) l i).set i (z0, ⟨z1, z2, z3, z4, z5, z6, z7, z8⟩))[i]? = some (z0, ⟨z1, z2, z3, z4, z5, z6, z7, z8⟩) := List.getElem?_set_self (by rw [putTo_length (by omega)]; exact h2)
  rw [← hl] at h1
  refine ⟨h1.cell rfl i _ hat 1 _ rfl, h1.loose _, fun z => ⟨?_, h2⟩⟩
  have st := h1.stored i _ (z0, ⟨z, z2, z3, z4, z5, z6, z7, z8⟩) hat 1 (by decide) (.int .i64 (z)) rfl
  rw [List.set_set, hl] at st
  exact st
theorem RMI.at2 {B : Nat} {w0 X : World} {g cap k i : Nat} {l : List Itm} {z0 z1 z2 z3 z4 z5 : Int} {z6 z7 z8 : ByteArray} (h : RMI B w0 X g cap k l i (z0, ⟨z1, z2, z3, z4, z5, z6, z7, z8⟩)) : X.cell? ⟨g, i * 9 + 2, none⟩ = some (.int .i64 (z2)) ∧ X.frozen? ⟨g, i * 9 + 2, none⟩ = false ∧ ∀ z : Int, RMI B w0 (X.setCell ⟨g, i * 9 + 2, none⟩ (.int .i64 (z))) g cap k l i (z0, ⟨z1, z, z3, z4, z5, z6, z7, z8⟩) := by
  obtain ⟨h1, h2⟩ := h
  have hl : ((putTo (markI k) l i).set i (z0, ⟨z1, z2, z3, z4, z5, z6, z7, z8⟩)).length = l.length := by rw [List.length_set]; exact putTo_length (by omega)
  have hat : ((putTo (markI k) l i).set i (z0, ⟨z1, z2, z3, z4, z5, z6, z7, z8⟩))[i]? = some (z0, ⟨z1, z2, z3, z4, z5, z6, z7, z8⟩) := List.getElem?_set_self (by rw [putTo_length (by omega)]; exact h2)
  rw [← hl] at h1
  refine ⟨h1.cell rfl i _ hat 2 _ rfl, h1.loose _, fun z => ⟨?_, h2⟩⟩
  have st := h1.stored i _ (z0, ⟨z1, z, z3, z4, z5, z6, z7, z8⟩) hat 2 (by decide) (.int .i64 (z)) rfl
  rw [List.set_set, hl] at st
  exact st
theorem RMI.at3 {B : Nat} {w0 X : World} {g cap k i : Nat} {l : List Itm} {z0 z1 z2 z3 z4 z5 : Int} {z6 z7 z8 : ByteArray} (h : RMI B w0 X g cap k l i (z0, ⟨z1, z2, z3, z4, z5, z6, z7, z8⟩)) : X.cell? ⟨g, i * 9 + 3, none⟩ = some (.int .i64 (z3)) ∧ X.frozen? ⟨g, i * 9 + 3, none⟩ = false ∧ ∀ z : Int, RMI B w0 (X.setCell ⟨g, i * 9 + 3, none⟩ (.int .i64 (z))) g cap k l i (z0, ⟨z1, z2, z, z4, z5, z6, z7, z8⟩) := by
  obtain ⟨h1, h2⟩ := h
  have hl : ((putTo (markI k) l i).set i (z0, ⟨z1, z2, z3, z4, z5, z6, z7, z8⟩)).length = l.length := by rw [List.length_set]; exact putTo_length (by omega)
  have hat : ((putTo (markI k) l i).set i (z0, ⟨z1, z2, z3, z4, z5, z6, z7, z8⟩))[i]? = some (z0, ⟨z1, z2, z3, z4, z5, z6, z7, z8⟩) := List.getElem?_set_self (by rw [putTo_length (by omega)]; exact h2)
  rw [← hl] at h1
  refine ⟨h1.cell rfl i _ hat 3 _ rfl, h1.loose _, fun z => ⟨?_, h2⟩⟩
  have st := h1.stored i _ (z0, ⟨z1, z2, z, z4, z5, z6, z7, z8⟩) hat 3 (by decide) (.int .i64 (z)) rfl
  rw [List.set_set, hl] at st
  exact st
theorem RMI.at4 {B : Nat} {w0 X : World} {g cap k i : Nat} {l : List Itm} {z0 z1 z2 z3 z4 z5 : Int} {z6 z7 z8 : ByteArray} (h : RMI B w0 X g cap k l i (z0, ⟨z1, z2, z3, z4, z5, z6, z7, z8⟩)) : X.cell? ⟨g, i * 9 + 4, none⟩ = some (.int .i64 (z4)) ∧ X.frozen? ⟨g, i * 9 + 4, none⟩ = false ∧ ∀ z : Int, RMI B w0 (X.setCell ⟨g, i * 9 + 4, none⟩ (.int .i64 (z))) g cap k l i (z0, ⟨z1, z2, z3, z, z5, z6, z7, z8⟩) := by
  obtain ⟨h1, h2⟩ := h
  have hl : ((putTo (markI k) l i).set i (z0, ⟨z1, z2, z3, z4, z5, z6, z7, z8⟩)).length = l.length := by rw [List.length_set]; exact putTo_length (by omega)
  have hat : ((putTo (markI k) l i).set i (z0, ⟨z1, z2, z3, z4, z5, z6, z7, z8⟩))[i]? = some (z0, ⟨z1, z2, z3, z4, z5, z6, z7, z8⟩) := List.getElem?_set_self (by rw [putTo_length (by omega)]; exact h2)
  rw [← hl] at h1
  refine ⟨h1.cell rfl i _ hat 4 _ rfl, h1.loose _, fun z => ⟨?_, h2⟩⟩
  have st := h1.stored i _ (z0, ⟨z1, z2, z3, z, z5, z6, z7, z8⟩) hat 4 (by decide) (.int .i64 (z)) rfl
  rw [List.set_set, hl] at st
  exact st
theorem RMI.at5 {B : Nat} {w0 X : World} {g cap k i : Nat} {l : List Itm} {z0 z1 z2 z3 z4 z5 : Int} {z6 z7 z8 : ByteArray} (h : RMI B w0 X g cap k l i (z0, ⟨z1, z2, z3, z4, z5, z6, z7, z8⟩)) : X.cell? ⟨g, i * 9 + 5, none⟩ = some (.int .i64 (z5)) ∧ X.frozen? ⟨g, i * 9 + 5, none⟩ = false ∧ ∀ z : Int, RMI B w0 (X.setCell ⟨g, i * 9 + 5, none⟩ (.int .i64 (z))) g cap k l i (z0, ⟨z1, z2, z3, z4, z, z6, z7, z8⟩) := by
  obtain ⟨h1, h2⟩ := h
  have hl : ((putTo (markI k) l i).set i (z0, ⟨z1, z2, z3, z4, z5, z6, z7, z8⟩)).length = l.length := by rw [List.length_set]; exact putTo_length (by omega)
  have hat : ((putTo (markI k) l i).set i (z0, ⟨z1, z2, z3, z4, z5, z6, z7, z8⟩))[i]? = some (z0, ⟨z1, z2, z3, z4, z5, z6, z7, z8⟩) := List.getElem?_set_self (by rw [putTo_length (by omega)]; exact h2)
  rw [← hl] at h1
  refine ⟨h1.cell rfl i _ hat 5 _ rfl, h1.loose _, fun z => ⟨?_, h2⟩⟩
  have st := h1.stored i _ (z0, ⟨z1, z2, z3, z4, z, z6, z7, z8⟩) hat 5 (by decide) (.int .i64 (z)) rfl
  rw [List.set_set, hl] at st
  exact st
theorem RMI.at6 {B : Nat} {w0 X : World} {g cap k i : Nat} {l : List Itm} {z0 z1 z2 z3 z4 z5 : Int} {z6 z7 z8 : ByteArray} (h : RMI B w0 X g cap k l i (z0, ⟨z1, z2, z3, z4, z5, z6, z7, z8⟩)) : X.cell? ⟨g, i * 9 + 6, none⟩ = some (.string (z6)) ∧ X.frozen? ⟨g, i * 9 + 6, none⟩ = false ∧ ∀ z : ByteArray, RMI B w0 (X.setCell ⟨g, i * 9 + 6, none⟩ (.string (z))) g cap k l i (z0, ⟨z1, z2, z3, z4, z5, z, z7, z8⟩) := by
  obtain ⟨h1, h2⟩ := h
  have hl : ((putTo (markI k) l i).set i (z0, ⟨z1, z2, z3, z4, z5, z6, z7, z8⟩)).length = l.length := by rw [List.length_set]; exact putTo_length (by omega)
  have hat : ((putTo (markI k) l i).set i (z0, ⟨z1, z2, z3, z4, z5, z6, z7, z8⟩))[i]? = some (z0, ⟨z1, z2, z3, z4, z5, z6, z7, z8⟩) := List.getElem?_set_self (by rw [putTo_length (by omega)]; exact h2)
  rw [← hl] at h1
  refine ⟨h1.cell rfl i _ hat 6 _ rfl, h1.loose _, fun z => ⟨?_, h2⟩⟩
  have st := h1.stored i _ (z0, ⟨z1, z2, z3, z4, z5, z, z7, z8⟩) hat 6 (by decide) (.string (z)) rfl
  rw [List.set_set, hl] at st
  exact st
theorem RMI.at7 {B : Nat} {w0 X : World} {g cap k i : Nat} {l : List Itm} {z0 z1 z2 z3 z4 z5 : Int} {z6 z7 z8 : ByteArray} (h : RMI B w0 X g cap k l i (z0, ⟨z1, z2, z3, z4, z5, z6, z7, z8⟩)) : X.cell? ⟨g, i * 9 + 7, none⟩ = some (.string (z7)) ∧ X.frozen? ⟨g, i * 9 + 7, none⟩ = false ∧ ∀ z : ByteArray, RMI B w0 (X.setCell ⟨g, i * 9 + 7, none⟩ (.string (z))) g cap k l i (z0, ⟨z1, z2, z3, z4, z5, z6, z, z8⟩) := by
  obtain ⟨h1, h2⟩ := h
  have hl : ((putTo (markI k) l i).set i (z0, ⟨z1, z2, z3, z4, z5, z6, z7, z8⟩)).length = l.length := by rw [List.length_set]; exact putTo_length (by omega)
  have hat : ((putTo (markI k) l i).set i (z0, ⟨z1, z2, z3, z4, z5, z6, z7, z8⟩))[i]? = some (z0, ⟨z1, z2, z3, z4, z5, z6, z7, z8⟩) := List.getElem?_set_self (by rw [putTo_length (by omega)]; exact h2)
  rw [← hl] at h1
  refine ⟨h1.cell rfl i _ hat 7 _ rfl, h1.loose _, fun z => ⟨?_, h2⟩⟩
  have st := h1.stored i _ (z0, ⟨z1, z2, z3, z4, z5, z6, z, z8⟩) hat 7 (by decide) (.string (z)) rfl
  rw [List.set_set, hl] at st
  exact st
theorem RMI.at8 {B : Nat} {w0 X : World} {g cap k i : Nat} {l : List Itm} {z0 z1 z2 z3 z4 z5 : Int} {z6 z7 z8 : ByteArray} (h : RMI B w0 X g cap k l i (z0, ⟨z1, z2, z3, z4, z5, z6, z7, z8⟩)) : X.cell? ⟨g, i * 9 + 8, none⟩ = some (.string (z8)) ∧ X.frozen? ⟨g, i * 9 + 8, none⟩ = false ∧ ∀ z : ByteArray, RMI B w0 (X.setCell ⟨g, i * 9 + 8, none⟩ (.string (z))) g cap k l i (z0, ⟨z1, z2, z3, z4, z5, z6, z7, z⟩) := by
  obtain ⟨h1, h2⟩ := h
  have hl : ((putTo (markI k) l i).set i (z0, ⟨z1, z2, z3, z4, z5, z6, z7, z8⟩)).length = l.length := by rw [List.length_set]; exact putTo_length (by omega)
  have hat : ((putTo (markI k) l i).set i (z0, ⟨z1, z2, z3, z4, z5, z6, z7, z8⟩))[i]? = some (z0, ⟨z1, z2, z3, z4, z5, z6, z7, z8⟩) := List.getElem?_set_self (by rw [putTo_length (by omega)]; exact h2)
  rw [← hl] at h1
  refine ⟨h1.cell rfl i _ hat 8 _ rfl, h1.loose _, fun z => ⟨?_, h2⟩⟩
  have st := h1.stored i _ (z0, ⟨z1, z2, z3, z4, z5, z6, z7, z⟩) hat 8 (by decide) (.string (z)) rfl
  rw [List.set_set, hl] at st
  exact st

set_option maxRecDepth 100000 in
set_option maxHeartbeats 4000000 in
theorem markItemS_put (l : List Itm) (v : Value) (k B : Nat) (w0 w : World) (h : RBuf itE B w0 w v l) (hk : 1 ≤ k) (hk2 : k + 9 * l.length ≤ 1099511627776) :
    Calls Tryz.prog 11 #[v, .int .i64 (k : Int)] w fun e w' => e = .returned (.int .i64 ((k + 9 * l.length : Nat) : Int)) ∧ RBuf itE B w0 w' v (marksI k l.length) ∧ w.grownBy w' v.ownBlock := by
  rcases h.own.2 with ⟨rfl, h0⟩ | ⟨g, cap, cur, rfl, hg, hh, hnc, hcp, hcs, htake⟩
  · obtain rfl := List.length_eq_zero_iff.1 h0
    go_enter Tryz.func11, Tryz.ntmps11
    go_wp2
    go_loop [1, 5] (fun kv iv => kv = .int .i64 (k : Int) ∧ iv = .int .i64 0) (fun _ _ => 0)
    case atStart => exact ⟨rfl, rfl⟩
    case round =>
      obtain ⟨rfl, rfl⟩ := hrel
      go_wp2
      go_ret
      exact ⟨rfl, h, World.grownBy.refl _ _⟩
  · clear hh hcs htake hcp
    have hle : l.length ≤ 1099511627776 := by omega
    go_enter Tryz.func11, Tryz.ntmps11
    go_wp2
    go_loopw [1, 5] (fun kv iv wr => ∃ i : Nat, i ≤ l.length ∧ iv = .int .i64 (i : Int) ∧ kv = .int .i64 ((k + 9 * i : Nat) : Int) ∧ RBuf itE B w0 wr (.slice (some ⟨g, 0, none⟩) l.length cap) (putTo (markI k) l i) ∧ w.grownBy wr (some g)) (fun _ iv _ => l.length - (intOf iv).toNat)
    case atStart => exact ⟨0, by omega, rfl, rfl, by rw [putTo_zero]; exact h, World.grownBy.refl _ _⟩
    case round =>
      obtain ⟨i, hi, rfl, rfl, hbr, hG⟩ := hrel
      by_cases hlt : i < l.length
      · have hi0 : (0 : Int) ≤ (i : Int) := by omega
        have hi1 : (i : Int) < (l.length : Int) := by omega
        obtain ⟨K, hK⟩ : ∃ K : Nat, K = k + 9 * i := ⟨_, rfl⟩
        have HK := Lib.hid hK
        rw [← hK]
        have hK1 : K + 9 ≤ 4611686018427387904 := by omega
        have hK2 : 1 ≤ K := by omega
        clear hK
        have R := RMI.start hbr hlt
        generalize l[i] = x at R
        obtain ⟨z0, z1, z2, z3, z4, z5, z6, z7, z8⟩ := x
        obtain ⟨c0, f0, R0⟩ := R.at0
        have R0' : RMI B w0 (wr.setCell ⟨g, i * 9, none⟩ (.int .i64 (K : Int))) g cap k l i ((K : Int), ⟨z1, z2, z3, z4, z5, z6, z7, z8⟩) := R0 _
        have G0 : w.grownBy (wr.setCell ⟨g, i * 9, none⟩ (.int .i64 (K : Int))) (some g) := hG.trans (grownBy_store _ g (i * 9) (.int .i64 (K : Int)))
        obtain ⟨c1, f1, R1⟩ := R0'.at1
        have R1' : RMI B w0 ((wr.setCell ⟨g, i * 9, none⟩ (.int .i64 (K : Int))).setCell ⟨g, i * 9 + 1, none⟩ (.int .i64 ((K : Int) + 1))) g cap k l i ((K : Int), ⟨((K : Int) + 1), z2, z3, z4, z5, z6, z7, z8⟩) := R1 _
        have G1 : w.grownBy ((wr.setCell ⟨g, i * 9, none⟩ (.int .i64 (K : Int))).setCell ⟨g, i * 9 + 1, none⟩ (.int .i64 ((K : Int) + 1))) (some g) := G0.trans (grownBy_store _ g (i * 9 + 1) (.int .i64 ((K : Int) + 1)))
        obtain ⟨c2, f2, R2⟩ := R1'.at2
        have R2' : RMI B w0 (((wr.setCell ⟨g, i * 9, none⟩ (.int .i64 (K : Int))).setCell ⟨g, i * 9 + 1, none⟩ (.int .i64 ((K : Int) + 1))).setCell ⟨g, i * 9 + 2, none⟩ (.int .i64 ((K : Int) + 1 + 1))) g cap k l i ((K : Int), ⟨((K : Int) + 1), ((K : Int) + 1 + 1), z3, z4, z5, z6, z7, z8⟩) := R2 _
        have G2 : w.grownBy (((wr.setCell ⟨g, i * 9, none⟩ (.int .i64 (K : Int))).setCell ⟨g, i * 9 + 1, none⟩ (.int .i64 ((K : Int) + 1))).setCell ⟨g, i * 9 + 2, none⟩ (.int .i64 ((K : Int) + 1 + 1))) (some g) := G1.trans (grownBy_store _ g (i * 9 + 2) (.int .i64 ((K : Int) + 1 + 1)))
        obtain ⟨c3, f3, R3⟩ := R2'.at3
        have R3' : RMI B w0 ((((wr.setCell ⟨g, i * 9, none⟩ (.int .i64 (K : Int))).setCell ⟨g, i * 9 + 1, none⟩ (.int .i64 ((K : Int) + 1))).setCell ⟨g, i * 9 + 2, none⟩ (.int .i64 ((K : Int) + 1 + 1))).setCell ⟨g, i * 9 + 3, none⟩ (.int .i64 ((K : Int) + 1 + 1 + 1))) g cap k l i ((K : Int), ⟨((K : Int) + 1), ((K : Int) + 1 + 1), ((K : Int) + 1 + 1 + 1), z4, z5, z6, z7, z8⟩) := R3 _
        have G3 : w.grownBy ((((wr.setCell ⟨g, i * 9, none⟩ (.int .i64 (K : Int))).setCell ⟨g, i * 9 + 1, none⟩ (.int .i64 ((K : Int) + 1))).setCell ⟨g, i * 9 + 2, none⟩ (.int .i64 ((K : Int) + 1 + 1))).setCell ⟨g, i * 9 + 3, none⟩ (.int .i64 ((K : Int) + 1 + 1 + 1))) (some g) := G2.trans (grownBy_store _ g (i * 9 + 3) (.int .i64 ((K : Int) + 1 + 1 + 1)))
        obtain ⟨c4, f4, R4⟩ := R3'.at4
        have R4' : RMI B w0 (((((wr.setCell ⟨g, i * 9, none⟩ (.int .i64 (K : Int))).setCell ⟨g, i * 9 + 1, none⟩ (.int .i64 ((K : Int) + 1))).setCell ⟨g, i * 9 + 2, none⟩ (.int .i64 ((K : Int) + 1 + 1))).setCell ⟨g, i * 9 + 3, none⟩ (.int .i64 ((K : Int) + 1 + 1 + 1))).setCell ⟨g, i * 9 + 4, none⟩ (.int .i64 ((K : Int) + 1 + 1 + 1 + 1))) g cap k l i ((K : Int), ⟨((K : Int) + 1), ((K : Int) + 1 + 1), ((K : Int) + 1 + 1 + 1), ((K : Int) + 1 + 1 + 1 + 1), z5, z6, z7, z8⟩) := R4 _
        have G4 : w.grownBy (((((wr.setCell ⟨g, i * 9, none⟩ (.int .i64 (K : Int))).setCell ⟨g, i * 9 + 1, none⟩ (.int .i64 ((K : Int) + 1))).setCell ⟨g, i * 9 + 2, none⟩ (.int .i64 ((K : Int) + 1 + 1))).setCell ⟨g, i * 9 + 3, none⟩ (.int .i64 ((K : Int) + 1 + 1 + 1))).setCell ⟨g, i * 9 + 4, none⟩ (.int .i64 ((K : Int) + 1 + 1 + 1 + 1))) (some g) := G3.trans (grownBy_store _ g (i * 9 + 4) (.int .i64 ((K : Int) + 1 + 1 + 1 + 1)))
        obtain ⟨c5, f5, R5⟩ := R4'.at5
        have R5' : RMI B w0 ((((((wr.setCell ⟨g, i * 9, none⟩ (.int .i64 (K : Int))).setCell ⟨g, i * 9 + 1, none⟩ (.int .i64 ((K : Int) + 1))).setCell ⟨g, i * 9 + 2, none⟩ (.int .i64 ((K : Int) + 1 + 1))).setCell ⟨g, i * 9 + 3, none⟩ (.int .i64 ((K : Int) + 1 + 1 + 1))).setCell ⟨g, i * 9 + 4, none⟩ (.int .i64 ((K : Int) + 1 + 1 + 1 + 1))).setCell ⟨g, i * 9 + 5, none⟩ (.int .i64 ((K : Int) + 1 + 1 + 1 + 1 + 1))) g cap k l i ((K : Int), ⟨((K : Int) + 1), ((K : Int) + 1 + 1), ((K : Int) + 1 + 1 + 1), ((K : Int) + 1 + 1 + 1 + 1), ((K : Int) + 1 + 1 + 1 + 1 + 1), z6, z7, z8⟩) := R5 _
        have G5 : w.grownBy ((((((wr.setCell ⟨g, i * 9, none⟩ (.int .i64 (K : Int))).setCell ⟨g, i * 9 + 1, none⟩ (.int .i64 ((K : Int) + 1))).setCell ⟨g, i * 9 + 2, none⟩ (.int .i64 ((K : Int) + 1 + 1))).setCell ⟨g, i * 9 + 3, none⟩ (.int .i64 ((K : Int) + 1 + 1 + 1))).setCell ⟨g, i * 9 + 4, none⟩ (.int .i64 ((K : Int) + 1 + 1 + 1 + 1))).setCell ⟨g, i * 9 + 5, none⟩ (.int .i64 ((K : Int) + 1 + 1 + 1 + 1 + 1))) (some g) := G4.trans (grownBy_store _ g (i * 9 + 5) (.int .i64 ((K : Int) + 1 + 1 + 1 + 1 + 1)))
        clear R0 R1 R2 R3 R4 R5 R0' R1' R2' R3' R4' G0 G1 G2 G3 G4 R hG hbr
        go_wp2_with fail
        clear c0 f0 c1 f1 c2 f2 c3 f3 c4 f4 c5 f5
        generalize ((((((wr.setCell ⟨g, i * 9, none⟩ (.int .i64 (K : Int))).setCell ⟨g, i * 9 + 1, none⟩ (.int .i64 ((K : Int) + 1))).setCell ⟨g, i * 9 + 2, none⟩ (.int .i64 ((K : Int) + 1 + 1))).setCell ⟨g, i * 9 + 3, none⟩ (.int .i64 ((K : Int) + 1 + 1 + 1))).setCell ⟨g, i * 9 + 4, none⟩ (.int .i64 ((K : Int) + 1 + 1 + 1 + 1))).setCell ⟨g, i * 9 + 5, none⟩ (.int .i64 ((K : Int) + 1 + 1 + 1 + 1 + 1))) = X5 at R5' G5 ⊢
        refine (markText_at _ (K + 6) _ (by omega) (by omega) (by omega)).mono ?_
        rintro e w6 ⟨rfl, k6⟩
        obtain ⟨c6, f6, R6⟩ := (R5'.later k6).at6
        have R6' := R6 (mark (K + 6))
        have G6 := (G5.trans (grownBy_of_below k6 (some g))).trans (grownBy_store w6 g (i * 9 + 6) (.string (mark (K + 6))))
        clear R5' G5 k6 R6
        go_wp2_with fail
        clear c6 f6
        generalize w6.setCell ⟨g, i * 9 + 6, none⟩ (.string (mark (K + 6))) = X6 at R6' G6 ⊢
        refine (markText_at _ (K + 7) _ (by omega) (by omega) (by omega)).mono ?_
        rintro e w7 ⟨rfl, k7⟩
        obtain ⟨c7, f7, R7⟩ := (R6'.later k7).at7
        have R7' := R7 (mark (K + 7))
        have G7 := (G6.trans (grownBy_of_below k7 (some g))).trans (grownBy_store w7 g (i * 9 + 7) (.string (mark (K + 7))))
        clear R6' G6 k7 R7
        go_wp2_with fail
        clear c7 f7
        generalize w7.setCell ⟨g, i * 9 + 7, none⟩ (.string (mark (K + 7))) = X7 at R7' G7 ⊢
        refine (markText_at _ (K + 8) _ (by omega) (by omega) (by omega)).mono ?_
        rintro e w8 ⟨rfl, k8⟩
        obtain ⟨c8, f8, R8⟩ := (R7'.later k8).at8
        have R8' := R8 (mark (K + 8))
        have G8 := (G7.trans (grownBy_of_below k8 (some g))).trans (grownBy_store w8 g (i * 9 + 8) (.string (mark (K + 8))))
        clear R7' G7 k8 R8
        have RF := Lib.hid (R8'.done (by rw [HK.out]; rfl))
        have GF := Lib.hid G8
        clear R8' G8
        go_wp2
        exact ⟨⟨i + 1, by omega, by simp, by rw [HK.out]; first | go_num | (congr 1; omega), RF.out, GF.out⟩, by first | omega | (simp [intOf]; omega)⟩
      · have hfin : Hid (i = l.length) := by show i = l.length; omega
        go_wp2
        go_ret
        refine ⟨?_, ?_, hG⟩
        · rw [← hfin.out]; rfl
        · have := hbr
          rw [hfin.out, putTo_all] at this
          exact this

set_option maxRecDepth 100000 in
set_option maxHeartbeats 4000000 in
theorem heldItemS_any (n : Nat) (v : Value) (k : Nat) (w : World) (hb : Rows' itE w v (marksI k n)) (hk : 1 ≤ k) (hk2 : k + 9 * n ≤ 1099511627776) :
    Calls Tryz.prog 13 #[v, .int .i64 (k : Int)] w fun e w' => e = .returned (.int .i64 ((k + 9 * n : Nat) : Int)) ∧ Below w.heap.size w w' := by
  have hmn := marksI_length k n
  rcases hb.ways with ⟨h0, a, c, rfl⟩ | ⟨hne, g, off, cap, rfl, hca, hg, hcl⟩
  · obtain rfl : n = 0 := by rw [h0] at hmn; simpa using hmn.symm
    clear hb h0 hmn
    go_enter Tryz.func13, Tryz.ntmps13
    go_wp2
    go_loop [1, 5] (fun kv iv => kv = .int .i64 (k : Int) ∧ iv = .int .i64 0) (fun _ _ => 0)
    case atStart => exact ⟨rfl, rfl⟩
    case round =>
      obtain ⟨rfl, rfl⟩ := hrel
      go_wp2
      go_ret
      exact ⟨rfl, Below.refl _ _⟩
  · rw [hmn] at *
    have HC := Lib.hid hcl
    clear hcl hb hne hmn
    go_enter Tryz.func13, Tryz.ntmps13
    go_wp2
    go_loopw [1, 5] (fun kv iv wr => ∃ i : Nat, i ≤ n ∧ iv = .int .i64 (i : Int) ∧ kv = .int .i64 ((k + 9 * i : Nat) : Int) ∧ Below w.heap.size w wr) (fun _ iv _ => n - (intOf iv).toNat)
    case atStart => exact ⟨0, by omega, rfl, rfl, Below.refl _ _⟩
    case round =>
      obtain ⟨i, hi, rfl, rfl, hbel⟩ := hrel
      by_cases hlt : i < n
      · have hi0 : (0 : Int) ≤ (i : Int) := by omega
        have hi1 : (i : Int) < (n : Int) := by omega
        obtain ⟨K, hK⟩ : ∃ K : Nat, K = k + 9 * i := ⟨_, rfl⟩
        have HK := Lib.hid hK
        obtain ⟨t6, ht60⟩ : ∃ t, mark (K + 6) = t := ⟨_, rfl⟩
        have ht6 := Lib.hid ht60
        obtain ⟨t7, ht70⟩ : ∃ t, mark (K + 7) = t := ⟨_, rfl⟩
        have ht7 := Lib.hid ht70
        obtain ⟨t8, ht80⟩ : ∃ t, mark (K + 8) = t := ⟨_, rfl⟩
        have ht8 := Lib.hid ht80
        have HS : Hid (∀ x, Below w.heap.size w x → x.cell? ⟨g, off + i * 9, none⟩ = some (.int .i64 (K : Int)) ∧ x.cell? ⟨g, off + i * 9 + 1, none⟩ = some (.int .i64 ((K : Int) + 1)) ∧ x.cell? ⟨g, off + i * 9 + 2, none⟩ = some (.int .i64 ((K : Int) + 1 + 1)) ∧ x.cell? ⟨g, off + i * 9 + 3, none⟩ = some (.int .i64 ((K : Int) + 1 + 1 + 1)) ∧ x.cell? ⟨g, off + i * 9 + 4, none⟩ = some (.int .i64 ((K : Int) + 1 + 1 + 1 + 1)) ∧ x.cell? ⟨g, off + i * 9 + 5, none⟩ = some (.int .i64 ((K : Int) + 1 + 1 + 1 + 1 + 1)) ∧ x.cell? ⟨g, off + i * 9 + 6, none⟩ = some (.string t6) ∧ x.cell? ⟨g, off + i * 9 + 7, none⟩ = some (.string t7) ∧ x.cell? ⟨g, off + i * 9 + 8, none⟩ = some (.string t8)) := by
          intro x hx
          obtain ⟨c0, c1, c2, c3, c4, c5, c6, c7, c8⟩ := it_cells HC.out hg hx i _ (marksI_at hlt)
          simp only [markI] at c0 c1 c2 c3 c4 c5 c6 c7 c8
          rw [← hK] at c0 c1 c2 c3 c4 c5 c6 c7 c8
          rw [ht60] at c6
          rw [ht70] at c7
          rw [ht80] at c8
          exact ⟨c0, by rw [c1]; first | rfl | (congr 2; omega), by rw [c2]; first | rfl | (congr 2; omega), by rw [c3]; first | rfl | (congr 2; omega), by rw [c4]; first | rfl | (congr 2; omega), by rw [c5]; first | rfl | (congr 2; omega), c6, c7, c8⟩
        rw [← hK]
        have hK1 : K + 9 ≤ 4611686018427387904 := by omega
        have hK2 : 1 ≤ K := by omega
        clear hK ht60 ht70 ht80
        obtain ⟨c0, c1, c2, c3, c4, c5, c6, c7, c8⟩ := HS.out _ hbel
        go_wp2
        have HT6 : Hid (∀ x, Below wr.drew.heap.size wr.drew x → x.cell? ⟨g, off + i * 9 + 6, none⟩ = some (.string t6) ∧ Below w.heap.size w x) := fun x hx => by
          have hx2 : Below w.heap.size w x := hbel.drew.trans (hx.mono hbel.size)
          obtain ⟨c0, c1, c2, c3, c4, c5, c6, c7, c8⟩ := HS.out _ hx2
          exact ⟨c6, hx2⟩
        go_region_held3 (fun x => x.cell? ⟨g, off + i * 9 + 6, none⟩ = some (.string t6))
          (first | go_keep | exact (HT6.out _ hb6).1)
          (first | (go_at_call 24; refine (markText_at _ (K + 6) _ (by omega) (by omega) (by omega)).mono ?_; rintro e w6 ⟨rfl, hb6⟩; rw [ht6.out]))
        all_goals
          have bel6 := (HT6.out _ hb6).2
          obtain ⟨c0, c1, c2, c3, c4, c5, c6, c7, c8⟩ := HS.out _ bel6
          clear HT6 hb6
          go_wp2
          have HT7 : Hid (∀ x, Below w6.drew.heap.size w6.drew x → x.cell? ⟨g, off + i * 9 + 7, none⟩ = some (.string t7) ∧ Below w.heap.size w x) := fun x hx => by
            have hx2 : Below w.heap.size w x := bel6.drew.trans (hx.mono bel6.size)
            obtain ⟨c0, c1, c2, c3, c4, c5, c6, c7, c8⟩ := HS.out _ hx2
            exact ⟨c7, hx2⟩
          go_region_held3 (fun x => x.cell? ⟨g, off + i * 9 + 7, none⟩ = some (.string t7))
            (first | go_keep | exact (HT7.out _ hb7).1)
            (first | (go_at_call 24; refine (markText_at _ (K + 7) _ (by omega) (by omega) (by omega)).mono ?_; rintro e w7 ⟨rfl, hb7⟩; rw [ht7.out]))
          all_goals
            have bel7 := (HT7.out _ hb7).2
            obtain ⟨c0, c1, c2, c3, c4, c5, c6, c7, c8⟩ := HS.out _ bel7
            clear HT7 hb7
            go_wp2
            have HT8 : Hid (∀ x, Below w7.drew.heap.size w7.drew x → x.cell? ⟨g, off + i * 9 + 8, none⟩ = some (.string t8) ∧ Below w.heap.size w x) := fun x hx => by
              have hx2 : Below w.heap.size w x := bel7.drew.trans (hx.mono bel7.size)
              obtain ⟨c0, c1, c2, c3, c4, c5, c6, c7, c8⟩ := HS.out _ hx2
              exact ⟨c8, hx2⟩
            go_region_held3 (fun x => x.cell? ⟨g, off + i * 9 + 8, none⟩ = some (.string t8))
              (first | go_keep | exact (HT8.out _ hb8).1)
              (first | (go_at_call 24; refine (markText_at _ (K + 8) _ (by omega) (by omega) (by omega)).mono ?_; rintro e w8 ⟨rfl, hb8⟩; rw [ht8.out]))
            all_goals
              have bel8 := (HT8.out _ hb8).2
              go_wp2
              go_roundw
              case rel => exact ⟨i + 1, by omega, by go_num, by rw [HK.out]; go_num, bel8⟩
              case measure => simp [intOf]; omega
      · have hfin : Hid (i = n) := by show i = n; omega
        go_wp2
        go_ret
        exact ⟨by rw [← hfin.out]; rfl, hbel⟩

end Go.Proofs.YtahebgceoidebabGreat

/- Records and items that come in as arguments. -/
namespace Go.Proofs.YtahebgceoidebabGreat
open Go.RowKit Go.ChangeShapes Go.WideShapes Go.ChangeAt Go.Deep Go.Joins

theorem list8 {α : Type} {l : List α} (h : l.length = 8) : ∃ v0 v1 v2 v3 v4 v5 v6 v7, l = [v0, v1, v2, v3, v4, v5, v6, v7] := by
  match l, h with
  | [v0, v1, v2, v3, v4, v5, v6, v7], _ => exact ⟨v0, v1, v2, v3, v4, v5, v6, v7, rfl⟩
theorem list9 {α : Type} {l : List α} (h : l.length = 9) : ∃ c v0 v1 v2 v3 v4 v5 v6 v7, l = c :: [v0, v1, v2, v3, v4, v5, v6, v7] := by
  match l, h with
  | [c, v0, v1, v2, v3, v4, v5, v6, v7], _ => exact ⟨c, v0, v1, v2, v3, v4, v5, v6, v7, rfl⟩

section
variable {H : Type} {enc : TypeId × Value → H} {P : Program} {w : World} {base : Nat} {spare : Nat → Bool} {held : Bool}

/-- The eight fields of a struct, each of one cell. -/
theorem trod_eight {t : TypeId} {f0 f1 f2 f3 f4 f5 f6 f7 : Field} {fuel : Nat} {cs : List Value} {x : DataW H × List MemPlace} (hs : P.underlying t = some (.struct #[f0, f1, f2, f3, f4, f5, f6, f7])) (hone : oneCellFields P #[f0, f1, f2, f3, f4, f5, f6, f7] = true) (hC : P.cellsOf t = 8)
    (h : DataW.trod enc P w base spare held fuel t cs = some x) :
    ∃ (v0 v1 v2 v3 v4 v5 v6 v7 : Value) (n : Nat), cs = [v0, v1, v2, v3, v4, v5, v6, v7] ∧ (∃ y, DataW.trod enc P w base spare held n f0.type [v0] = some y) ∧ (∃ y, DataW.trod enc P w base spare held n f1.type [v1] = some y) ∧ (∃ y, DataW.trod enc P w base spare held n f2.type [v2] = some y) ∧ (∃ y, DataW.trod enc P w base spare held n f3.type [v3] = some y) ∧ (∃ y, DataW.trod enc P w base spare held n f4.type [v4] = some y) ∧ (∃ y, DataW.trod enc P w base spare held n f5.type [v5] = some y) ∧ (∃ y, DataW.trod enc P w base spare held n f6.type [v6] = some y) ∧ (∃ y, DataW.trod enc P w base spare held n f7.type [v7] = some y) := by
  obtain ⟨xs, n, _, _, hl, hlen, hf⟩ := DataW.trod_struct hs h
  obtain ⟨v0, v1, v2, v3, v4, v5, v6, v7, rfl⟩ := list8 (hl.trans hC)
  have g : ∀ (i : Nat) (f : Field) (v : Value), #[f0, f1, f2, f3, f4, f5, f6, f7][i]? = some f → [v0, v1, v2, v3, v4, v5, v6, v7][i]? = some v → ∃ y, DataW.trod enc P w base spare held n f.type [v] = some y := by
    intro i f v hi hv
    obtain ⟨o, k⟩ := hone_of hone i f hi
    have hx := hf i f hi
    rw [o, k] at hx
    have e : (List.drop i [v0, v1, v2, v3, v4, v5, v6, v7]).take 1 = [v] := by
      rw [List.take_one, List.head?_drop, hv]; rfl
    rw [e] at hx
    have hi' : i < xs.length := by
      rw [hlen]
      exact (Array.getElem?_eq_some_iff.1 hi).1
    exact ⟨xs[i], by first | (rw [hx]; exact List.getElem?_eq_getElem hi') | (rw [List.getElem?_eq_getElem hi'] at hx; exact hx) | simpa [hi'] using hx⟩
  exact ⟨v0, v1, v2, v3, v4, v5, v6, v7, n, rfl, g 0 f0 v0 rfl rfl, g 1 f1 v1 rfl rfl, g 2 f2 v2 rfl rfl, g 3 f3 v3 rfl rfl, g 4 f4 v4 rfl rfl, g 5 f5 v5 rfl rfl, g 6 f6 v6 rfl rfl, g 7 f7 v7 rfl rfl⟩
end

/-- A record that came in: its texts are texts. -/
def RIn (v : Value) (r : Rc) : Prop := v = r.v ∧ r.user.size ≤ 9223372036854775807 ∧ r.name.size ≤ 9223372036854775807 ∧ r.text.size ≤ 9223372036854775807
/-- An item that came in. -/
def IIn (v : Value) (seq : Int) (r : Rc) : Prop := v = itV seq r ∧ r.user.size ≤ 9223372036854775807 ∧ r.name.size ≤ 9223372036854775807 ∧ r.text.size ≤ 9223372036854775807

section
variable {H : Type} {enc : TypeId × Value → H} {W : World}

set_option maxRecDepth 100000 in
theorem rec_form {fuel : Nat} {cs : List Value} {x : DataW H × List MemPlace} (h : DataW.trod enc Tryz.prog W 0 (fun _ => true) true fuel 36 cs = some x) :
    ∃ r : Rc, cs = r.cs.toList ∧ r.user.size ≤ 9223372036854775807 ∧ r.name.size ≤ 9223372036854775807 ∧ r.text.size ≤ 9223372036854775807 := by
  obtain ⟨v0, v1, v2, v3, v4, v5, v6, v7, n, rfl, ⟨y0, h0⟩, ⟨y1, h1⟩, ⟨y2, h2⟩, ⟨y3, h3⟩, ⟨y4, h4⟩, ⟨y5, h5⟩, ⟨y6, h6⟩, ⟨y7, h7⟩⟩ := trod_eight Tryz.underlying36 (by kernel_rfl) (by kernel_rfl) h
  obtain ⟨k0, hk0, _, _⟩ := DataW.trod_int Tryz.underlying3 h0
  obtain ⟨k1, hk1, _, _⟩ := DataW.trod_int Tryz.underlying3 h1
  obtain ⟨k2, hk2, _, _⟩ := DataW.trod_int Tryz.underlying3 h2
  obtain ⟨k3, hk3, _, _⟩ := DataW.trod_int Tryz.underlying3 h3
  obtain ⟨k4, hk4, _, _⟩ := DataW.trod_int Tryz.underlying3 h4
  obtain ⟨s5, hk5, _, z5⟩ := DataW.trod_string Tryz.underlying9 h5
  obtain ⟨s6, hk6, _, z6⟩ := DataW.trod_string Tryz.underlying9 h6
  obtain ⟨s7, hk7, _, z7⟩ := DataW.trod_string Tryz.underlying9 h7
  simp at hk0 hk1 hk2 hk3 hk4 hk5 hk6 hk7
  have hml : maxLen ≤ 9223372036854775807 := by decide
  exact ⟨⟨k0, k1, k2, k3, k4, s5, s6, s7⟩, by rw [hk0, hk1, hk2, hk3, hk4, hk5, hk6, hk7]; rfl, Nat.le_trans z5 hml, Nat.le_trans z6 hml, Nat.le_trans z7 hml⟩

set_option maxRecDepth 100000 in
theorem open_Rec {b0 : Nat} {r : Reach} {v : Value} {d : DataW H} {p : List MemPlace} (hv : Value.okWide Tryz.prog W r b0 36 v) (h : DataW.Trod enc Tryz.prog W 0 (fun _ => true) true 36 v d p) : ∃ D : Rc, RIn v D := by
  obtain ⟨cs, rfl, hsz⟩ := okWide_struct Tryz.underlying36 hv
  obtain ⟨fuel, hf⟩ := h
  obtain ⟨D, hD, z⟩ := rec_form hf
  refine ⟨D, ?_, z⟩
  obtain ⟨l⟩ := cs
  simp [Value.cells] at hD
  rw [hD]; rfl

set_option maxRecDepth 100000 in
theorem open_Item {b0 : Nat} {r : Reach} {v : Value} {d : DataW H} {p : List MemPlace} (hv : Value.okWide Tryz.prog W r b0 38 v) (h : DataW.Trod enc Tryz.prog W 0 (fun _ => true) true 38 v d p) : ∃ (seq : Int) (D : Rc), IIn v seq D := by
  obtain ⟨cs, rfl, hsz⟩ := okWide_struct Tryz.underlying38 hv
  obtain ⟨fuel, hf⟩ := h
  have hC : Tryz.prog.cellsOf 38 = 9 := by kernel_rfl
  have hR : Tryz.prog.cellsOf 36 = 8 := by kernel_rfl
  have hN : Tryz.prog.cellsOf 3 = 1 := by kernel_rfl
  obtain ⟨l⟩ := cs
  obtain ⟨c, v0, v1, v2, v3, v4, v5, v6, v7, rfl⟩ := list9 (show l.length = 9 from hsz.trans hC)
  obtain ⟨y0, y1, n, _, _, h0, h1⟩ := trod_struct2 Tryz.underlying38 hf
  simp [Value.cells, hR, hN] at h0 h1
  obtain ⟨k0, hk0, _, _⟩ := DataW.trod_int Tryz.underlying3 h0
  obtain ⟨D, hD, z⟩ := rec_form h1
  simp at hk0
  refine ⟨k0, D, ?_, z⟩
  have e : [v0, v1, v2, v3, v4, v5, v6, v7] = D.cs.toList := hD
  show Value.agg ⟨c :: [v0, v1, v2, v3, v4, v5, v6, v7]⟩ = _
  rw [e, hk0]; rfl
end

end Go.Proofs.YtahebgceoidebabGreat

/- Lists of items that come in as an argument. -/
namespace Go.Proofs.YtahebgceoidebabGreat
open Go.RowKit Go.ChangeShapes Go.WideShapes Go.ChangeAt Go.Deep Go.Joins

/-- Items that came in: they can be read; their texts are texts. -/
def ItsIn (W : World) (v : Value) (l : List Itm) : Prop := Rows' litE W v l ∧ l.length ≤ 9223372036854775807 ∧ ∀ x ∈ l, x.2.user.size ≤ 9223372036854775807 ∧ x.2.name.size ≤ 9223372036854775807 ∧ x.2.text.size ≤ 9223372036854775807

instance : Inhabited Itm := ⟨(0, Rc.nil)⟩

section
variable {H : Type} {enc : TypeId × Value → H} {W : World}

set_option maxRecDepth 100000 in
theorem item_form {fuel : Nat} {l : List Value} {x : DataW H × List MemPlace} (hl : l.length = 9) (hf : DataW.trod enc Tryz.prog W 0 (fun _ => true) true fuel 38 l = some x) :
    ∃ y : Itm, l = litE.f y ∧ y.2.user.size ≤ 9223372036854775807 ∧ y.2.name.size ≤ 9223372036854775807 ∧ y.2.text.size ≤ 9223372036854775807 := by
  have hR : Tryz.prog.cellsOf 36 = 8 := by kernel_rfl
  have hN : Tryz.prog.cellsOf 3 = 1 := by kernel_rfl
  obtain ⟨c, v0, v1, v2, v3, v4, v5, v6, v7, rfl⟩ := list9 hl
  obtain ⟨y0, y1, n, _, _, h0, h1⟩ := trod_struct2 Tryz.underlying38 hf
  simp [hR, hN] at h0 h1
  obtain ⟨k0, hk0, _, _⟩ := DataW.trod_int Tryz.underlying3 h0
  obtain ⟨D, hD, z⟩ := rec_form h1
  simp at hk0
  refine ⟨(k0, D), ?_, z⟩
  rw [hD, hk0]; rfl

set_option maxRecDepth 100000 in
theorem items_of_trod {fuel : Nat} {v : Value} {x : DataW H × List MemPlace} (h : DataW.trod enc Tryz.prog W 0 (fun _ => true) true fuel 22 [v] = some x) : ∃ l : List Itm, ItsIn W v l := by
  have hC : Tryz.prog.cellsOf 38 = 9 := by kernel_rfl
  have hml : maxLen ≤ 9223372036854775807 := by decide
  rcases open_slice Tryz.underlying22 h with ⟨hv, _⟩ | ⟨a, len, cap, m, n, D, Pl, hv, _, hl, hm, hmm, _, hc⟩
  · simp at hv; subst hv
    exact ⟨[], .inl ⟨rfl, _, _, rfl⟩, by simp, by simp⟩
  · simp at hv; subst hv
    have hm2 : m = cap := by simpa using hmm
    have hex : ∀ i, i < len → ∃ y : Itm, (∀ k u, (litE.f y)[k]? = some u → W.cell? (a.add (i * 9 + k)) = some u) ∧ y.2.user.size ≤ 9223372036854775807 ∧ y.2.name.size ≤ 9223372036854775807 ∧ y.2.text.size ≤ 9223372036854775807 := by
      intro i hi
      obtain ⟨cs', h1, h2⟩ := hc i (by omega)
      rw [hC] at h1
      obtain ⟨_, hlen, hcell⟩ := World.cells?_some h1
      obtain ⟨y, hy, z⟩ := item_form hlen h2
      refine ⟨y, fun k u hu => ?_, z⟩
      have hk : k < 9 := by have h9 := (List.getElem?_eq_some_iff.1 hu).1; rw [litE.len y] at h9; exact h9
      have := hcell k hk
      rw [add_add] at this
      rw [this, hy]
      exact hu
    obtain ⟨l, hlen, hr, hp⟩ := rows_of_cells litE hl (fun i hi => by
      obtain ⟨y, hy, _⟩ := hex i hi
      exact ⟨y, hy⟩) (fun y => y.2.user.size ≤ 9223372036854775807 ∧ y.2.name.size ≤ 9223372036854775807 ∧ y.2.text.size ≤ 9223372036854775807) (fun i hi y hy => by
      obtain ⟨z, hz, hs⟩ := hex i hi
      have e6 := hy 6 _ rfl
      have e7 := hy 7 _ rfl
      have e8 := hy 8 _ rfl
      have g6 := hz 6 _ rfl
      have g7 := hz 7 _ rfl
      have g8 := hz 8 _ rfl
      change W.cell? (a.add (i * 9 + 6)) = _ at e6
      change W.cell? (a.add (i * 9 + 7)) = _ at e7
      change W.cell? (a.add (i * 9 + 8)) = _ at e8
      rw [g6] at e6
      rw [g7] at e7
      rw [g8] at e8
      simp at e6 e7 e8
      rw [← e6, ← e7, ← e8]
      exact hs)
    exact ⟨l, hr, by omega, hp⟩

set_option maxRecDepth 100000 in
theorem open_ItemS {b0 : Nat} {r : Reach} {v : Value} {d : DataW H} {p : List MemPlace} (hv : Value.okWide Tryz.prog W r b0 22 v) (h : DataW.Trod enc Tryz.prog W 0 (fun _ => true) true 22 v d p) : ∃ l : List Itm, ItsIn W v l := by
  obtain ⟨fuel, h⟩ := h
  obtain ⟨a0, len0, cap0, rfl⟩ := okWide_slice Tryz.underlying22 hv
  exact items_of_trod h
end

end Go.Proofs.YtahebgceoidebabGreat
