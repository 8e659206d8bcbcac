/- Lists of bools in the exact laws: a copy, two alike, marks, marks held; and one that comes in. -/
import Derived.Test.YtjfilicddnhniabCopyTo
import Derived.Test.YtjfilicddnhniabEncBo
import Derived.Test.YtjfilicddnhniabPuts
import Derived.Deep.Slices
import Derived.Deep.QuietTactic
import Derived.BigQuiet
import Derived.ProofKit
import Derived.Test.YtjfilicddnhniabRowsOf
import Derived.OpenShut
import Derived.Lib.Hide
import Derived.WalkSmall
namespace Go.Proofs.Ytjfilicddnhniab
open Go.RowKit Go.ChangeShapes Go.WideShapes Go.ChangeAt Go.Deep Go.Joins

set_option maxRecDepth 100000 in
set_option maxHeartbeats 1000000 in
theorem toBoolS_any (l : List Bool) (v : Value) (w : World) (hb : Rows' boE w v l) (hl : l.length ≤ 1048576) :
    Calls Try.prog 28 #[v] w fun e w' => ∃ v', e = .returned v' ∧ RBuf boE w.heap.size w w' v' l := by
  obtain ⟨a, cap, rfl⟩ : ∃ (a : Option Addr) (cap : Nat), v = .slice a l.length cap := by
    rcases hb with ⟨rfl, a, c, rfl⟩ | ⟨g, off, c, rfl, _⟩
    · exact ⟨a, c, rfl⟩
    · exact ⟨_, c, rfl⟩
  have HB := Lib.hid hb
  clear hb
  go_enter Try.func28, Try.ntmps28
  go_wp2_with (at_make; refine wpList_make_rows rfl _ _ boE rfl .i64 .i64 _ _ l.length rfl rfl rfl rfl (by show 2 * l.length ≤ _; omega) ?_; intro w1 hr1 hs1)
  go_loopw [4] (fun iv wr => ∃ i : Nat, i ≤ l.length ∧ iv = .int .i64 (i : Int) ∧ RBuf boE w.heap.size w wr (.slice (some ⟨w.heap.size, 0, none⟩) l.length l.length) (copyTo boE.z0 l i)) (fun iv _ => l.length - (intOf iv).toNat)
  case atStart => exact ⟨0, by omega, rfl, by rw [copyTo_zero]; exact hr1⟩
  case round =>
    obtain ⟨i, hi, rfl, hbr⟩ := hrel
    by_cases hlt : i < l.length
    · obtain ⟨g, off, rfl, hcl⟩ := HB.out.at i hlt
      have hcs := hcl wr hbr.bel 0 _ rfl
      rw [show boE.sz = 1 from rfl, Nat.mul_one, Nat.add_zero] at hcs
      have hi0 : (0 : Int) ≤ (i : Int) := by omega
      have hi1 : (i : Int) < (l.length : Int) := by omega
      have hml := copyTo_length (z := boE.z0) hi
      have hms := copyTo_set (z := boE.z0) hlt
      have hat := copyTo_at (z := boE.z0) hlt
      rw [← hml] at hbr
      have cd : wr.cell? ⟨w.heap.size, i, none⟩ = some (.bool boE.z0) := by
        have := hbr.cell rfl i _ hat 0 _ rfl
        rw [show boE.sz = 1 from rfl, Nat.mul_one, Nat.add_zero] at this
        exact this
      have fd := hbr.loose i
      have hst := hbr.stored i _ l[i] hat 0 (by decide) (.bool l[i]) rfl
      rw [show boE.sz = 1 from rfl, Nat.mul_one, Nat.add_zero, hms, hml] at hst
      clear hcl hbr hat hml hms
      generalize l[i] = t at *
      go_wp2
      go_roundw
      case rel => exact ⟨i + 1, by omega, by go_num, hst⟩
      case measure => simp [intOf]; omega
    · go_wp2
      go_ret
      rw [copyTo_all (by omega)] at hbr
      exact ⟨_, rfl, hbr⟩

set_option maxRecDepth 100000 in
set_option maxHeartbeats 1000000 in
theorem eqBoolS_same (l : List Bool) (va vb : Value) (w : World) (ha : Rows' boE w va l) (hb : Rows' boE w vb l) (hl : l.length ≤ 1099511627776) :
    Calls Try.prog 23 #[va, vb] w fun e w' => e = .returned (.bool true) ∧ Below w.heap.size w w' := by
  rcases ha.ways with ⟨rfl, a, c, rfl⟩ | ⟨hne, ga, oa, ca, rfl, hca, hga, hcla⟩
  · rcases hb.ways with ⟨_, b, d, rfl⟩ | ⟨hne, _⟩
    · clear ha hb
      go_enter Try.func23, Try.ntmps23
      go_wp2
      go_loop [5] (fun iv => iv = .int .i64 0) (fun _ => 0)
      case atStart => rfl
      case round =>
        obtain rfl := hrel
        go_wp2
        go_ret
        exact ⟨rfl, Below.refl _ _⟩
    · exact absurd rfl hne
  · rcases hb.ways with ⟨e, _⟩ | ⟨_, gb, ob, cb, rfl, hcb, hgb, hclb⟩
    · exact absurd e hne
    · clear ha hb
      have HA := Lib.hid hcla
      have HB := Lib.hid hclb
      clear hcla hclb
      go_enter Try.func23, Try.ntmps23
      go_wp2
      go_loopw [5] (fun iv wr => ∃ i : Nat, i ≤ l.length ∧ iv = .int .i64 (i : Int) ∧ Below w.heap.size w wr) (fun iv _ => l.length - (intOf iv).toNat)
      case atStart => exact ⟨0, by omega, rfl, Below.refl _ _⟩
      case round =>
        obtain ⟨i, hi, rfl, hbel⟩ := hrel
        by_cases hlt : i < l.length
        · have hg : l[i]? = some l[i] := List.getElem?_eq_getElem hlt
          have h1 := (hbel.cell (p := ⟨ga, oa + i * boE.sz + 0, none⟩) hga).trans (HA.out i _ hg 0 _ rfl)
          have h2 := (hbel.cell (p := ⟨gb, ob + i * boE.sz + 0, none⟩) hgb).trans (HB.out i _ hg 0 _ rfl)
          rw [show boE.sz = 1 from rfl, Nat.mul_one, Nat.add_zero] at h1 h2
          generalize l[i] = t at *
          have hi0 : (0 : Int) ≤ (i : Int) := by omega
          have hi1 : (i : Int) < (l.length : Int) := by omega
          clear hg
          go_wp2
          go_quiet (fail)
          go_wp2
          go_roundw
          case rel => exact ⟨i + 1, by omega, by go_num, below_drewN hbel _⟩
          case measure => simp [intOf]; omega
        · go_wp2
          go_ret
          exact ⟨rfl, hbel⟩

/-- The marks of a list of bools. -/
def markO (k : Nat) (j : Nat) : Bool := decide ((k + j) % 3 = 0)
def marksO (k n : Nat) : List Bool := (List.range n).map (markO k)
theorem marksO_length (k n : Nat) : (marksO k n).length = n := by simp [marksO]
theorem marksO_at {k n i : Nat} (h : i < n) : (marksO k n)[i]? = some (markO k i) := by simp [marksO, h]
theorem tmod_three (K : Nat) : Int.tmod (K : Int) 3 = ((K % 3 : Nat) : Int) := by
  rw [Int.tmod_eq_emod_of_nonneg (by omega)]; omega

set_option maxRecDepth 100000 in
set_option maxHeartbeats 1000000 in
theorem markBoolS_any (l : List Bool) (v : Value) (k B : Nat) (w0 w : World) (hb : RBuf boE B w0 w v l) (hk2 : k + l.length ≤ 1099511627776) :
    Calls Try.prog 25 #[v, .int .i64 (k : Int)] w fun e w' => e = .returned (.int .i64 ((k + l.length : Nat) : Int)) ∧ RBuf boE B w0 w' v (marksO k l.length) ∧ w.grownBy w' v.ownBlock := by
  rcases hb.own.2 with ⟨rfl, h0⟩ | ⟨g, cap, cur, rfl, hg, hh, hnc, hcp, hcs, htake⟩
  · obtain rfl := List.length_eq_zero_iff.1 h0
    go_enter Try.func25, Try.ntmps25
    go_wp2
    go_loop [1, 5] (fun kv iv => kv = .int .i64 (k : Int) ∧ iv = .int .i64 0) (fun _ _ => 0)
    case atStart => exact ⟨rfl, rfl⟩
    case round =>
      obtain ⟨rfl, rfl⟩ := hrel
      go_wp2
      go_ret
      exact ⟨rfl, hb, World.grownBy.refl _ _⟩
  · clear hh hcs htake hcp
    have hle : l.length ≤ 1099511627776 := by omega
    go_enter Try.func25, Try.ntmps25
    go_wp2
    go_loopw [1, 5] (fun kv iv wr => ∃ i : Nat, i ≤ l.length ∧ iv = .int .i64 (i : Int) ∧ kv = .int .i64 ((k + i : Nat) : Int) ∧ RBuf boE B w0 wr (.slice (some ⟨g, 0, none⟩) l.length cap) (putTo (markO k) l i) ∧ w.grownBy wr (some g)) (fun _ iv _ => l.length - (intOf iv).toNat)
    case atStart => exact ⟨0, by omega, rfl, rfl, by rw [putTo_zero]; exact hb, World.grownBy.refl _ _⟩
    case round =>
      obtain ⟨i, hi, rfl, rfl, hbr, hgr⟩ := hrel
      by_cases hlt : i < l.length
      · have hi0 : (0 : Int) ≤ (i : Int) := by omega
        have hi1 : (i : Int) < (l.length : Int) := by omega
        have hml := putTo_length (m := markO k) hi
        have hat := putTo_at (m := markO k) hlt
        have hms := putTo_set (m := markO k) hlt
        rw [← hml] at hbr
        obtain ⟨K, hK⟩ : ∃ K : Nat, K = k + i := ⟨_, rfl⟩
        have HK := Lib.hid hK
        have hmk : markO k i = decide (Int.tmod (K : Int) 3 = 0) := by
          rw [tmod_three, hK]; unfold markO; congr 1; apply propext; omega
        rw [← hK]
        have hK1 : K + 1 ≤ 4611686018427387904 := by omega
        clear hK
        generalize l[i] = x at hat
        have cs : wr.cell? ⟨g, i, none⟩ = some (.bool x) := by
          have := hbr.cell rfl i _ hat 0 _ rfl
          rw [show boE.sz = 1 from rfl, Nat.mul_one, Nat.add_zero] at this
          exact this
        have fs := hbr.loose i
        have hst := hbr.stored i _ (markO k i) hat 0 (by decide) (.bool (markO k i)) rfl
        rw [show boE.sz = 1 from rfl, Nat.mul_one, Nat.add_zero, hml, hms] at hst
        have hg2 := hgr.trans (grownBy_store wr g i (.bool (markO k i)))
        rw [hmk] at hst hg2
        have HST := Lib.hid (And.intro hst hg2)
        clear hbr hat hst hg2 hgr hmk hms hml
        go_wp2
        go_roundw
        case rel => exact ⟨i + 1, by omega, by go_num, by rw [HK.out]; go_num, HST.out.1, HST.out.2⟩
        case measure => simp [intOf]; omega
      · have hfin : Hid (i = l.length) := by show i = l.length; omega
        go_wp2
        go_ret
        refine ⟨?_, ?_, hgr⟩
        · rw [← hfin.out]; rfl
        · have := hbr
          rw [hfin.out, putTo_all] at this
          exact this

set_option maxRecDepth 100000 in
set_option maxHeartbeats 1000000 in
theorem heldBoolS_any (n : Nat) (v : Value) (k : Nat) (w : World) (hb : Rows' boE w v (marksO k n)) (hk2 : k + n ≤ 1099511627776) :
    Calls Try.prog 26 #[v, .int .i64 (k : Int)] w fun e w' => e = .returned (.int .i64 ((k + n : Nat) : Int)) ∧ Below w.heap.size w w' := by
  have hmn := marksO_length k n
  rcases hb.ways with ⟨h0, a, c, rfl⟩ | ⟨hne, g, off, cap, rfl, hca, hg, hcl⟩
  · obtain rfl : n = 0 := by rw [h0] at hmn; simpa using hmn.symm
    clear hb h0 hmn
    go_enter Try.func26, Try.ntmps26
    go_wp2
    go_loop [1, 5] (fun kv iv => kv = .int .i64 (k : Int) ∧ iv = .int .i64 0) (fun _ _ => 0)
    case atStart => exact ⟨rfl, rfl⟩
    case round =>
      obtain ⟨rfl, rfl⟩ := hrel
      go_wp2
      go_ret
      exact ⟨rfl, Below.refl _ _⟩
  · rw [hmn] at *
    have HC := Lib.hid hcl
    clear hcl hb hne hmn
    go_enter Try.func26, Try.ntmps26
    go_wp2
    go_loopw [1, 5] (fun kv iv wr => ∃ i : Nat, i ≤ n ∧ iv = .int .i64 (i : Int) ∧ kv = .int .i64 ((k + i : Nat) : Int) ∧ Below w.heap.size w wr) (fun _ iv _ => n - (intOf iv).toNat)
    case atStart => exact ⟨0, by omega, rfl, rfl, Below.refl _ _⟩
    case round =>
      obtain ⟨i, hi, rfl, rfl, hbel⟩ := hrel
      by_cases hlt : i < n
      · have hi0 : (0 : Int) ≤ (i : Int) := by omega
        have hi1 : (i : Int) < (n : Int) := by omega
        have h1 := (hbel.cell (p := ⟨g, off + i * boE.sz + 0, none⟩) hg).trans (HC.out i _ (marksO_at hlt) 0 _ rfl)
        rw [show boE.sz = 1 from rfl, Nat.mul_one, Nat.add_zero] at h1
        obtain ⟨K, hK⟩ : ∃ K : Nat, K = k + i := ⟨_, rfl⟩
        have HK := Lib.hid hK
        have hmk : markO k i = decide (Int.tmod (K : Int) 3 = 0) := by
          rw [tmod_three, hK]; unfold markO; congr 1; apply propext; omega
        rw [hmk] at h1
        rw [← hK]
        have hK1 : K + 1 ≤ 4611686018427387904 := by omega
        have hb3 : (decide ((K : Int) % 3 = 0) == ((K : Int) % 3 == 0)) = true := by by_cases h : (K : Int) % 3 = 0 <;> simp [h]
        clear hK hmk
        go_wp2
        go_roundw
        case rel => exact ⟨i + 1, by omega, by go_num, by rw [HK.out]; go_num, hbel⟩
        case measure => simp [intOf]; omega
      · have hfin : Hid (i = n) := by show i = n; omega
        go_wp2
        go_ret
        exact ⟨by rw [← hfin.out]; rfl, hbel⟩

/-- A list of numbers that comes in. -/
def BoIn (w : World) (v : Value) (l : List Bool) : Prop := Rows' boE w v l ∧ l.length ≤ 9223372036854775807


set_option maxRecDepth 100000 in
theorem open_BoolS {H : Type} {enc : TypeId × Value → H} {W : World} {b0 : Nat} {r : Reach} {v : Value} {d : DataW H} {p : List MemPlace} (hv : Value.okWide Try.prog W r b0 41 v) (h : DataW.Trod enc Try.prog W 0 (fun _ => true) true 41 v d p) : ∃ l : List Bool, BoIn W v l := by
  obtain ⟨fuel, h⟩ := h
  obtain ⟨a0, len0, cap0, rfl⟩ := okWide_slice Try.underlying41 hv
  have hml : maxLen ≤ 9223372036854775807 := by decide
  rcases open_slice1 Try.underlying41 (by kernel_rfl) h with ⟨hv, _⟩ | ⟨a, len, cap, m, n, V, D, Pl, hv, _, hl, hm, hmm, _, hc⟩
  · simp [Value.cells] at hv
    obtain ⟨rfl, rfl, rfl⟩ := hv
    exact ⟨[], .inl ⟨rfl, _, _, rfl⟩, by simp⟩
  · simp [Value.cells] at hv
    obtain ⟨rfl, rfl, rfl⟩ := hv
    have hm2 : m = cap0 := by simpa using hmm
    have hex : ∀ i, i < len0 → ∃ s : Bool, W.cell? (a.add i) = some (.bool s) := by
      intro i hi
      obtain ⟨h1, h2⟩ := hc i (by omega)
      obtain ⟨s, hs, _⟩ := DataW.trod_bool Try.underlying4 h2
      simp at hs
      exact ⟨s, by rw [h1, hs]⟩
    obtain ⟨l, hlen, hr, _⟩ := rows_of_cells boE hl (fun i hi => by
      obtain ⟨s, hs⟩ := hex i hi
      refine ⟨s, fun k u hu => ?_⟩
      match k, hu with
      | 0, hu => simp [boE] at hu; subst hu; rw [show boE.sz = 1 from rfl, Nat.mul_one, Nat.add_zero]; exact hs
      | k + 1, hu => simp [boE] at hu) (fun _ => True) (fun _ _ _ _ => trivial)
    exact ⟨l, hr, by omega⟩

end Go.Proofs.Ytjfilicddnhniab
