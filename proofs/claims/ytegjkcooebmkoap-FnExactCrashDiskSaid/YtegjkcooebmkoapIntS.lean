/- Lists of numbers in the exact laws: a copy, two alike, marks; and one that comes in. -/
import Derived.Test.YtegjkcooebmkoapToS
import Derived.Deep.Slices
import Derived.Deep.QuietTactic
import Derived.BigQuiet
import Derived.ProofKit
import Derived.Test.YtegjkcooebmkoapOpenDisk
namespace Go.Proofs.Ytegjkcooebmkoap
open Go.RowKit Go.ChangeShapes Go.WideShapes Go.ChangeAt Go.Deep Go.Joins

set_option maxRecDepth 100000 in
set_option maxHeartbeats 1000000 in
theorem toIntS_any (l : List Int) (v : Value) (w : World) (hb : Rows' intE w v l) (hl : l.length ≤ 1048576) :
    Calls Try.prog 9 #[v] w fun e w' => ∃ v', e = .returned v' ∧ RBuf intE w.heap.size w w' v' l := by
  obtain ⟨a, cap, rfl⟩ : ∃ (a : Option Addr) (cap : Nat), v = .slice a l.length cap := by
    rcases hb with ⟨rfl, a, c, rfl⟩ | ⟨g, off, c, rfl, _⟩
    · exact ⟨a, c, rfl⟩
    · exact ⟨_, c, rfl⟩
  have HB := Lib.hid hb
  clear hb
  go_enter Try.func9, Try.ntmps9
  go_wp2_with (at_make; refine wpList_make_rows rfl _ _ intE rfl .i64 .i64 _ _ l.length rfl rfl rfl rfl (by show 9 * l.length ≤ _; omega) ?_; intro w1 hr1 hs1)
  go_loopw [4] (fun iv wr => ∃ i : Nat, i ≤ l.length ∧ iv = .int .i64 (i : Int) ∧ RBuf intE w.heap.size w wr (.slice (some ⟨w.heap.size, 0, none⟩) l.length l.length) (copyTo intE.z0 l i)) (fun iv _ => l.length - (intOf iv).toNat)
  case atStart => exact ⟨0, by omega, rfl, by rw [copyTo_zero]; exact hr1⟩
  case round =>
    obtain ⟨i, hi, rfl, hbr⟩ := hrel
    by_cases hlt : i < l.length
    · obtain ⟨g, off, rfl, hcl⟩ := HB.out.at i hlt
      have hcs := hcl wr hbr.bel 0 _ rfl
      rw [show intE.sz = 1 from rfl, Nat.mul_one, Nat.add_zero] at hcs
      have hi0 : (0 : Int) ≤ (i : Int) := by omega
      have hi1 : (i : Int) < (l.length : Int) := by omega
      have hml := copyTo_length (z := intE.z0) hi
      have hms := copyTo_set (z := intE.z0) hlt
      have hat := copyTo_at (z := intE.z0) hlt
      rw [← hml] at hbr
      have cd : wr.cell? ⟨w.heap.size, i, none⟩ = some (.int .i64 intE.z0) := by
        have := hbr.cell rfl i _ hat 0 _ rfl
        rw [show intE.sz = 1 from rfl, Nat.mul_one, Nat.add_zero] at this
        exact this
      have fd := hbr.loose i
      have hst := hbr.stored i _ l[i] hat 0 (by decide) (.int .i64 l[i]) rfl
      rw [show intE.sz = 1 from rfl, Nat.mul_one, Nat.add_zero, hms, hml] at hst
      clear hcl hbr hat hml hms
      generalize l[i] = t at *
      go_wp2
      go_roundw
      case rel => exact ⟨i + 1, by omega, by go_num, hst⟩
      case measure => simp [intOf]; omega
    · go_wp2
      go_ret
      rw [copyTo_all (by omega)] at hbr
      exact ⟨_, rfl, hbr⟩

set_option maxRecDepth 100000 in
set_option maxHeartbeats 1000000 in
theorem eqIntS_same (l : List Int) (va vb : Value) (w : World) (ha : Rows' intE w va l) (hb : Rows' intE w vb l) (hl : l.length ≤ 1099511627776) :
    Calls Try.prog 12 #[va, vb] w fun e w' => e = .returned (.bool true) ∧ Below w.heap.size w w' := by
  rcases ha.ways with ⟨rfl, a, c, rfl⟩ | ⟨hne, ga, oa, ca, rfl, hca, hga, hcla⟩
  · rcases hb.ways with ⟨_, b, d, rfl⟩ | ⟨hne, _⟩
    · clear ha hb
      go_enter Try.func12, Try.ntmps12
      go_wp2
      go_loop [5] (fun iv => iv = .int .i64 0) (fun _ => 0)
      case atStart => rfl
      case round =>
        obtain rfl := hrel
        go_wp2
        go_ret
        exact ⟨rfl, Below.refl _ _⟩
    · exact absurd rfl hne
  · rcases hb.ways with ⟨e, _⟩ | ⟨_, gb, ob, cb, rfl, hcb, hgb, hclb⟩
    · exact absurd e hne
    · clear ha hb
      have HA := Lib.hid hcla
      have HB := Lib.hid hclb
      clear hcla hclb
      go_enter Try.func12, Try.ntmps12
      go_wp2
      go_loopw [5] (fun iv wr => ∃ i : Nat, i ≤ l.length ∧ iv = .int .i64 (i : Int) ∧ Below w.heap.size w wr) (fun iv _ => l.length - (intOf iv).toNat)
      case atStart => exact ⟨0, by omega, rfl, Below.refl _ _⟩
      case round =>
        obtain ⟨i, hi, rfl, hbel⟩ := hrel
        by_cases hlt : i < l.length
        · have hg : l[i]? = some l[i] := List.getElem?_eq_getElem hlt
          have h1 := (hbel.cell (p := ⟨ga, oa + i * intE.sz + 0, none⟩) hga).trans (HA.out i _ hg 0 _ rfl)
          have h2 := (hbel.cell (p := ⟨gb, ob + i * intE.sz + 0, none⟩) hgb).trans (HB.out i _ hg 0 _ rfl)
          rw [show intE.sz = 1 from rfl, Nat.mul_one, Nat.add_zero] at h1 h2
          generalize l[i] = t at *
          have hi0 : (0 : Int) ≤ (i : Int) := by omega
          have hi1 : (i : Int) < (l.length : Int) := by omega
          clear hg
          go_wp2
          go_quiet (fail)
          go_wp2
          go_roundw
          case rel => exact ⟨i + 1, by omega, by go_num, below_drewN hbel _⟩
          case measure => simp [intOf]; omega
        · go_wp2
          go_ret
          exact ⟨rfl, hbel⟩

set_option maxRecDepth 100000 in
set_option maxHeartbeats 1000000 in
theorem markIntS_any (l : List Int) (v : Value) (k B : Nat) (w : World) (hb : RBuf intE B w w v l) (hk2 : k + l.length ≤ 1099511627776) :
    Calls Try.prog 14 #[v, .int .i64 (k : Int)] w fun e w' => e = .returned (.int .i64 ((k + l.length : Nat) : Int)) ∧ w.grownBy w' v.ownBlock := by
  rcases hb.own.2 with ⟨rfl, h0⟩ | ⟨g, cap, cur, rfl, hg, hh, hnc, hcp, hcs, htake⟩
  · obtain rfl := List.length_eq_zero_iff.1 h0
    go_enter Try.func14, Try.ntmps14
    go_wp2
    go_loop [1, 5] (fun kv iv => kv = .int .i64 (k : Int) ∧ iv = .int .i64 0) (fun _ _ => 0)
    case atStart => exact ⟨rfl, rfl⟩
    case round =>
      obtain ⟨rfl, rfl⟩ := hrel
      go_wp2
      go_ret
      exact ⟨rfl, World.grownBy.refl _ _⟩
  · clear hh hcs htake hcp
    have hle : l.length ≤ 1099511627776 := by omega
    go_enter Try.func14, Try.ntmps14
    go_wp2
    go_loopw [1, 5] (fun kv iv wr => ∃ i : Nat, i ≤ l.length ∧ iv = .int .i64 (i : Int) ∧ kv = .int .i64 ((k + i : Nat) : Int) ∧ (∃ m : List Int, m.length = l.length ∧ RBuf intE B wr wr (.slice (some ⟨g, 0, none⟩) l.length cap) m) ∧ w.grownBy wr (some g)) (fun _ iv _ => l.length - (intOf iv).toNat)
    case atStart => exact ⟨0, by omega, rfl, rfl, ⟨l, rfl, hb⟩, World.grownBy.refl _ _⟩
    case round =>
      obtain ⟨i, hi, rfl, rfl, ⟨m, hml, hbr⟩, hgr⟩ := hrel
      by_cases hlt : i < l.length
      · have hi0 : (0 : Int) ≤ (i : Int) := by omega
        have hi1 : (i : Int) < (l.length : Int) := by omega
        have him : i < m.length := by omega
        have hat := List.getElem?_eq_getElem him
        rw [← hml] at hbr
        obtain ⟨K, hK⟩ : ∃ K : Nat, K = k + i := ⟨_, rfl⟩
        have HK := Lib.hid hK
        rw [← hK]
        have hK1 : K + 1 ≤ 4611686018427387904 := by omega
        clear hK
        have cs : wr.cell? ⟨g, i, none⟩ = some (.int .i64 m[i]) := by
          have := hbr.cell rfl i _ hat 0 _ rfl
          rw [show intE.sz = 1 from rfl, Nat.mul_one, Nat.add_zero] at this
          exact this
        have fs := hbr.loose i
        have hst := (hbr.stored i _ (K : Int) hat 0 (by decide) (.int .i64 (K : Int)) rfl).here
        rw [show intE.sz = 1 from rfl, Nat.mul_one, Nat.add_zero, hml] at hst
        have hg2 := hgr.trans (grownBy_store wr g i (.int .i64 (K : Int)))
        have HST := Lib.hid (And.intro hst hg2)
        have hml2 : (m.set i (K : Int)).length = l.length := by simp [hml]
        generalize m[i] = old at cs
        clear hbr hat hst hg2 hgr
        go_wp2
        go_roundw
        case rel => exact ⟨i + 1, by omega, by go_num, by rw [HK.out]; go_num, ⟨_, hml2, HST.out.1⟩, HST.out.2⟩
        case measure => simp [intOf]; omega
      · have hfin : Hid (i = l.length) := by show i = l.length; omega
        go_wp2
        go_ret
        refine ⟨?_, hgr⟩
        rw [← hfin.out]; rfl

/-- A list of numbers that comes in. -/
def IIn (w : World) (v : Value) (l : List Int) : Prop := Rows' intE w v l ∧ l.length ≤ 9223372036854775807

instance : Inhabited Int := ⟨0⟩

theorem open_IntS {H : Type} {enc : TypeId × Value → H} {W : World} {b0 : Nat} {r : Reach} {v : Value} {d : DataW H} {p : List MemPlace} (hv : Value.okWide Try.prog W r b0 26 v) (h : DataW.Trod enc Try.prog W 0 (fun _ => true) true 26 v d p) : ∃ l : List Int, IIn W v l := by
  obtain ⟨fuel, h⟩ := h
  obtain ⟨a0, len0, cap0, rfl⟩ := okWide_slice Try.underlying26 hv
  have hml : maxLen ≤ 9223372036854775807 := by decide
  rcases open_slice1 Try.underlying26 (by kernel_rfl) h with ⟨hv, _⟩ | ⟨a, len, cap, m, n, V, D, Pl, hv, _, hl, hm, hmm, _, hc⟩
  · simp [Value.cells] at hv
    obtain ⟨rfl, rfl, rfl⟩ := hv
    exact ⟨[], .inl ⟨rfl, _, _, rfl⟩, by simp⟩
  · simp [Value.cells] at hv
    obtain ⟨rfl, rfl, rfl⟩ := hv
    have hm2 : m = cap0 := by simpa using hmm
    have hex : ∀ i, i < len0 → ∃ s : Int, W.cell? (a.add i) = some (.int .i64 s) := by
      intro i hi
      obtain ⟨h1, h2⟩ := hc i (by omega)
      obtain ⟨s, hs, _, _⟩ := DataW.trod_int Try.underlying3 h2
      simp at hs
      exact ⟨s, by rw [h1, hs]⟩
    obtain ⟨l, hlen, hr, _⟩ := rows_of_cells intE hl (fun i hi => by
      obtain ⟨s, hs⟩ := hex i hi
      refine ⟨s, fun k u hu => ?_⟩
      match k, hu with
      | 0, hu => simp [intE] at hu; subst hu; rw [show intE.sz = 1 from rfl, Nat.mul_one, Nat.add_zero]; exact hs
      | k + 1, hu => simp [intE] at hu) (fun _ => True) (fun _ _ _ _ => trivial)
    exact ⟨l, hr, by omega⟩

end Go.Proofs.Ytegjkcooebmkoap
