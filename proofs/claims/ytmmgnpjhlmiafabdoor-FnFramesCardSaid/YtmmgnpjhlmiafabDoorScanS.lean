/- Frames: what the model's ScanFrames hands back. -/
import Derived.Test.YtmmgnpjhlmiafabDoorReadFrameS
import Derived.Test.YtmmgnpjhlmiafabDoorEncF
namespace Go.Proofs.YtmmgnpjhlmiafabDoor
open Go.RowKit

/-- The frames of a Gen from the beginning on. -/
def scan (s : ByteArray) (g : Int) : List (Fr × Nat) := sq fourOf s g 0
def scanL (s : ByteArray) (g : Int) : List Fr := (scan s g).map (·.1)
def scanE (s : ByteArray) (g : Int) : Nat := behind 0 (scan s g)
theorem scanL_le (s : ByteArray) (g : Int) : (scanL s g).length ≤ s.size := by
  have := (sq_all (four := fourOf) (s := s) (g := g) (k := 0) (Nat.zero_le _)).2.1
  simpa [scanL, scan] using this

/-- What ScanFrames hands back. -/
def ScanR (s : ByteArray) (g : Int) (w : World) (e : Ending) (w' : World) : Prop :=
  ∃ v, e = .returned (.tuple #[v, .int .i64 (scanE s g : Int)]) ∧ RBuf frE w.heap.size w w' v (scanL s g)

set_option maxRecDepth 100000 in
set_option maxHeartbeats 2000000 in
theorem specScanFrames_any (s : ByteArray) (g : Int) (w : World) (hs : s.size ≤ 1048576) :
    Calls Tryd.prog 17 #[.string s, .int .i64 g] w fun e w' => ScanR s g w e w' := by
  have hst := RBuf.fresh frE w
  go_enter Tryd.func17, Tryd.ntmps17
  go_wp2
  go_loopw [6, 7] (fun ov av wr => ∃ (pre : List (Fr × Nat)) (k : Nat), k ≤ s.size ∧ behind 0 pre = k ∧ pre ++ sq fourOf s g k = scan s g ∧ av = .int .i64 (k : Int) ∧ RBuf frE w.heap.size w wr ov (pre.map (·.1))) (fun _ av _ => s.size + 1 - (intOf av).toNat)
  case atStart => exact ⟨[], 0, by omega, rfl, rfl, rfl, hst⟩
  case round =>
    obtain ⟨pre, k, hk, hbe, hpre, rfl, hb⟩ := hrel
    have HBE := Lib.hid hbe
    have HPRE := Lib.hid hpre
    have hlen : (pre.map (·.1)).length ≤ s.size := by
      have h1 := congrArg List.length hpre
      have h2 := (sq_all (four := fourOf) (s := s) (g := g) (k := 0) (Nat.zero_le _)).2.1
      rw [List.length_append] at h1
      unfold scan at h1
      rw [List.length_map]
      omega
    clear hbe hpre
    go_wp2_with fail
    refine (specReadFrame_any s k _ (by omega)).mono ?_
    rintro e w1 ⟨rfl, k1⟩
    have hb1 := hb.later k1
    cases hr : rf fourOf s k with
    | none =>
      rw [rfT_none ((rfA_nat hk).trans hr)]
      have HQ := Lib.hid (sq_none (g := g) hr)
      have hb2 := Lib.hid (hb1.alloc (.cells #[.int .i64 0, .int .i64 0, .string ⟨#[]⟩] 30))
      clear hr
      unfold zeroFr Fr.v
      go_wp2
      go_ret2
      have e0 := HPRE.out
      rw [HQ.out, List.append_nil] at e0
      exact ⟨_, by rw [scanE, ← e0, HBE.out]; rfl, by rw [scanL, ← e0]; exact hb2.out⟩
    | some x =>
      obtain ⟨f, n⟩ := x
      rw [rfT_some ((rfA_nat hk).trans hr)]
      obtain ⟨hok, hkn, hns, _⟩ := rf_some hr hk
      have hb2 := Lib.hid (hb1.alloc (.cells #[.int .i64 f.gen, .int .i64 f.seq, .string f.body] 30))
      unfold Fr.v
      by_cases hg : f.gen = g
      · have HQ := Lib.hid (sq_yes hk hr hg)
        have HG := Lib.hid hg
        have hgq : (f.gen == g) = true := by simp [hg]
        have hgn : (f.gen != g) = false := by simp [hg]
        clear hr hg hok
        have y2 := Box.new w1 #[.int .i64 f.gen, .int .i64 f.seq, .string f.body] 30
        clear hb hb1 k1
        go_upto_region 4 with fail
        generalize w1.alloc (.cells #[.int .i64 f.gen, .int .i64 f.seq, .string f.body] 30) = w2 at hb2 y2 ⊢
        obtain ⟨c0, c1, c2, _, _, _⟩ := y2.three
        have hb3 := Lib.hid (hb2.out.alloc (.cells #[.int .i64 f.gen, .int .i64 f.seq, .string f.body] 30))
        have hnew : Hid (∀ j u, (frE.row [f])[j]? = some u → (w2.alloc (.cells #[.int .i64 f.gen, .int .i64 f.seq, .string f.body] 30)).cell? ((⟨w2.heap.size, 0, none⟩ : Addr).add j) = some u) := row_new frE w2 f
        have hl0 : ((pre.map (·.1)).length + [f].length) * (frE.bytes + 1) ≤ 140737488355328 := by simp only [frE, List.length_cons, List.length_nil]; omega
        have HL0 := Lib.hid hl0
        go_wp2_with (at_builtin; refine wpList_append_row rfl _ _ frE rfl w.heap.size _ (pre.map (·.1)) rfl hb3.out ⟨w2.heap.size, 0, none⟩ [f] 1 rfl ?c1 ?c2 ?_)
        case c1 => exact hnew.out
        case c2 => exact HL0.out
        intro v4 w4 hb4 _ _
        clear hb2 hb3 hnew HL0 c0 c1 c2
        go_wp2
        go_roundw
        case rel => exact ⟨pre ++ [(f, n)], n, by omega, behind_snoc _ _ _, by rw [← HPRE.out, HQ.out]; simp, rfl, by rw [List.map_append]; exact hb4⟩
        case measure => simp [intOf]; omega
      · have HQ := Lib.hid (sq_no hr hg)
        have hgn : (f.gen != g) = true := by simp [hg]
        clear hr hok
        go_wp2
        go_ret2
        have e0 := HPRE.out
        rw [HQ.out, List.append_nil] at e0
        exact ⟨_, by rw [scanE, ← e0, HBE.out]; rfl, by rw [scanL, ← e0]; exact hb2.out⟩

end Go.Proofs.YtmmgnpjhlmiafabDoor
