/- Texts of our own, joined. -/
import Derived.Test.YtleaahdnpjnmlaaGreatDoorJpx
/- GainOf and VictimOf of the model. -/
namespace Go.Proofs.YtleaahdnpjnmlaaGreatDoor
open Go.RowKit

theorem belDrewN (X : World) (q : Nat) : Below X.heap.size X (X.drewN q) := ⟨rfl, rfl, rfl, Nat.le_refl _, fun _ _ => rfl⟩

set_option maxRecDepth 100000 in
set_option maxHeartbeats 8000000 in
theorem specGain_any (S : So) (v vz : Value) (i : Int) (w : World) (h : SoRd w v S) (hL : S.lean) (hz : Rows' intE w vz (szs S S.g.used.length)) :
    Calls Tryz.prog 25 #[v, vz, .int .i64 i] w fun e w' => e = .returned (.int .i64 (gnO S i)) ∧ Below w.heap.size w w' := by
  obtain ⟨az, cz, rfl⟩ : ∃ (a : Option Addr) (cap : Nat), vz = .slice a S.g.used.length cap := by
    rcases hz with ⟨e, a, c, rfl⟩ | ⟨g, off, c, rfl, _⟩
    · exact ⟨a, c, by have := congrArg List.length e; rw [szs_len] at this; rw [this]; rfl⟩
    · exact ⟨_, c, by rw [szs_len]⟩
  obtain ⟨va, vb, au, af, cu, cf, rfl, _, hu, _⟩ := h.opened
  obtain ⟨ad, cap, ev, hrow⟩ := hu.segs
  injection ev with e1 e2 e3
  subst e1 e3
  have b0 := belNew w (.cells #[va, vb, .int .i64 S.g.segs, .slice au S.g.used.length cu, .int .i64 S.g.ng, .int .i64 S.g.ns, .int .i64 S.g.st, .int .i64 S.g.nv, .slice af S.fr.length cf] 41)
  have q0 := Box.new w #[va, vb, .int .i64 S.g.segs, .slice au S.g.used.length cu, .int .i64 S.g.ng, .int .i64 S.g.ns, .int .i64 S.g.st, .int .i64 S.g.nv, .slice af S.fr.length cf] 41
  have hun : S.g.used.length ≤ 1048576 := (S.g.lean_small hL.1).2.1
  have HFC : Hid (∀ (no : Int) X, Below w.heap.size w X → Calls Tryz.prog 34 #[.agg #[va, vb, .int .i64 S.g.segs, .slice au S.g.used.length cu, .int .i64 S.g.ng, .int .i64 S.g.ns, .int .i64 S.g.st, .int .i64 S.g.nv, .slice af S.fr.length cf], .int .i64 no] X fun e w' => e = .returned (.bool (frI S.fr no)) ∧ Below X.heap.size X w') := fun no X hX => specFreed_any S _ no X (h.later hX) hL.2
  have HZR : Hid (∀ (k : Nat), k < S.g.used.length → ∃ g off : Nat, az = some ⟨g, off, none⟩ ∧ ∀ X, Below w.heap.size w X → X.cell? ⟨g, off + k, none⟩ = some (.int .i64 (szI S k : Int))) := fun k hk => hz.intAt (szs_len S _) (szs_at S hk)
  have HSL : Hid (∀ k, szI S k ≤ 205520896) := fun k => szI_le S hL k
  obtain ⟨N, hN⟩ : ∃ N, gnO S i = N := ⟨_, rfl⟩
  have HY : Hid (∀ k : Nat, i = (k : Int) → ∀ s t, S.g.used[k]? = some s → S.g.used[S.g.used.length - 1]? = some t → k + 1 < S.g.used.length → frI S.fr s.no = false → N = gnF (szI S k) t.gen s.gen) := fun k hk s t hs ht hl hf => by rw [← hN, hk]; unfold gnO; rw [if_pos (by omega), Int.toNat_natCast]; exact gnI_yes hs ht hl hf
  have HF : Hid (∀ k : Nat, i = (k : Int) → ∀ s, S.g.used[k]? = some s → frI S.fr s.no = true → N = 0) := fun k hk s hs hf => by rw [← hN, hk]; unfold gnO; rw [Int.toNat_natCast, gnI_freed hs hf]; split <;> rfl
  have HNO : Hid (¬ (0 ≤ i ∧ i ≤ (S.g.used.length : Int) - 2) → N = 0) := fun h1 => by
    rw [← hN]; unfold gnO
    split
    · rename_i c; exact gnI_head (by omega)
    · rfl
  rw [hN]
  clear hN hz
  have HR : Hid _ := hrow
  clear hu hrow h hL e2
  obtain ⟨W, hW⟩ : ∃ W, w.alloc (.cells #[va, vb, .int .i64 S.g.segs, .slice au S.g.used.length cu, .int .i64 S.g.ng, .int .i64 S.g.ns, .int .i64 S.g.st, .int .i64 S.g.nv, .slice af S.fr.length cf] 41) = W := ⟨_, rfl⟩
  rw [hW] at b0 q0
  have HW := Lib.hid hW
  clear hW
  obtain ⟨n, hn⟩ : ∃ n, S.g.used.length = n := ⟨_, rfl⟩
  have HN := Lib.hid hn
  obtain ⟨m, hm⟩ : ∃ m, S.fr.length = m := ⟨_, rfl⟩
  simp only [hn, hm] at q0 HW HFC HZR HY HNO ⊢
  rw [hn] at hun
  clear hm hn
  obtain ⟨g0, hg0⟩ : ∃ g0, w.heap.size = g0 := ⟨_, rfl⟩
  rw [hg0] at q0
  have HG0 := Lib.hid hg0
  clear hg0
  have hws : IntKind.i64.wrap ((n : Int) - 1) = (n : Int) - 1 := IntWalk.i64_in _ ⟨by omega, by omega⟩
  have hw2 : IntKind.i64.wrap ((n : Int) - 2) = (n : Int) - 2 := IntWalk.i64_in _ ⟨by omega, by omega⟩
  go_enter Tryz.func25, Tryz.ntmps25
  go_upto_region 1 with fail
  rw [HW.out, HG0.out]
  have HQ := Lib.hid q0
  have HB0 := Lib.hid b0
  have x3 := q0.cell 3 (.slice au n cu) rfl
  clear q0 b0
  by_cases hin : 0 ≤ i ∧ i ≤ (n : Int) - 2
  · obtain ⟨k, rfl⟩ : ∃ k : Nat, i = (k : Int) := ⟨i.toNat, by omega⟩
    have hk : k + 1 < n := by omega
    obtain ⟨s, hs⟩ : ∃ s, S.g.used[k]? = some s := ⟨_, List.getElem?_eq_getElem (by rw [HN.out]; omega)⟩
    obtain ⟨t, ht⟩ : ∃ t, S.g.used[n - 1]? = some t := ⟨_, List.getElem?_eq_getElem (by rw [HN.out]; omega)⟩
    obtain ⟨ga, oa, am, nm, cm, rfl, a0, a1, a2, a4, rm⟩ := HR.out _ HB0.out k s hs
    obtain ⟨gb, ob, bm, bn, bc, eb, b0, b1, b2, b4, rb⟩ := HR.out _ HB0.out (n - 1) t ht
    injection eb with eb
    injection eb with e3 e4
    subst e3 e4
    obtain ⟨gz, oz, rfl, hcz⟩ := HZR.out k (by omega)
    have hcz0 := hcz W HB0.out
    have HY2 := Lib.hid (HY.out k rfl s t hs ht hk)
    have HF2 := Lib.hid (HF.out k rfl s hs)
    have hsz := HSL.out k
    have hgl : ga < W.heap.size := World.block_lt_of_cell? _ _ a0
    have hgz : gz < W.heap.size := World.block_lt_of_cell? _ _ hcz0
    obtain ⟨nl, hnl⟩ : ∃ nl, n - 1 = nl := ⟨_, rfl⟩
    rw [hnl] at b1
    have hws2 : IntKind.i64.wrap ((n : Int) - 1) = (nl : Int) := hws.trans (by omega)
    have HX : Hid (∀ X, Below W.heap.size W X → ((X.cell? ⟨g0, 0, none⟩ = some (va) ∧ X.cell? ⟨g0, 1, none⟩ = some (vb) ∧ X.cell? ⟨g0, 2, none⟩ = some (.int .i64 S.g.segs) ∧ X.cell? ⟨g0, 3, none⟩ = some (.slice (some ⟨ga, oa, none⟩) n cu) ∧ X.cell? ⟨g0, 4, none⟩ = some (.int .i64 S.g.ng) ∧ X.cell? ⟨g0, 5, none⟩ = some (.int .i64 S.g.ns) ∧ X.cell? ⟨g0, 6, none⟩ = some (.int .i64 S.g.st) ∧ X.cell? ⟨g0, 7, none⟩ = some (.int .i64 S.g.nv) ∧ X.cell? ⟨g0, 8, none⟩ = some (.slice af m cf)) ∧ X.cell? ⟨ga, oa + k * 4, none⟩ = some (.int .i64 s.no)) ∧ (X.cell? ⟨ga, oa + k * 4 + 1, none⟩ = some (.int .i64 s.gen) ∧ X.cell? ⟨ga, oa + nl * 4 + 1, none⟩ = some (.int .i64 t.gen) ∧ X.cell? ⟨gz, oz + k, none⟩ = some (.int .i64 (szI S k : Int))) ∧ Below w.heap.size w X) := fun X hX => by
      obtain ⟨c, _⟩ := (HQ.out.later hX).nineL
      exact ⟨⟨c, (hX.cell (p := ⟨ga, oa + k * 4, none⟩) hgl).trans a0⟩, ⟨(hX.cell (p := ⟨ga, oa + k * 4 + 1, none⟩) hgl).trans a1, (hX.cell (p := ⟨ga, oa + nl * 4 + 1, none⟩) hgl).trans b1, (hX.cell (p := ⟨gz, oz + k, none⟩) hgz).trans hcz0⟩, HB0.out.trans (hX.mono HB0.out.size)⟩
    have HFS := Lib.hid (HFC.out s.no)
    obtain ⟨D, hD⟩ : ∃ D, frI S.fr s.no = D := ⟨_, rfl⟩
    rw [hD] at HFS HY2 HF2
    have hi0 : (0 : Int) ≤ (k : Int) := by omega
    have hi1 : (k : Int) < (n : Int) := by omega
    have hl0 : (0 : Int) ≤ (nl : Int) := by omega
    have hl1 : (nl : Int) < (n : Int) := by omega
    clear a0 a1 a2 a4 b0 b1 b2 b4 rm rb hs ht hD hcz hcz0 HZR HY HF HNO HFC hws hnl HR HQ
    go_upto_region 2 with fail
    clear x3
    go_cut [28] (fun c wx => c = .bool D ∧ Below W.heap.size W wx)
    case first =>
      have kk : Below W.heap.size W W.drew := (Below.refl _ _).drew
      obtain ⟨⟨⟨x0, x1, x2, x3, x4, x5, x6, x7, x8⟩, y0⟩, _, _⟩ := HX.out _ kk
      clear HY2 HF2 HSL
      go_region_held3 (fun X => (X.cell? ⟨g0, 0, none⟩ = some (va) ∧ X.cell? ⟨g0, 1, none⟩ = some (vb) ∧ X.cell? ⟨g0, 2, none⟩ = some (.int .i64 S.g.segs) ∧ X.cell? ⟨g0, 3, none⟩ = some (.slice (some ⟨ga, oa, none⟩) n cu) ∧ X.cell? ⟨g0, 4, none⟩ = some (.int .i64 S.g.ng) ∧ X.cell? ⟨g0, 5, none⟩ = some (.int .i64 S.g.ns) ∧ X.cell? ⟨g0, 6, none⟩ = some (.int .i64 S.g.st) ∧ X.cell? ⟨g0, 7, none⟩ = some (.int .i64 S.g.nv) ∧ X.cell? ⟨g0, 8, none⟩ = some (.slice af m cf)) ∧ X.cell? ⟨ga, oa + k * 4, none⟩ = some (.int .i64 s.no))
        (first | exact (HX.out _ kk).1)
        (first
          | (go_at_call 17; refine (in_yes _ _ _ _ (by omega) (by omega)).mono ?_; rintro e wX ⟨rfl, rfl⟩)
          | (go_at_call 34; refine (HFS.out _ (HX.out _ kk).2.2).mono ?_; rintro e wX ⟨rfl, kX⟩; have kk := kk.trans (kX.mono kk.size)))
      all_goals
        go_wp2_with fail
        go_meet
        exact ⟨rfl, kk⟩
    case rest =>
      obtain ⟨rfl, k5⟩ := hcut
      cases D with
      | true =>
        have HV := Lib.hid (HF2.out rfl)
        have bZ := Lib.hid (HX.out _ k5).2.2
        clear HX HFS HF2 HY2
        go_wp2
        go_ret
        exact ⟨by rw [HV.out]; first | done | rfl | simp, bZ.out⟩
      | false =>
        have HV := Lib.hid (HY2.out rfl)
        obtain ⟨Z, hZ⟩ : ∃ Z, szI S k = Z := ⟨_, rfl⟩
        rw [hZ] at HV HX hsz
        have bZ := Lib.hid (fun q => (HX.out _ (k5.trans ((belDrewN wc q).mono k5.size))).2.2)
        obtain ⟨⟨⟨x0, x1, x2, x3, x4, x5, x6, x7, x8⟩, y0⟩, ⟨y1, y2, y3⟩, _⟩ := HX.out _ k5
        clear hZ HFS HF2 HY2
        go_upto_region 4 with fail
        go_quiet (fail)
        go_upto_region 5 with fail
        go_quiet (fail)
        go_wp2
        go_ret
        exact ⟨by rw [HV.out]; first | done | rfl | simp, bZ.out _⟩
  · have HV := Lib.hid (HNO.out hin)
    have bZ := Lib.hid (fun q => HB0.out.trans ((belDrewN W q).mono HB0.out.size))
    clear HY HNO HFC HZR HF
    go_upto_region 2 with fail
    clear x3
    go_quiet (first | (go_at_call 17; exact Calls.quiet_of_same (in_no_q _ _ _ _ (by omega))))
    go_wp2
    go_ret
    exact ⟨by rw [HV.out]; first | done | rfl | simp, bZ.out _⟩

set_option maxRecDepth 100000 in
set_option maxHeartbeats 8000000 in
theorem specVictimOf_any (S : So) (v : Value) (w : World) (h : SoRd w v S) (hL : S.lean) :
    Calls Tryz.prog 13 #[v] w fun e w' => e = .returned (.int .i64 (vcO S)) ∧ Below w.heap.size w w' := by
  obtain ⟨va, vb, au, af, cu, cf, rfl, _, hu, _⟩ := h.opened
  obtain ⟨ad, cap, ev, hrow⟩ := hu.segs
  injection ev with e1 e2 e3
  subst e1 e3
  have b0 := belNew w (.cells #[va, vb, .int .i64 S.g.segs, .slice au S.g.used.length cu, .int .i64 S.g.ng, .int .i64 S.g.ns, .int .i64 S.g.st, .int .i64 S.g.nv, .slice af S.fr.length cf] 41)
  have q0 := Box.new w #[va, vb, .int .i64 S.g.segs, .slice au S.g.used.length cu, .int .i64 S.g.ng, .int .i64 S.g.ns, .int .i64 S.g.st, .int .i64 S.g.nv, .slice af S.fr.length cf] 41
  have hun : S.g.used.length ≤ 1048576 := (S.g.lean_small hL.1).2.1
  have HSZ : Hid (∀ X, Below w.heap.size w X → Calls Tryz.prog 18 #[.agg #[va, vb, .int .i64 S.g.segs, .slice au S.g.used.length cu, .int .i64 S.g.ng, .int .i64 S.g.ns, .int .i64 S.g.st, .int .i64 S.g.nv, .slice af S.fr.length cf]] X fun e w' => ∃ v', e = .returned v' ∧ RBuf intE X.heap.size X w' v' (szs S S.g.used.length)) := fun X hX => specSizes_any S _ X (h.later hX) hL
  have HGN : Hid (∀ (k : Nat), k < S.g.used.length → ∀ (vz : Value) X, Below w.heap.size w X → Rows' intE X vz (szs S S.g.used.length) → Calls Tryz.prog 25 #[.agg #[va, vb, .int .i64 S.g.segs, .slice au S.g.used.length cu, .int .i64 S.g.ng, .int .i64 S.g.ns, .int .i64 S.g.st, .int .i64 S.g.nv, .slice af S.fr.length cf], vz, .int .i64 (k : Int)] X fun e w' => e = .returned (.int .i64 (gnI S k)) ∧ Below X.heap.size X w') := fun k hk vz X hX hz => by
    have := specGain_any S _ vz k X (h.later hX) hL hz
    rw [show gnO S (k : Int) = gnI S k by unfold gnO; rw [if_pos (by omega), Int.toNat_natCast]] at this
    exact this
  obtain ⟨N, hN⟩ : ∃ N, vcO S = N := ⟨_, rfl⟩
  have HV : Hid ((vcP (gnI S) S.g.used.length).1 = N) := hN
  rw [hN]
  clear hN
  have HR : Hid _ := hrow
  clear hu hrow h hL e2
  obtain ⟨W, hW⟩ : ∃ W, w.alloc (.cells #[va, vb, .int .i64 S.g.segs, .slice au S.g.used.length cu, .int .i64 S.g.ng, .int .i64 S.g.ns, .int .i64 S.g.st, .int .i64 S.g.nv, .slice af S.fr.length cf] 41) = W := ⟨_, rfl⟩
  rw [hW] at b0 q0
  have HW := Lib.hid hW
  clear hW
  obtain ⟨n, hn⟩ : ∃ n, S.g.used.length = n := ⟨_, rfl⟩
  have HN := Lib.hid hn
  obtain ⟨m, hm⟩ : ∃ m, S.fr.length = m := ⟨_, rfl⟩
  simp only [hn, hm] at q0 HW HSZ HGN HV ⊢
  rw [hn] at hun
  clear hm hn
  obtain ⟨g0, hg0⟩ : ∃ g0, w.heap.size = g0 := ⟨_, rfl⟩
  rw [hg0] at q0
  have HG0 := Lib.hid hg0
  clear hg0
  have hws : IntKind.i64.wrap ((n : Int) - 1) = (n : Int) - 1 := IntWalk.i64_in _ ⟨by omega, by omega⟩
  have hw2 : IntKind.i64.wrap ((n : Int) - 2) = (n : Int) - 2 := IntWalk.i64_in _ ⟨by omega, by omega⟩
  go_enter Tryz.func13, Tryz.ntmps13
  go_upto_region 1 with fail
  rw [HW.out, HG0.out]
  have HX : Hid (∀ X, Below W.heap.size W X → (X.cell? ⟨g0, 0, none⟩ = some (va) ∧ X.cell? ⟨g0, 1, none⟩ = some (vb) ∧ X.cell? ⟨g0, 2, none⟩ = some (.int .i64 S.g.segs) ∧ X.cell? ⟨g0, 3, none⟩ = some (.slice au n cu) ∧ X.cell? ⟨g0, 4, none⟩ = some (.int .i64 S.g.ng) ∧ X.cell? ⟨g0, 5, none⟩ = some (.int .i64 S.g.ns) ∧ X.cell? ⟨g0, 6, none⟩ = some (.int .i64 S.g.st) ∧ X.cell? ⟨g0, 7, none⟩ = some (.int .i64 S.g.nv) ∧ X.cell? ⟨g0, 8, none⟩ = some (.slice af m cf)) ∧ Below w.heap.size w X) := fun X hX => by
    obtain ⟨c, _⟩ := (q0.later hX).nineL
    exact ⟨c, b0.trans (hX.mono b0.size)⟩
  clear q0 b0 HR
  obtain ⟨⟨x0, x1, x2, x3, x4, x5, x6, x7, x8⟩, b0⟩ := HX.out _ (Below.refl _ _)
  go_wp2_with fail
  clear x0 x1 x2 x3 x4 x5 x6 x7 x8
  refine (HSZ.out _ b0).mono ?_
  rintro e w1 ⟨v1, rfl, R1⟩
  have HR1 := Lib.hid R1.rows
  have HB1 := Lib.hid R1.bel
  obtain ⟨a1, p1, rfl⟩ := R1.form
  obtain ⟨zl, hzl⟩ : ∃ zl, (szs S n).length = zl := ⟨_, rfl⟩
  rw [hzl] at HR1 ⊢
  clear R1 hzl HSZ
  have I0 : Below w1.heap.size w1 w1 := Below.refl _ _
  go_wp2_with fail
  go_loopw [3, 4, 6] (fun bv gv iv wr => ∃ k : Nat, k ≤ n ∧ iv = .int .i64 (k : Int) ∧ bv = .int .i64 (vcP (gnI S) k).1 ∧ gv = .int .i64 (vcP (gnI S) k).2 ∧ Below w1.heap.size w1 wr) (fun _ _ iv _ => n - (intOf iv).toNat)
  case atStart => exact ⟨0, by omega, rfl, rfl, rfl, I0⟩
  case round =>
    clear I0
    obtain ⟨k, hk, rfl, rfl, rfl, br⟩ := hrel
    have b1 := HB1.out.trans (br.mono HB1.out.size)
    obtain ⟨⟨x0, x1, x2, x3, x4, x5, x6, x7, x8⟩, bw⟩ := HX.out _ b1
    by_cases hlt : k < n
    · have HG := Lib.hid (HGN.out k hlt _ _ bw (HR1.out.later br))
      have HPY := Lib.hid (vcP_yes (g := gnI S) (n := k))
      have HPN := Lib.hid (vcP_no (g := gnI S) (n := k))
      obtain ⟨G, hG⟩ : ∃ G, gnI S k = G := ⟨_, rfl⟩
      obtain ⟨bp, hbp⟩ : ∃ bp, (vcP (gnI S) k).1 = bp := ⟨_, rfl⟩
      obtain ⟨bg, hbg⟩ : ∃ bg, (vcP (gnI S) k).2 = bg := ⟨_, rfl⟩
      have HPN2 : Hid (¬ bg < G → (vcP (gnI S) (k + 1)).1 = bp ∧ (vcP (gnI S) (k + 1)).2 = bg) := fun c => by rw [HPN.out (by rw [hbg, hG]; exact c)]; exact ⟨hbp, hbg⟩
      have HPY2 : Hid (bg < G → (vcP (gnI S) (k + 1)).1 = (k : Int) ∧ (vcP (gnI S) (k + 1)).2 = G) := fun c => by rw [HPY.out (by rw [hbg, hG]; exact c)]; exact ⟨rfl, hG⟩
      rw [hG] at HG
      rw [hbp, hbg]
      clear hG hbp hbg HPN HPY
      go_wp2_with fail
      clear x0 x1 x2 x3 x4 x5 x6 x7 x8
      refine HG.out.mono ?_
      rintro e w3 ⟨rfl, k3⟩
      have b3 := br.trans (k3.mono br.size)
      clear HG k3 bw b1 br
      by_cases hgt : bg < G
      · have HP := Lib.hid (HPY2.out hgt)
        clear HPY2 HPN2
        go_wp2
        exact ⟨⟨k + 1, by omega, by simp, by rw [HP.out.1], by rw [HP.out.2], b3⟩, by first | omega | (simp [intOf]; omega)⟩
      · have HP := Lib.hid (HPN2.out (by omega))
        clear HPY2 HPN2
        go_wp2
        exact ⟨⟨k + 1, by omega, by simp, by rw [HP.out.1], by rw [HP.out.2], b3⟩, by first | omega | (simp [intOf]; omega)⟩
    · have HV2 : Hid ((vcP (gnI S) k).1 = N) := by
        show _ = _
        rw [← HV.out, show k = n by omega]
      have HBZ := Lib.hid bw
      clear HGN HR1 HX
      go_wp2
      go_ret
      exact ⟨by rw [HV2.out]; first | done | rfl | simp, HBZ.out⟩

end Go.Proofs.YtleaahdnpjnmlaaGreatDoor
