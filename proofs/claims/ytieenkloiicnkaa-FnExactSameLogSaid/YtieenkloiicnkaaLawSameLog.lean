/- For every two logs, SameLog answers as its model, and nothing that was there is changed. No condition. -/
import Derived.Test.YtieenkloiicnkaaJg
import Derived.Test.YtieenkloiicnkaaJh
import Derived.ProofKit
import Derived.OpenShut
import Derived.ShutString
import Derived.ChangeOld
import Derived.Below
import Derived.Deep.RegionHeld3
namespace Go.Proofs.Ytieenkloiicnkaa
open Go.ChangeShapes Go.WideShapes Go.ChangeAt Go.RowKit
open Go.ChangeMaps (open_string shut_string)
set_option linter.unusedVariables false

theorem belDrewL (w : World) : Below w.heap.size w w.drew := (Below.refl _ _).drew

set_option maxRecDepth 100000 in
set_option maxHeartbeats 1000000 in
theorem szLog_at (L : Lg) (v : Value) (left : Int) (w : World) (h : LIn w v L) (h0 : 0 ≤ left) (h1 : left ≤ 1048576) :
    Calls Try.prog 4 #[v, .int .i64 left] w fun e w' => (∃ r : Int, e = .returned (.int .i64 r) ∧ r ≤ left ∧ (0 ≤ r → L.lean 1048576)) ∧ Below w.heap.size w w' := by
  obtain ⟨va, vb, vu, rfl, ha, hb, hl, hz⟩ := h
  have b0 := belNew w (.cells #[va, vb, .int .i64 L.segs, vu, .int .i64 L.ng, .int .i64 L.ns, .int .i64 L.st, .int .i64 L.nv] 28)
  have q0 := Box.new w #[va, vb, .int .i64 L.segs, vu, .int .i64 L.ng, .int .i64 L.ns, .int .i64 L.st, .int .i64 L.nv] 28
  have HD := Lib.hid (szDisk_any L.d _ left _ (ha.later b0) h0 h1)
  have HB : Hid (∀ x, Below (w.alloc (.cells #[va, vb, .int .i64 L.segs, vu, .int .i64 L.ng, .int .i64 L.ns, .int .i64 L.st, .int .i64 L.nv] 28)).heap.size (w.alloc (.cells #[va, vb, .int .i64 L.segs, vu, .int .i64 L.ng, .int .i64 L.ns, .int .i64 L.st, .int .i64 L.nv] 28)) x → Below w.heap.size w x ∧ LGRd x vu L.used ∧ Box x w.heap.size #[va, vb, .int .i64 L.segs, vu, .int .i64 L.ng, .int .i64 L.ns, .int .i64 L.st, .int .i64 L.nv] 28) := by
    intro x h
    have h' : Below w.heap.size w x := b0.trans (h.mono b0.size)
    exact ⟨h', hb.later h', q0.later h⟩
  have HG := Lib.hid (fun x r p h0 h1 => szSegS_any L.used vu r x p h0 h1 hl hz)
  clear ha hb q0 b0 hz
  go_enter Try.func4, Try.ntmps4
  go_wp2_with fail
  refine HD.out.mono ?_
  rintro e w1 ⟨r, rfl, k1, hr1, hr2, hr3⟩
  obtain ⟨b1, g1, x1⟩ := HB.out w1 k1
  have HR := Lib.hid hr3
  clear hr3
  by_cases hn : r < 0
  · clear x1
    go_wp2
    go_ret
    exact ⟨⟨-1, rfl, by omega, fun h => absurd h (by omega)⟩, b1⟩
  · obtain ⟨c0, c1, c2, c3, c4, c5, c6, c7, _⟩ := x1.eightL
    clear x1
    go_wp2_with fail
    clear c0 c1 c2 c3 c4 c5 c6 c7
    refine (HG.out _ r g1 (by omega) (by omega)).mono ?_
    rintro e w2 ⟨⟨q, rfl, hq, hq2, hq3⟩, k2⟩
    obtain ⟨b2, _, _⟩ := HB.out w2 (k1.trans (k2.mono k1.size))
    have HQ := Lib.hid hq
    clear hq
    by_cases hn2 : q < 0
    · go_wp2
      go_ret
      exact ⟨⟨-1, rfl, by omega, fun h => absurd h (by omega)⟩, b2⟩
    · have HE : Hid (L.lean 1048576) := by
        have h3 := HR.out (by omega)
        rcases HQ.out with h4 | ⟨h4, h5⟩
        · exact absurd h4 hn2
        · obtain ⟨d1, d2, d3, d4⟩ := h3
          exact ⟨⟨by omega, by omega, fun s hs => by have := d3 s hs; omega, fun s hs => by have := d4 s hs; omega⟩, by omega, fun b hb => (h5 b hb).mono (by omega)⟩
      have hqr : q ≤ left := by omega
      go_wp2
      go_ret
      exact ⟨⟨q, rfl, hqr, fun _ => HE.out⟩, b2⟩

set_option maxRecDepth 100000 in
set_option maxHeartbeats 8000000 in
theorem walk_FnExactSameLog (v : Value) (L : Lg) (u : Value) (M : Lg) {w : World} (ha : LIn w v L) (hb : LIn w u M) :
    Calls Try.prog 3 #[v, u] w fun e w' => e = .returned (.bool true) ∧ Below w.heap.size w w' := by
  obtain ⟨va, vb, vu, rfl, _⟩ := id ha
  obtain ⟨vc, vd, vx, rfl, _⟩ := id hb
  have X2 := (Box.new w #[va, vb, .int .i64 L.segs, vu, .int .i64 L.ng, .int .i64 L.ns, .int .i64 L.st, .int .i64 L.nv] 28).later (belNew _ (.cells #[vc, vd, .int .i64 M.segs, vx, .int .i64 M.ng, .int .i64 M.ns, .int .i64 M.st, .int .i64 M.nv] 28))
  have X3 : Box ((w.alloc (.cells #[va, vb, .int .i64 L.segs, vu, .int .i64 L.ng, .int .i64 L.ns, .int .i64 L.st, .int .i64 L.nv] 28)).alloc (.cells #[vc, vd, .int .i64 M.segs, vx, .int .i64 M.ng, .int .i64 M.ns, .int .i64 M.st, .int .i64 M.nv] 28)) (w.heap.size + 1) #[vc, vd, .int .i64 M.segs, vx, .int .i64 M.ng, .int .i64 M.ns, .int .i64 M.st, .int .i64 M.nv] 28 := by
    have := Box.new (w.alloc (.cells #[va, vb, .int .i64 L.segs, vu, .int .i64 L.ng, .int .i64 L.ns, .int .i64 L.st, .int .i64 L.nv] 28)) #[vc, vd, .int .i64 M.segs, vx, .int .i64 M.ng, .int .i64 M.ns, .int .i64 M.st, .int .i64 M.nv] 28
    rwa [show (w.alloc (.cells #[va, vb, .int .i64 L.segs, vu, .int .i64 L.ng, .int .i64 L.ns, .int .i64 L.st, .int .i64 L.nv] 28)).heap.size = w.heap.size + 1 from by simp] at this
  have b0 : Below w.heap.size w ((w.alloc (.cells #[va, vb, .int .i64 L.segs, vu, .int .i64 L.ng, .int .i64 L.ns, .int .i64 L.st, .int .i64 L.nv] 28)).alloc (.cells #[vc, vd, .int .i64 M.segs, vx, .int .i64 M.ng, .int .i64 M.ns, .int .i64 M.st, .int .i64 M.nv] 28)) := ((Below.refl _ _).alloc (Nat.le_refl _) _).alloc (by simp) _
  have HSZ := Lib.hid (szLog_at L _ 1048576 _ (ha.later b0) (by omega) (by omega))
  go_enter Try.func3, Try.ntmps3
  go_wp2_with fail
  generalize (w.alloc (.cells #[va, vb, .int .i64 L.segs, vu, .int .i64 L.ng, .int .i64 L.ns, .int .i64 L.st, .int .i64 L.nv] 28)).alloc (.cells #[vc, vd, .int .i64 M.segs, vx, .int .i64 M.ng, .int .i64 M.ns, .int .i64 M.st, .int .i64 M.nv] 28) = W at X2 X3 b0 HSZ ⊢
  obtain ⟨g3, hg3⟩ : ∃ g3, w.heap.size + 1 = g3 := ⟨_, rfl⟩
  rw [hg3] at X3 ⊢
  have HC : Hid (∀ x, Below W.heap.size W x → Box x w.heap.size #[va, vb, .int .i64 L.segs, vu, .int .i64 L.ng, .int .i64 L.ns, .int .i64 L.st, .int .i64 L.nv] 28 ∧ Box x g3 #[vc, vd, .int .i64 M.segs, vx, .int .i64 M.ng, .int .i64 M.ns, .int .i64 M.st, .int .i64 M.nv] 28 ∧ LIn x (.agg #[va, vb, .int .i64 L.segs, vu, .int .i64 L.ng, .int .i64 L.ns, .int .i64 L.st, .int .i64 L.nv]) L ∧ LIn x (.agg #[vc, vd, .int .i64 M.segs, vx, .int .i64 M.ng, .int .i64 M.ns, .int .i64 M.st, .int .i64 M.nv]) M ∧ Below w.heap.size w x) := by
    intro x h
    have h' := b0.trans (h.mono b0.size)
    exact ⟨X2.later h, X3.later h, ha.later h', hb.later h', h'⟩
  clear hg3 X2 X3 ha hb
  refine HSZ.out.mono ?_
  rintro e w1 ⟨⟨r1, rfl, hr0, hr1⟩, k1⟩
  clear HSZ b0
  by_cases hn1 : r1 < 0
  · obtain ⟨_, _, _, _, bz⟩ := HC.out _ k1
    clear hr1
    go_wp2
    go_ret
    exact ⟨rfl, bz⟩
  have hL := Lib.hid (hr1 (by omega))
  clear hr1
  obtain ⟨_, xb, _, q3, _⟩ := HC.out _ k1
  obtain ⟨h0, h1, h2, h3, h4, h5, h6, h7, _⟩ := xb.eightL
  have HSZ := Lib.hid (szLog_at M _ r1 _ q3 (by omega) (by omega))
  clear q3 xb
  go_wp2_with fail
  clear h0 h1 h2 h3 h4 h5 h6 h7
  refine HSZ.out.mono ?_
  rintro e w2 ⟨⟨r2, rfl, hr0', hr2⟩, k2⟩
  have j2 := k1.trans (k2.mono k1.size)
  clear HSZ
  by_cases hn2 : r2 < 0
  · obtain ⟨_, _, _, _, bz⟩ := HC.out _ j2
    clear hr2
    go_wp2
    go_ret
    exact ⟨rfl, bz⟩
  have hM := Lib.hid (hr2 (by omega))
  clear hr2 k1 k2
  obtain ⟨hsmL, hunL, humL, _, _⟩ := L.lean_small hL.out
  obtain ⟨hsmM, hunM, humM, _, _⟩ := M.lean_small hM.out
  have HSL := Lib.hid hsmL
  have HSM := Lib.hid hsmM
  have HUL := Lib.hid humL
  have HUM := Lib.hid humM
  clear hsmL hsmM humL humM
  obtain ⟨D, hD⟩ : ∃ D, sameP (L.same M) = D := ⟨_, rfl⟩
  have HD := Lib.hid hD
  clear hD
  have hDD : (D != D) = false := by cases D <;> rfl
  have jd := j2.trans ((belDrewL w2).mono j2.size)
  have HS : Hid (∀ x, Below w2.drew.heap.size w2.drew x → (x.cell? ⟨w.heap.size, 0, none⟩ = some (va) ∧ x.cell? ⟨w.heap.size, 1, none⟩ = some (vb) ∧ x.cell? ⟨w.heap.size, 2, none⟩ = some (.int .i64 L.segs) ∧ x.cell? ⟨w.heap.size, 3, none⟩ = some (vu) ∧ x.cell? ⟨w.heap.size, 4, none⟩ = some (.int .i64 L.ng) ∧ x.cell? ⟨w.heap.size, 5, none⟩ = some (.int .i64 L.ns) ∧ x.cell? ⟨w.heap.size, 6, none⟩ = some (.int .i64 L.st) ∧ x.cell? ⟨w.heap.size, 7, none⟩ = some (.int .i64 L.nv)) ∧ x.cell? ⟨g3, 0, none⟩ = some (vc) ∧ x.cell? ⟨g3, 1, none⟩ = some (vd) ∧ x.cell? ⟨g3, 2, none⟩ = some (.int .i64 M.segs) ∧ x.cell? ⟨g3, 3, none⟩ = some (vx) ∧ x.cell? ⟨g3, 4, none⟩ = some (.int .i64 M.ng) ∧ x.cell? ⟨g3, 5, none⟩ = some (.int .i64 M.ns) ∧ x.cell? ⟨g3, 6, none⟩ = some (.int .i64 M.st) ∧ x.cell? ⟨g3, 7, none⟩ = some (.int .i64 M.nv)) := by
    intro x hx
    obtain ⟨xa, xb, _⟩ := HC.out _ (jd.trans (hx.mono jd.size))
    obtain ⟨u0, u1, u2, u3, u4, u5, u6, u7, _⟩ := xa.eightL
    obtain ⟨t0, t1, t2, t3, t4, t5, t6, t7, _⟩ := xb.eightL
    exact ⟨⟨u0, u1, u2, u3, u4, u5, u6, u7⟩, t0, t1, t2, t3, t4, t5, t6, t7⟩
  go_upto_region 8 with fail
  go_cut [6] (fun c wx => c = .bool D ∧ Below W.heap.size W wx)
  case first =>
    obtain ⟨_, _, pa, pb, _⟩ := HC.out _ jd
    go_region_held3 (fun x => (x.cell? ⟨w.heap.size, 0, none⟩ = some (va) ∧ x.cell? ⟨w.heap.size, 1, none⟩ = some (vb) ∧ x.cell? ⟨w.heap.size, 2, none⟩ = some (.int .i64 L.segs) ∧ x.cell? ⟨w.heap.size, 3, none⟩ = some (vu) ∧ x.cell? ⟨w.heap.size, 4, none⟩ = some (.int .i64 L.ng) ∧ x.cell? ⟨w.heap.size, 5, none⟩ = some (.int .i64 L.ns) ∧ x.cell? ⟨w.heap.size, 6, none⟩ = some (.int .i64 L.st) ∧ x.cell? ⟨w.heap.size, 7, none⟩ = some (.int .i64 L.nv)) ∧ x.cell? ⟨g3, 0, none⟩ = some (vc) ∧ x.cell? ⟨g3, 1, none⟩ = some (vd) ∧ x.cell? ⟨g3, 2, none⟩ = some (.int .i64 M.segs) ∧ x.cell? ⟨g3, 3, none⟩ = some (vx) ∧ x.cell? ⟨g3, 4, none⟩ = some (.int .i64 M.ng) ∧ x.cell? ⟨g3, 5, none⟩ = some (.int .i64 M.ns) ∧ x.cell? ⟨g3, 6, none⟩ = some (.int .i64 M.st) ∧ x.cell? ⟨g3, 7, none⟩ = some (.int .i64 M.nv))
      (first | (exact HS.out _ (Below.refl _ _)) | (exact HS.out _ kX) | (exact HS.out _ kY) | (exact HS.out _ kZ))
      (first
        | (go_at_call 6; refine (toLog_any M _ _ ((HC.out _ (jd.trans (kX.mono jd.size))).2.2.2.1) hM.out).mono ?_; rintro e wY ⟨v2, rfl, S2, kY'⟩; have kY := kX.trans (kY'.mono kX.size))
        | (go_at_call 6; refine (toLog_any L _ _ pa hL.out).mono ?_; rintro e wX ⟨v1, rfl, S1, kX⟩)
        | (go_at_call 5; refine (specSameLog_any L M _ _ _ (S1.later kY').rd S2.rd (by omega) HUL.out).mono ?_; rintro e wZ ⟨rfl, kZ'⟩; rw [HD.out]; have kZ := kY.trans (kZ'.mono kY.size)))
    all_goals
      go_wp2_with fail
      go_meet
      exact ⟨rfl, jd.trans (kZ.mono jd.size)⟩
  case rest =>
    obtain ⟨rfl, j3⟩ := hcut
    clear j2 jd HS
    obtain ⟨xa, _, pa, _, _⟩ := HC.out _ j3
    obtain ⟨h0, h1, h2, h3, h4, h5, h6, h7, _⟩ := xa.eightL
    clear xa
    go_wp2_with fail
    clear h0 h1 h2 h3 h4 h5 h6 h7
    refine (toLog_any L _ _ pa hL.out).mono ?_
    rintro e w4 ⟨v4, rfl, S4, k4⟩
    obtain ⟨p1, p2, p3, pc1, pc2, pc3, rfl⟩ := S4.form
    have j4 := j3.trans (k4.mono j3.size)
    have X7 := Box.new w4 #[.slice p1 L.d.sec.length pc1, .slice p2 L.d.cache.length pc2, .int .i64 L.segs, .slice p3 L.used.length pc3, .int .i64 L.ng, .int .i64 L.ns, .int .i64 L.st, .int .i64 L.nv] 36
    have k5 := belNew w4 (.cells #[.slice p1 L.d.sec.length pc1, .slice p2 L.d.cache.length pc2, .int .i64 L.segs, .slice p3 L.used.length pc3, .int .i64 L.ng, .int .i64 L.ns, .int .i64 L.st, .int .i64 L.nv] 36)
    have j5 := j4.trans (k5.mono j4.size)
    have R4 := S4.rd.later k5
    obtain ⟨_, xb, _, pb, _⟩ := HC.out _ j5
    obtain ⟨h0, h1, h2, h3, h4, h5, h6, h7, _⟩ := xb.eightL
    clear S4 k4 k5 j3 j4 pa xb
    go_wp2_with fail
    clear h0 h1 h2 h3 h4 h5 h6 h7
    generalize w4.alloc (.cells #[.slice p1 L.d.sec.length pc1, .slice p2 L.d.cache.length pc2, .int .i64 L.segs, .slice p3 L.used.length pc3, .int .i64 L.ng, .int .i64 L.ns, .int .i64 L.st, .int .i64 L.nv] 36) = w5 at X7 j5 R4 pb ⊢
    generalize w4.heap.size = g7 at X7 ⊢
    refine (toLog_any M _ _ pb hM.out).mono ?_
    rintro e w6 ⟨v6, rfl, S6, k6⟩
    obtain ⟨q1, q2, q3, qc1, qc2, qc3, rfl⟩ := S6.form
    have j6 := j5.trans (k6.mono j5.size)
    have X8 := Box.new w6 #[.slice q1 M.d.sec.length qc1, .slice q2 M.d.cache.length qc2, .int .i64 M.segs, .slice q3 M.used.length qc3, .int .i64 M.ng, .int .i64 M.ns, .int .i64 M.st, .int .i64 M.nv] 36
    have k7 := belNew w6 (.cells #[.slice q1 M.d.sec.length qc1, .slice q2 M.d.cache.length qc2, .int .i64 M.segs, .slice q3 M.used.length qc3, .int .i64 M.ng, .int .i64 M.ns, .int .i64 M.st, .int .i64 M.nv] 36)
    have j7 := j6.trans (k7.mono j6.size)
    have R6 := S6.rd.later k7
    replace R4 := (R4.later k6).later k7
    replace X7 := (X7.later k6).later k7
    obtain ⟨y0, y1, y2, y3, y4, y5, y6, y7, _⟩ := X7.eightL
    obtain ⟨z0, z1, z2, z3, z4, z5, z6, z7, _⟩ := X8.eightL
    clear S6 k6 k7 j5 j6 pb
    go_wp2_with fail
    clear y0 y1 y2 y3 y4 y5 y6 y7 z0 z1 z2 z3 z4 z5 z6 z7
    generalize w6.alloc (.cells #[.slice q1 M.d.sec.length qc1, .slice q2 M.d.cache.length qc2, .int .i64 M.segs, .slice q3 M.used.length qc3, .int .i64 M.ng, .int .i64 M.ns, .int .i64 M.st, .int .i64 M.nv] 36) = w7 at X7 X8 j7 R4 R6 ⊢
    generalize w6.heap.size = g8 at X8 ⊢
    refine (implSameLog_any L M _ _ _ R4 R6 (by omega) HUL.out).mono ?_
    rintro e w8 ⟨rfl, k8⟩
    rw [HD.out]
    have j8 := j7.trans (k8.mono j7.size)
    replace R4 := R4.later k8
    replace R6 := R6.later k8
    replace X7 := X7.later k8
    replace X8 := X8.later k8
    clear j7 k8
    have jd := j8.trans ((belDrewL w8).mono j8.size)
    have HS : Hid (∀ x, Below w8.drew.heap.size w8.drew x → ((x.cell? ⟨w.heap.size, 0, none⟩ = some (va) ∧ x.cell? ⟨w.heap.size, 1, none⟩ = some (vb) ∧ x.cell? ⟨w.heap.size, 2, none⟩ = some (.int .i64 L.segs) ∧ x.cell? ⟨w.heap.size, 3, none⟩ = some (vu) ∧ x.cell? ⟨w.heap.size, 4, none⟩ = some (.int .i64 L.ng) ∧ x.cell? ⟨w.heap.size, 5, none⟩ = some (.int .i64 L.ns) ∧ x.cell? ⟨w.heap.size, 6, none⟩ = some (.int .i64 L.st) ∧ x.cell? ⟨w.heap.size, 7, none⟩ = some (.int .i64 L.nv)) ∧ x.cell? ⟨g7, 0, none⟩ = some (.slice p1 L.d.sec.length pc1) ∧ x.cell? ⟨g7, 1, none⟩ = some (.slice p2 L.d.cache.length pc2) ∧ x.cell? ⟨g7, 2, none⟩ = some (.int .i64 L.segs) ∧ x.cell? ⟨g7, 3, none⟩ = some (.slice p3 L.used.length pc3) ∧ x.cell? ⟨g7, 4, none⟩ = some (.int .i64 L.ng) ∧ x.cell? ⟨g7, 5, none⟩ = some (.int .i64 L.ns) ∧ x.cell? ⟨g7, 6, none⟩ = some (.int .i64 L.st) ∧ x.cell? ⟨g7, 7, none⟩ = some (.int .i64 L.nv)) ∧ LRd x (.agg #[.slice p1 L.d.sec.length pc1, .slice p2 L.d.cache.length pc2, .int .i64 L.segs, .slice p3 L.used.length pc3, .int .i64 L.ng, .int .i64 L.ns, .int .i64 L.st, .int .i64 L.nv]) L ∧ Below W.heap.size W x) := by
      intro x hx
      have hx2 : Below w8.heap.size w8 x := (belDrewL w8).trans hx
      obtain ⟨xa, _⟩ := HC.out _ (jd.trans (hx.mono jd.size))
      obtain ⟨u0, u1, u2, u3, u4, u5, u6, u7, _⟩ := xa.eightL
      obtain ⟨t0, t1, t2, t3, t4, t5, t6, t7, _⟩ := (X7.later hx2).eightL
      exact ⟨⟨⟨u0, u1, u2, u3, u4, u5, u6, u7⟩, t0, t1, t2, t3, t4, t5, t6, t7⟩, R4.later hx2, jd.trans (hx.mono jd.size)⟩
    have HY : Hid (∀ x, Below w8.heap.size w8 x → Box x g8 #[.slice q1 M.d.sec.length qc1, .slice q2 M.d.cache.length qc2, .int .i64 M.segs, .slice q3 M.used.length qc3, .int .i64 M.ng, .int .i64 M.ns, .int .i64 M.st, .int .i64 M.nv] 36 ∧ LRd x (.agg #[.slice q1 M.d.sec.length qc1, .slice q2 M.d.cache.length qc2, .int .i64 M.segs, .slice q3 M.used.length qc3, .int .i64 M.ng, .int .i64 M.ns, .int .i64 M.st, .int .i64 M.nv]) M) := fun x hx => ⟨X8.later hx, R6.later hx⟩
    clear X7 X8 R4 R6
    go_upto_region 14 with fail
    go_cut [39] (fun c wx => c = .bool false ∧ Below w8.heap.size w8 wx)
    case first =>
      obtain ⟨_, _, pa, _, _⟩ := HC.out _ jd
      go_region_held3 (fun x => (x.cell? ⟨w.heap.size, 0, none⟩ = some (va) ∧ x.cell? ⟨w.heap.size, 1, none⟩ = some (vb) ∧ x.cell? ⟨w.heap.size, 2, none⟩ = some (.int .i64 L.segs) ∧ x.cell? ⟨w.heap.size, 3, none⟩ = some (vu) ∧ x.cell? ⟨w.heap.size, 4, none⟩ = some (.int .i64 L.ng) ∧ x.cell? ⟨w.heap.size, 5, none⟩ = some (.int .i64 L.ns) ∧ x.cell? ⟨w.heap.size, 6, none⟩ = some (.int .i64 L.st) ∧ x.cell? ⟨w.heap.size, 7, none⟩ = some (.int .i64 L.nv)) ∧ x.cell? ⟨g7, 0, none⟩ = some (.slice p1 L.d.sec.length pc1) ∧ x.cell? ⟨g7, 1, none⟩ = some (.slice p2 L.d.cache.length pc2) ∧ x.cell? ⟨g7, 2, none⟩ = some (.int .i64 L.segs) ∧ x.cell? ⟨g7, 3, none⟩ = some (.slice p3 L.used.length pc3) ∧ x.cell? ⟨g7, 4, none⟩ = some (.int .i64 L.ng) ∧ x.cell? ⟨g7, 5, none⟩ = some (.int .i64 L.ns) ∧ x.cell? ⟨g7, 6, none⟩ = some (.int .i64 L.st) ∧ x.cell? ⟨g7, 7, none⟩ = some (.int .i64 L.nv))
        (first | (exact (HS.out _ (Below.refl _ _)).1) | (exact (HS.out _ kX).1) | (exact (HS.out _ kY).1))
        (first
          | (go_at_call 6; refine (toLog_any L _ _ pa hL.out).mono ?_; rintro e wX ⟨v1, rfl, S1, kX⟩)
          | (go_at_call 8; refine (eqLog_same L _ _ _ (HS.out _ kX).2.1 S1.rd HSL.out (by omega) HUL.out).mono ?_; rintro e wY ⟨rfl, kY'⟩; have kY := kX.trans (kY'.mono kX.size)))
      all_goals
        go_wp2_with fail
        go_meet
        exact ⟨rfl, (belDrewL w8).trans kY⟩
    case rest =>
      obtain ⟨rfl, k9⟩ := hcut
      clear HS jd
      have j9 := j8.trans (k9.mono j8.size)
      obtain ⟨X8, R6⟩ := HY.out _ k9
      clear j8 k9 HY
      have jd := j9.trans ((belDrewL _).mono j9.size)
      have HS := (fun (y : World) (jy : Below W.heap.size W y) (X : Box y g8 #[.slice q1 M.d.sec.length qc1, .slice q2 M.d.cache.length qc2, .int .i64 M.segs, .slice q3 M.used.length qc3, .int .i64 M.ng, .int .i64 M.ns, .int .i64 M.st, .int .i64 M.nv] 36) (R : LRd y (.agg #[.slice q1 M.d.sec.length qc1, .slice q2 M.d.cache.length qc2, .int .i64 M.segs, .slice q3 M.used.length qc3, .int .i64 M.ng, .int .i64 M.ns, .int .i64 M.st, .int .i64 M.nv]) M) => (show Hid (∀ x, Below y.drew.heap.size y.drew x → ((x.cell? ⟨g3, 0, none⟩ = some (vc) ∧ x.cell? ⟨g3, 1, none⟩ = some (vd) ∧ x.cell? ⟨g3, 2, none⟩ = some (.int .i64 M.segs) ∧ x.cell? ⟨g3, 3, none⟩ = some (vx) ∧ x.cell? ⟨g3, 4, none⟩ = some (.int .i64 M.ng) ∧ x.cell? ⟨g3, 5, none⟩ = some (.int .i64 M.ns) ∧ x.cell? ⟨g3, 6, none⟩ = some (.int .i64 M.st) ∧ x.cell? ⟨g3, 7, none⟩ = some (.int .i64 M.nv)) ∧ x.cell? ⟨g8, 0, none⟩ = some (.slice q1 M.d.sec.length qc1) ∧ x.cell? ⟨g8, 1, none⟩ = some (.slice q2 M.d.cache.length qc2) ∧ x.cell? ⟨g8, 2, none⟩ = some (.int .i64 M.segs) ∧ x.cell? ⟨g8, 3, none⟩ = some (.slice q3 M.used.length qc3) ∧ x.cell? ⟨g8, 4, none⟩ = some (.int .i64 M.ng) ∧ x.cell? ⟨g8, 5, none⟩ = some (.int .i64 M.ns) ∧ x.cell? ⟨g8, 6, none⟩ = some (.int .i64 M.st) ∧ x.cell? ⟨g8, 7, none⟩ = some (.int .i64 M.nv)) ∧ LRd x (.agg #[.slice q1 M.d.sec.length qc1, .slice q2 M.d.cache.length qc2, .int .i64 M.segs, .slice q3 M.used.length qc3, .int .i64 M.ng, .int .i64 M.ns, .int .i64 M.st, .int .i64 M.nv]) M ∧ Below w.heap.size w x) from fun x hx => by
        have hx2 : Below y.heap.size y x := (belDrewL y).trans hx
        obtain ⟨_, xb, _, _, ub⟩ := HC.out _ (jy.trans (hx2.mono jy.size))
        obtain ⟨u0, u1, u2, u3, u4, u5, u6, u7, _⟩ := xb.eightL
        obtain ⟨t0, t1, t2, t3, t4, t5, t6, t7, _⟩ := (X.later hx2).eightL
        exact ⟨⟨⟨u0, u1, u2, u3, u4, u5, u6, u7⟩, t0, t1, t2, t3, t4, t5, t6, t7⟩, R.later hx2, ub⟩)) _ j9 X8 R6
      clear X8 R6
      go_upto_region 16 with fail
      obtain ⟨_, _, _, pb, _⟩ := HC.out _ jd
      go_region_held3 (fun x => (x.cell? ⟨g3, 0, none⟩ = some (vc) ∧ x.cell? ⟨g3, 1, none⟩ = some (vd) ∧ x.cell? ⟨g3, 2, none⟩ = some (.int .i64 M.segs) ∧ x.cell? ⟨g3, 3, none⟩ = some (vx) ∧ x.cell? ⟨g3, 4, none⟩ = some (.int .i64 M.ng) ∧ x.cell? ⟨g3, 5, none⟩ = some (.int .i64 M.ns) ∧ x.cell? ⟨g3, 6, none⟩ = some (.int .i64 M.st) ∧ x.cell? ⟨g3, 7, none⟩ = some (.int .i64 M.nv)) ∧ x.cell? ⟨g8, 0, none⟩ = some (.slice q1 M.d.sec.length qc1) ∧ x.cell? ⟨g8, 1, none⟩ = some (.slice q2 M.d.cache.length qc2) ∧ x.cell? ⟨g8, 2, none⟩ = some (.int .i64 M.segs) ∧ x.cell? ⟨g8, 3, none⟩ = some (.slice q3 M.used.length qc3) ∧ x.cell? ⟨g8, 4, none⟩ = some (.int .i64 M.ng) ∧ x.cell? ⟨g8, 5, none⟩ = some (.int .i64 M.ns) ∧ x.cell? ⟨g8, 6, none⟩ = some (.int .i64 M.st) ∧ x.cell? ⟨g8, 7, none⟩ = some (.int .i64 M.nv))
        (first | (exact (HS.out _ (Below.refl _ _)).1) | (exact (HS.out _ kX).1) | (exact (HS.out _ kY).1))
        (first
          | (go_at_call 6; refine (toLog_any M _ _ pb hM.out).mono ?_; rintro e wX ⟨v1, rfl, S1, kX⟩)
          | (go_at_call 8; refine (eqLog_same M _ _ _ (HS.out _ kX).2.1 S1.rd HSM.out (by omega) HUM.out).mono ?_; rintro e wY ⟨rfl, kY'⟩; have kY := kX.trans (kY'.mono kX.size)))
      all_goals
        obtain ⟨_, _, bE⟩ := HS.out _ kY
        go_wp2
        go_ret
        exact ⟨rfl, bE⟩

theorem FnExactSameLog_own : ownKnob Try.prog.godebug = none := by kernel_rfl

set_option maxRecDepth 100000 in
theorem FnExactSameLog_lifted (os : Os) (started : os.Started) (H : Type) (enc : TypeId × Value → H) :
    ReturnsInHanded {} Try.checked os 3 .any (Rows.fnExactSameLogSpec.pre6 enc Try.prog Try.f3 Rows.fnExactSameLogRow.domain false) (Rows.fnExactSameLogSpec.post enc Try.prog Try.f3 false true false false) := by
  refine returnsInHanded_of_change (C := Try.checked) FnExactSameLog_own started (by kernel_rfl) Try.func3
    (ChangeSpec.witness6 (enc := enc) (C := Try.checked) false ⟨#[], #[.agg #[.slice none 0 0, .slice none 0 0, .int .i64 0, .slice none 0 0, .int .i64 0, .int .i64 0, .int .i64 0, .int .i64 0], .agg #[.slice none 0 0, .slice none 0 0, .int .i64 0, .slice none 0 0, .int .i64 0, .int .i64 0, .int .i64 0, .int .i64 0]], []⟩ 8 (by kernel_rfl) (by kernel_rfl) (by kernel_rfl) (by kernel_rfl)) ?_
  intro W base args ds gs before hval0 hW hcnd _
  have hval : ∀ (j : Nat) t v, Try.f3.params[j]? = some t → args[j]? = some v → Value.okWide Try.prog W .any base t v := hval0
  have hW' := hW
  obtain ⟨p, q, hA0, hV, rfl, hfz, hnd⟩ := hW
  have hA : DataW.TrodAll enc Try.prog W 0 (fun _ => true) true Try.f3.params.toList args.toList ds p := hA0
  rw [Try.params3] at hA hval
  obtain ⟨v0, vs0, d0, ds0, p0, q0, hargs, rfl, rfl, h0, r0⟩ := trodAll_cons hA
  obtain ⟨v1, vs1, d1, ds1, p1, q1, rfl, rfl, rfl, h1, r1⟩ := trodAll_cons r0
  obtain ⟨rfl, rfl, rfl⟩ := trodAll_nil r1
  obtain rfl : args = #[v0, v1] := by cases args; simp_all
  obtain ⟨rfl, rfl⟩ := trodVars_none hV
  have k0 := h0
  have lt0 : ∀ x ∈ p0, x.block < W.heap.size := by obtain ⟨m, hm⟩ := k0; exact DataW.trod_lt m _ _ _ hm
  obtain ⟨D0, w0⟩ := open_Log (hval 0 28 v0 rfl rfl) h0
  have k1 := h1
  have lt1 : ∀ x ∈ p1, x.block < W.heap.size := by obtain ⟨m, hm⟩ := k1; exact DataW.trod_lt m _ _ _ hm
  obtain ⟨D1, w1⟩ := open_Log (hval 1 28 v1 rfl rfl) h1
  clear hA0 hval0
  simp only [List.append_nil] at hW'
  refine (walk_FnExactSameLog v0 D0 v1 D1 w0 w1 (w := W)).mono fun e W' ⟨he, bel⟩ => ?_
  subst he
  exact ⟨_, rfl, _, _, _, [], _, [], hW', trodAll_mk1 (shut_bool Try.underlying4 _), (trodAll_cons_mk (Below.trod (show laidOutB Try.prog = true by kernel_rfl) (by kernel_rfl) (of_decide_eq_true (by kernel_rfl)) k0 bel lt0) (trodAll_cons_mk (Below.trod (show laidOutB Try.prog = true by kernel_rfl) (by kernel_rfl) (of_decide_eq_true (by kernel_rfl)) k1 bel lt1) trodAll_mk0)), rfl, bel.frame _, fun h => by cases h⟩

/-- The given statement. -/
theorem fnExactSameLog_holds : Rows.FnExactSameLogSaid :=
  OpenClaim.holds_of_wide 3 Try.f3 rfl rfl rfl rfl rfl rfl rfl ⟨rfl, rfl, rfl, rfl, rfl⟩ rfl rfl rfl rfl rfl (by kernel_rfl) Try.func3 (by kernel_rfl)
    (of_decide_eq_true (by kernel_rfl)) (by unfold Func.isWrapper; first | (rw [if_pos (by decide +kernel)]; kernel_rfl) | (rw [if_neg (by decide +kernel)]; exact ⟨rfl, rfl⟩))
    (fun os started H enc _ => FnExactSameLog_lifted os started H enc)
#print axioms fnExactSameLog_holds

end Go.Proofs.Ytieenkloiicnkaa
