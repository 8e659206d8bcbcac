/- For every log, CheckOf answers as its model; it writes into no argument, its answer owns its memory, and nothing that was there is changed. -/
import Derived.Test.YtmahicpheimnjaaJi
import Derived.Test.YtmahicpheimnjaaJj
import Derived.Test.YtmahicpheimnjaaJk
import Derived.ProofKit
import Derived.OpenShut
import Derived.ShutString
import Derived.ChangeOld
import Derived.Below
namespace Go.Proofs.Ytmahicpheimnjaa
open Go.ChangeShapes Go.WideShapes Go.ChangeAt Go.RowKit
open Go.ChangeMaps (open_string shut_string)
set_option linter.unusedVariables false

set_option maxRecDepth 100000 in
set_option maxHeartbeats 8000000 in
theorem walk_FnExactCheckOf (v : Value) (L : Lg) {w : World} (h : LIn w v L) :
    Calls Try.prog 4 #[v] w fun e w' => e = .returned (.bool true) ∧ Below w.heap.size w w' := by
  obtain ⟨va, vb, vu, rfl, _⟩ := id h
  have q0 := Box.new w #[va, vb, .int .i64 L.segs, vu, .int .i64 L.ng, .int .i64 L.ns, .int .i64 L.st, .int .i64 L.nv] 52
  have b0 := belNew w (.cells #[va, vb, .int .i64 L.segs, vu, .int .i64 L.ng, .int .i64 L.ns, .int .i64 L.st, .int .i64 L.nv] 52)
  have HC : Hid (∀ x, Below (w.alloc (.cells #[va, vb, .int .i64 L.segs, vu, .int .i64 L.ng, .int .i64 L.ns, .int .i64 L.st, .int .i64 L.nv] 52)).heap.size (w.alloc (.cells #[va, vb, .int .i64 L.segs, vu, .int .i64 L.ng, .int .i64 L.ns, .int .i64 L.st, .int .i64 L.nv] 52)) x → Box x w.heap.size #[va, vb, .int .i64 L.segs, vu, .int .i64 L.ng, .int .i64 L.ns, .int .i64 L.st, .int .i64 L.nv] 52 ∧ LIn x (.agg #[va, vb, .int .i64 L.segs, vu, .int .i64 L.ng, .int .i64 L.ns, .int .i64 L.st, .int .i64 L.nv]) L ∧ Below w.heap.size w x) := fun x hx => by
    have h' := b0.trans (hx.mono b0.size)
    exact ⟨q0.later hx, h.later h', h'⟩
  have HSZ := Lib.hid (szLog_any L _ _ (h.later b0))
  have ZW0 : Hid (w.heap.size < (w.alloc (.cells #[va, vb, .int .i64 L.segs, vu, .int .i64 L.ng, .int .i64 L.ns, .int .i64 L.st, .int .i64 L.nv] 52)).heap.size) := by show _ < _; simp
  clear q0 h b0
  go_enter Try.func4, Try.ntmps4
  go_wp2_with fail
  generalize w.alloc (.cells #[va, vb, .int .i64 L.segs, vu, .int .i64 L.ng, .int .i64 L.ns, .int .i64 L.st, .int .i64 L.nv] 52) = W at HC HSZ ZW0 ⊢
  refine HSZ.out.mono ?_
  rintro e w2 ⟨⟨r, rfl, hr⟩, j2⟩
  clear HSZ
  by_cases hneg : r < 0
  · have b2 := (HC.out _ j2).2.2
    clear hr
    go_wp2
    go_ret
    exact ⟨rfl, b2⟩
  have hL := Lib.hid (hr (by omega))
  clear hr
  obtain ⟨hsm, hun, hum, huk, hdc⟩ : L.d.small ∧ L.used.length ≤ 1048576 ∧ (∀ b ∈ L.used, b.items.length ≤ 1099511627776) ∧ L.kL 1 ≤ 40000000 ∧ L.d.count ≤ 4000000 := L.lean_small hL.out
  have HUM := Lib.hid hum
  have ZW : Hid (W.heap.size ≤ w2.heap.size ∧ w.heap.size < W.heap.size) := ⟨j2.size, ZW0.out⟩
  clear hum ZW0
  obtain ⟨C, hA⟩ : ∃ C, ckOf L = C := ⟨_, rfl⟩
  have hAl : C.refs.length ≤ 1048576 := by rw [← hA]; show (L.used.map _).length ≤ _; rw [List.length_map]; omega
  have HSP : Hid (∀ (va : Value) (x : World), LRd x va L → Calls Try.prog 17 #[va] x fun e w' => ∃ (a : Option Addr) (cap : Nat), e = .returned (.agg #[.int .i64 C.st, .int .i64 C.ng, .int .i64 C.ns, .int .i64 C.nv, .slice a C.refs.length cap]) ∧ RBuf rfE x.heap.size x w' (.slice a C.refs.length cap) C.refs) := by
    rw [← hA]
    exact fun va x hx => specCheckOf_any L va x hx (by omega)
  have HIM : Hid (∀ (va : Value) (x : World), LRd x va L → Calls Try.prog 19 #[va] x fun e w' => ∃ (a : Option Addr) (cap : Nat), e = .returned (.agg #[.int .i64 C.st, .int .i64 C.ng, .int .i64 C.ns, .int .i64 C.nv, .slice a C.refs.length cap]) ∧ RBuf rfE x.heap.size x w' (.slice a C.refs.length cap) C.refs) := by
    rw [← hA]
    exact fun va x hx => implCheckOf_any L va x hx (by omega)
  clear hA
  obtain ⟨st, ng, ns, nv, rs⟩ := C
  simp only at HSP HIM hAl
  obtain ⟨xa, la, _⟩ := HC.out _ j2
  obtain ⟨h0, h1, h2, h3, h4, h5, h6, h7, _⟩ := xa.eightL
  clear xa
  go_wp2_with fail
  clear h0 h1 h2 h3 h4 h5 h6 h7
  refine (toLog_any L _ _ la hL.out).mono ?_
  rintro e w3 ⟨vA, rfl, A, k3⟩
  clear la
  have j3 := j2.trans (k3.mono j2.size)
  have Z3 : Hid (w2.heap.size ≤ w3.heap.size) := k3.size
  clear j2
  clear k3
  obtain ⟨aA1, aA2, aA3, cA1, cA2, cA3, rfl⟩ := A.form
  go_wp2_with fail
  refine (HSP.out _ _ A.rd).mono ?_
  rintro e w4 ⟨aRS, cRS, rfl, RS⟩
  have k4 := RS.bel
  have j4 := j3.trans (k4.mono j3.size)
  have Z4 : Hid (w3.heap.size ≤ w4.heap.size) := k4.size
  replace A := A.later k4
  clear j3
  replace RS := RS.lown
  clear k4
  clear A
  have k5 := belNew w4 (.cells #[.int .i64 st, .int .i64 ng, .int .i64 ns, .int .i64 nv, .slice aRS rs.length cRS] 56)
  have BS := Box.new w4 #[.int .i64 st, .int .i64 ng, .int .i64 ns, .int .i64 nv, .slice aRS rs.length cRS] 56
  obtain ⟨w5, hw5⟩ : ∃ x, w4.alloc (.cells #[.int .i64 st, .int .i64 ng, .int .i64 ns, .int .i64 nv, .slice aRS rs.length cRS] 56) = x := ⟨_, rfl⟩
  rw [hw5] at k5 BS
  have HW5 := Lib.hid hw5
  have ZB5 : Hid (w4.heap.size < w5.heap.size) := by show _ < _; rw [← hw5]; simp
  clear hw5
  have j5 := j4.trans (k5.mono j4.size)
  have Z5 : Hid (w4.heap.size ≤ w5.heap.size) := k5.size
  replace RS := RS.later k5
  clear j4
  clear k5
  obtain ⟨xa, la, _⟩ := HC.out _ j5
  obtain ⟨h0, h1, h2, h3, h4, h5, h6, h7, _⟩ := xa.eightL
  clear xa
  rw [← HW5.out] at h0 h1 h2 h3 h4 h5 h6 h7
  go_wp2_with fail
  clear h0 h1 h2 h3 h4 h5 h6 h7
  rw [HW5.out]
  refine (toLog_any L _ _ la hL.out).mono ?_
  rintro e w6 ⟨vX, rfl, X, k6⟩
  clear la
  have j6 := j5.trans (k6.mono j5.size)
  have Z6 : Hid (w5.heap.size ≤ w6.heap.size) := k6.size
  replace RS := RS.later k6
  replace BS := BS.later k6
  clear j5
  clear k6
  obtain ⟨aX1, aX2, aX3, cX1, cX2, cX3, rfl⟩ := X.form
  have k7 := belNew w6 (.cells #[.slice aX1 L.d.sec.length cX1, .slice aX2 L.d.cache.length cX2, .int .i64 L.segs, .slice aX3 L.used.length cX3, .int .i64 L.ng, .int .i64 L.ns, .int .i64 L.st, .int .i64 L.nv] 63)
  have BX := Box.new w6 #[.slice aX1 L.d.sec.length cX1, .slice aX2 L.d.cache.length cX2, .int .i64 L.segs, .slice aX3 L.used.length cX3, .int .i64 L.ng, .int .i64 L.ns, .int .i64 L.st, .int .i64 L.nv] 63
  obtain ⟨w7, hw7⟩ : ∃ x, w6.alloc (.cells #[.slice aX1 L.d.sec.length cX1, .slice aX2 L.d.cache.length cX2, .int .i64 L.segs, .slice aX3 L.used.length cX3, .int .i64 L.ng, .int .i64 L.ns, .int .i64 L.st, .int .i64 L.nv] 63) = x := ⟨_, rfl⟩
  rw [hw7] at k7 BX
  have HW7 := Lib.hid hw7
  have ZB7 : Hid (w6.heap.size < w7.heap.size) := by show _ < _; rw [← hw7]; simp
  clear hw7
  have j7 := j6.trans (k7.mono j6.size)
  have Z7 : Hid (w6.heap.size ≤ w7.heap.size) := k7.size
  replace RS := RS.later k7
  replace BS := BS.later k7
  replace X := X.later k7
  clear j6
  clear k7
  go_wp2_with fail
  rw [HW7.out]
  refine (HIM.out _ _ X.rd).mono ?_
  rintro e w8 ⟨aRG, cRG, rfl, RG⟩
  have k8 := RG.bel
  have j8 := j7.trans (k8.mono j7.size)
  have Z8 : Hid (w7.heap.size ≤ w8.heap.size) := k8.size
  replace RS := RS.later k8
  replace BS := BS.later k8
  replace X := X.later k8
  replace BX := BX.later k8
  clear j7
  replace RG := RG.lown
  clear k8
  have k9 := belNew w8 (.cells #[.int .i64 st, .int .i64 ng, .int .i64 ns, .int .i64 nv, .slice aRG rs.length cRG] 56)
  have BG := Box.new w8 #[.int .i64 st, .int .i64 ng, .int .i64 ns, .int .i64 nv, .slice aRG rs.length cRG] 56
  obtain ⟨w9, hw9⟩ : ∃ x, w8.alloc (.cells #[.int .i64 st, .int .i64 ng, .int .i64 ns, .int .i64 nv, .slice aRG rs.length cRG] 56) = x := ⟨_, rfl⟩
  rw [hw9] at k9 BG
  have HW9 := Lib.hid hw9
  have ZB9 : Hid (w8.heap.size < w9.heap.size) := by show _ < _; rw [← hw9]; simp
  clear hw9
  have j9 := j8.trans (k9.mono j8.size)
  have Z9 : Hid (w8.heap.size ≤ w9.heap.size) := k9.size
  replace RS := RS.later k9
  replace BS := BS.later k9
  replace X := X.later k9
  replace BX := BX.later k9
  replace RG := RG.later k9
  clear j8
  clear k9
  obtain ⟨f00, f01, f02, f03, f04, _⟩ := BG.fiveC
  obtain ⟨f10, f11, f12, f13, f14, _⟩ := BS.fiveC
  rw [← HW9.out] at f00 f01 f02 f03 f04 f10 f11 f12 f13 f14
  go_wp2_with fail
  clear f00 f01 f02 f03 f04 f10 f11 f12 f13 f14
  rw [HW9.out]
  refine (eqCheck_same ⟨st, ng, ns, nv, rs⟩ _ _ _ _ _ RG.rows RS.rows (by show rs.length ≤ _; omega)).mono ?_
  rintro e w10 ⟨rfl, k10⟩
  have j10 := j9.trans (k10.mono j9.size)
  have Z10 : Hid (w9.heap.size ≤ w10.heap.size) := k10.size
  replace RS := RS.later k10
  replace BS := BS.later k10
  replace X := X.later k10
  replace BX := BX.later k10
  replace RG := RG.later k10
  replace BG := BG.later k10
  clear j9
  clear k10
  have HS : Hid (∀ x, Below w10.drew.heap.size w10.drew x → ((x.cell? ⟨w.heap.size, 0, none⟩ = some (va) ∧ x.cell? ⟨w.heap.size, 1, none⟩ = some (vb) ∧ x.cell? ⟨w.heap.size, 2, none⟩ = some (.int .i64 L.segs) ∧ x.cell? ⟨w.heap.size, 3, none⟩ = some (vu) ∧ x.cell? ⟨w.heap.size, 4, none⟩ = some (.int .i64 L.ng) ∧ x.cell? ⟨w.heap.size, 5, none⟩ = some (.int .i64 L.ns) ∧ x.cell? ⟨w.heap.size, 6, none⟩ = some (.int .i64 L.st) ∧ x.cell? ⟨w.heap.size, 7, none⟩ = some (.int .i64 L.nv)) ∧ (x.cell? ⟨w6.heap.size, 0, none⟩ = some (.slice aX1 L.d.sec.length cX1) ∧ x.cell? ⟨w6.heap.size, 1, none⟩ = some (.slice aX2 L.d.cache.length cX2) ∧ x.cell? ⟨w6.heap.size, 2, none⟩ = some (.int .i64 L.segs) ∧ x.cell? ⟨w6.heap.size, 3, none⟩ = some (.slice aX3 L.used.length cX3) ∧ x.cell? ⟨w6.heap.size, 4, none⟩ = some (.int .i64 L.ng) ∧ x.cell? ⟨w6.heap.size, 5, none⟩ = some (.int .i64 L.ns) ∧ x.cell? ⟨w6.heap.size, 6, none⟩ = some (.int .i64 L.st) ∧ x.cell? ⟨w6.heap.size, 7, none⟩ = some (.int .i64 L.nv))) ∧ LgO w5.heap.size w6.heap.size x (.agg #[.slice aX1 L.d.sec.length cX1, .slice aX2 L.d.cache.length cX2, .int .i64 L.segs, .slice aX3 L.used.length cX3, .int .i64 L.ng, .int .i64 L.ns, .int .i64 L.st, .int .i64 L.nv]) L ∧ Below w10.heap.size w10 x) := by
    intro x hx
    have hx2 : Below w10.heap.size w10 x := ((Below.refl w10.heap.size w10).drew).trans hx
    obtain ⟨u0, u1, u2, u3, u4, u5, u6, u7, _⟩ := (HC.out _ (j10.trans (hx2.mono j10.size))).1.eightL
    obtain ⟨t0, t1, t2, t3, t4, t5, t6, t7, _⟩ := (BX.later hx2).eightL
    exact ⟨⟨⟨u0, u1, u2, u3, u4, u5, u6, u7⟩, ⟨t0, t1, t2, t3, t4, t5, t6, t7⟩⟩, X.later hx2, hx2⟩
  have la := (HC.out _ (j10.drew)).2.1
  go_upto_region 10 with fail
  go_cut [31] (fun c wx => c = .bool false ∧ ∃ y, y = wx ∧ Below w10.heap.size w10 y)
  case first =>
    clear j10 RS BS X BX RG BG
    go_region_held3 (fun x => (x.cell? ⟨w.heap.size, 0, none⟩ = some (va) ∧ x.cell? ⟨w.heap.size, 1, none⟩ = some (vb) ∧ x.cell? ⟨w.heap.size, 2, none⟩ = some (.int .i64 L.segs) ∧ x.cell? ⟨w.heap.size, 3, none⟩ = some (vu) ∧ x.cell? ⟨w.heap.size, 4, none⟩ = some (.int .i64 L.ng) ∧ x.cell? ⟨w.heap.size, 5, none⟩ = some (.int .i64 L.ns) ∧ x.cell? ⟨w.heap.size, 6, none⟩ = some (.int .i64 L.st) ∧ x.cell? ⟨w.heap.size, 7, none⟩ = some (.int .i64 L.nv)) ∧ (x.cell? ⟨w6.heap.size, 0, none⟩ = some (.slice aX1 L.d.sec.length cX1) ∧ x.cell? ⟨w6.heap.size, 1, none⟩ = some (.slice aX2 L.d.cache.length cX2) ∧ x.cell? ⟨w6.heap.size, 2, none⟩ = some (.int .i64 L.segs) ∧ x.cell? ⟨w6.heap.size, 3, none⟩ = some (.slice aX3 L.used.length cX3) ∧ x.cell? ⟨w6.heap.size, 4, none⟩ = some (.int .i64 L.ng) ∧ x.cell? ⟨w6.heap.size, 5, none⟩ = some (.int .i64 L.ns) ∧ x.cell? ⟨w6.heap.size, 6, none⟩ = some (.int .i64 L.st) ∧ x.cell? ⟨w6.heap.size, 7, none⟩ = some (.int .i64 L.nv)))
      (first | exact (HS.out _ (Below.refl _ _)).1 | (exact (HS.out _ kX).1) | (exact (HS.out _ kY).1))
      (first
        | (go_at_call 18; refine (toLog_any L _ _ la hL.out).mono ?_; rintro e wX ⟨v9, rfl, o9, kX⟩)
        | (go_at_call 21; refine (eqLog_same L _ _ _ (HS.out _ kX).2.1.rd o9.rd hsm (by omega) HUM.out).mono ?_; rintro e wY ⟨rfl, kY'⟩; have kY := kX.trans (kY'.mono kX.size)))
    all_goals
      have bZ := (HS.out _ kY).2.2
      go_wp2_with fail
      go_meet
      exact ⟨rfl, _, rfl, bZ⟩
  case rest =>
  obtain ⟨rfl, w11, hwr, k11⟩ := hcut
  clear HS la
  subst hwr
  have j11 := j10.trans (k11.mono j10.size)
  have Z11 : Hid (w10.heap.size ≤ w11.heap.size) := k11.size
  replace RS := RS.later k11
  replace BS := BS.later k11
  replace X := X.later k11
  replace BX := BX.later k11
  replace RG := RG.later k11
  replace BG := BG.later k11
  clear j10
  clear k11
  obtain ⟨h0, h1, h2, h3, h4, h5, h6, h7, _⟩ := BX.eightL
  obtain ⟨kx, hkx⟩ : ∃ kx : Nat, L.kL 1 = kx := ⟨_, rfl⟩
  have HMK := Lib.hid (markLog_any L _ 1 _ _ _ X (by omega) (by omega) (by omega))
  rw [hkx] at HMK huk
  have hkp : ¬ ((kx : Int) < 0) := by omega
  clear hkx
  go_wp2_with fail
  clear h0 h1 h2 h3 h4 h5 h6 h7
  refine HMK.out.mono ?_
  rintro e w12 ⟨rfl, _, k12⟩
  clear HMK
  clear X BX
  have j12 : Below W.heap.size W w12 := k12.below j11 (by have := ZW.out; have := Z3.out; have := Z4.out; have := Z5.out; have := Z6.out; have := Z7.out; have := Z8.out; have := Z9.out; have := Z10.out; have := Z11.out; have := ZB5.out; have := ZB7.out; have := ZB9.out; omega) j11.size
  have Z12 : Hid (w11.heap.size ≤ w12.heap.size) := k12.size
  replace RS := RS.kept k12 (by have := ZW.out; have := Z3.out; have := Z4.out; have := Z5.out; have := Z6.out; have := Z7.out; have := Z8.out; have := Z9.out; have := Z10.out; have := Z11.out; have := Z12.out; have := ZB5.out; have := ZB7.out; have := ZB9.out; omega)
  replace BS := BS.keptG k12 (by have := ZW.out; have := Z3.out; have := Z4.out; have := Z5.out; have := Z6.out; have := Z7.out; have := Z8.out; have := Z9.out; have := Z10.out; have := Z11.out; have := Z12.out; have := ZB5.out; have := ZB7.out; have := ZB9.out; omega)
  replace RG := RG.kept k12 (by have := ZW.out; have := Z3.out; have := Z4.out; have := Z5.out; have := Z6.out; have := Z7.out; have := Z8.out; have := Z9.out; have := Z10.out; have := Z11.out; have := Z12.out; have := ZB5.out; have := ZB7.out; have := ZB9.out; omega)
  replace BG := BG.keptG k12 (by have := ZW.out; have := Z3.out; have := Z4.out; have := Z5.out; have := Z6.out; have := Z7.out; have := Z8.out; have := Z9.out; have := Z10.out; have := Z11.out; have := Z12.out; have := ZB5.out; have := ZB7.out; have := ZB9.out; omega)
  clear j11
  clear k12
  obtain ⟨f00, f01, f02, f03, f04, _⟩ := BG.fiveC
  obtain ⟨f10, f11, f12, f13, f14, _⟩ := BS.fiveC
  go_wp2_with fail
  clear f00 f01 f02 f03 f04 f10 f11 f12 f13 f14
  refine (eqCheck_same ⟨st, ng, ns, nv, rs⟩ _ _ _ _ _ RG.rows RS.rows (by show rs.length ≤ _; omega)).mono ?_
  rintro e w13 ⟨rfl, k13⟩
  have j13 := j12.trans (k13.mono j12.size)
  have Z13 : Hid (w12.heap.size ≤ w13.heap.size) := k13.size
  replace RS := RS.later k13
  replace BS := BS.later k13
  replace RG := RG.later k13
  replace BG := BG.later k13
  clear j12
  clear k13
  have HMK := Lib.hid (markCheck_put ⟨st, ng, ns, nv, rs⟩ aRG cRG 1 _ _ _ RG.1 (by show 1 + 2 * rs.length ≤ _; omega))
  simp only at HMK
  obtain ⟨p, hp⟩ : ∃ p, rs.length = p := ⟨_, rfl⟩
  have HP := Lib.hid hp
  rw [hp] at HMK hAl BG BS
  obtain ⟨kz, hkz⟩ : ∃ kz : Nat, 1 + 2 * p = kz := ⟨_, rfl⟩
  rw [hkz] at HMK
  have HKZ := Lib.hid hkz
  have hkq : ¬ ((kz : Int) < 0) := by omega
  try rw [hp]
  clear hkz hp
  obtain ⟨f00, f01, f02, f03, f04, _⟩ := BG.fiveC
  go_wp2_with fail
  clear f00 f01 f02 f03 f04
  refine HMK.out.mono ?_
  rintro e w14 ⟨rfl, RH0, gG⟩
  clear HMK
  have k14 : Kept w7.heap.size w8.heap.size w13 w14 := Kept.of_grown gG (fun k hk => ⟨(RG.1.own.lt k (by rw [HP.out]; exact hk)).1, RG.2.2 k (by rw [HP.out]; exact hk)⟩)
  have RH : LOwn rfE w7.heap.size w8.heap.size w14 (.slice aRG p cRG) (marksF2 1 p) := ⟨RH0.here, by have := ZW.out; have := Z3.out; have := Z4.out; have := Z5.out; have := Z6.out; have := Z7.out; have := Z8.out; have := Z9.out; have := Z10.out; have := Z11.out; have := Z12.out; have := Z13.out; have := ZB5.out; have := ZB7.out; have := ZB9.out; have := k14.size; omega, fun k hk => RG.2.2 k (by rw [HP.out]; exact hk)⟩
  clear RH0 gG
  clear RG
  have j14 : Below W.heap.size W w14 := k14.below j13 (by have := ZW.out; have := Z3.out; have := Z4.out; have := Z5.out; have := Z6.out; have := Z7.out; have := Z8.out; have := Z9.out; have := Z10.out; have := Z11.out; have := Z12.out; have := Z13.out; have := ZB5.out; have := ZB7.out; have := ZB9.out; omega) j13.size
  have Z14 : Hid (w13.heap.size ≤ w14.heap.size) := k14.size
  replace RS := RS.kept k14 (by have := ZW.out; have := Z3.out; have := Z4.out; have := Z5.out; have := Z6.out; have := Z7.out; have := Z8.out; have := Z9.out; have := Z10.out; have := Z11.out; have := Z12.out; have := Z13.out; have := Z14.out; have := ZB5.out; have := ZB7.out; have := ZB9.out; omega)
  replace BS := BS.keptG k14 (by have := ZW.out; have := Z3.out; have := Z4.out; have := Z5.out; have := Z6.out; have := Z7.out; have := Z8.out; have := Z9.out; have := Z10.out; have := Z11.out; have := Z12.out; have := Z13.out; have := Z14.out; have := ZB5.out; have := ZB7.out; have := ZB9.out; omega)
  replace BG := BG.keptG k14 (by have := ZW.out; have := Z3.out; have := Z4.out; have := Z5.out; have := Z6.out; have := Z7.out; have := Z8.out; have := Z9.out; have := Z10.out; have := Z11.out; have := Z12.out; have := Z13.out; have := Z14.out; have := ZB5.out; have := ZB7.out; have := ZB9.out; omega)
  clear j13
  clear k14
  have HHD := Lib.hid (fun x (hx : Rows' rfE x (.slice aRG p cRG) (marksF2 1 p)) => heldCheck_any st ng ns nv p aRG cRG 1 x hx (by omega))
  rw [HKZ.out] at HHD
  obtain ⟨f00, f01, f02, f03, f04, _⟩ := BG.fiveC
  go_wp2_with fail
  clear f00 f01 f02 f03 f04
  refine (HHD.out _ RH.rows).mono ?_
  rintro e w15 ⟨rfl, k15⟩
  have j15 := j14.trans (k15.mono j14.size)
  have Z15 : Hid (w14.heap.size ≤ w15.heap.size) := k15.size
  replace RS := RS.later k15
  replace BS := BS.later k15
  replace BG := BG.later k15
  replace RH := RH.later k15
  clear j14
  clear k15
  obtain ⟨xa, la, _⟩ := HC.out _ j15
  obtain ⟨h0, h1, h2, h3, h4, h5, h6, h7, _⟩ := xa.eightL
  clear xa
  go_wp2_with fail
  clear h0 h1 h2 h3 h4 h5 h6 h7
  refine (toLog_any L _ _ la hL.out).mono ?_
  rintro e w16 ⟨vE, rfl, E, k16⟩
  clear la
  have j16 := j15.trans (k16.mono j15.size)
  have Z16 : Hid (w15.heap.size ≤ w16.heap.size) := k16.size
  replace RS := RS.later k16
  replace BS := BS.later k16
  replace BG := BG.later k16
  replace RH := RH.later k16
  clear j15
  clear k16
  obtain ⟨aE1, aE2, aE3, cE1, cE2, cE3, rfl⟩ := E.form
  go_wp2_with fail
  refine (HIM.out _ _ E.rd).mono ?_
  rintro e w17 ⟨aRE, cRE, rfl, RE⟩
  have k17 := RE.bel
  have j17 := j16.trans (k17.mono j16.size)
  have Z17 : Hid (w16.heap.size ≤ w17.heap.size) := k17.size
  replace RS := RS.later k17
  replace BS := BS.later k17
  replace BG := BG.later k17
  replace RH := RH.later k17
  replace E := E.later k17
  clear j16
  replace RE := RE.lown
  clear k17
  clear E
  rw [HP.out]
  have k18 := belNew w17 (.cells #[.int .i64 st, .int .i64 ng, .int .i64 ns, .int .i64 nv, .slice aRE p cRE] 56)
  have BE := Box.new w17 #[.int .i64 st, .int .i64 ng, .int .i64 ns, .int .i64 nv, .slice aRE p cRE] 56
  obtain ⟨w18, hw18⟩ : ∃ x, w17.alloc (.cells #[.int .i64 st, .int .i64 ng, .int .i64 ns, .int .i64 nv, .slice aRE p cRE] 56) = x := ⟨_, rfl⟩
  rw [hw18] at k18 BE
  have HW18 := Lib.hid hw18
  have ZB18 : Hid (w17.heap.size < w18.heap.size) := by show _ < _; rw [← hw18]; simp
  clear hw18
  have j18 := j17.trans (k18.mono j17.size)
  have Z18 : Hid (w17.heap.size ≤ w18.heap.size) := k18.size
  replace RS := RS.later k18
  replace BS := BS.later k18
  replace BG := BG.later k18
  replace RH := RH.later k18
  replace RE := RE.later k18
  clear j17
  clear k18
  obtain ⟨f00, f01, f02, f03, f04, _⟩ := BE.fiveC
  obtain ⟨f10, f11, f12, f13, f14, _⟩ := BS.fiveC
  rw [← HW18.out] at f00 f01 f02 f03 f04 f10 f11 f12 f13 f14
  go_wp2_with fail
  clear f00 f01 f02 f03 f04 f10 f11 f12 f13 f14
  rw [HW18.out]
  have HEQ := Lib.hid (eqCheck_same ⟨st, ng, ns, nv, rs⟩ _ _ _ _ _ RE.rows RS.rows (by show rs.length ≤ _; rw [HP.out]; omega))
  simp only at HEQ
  rw [HP.out] at HEQ
  refine HEQ.out.mono ?_
  rintro e w19 ⟨rfl, k19⟩
  clear HEQ
  have j19 := j18.trans (k19.mono j18.size)
  have Z19 : Hid (w18.heap.size ≤ w19.heap.size) := k19.size
  replace RS := RS.later k19
  replace BS := BS.later k19
  replace BG := BG.later k19
  replace RH := RH.later k19
  replace RE := RE.later k19
  replace BE := BE.later k19
  clear j18
  clear k19
  obtain ⟨f00, f01, f02, f03, f04, _⟩ := BG.fiveC
  go_wp2_with fail
  clear f00 f01 f02 f03 f04
  refine (HHD.out _ RH.rows).mono ?_
  rintro e w20 ⟨rfl, k20⟩
  have j20 := j19.trans (k20.mono j19.size)
  have Z20 : Hid (w19.heap.size ≤ w20.heap.size) := k20.size
  replace RS := RS.later k20
  replace BS := BS.later k20
  replace BG := BG.later k20
  replace RH := RH.later k20
  replace RE := RE.later k20
  replace BE := BE.later k20
  clear j19
  clear k20
  have bZ := (HC.out _ j20).2.2
  go_wp2
  go_ret
  exact ⟨rfl, bZ⟩

theorem FnExactCheckOf_own : ownKnob Try.prog.godebug = none := by kernel_rfl

set_option maxRecDepth 100000 in
theorem FnExactCheckOf_lifted (os : Os) (started : os.Started) (H : Type) (enc : TypeId × Value → H) :
    ReturnsInHanded {} Try.checked os 4 .any (Rows.fnExactCheckOfSpec.pre6 enc Try.prog Try.f4 Rows.fnExactCheckOfRow.domain false) (Rows.fnExactCheckOfSpec.post enc Try.prog Try.f4 false true false false) := by
  refine returnsInHanded_of_change (C := Try.checked) FnExactCheckOf_own started (by kernel_rfl) Try.func4
    (ChangeSpec.witness6 (enc := enc) (C := Try.checked) false ⟨#[], #[.agg #[.slice none 0 0, .slice none 0 0, .int .i64 0, .slice none 0 0, .int .i64 0, .int .i64 0, .int .i64 0, .int .i64 0]], []⟩ 8 (by kernel_rfl) (by kernel_rfl) (by kernel_rfl) (by kernel_rfl)) ?_
  intro W base args ds gs before hval0 hW hcnd _
  have hval : ∀ (j : Nat) t v, Try.f4.params[j]? = some t → args[j]? = some v → Value.okWide Try.prog W .any base t v := hval0
  have hW' := hW
  obtain ⟨p, q, hA0, hV, rfl, hfz, hnd⟩ := hW
  have hA : DataW.TrodAll enc Try.prog W 0 (fun _ => true) true Try.f4.params.toList args.toList ds p := hA0
  rw [Try.params4] at hA hval
  obtain ⟨v0, vs0, d0, ds0, p0, q0, hargs, rfl, rfl, h0, r0⟩ := trodAll_cons hA
  obtain ⟨rfl, rfl, rfl⟩ := trodAll_nil r0
  obtain rfl : args = #[v0] := by cases args; simp_all
  obtain ⟨rfl, rfl⟩ := trodVars_none hV
  have k0 := h0
  have lt0 : ∀ x ∈ p0, x.block < W.heap.size := by obtain ⟨m, hm⟩ := k0; exact DataW.trod_lt m _ _ _ hm
  obtain ⟨D0, w0⟩ := open_Log (hval 0 52 v0 rfl rfl) h0
  clear hA0 hval0
  simp only [List.append_nil] at hW'
  refine (walk_FnExactCheckOf v0 D0 w0 (w := W)).mono fun e W' ⟨he, bel⟩ => ?_
  subst he
  exact ⟨_, rfl, _, _, _, [], _, [], hW', trodAll_mk1 (shut_bool Try.underlying4 _), (trodAll_cons_mk (Below.trod (show laidOutB Try.prog = true by kernel_rfl) (by kernel_rfl) (of_decide_eq_true (by kernel_rfl)) k0 bel lt0) trodAll_mk0), rfl, bel.frame _, fun h => by cases h⟩

/-- The given statement. -/
theorem fnExactCheckOf_holds : Rows.FnExactCheckOfSaid :=
  OpenClaim.holds_of_wide 4 Try.f4 rfl rfl rfl rfl rfl rfl rfl ⟨rfl, rfl, rfl, rfl, rfl⟩ rfl rfl rfl rfl rfl (by kernel_rfl) Try.func4 (by kernel_rfl)
    (of_decide_eq_true (by kernel_rfl)) (by unfold Func.isWrapper; first | (rw [if_pos (by decide +kernel)]; kernel_rfl) | (rw [if_neg (by decide +kernel)]; exact ⟨rfl, rfl⟩))
    (fun os started H enc _ => FnExactCheckOf_lifted os started H enc)
#print axioms fnExactCheckOf_holds

end Go.Proofs.Ytmahicpheimnjaa
