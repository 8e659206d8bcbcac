/- For every log, ItemsOf answers as its model; it writes into no argument, its answer owns its memory, and nothing that was there is changed. -/
import Derived.Test.YtahebgceoidebacJh
import Derived.Test.YtahebgceoidebacJf
import Derived.Test.YtahebgceoidebacJi
import Derived.ProofKit
import Derived.OpenShut
import Derived.ShutString
import Derived.ChangeOld
import Derived.Below
namespace Go.Proofs.Ytahebgceoidebac
open Go.ChangeShapes Go.WideShapes Go.ChangeAt Go.RowKit
open Go.ChangeMaps (open_string shut_string)
set_option linter.unusedVariables false

set_option maxRecDepth 100000 in
set_option maxHeartbeats 8000000 in
theorem walk_FnExactItemsOf (v : Value) (L : Lg) {w : World} (h : LIn w v L) :
    Calls Try.prog 3 #[v] w fun e w' => e = .returned (.bool true) ∧ Below w.heap.size w w' := by
  obtain ⟨va, vb, vu, rfl, _⟩ := id h
  have q0 := Box.new w #[va, vb, .int .i64 L.segs, vu, .int .i64 L.ng, .int .i64 L.ns, .int .i64 L.st, .int .i64 L.nv] 28
  have b0 := belNew w (.cells #[va, vb, .int .i64 L.segs, vu, .int .i64 L.ng, .int .i64 L.ns, .int .i64 L.st, .int .i64 L.nv] 28)
  have HC : Hid (∀ x, Below (w.alloc (.cells #[va, vb, .int .i64 L.segs, vu, .int .i64 L.ng, .int .i64 L.ns, .int .i64 L.st, .int .i64 L.nv] 28)).heap.size (w.alloc (.cells #[va, vb, .int .i64 L.segs, vu, .int .i64 L.ng, .int .i64 L.ns, .int .i64 L.st, .int .i64 L.nv] 28)) x → Box x w.heap.size #[va, vb, .int .i64 L.segs, vu, .int .i64 L.ng, .int .i64 L.ns, .int .i64 L.st, .int .i64 L.nv] 28 ∧ LIn x (.agg #[va, vb, .int .i64 L.segs, vu, .int .i64 L.ng, .int .i64 L.ns, .int .i64 L.st, .int .i64 L.nv]) L ∧ Below w.heap.size w x) := fun x hx => by
    have h' := b0.trans (hx.mono b0.size)
    exact ⟨q0.later hx, h.later h', h'⟩
  have HSZ := Lib.hid (szLog_any L _ _ (h.later b0))
  have ZW0 : Hid (w.heap.size < (w.alloc (.cells #[va, vb, .int .i64 L.segs, vu, .int .i64 L.ng, .int .i64 L.ns, .int .i64 L.st, .int .i64 L.nv] 28)).heap.size) := by show _ < _; simp
  clear q0 h b0
  go_enter Try.func3, Try.ntmps3
  go_wp2_with fail
  generalize w.alloc (.cells #[va, vb, .int .i64 L.segs, vu, .int .i64 L.ng, .int .i64 L.ns, .int .i64 L.st, .int .i64 L.nv] 28) = W at HC HSZ ZW0 ⊢
  refine HSZ.out.mono ?_
  rintro e w2 ⟨⟨r, rfl, hr⟩, j2⟩
  clear HSZ
  by_cases hneg : r < 0
  · have b2 := (HC.out _ j2).2.2
    clear hr
    go_wp2
    go_ret
    exact ⟨rfl, b2⟩
  have hL := Lib.hid (hr (by omega))
  clear hr
  obtain ⟨hsm, hun, hum, huk, hdc⟩ : L.d.small ∧ L.used.length ≤ 1048576 ∧ (∀ b ∈ L.used, b.items.length ≤ 1099511627776) ∧ L.kL 1 ≤ 40000000 ∧ L.d.count ≤ 4000000 := L.lean_small hL.out
  have HUM := Lib.hid hum
  have ZW : Hid (W.heap.size ≤ w2.heap.size ∧ w.heap.size < W.heap.size) := ⟨j2.size, ZW0.out⟩
  clear hum ZW0
  obtain ⟨A, hA⟩ : ∃ A, its L.used = A := ⟨_, rfl⟩
  have hAl : A.length ≤ 2097152 := by rw [← hA]; have := hL.out.2.1; rw [its_len]; omega
  have HSP : Hid (∀ (va : Value) (x : World), LRd x va L → Calls Try.prog 5 #[va] x fun e w' => ∃ v', e = .returned v' ∧ RBuf itE x.heap.size x w' v' A) := by
    rw [← hA]
    exact fun va x hx => specItemsOf_any L va x hx (by have := hL.out.2.1; omega)
  have HIM : Hid (∀ (va : Value) (x : World), LRd x va L → Calls Try.prog 7 #[va] x fun e w' => ∃ v', e = .returned v' ∧ RBuf itE x.heap.size x w' v' A) := by
    rw [← hA]
    exact fun va x hx => implItemsOf_any L va x hx (by have := hL.out.2.1; omega) (L.lean_texts hL.out)
  clear hA
  obtain ⟨xa, la, _⟩ := HC.out _ j2
  obtain ⟨h0, h1, h2, h3, h4, h5, h6, h7, _⟩ := xa.eightL
  clear xa
  go_wp2_with fail
  clear h0 h1 h2 h3 h4 h5 h6 h7
  refine (toLog_any L _ _ la hL.out).mono ?_
  rintro e w3 ⟨vA, rfl, A, k3⟩
  clear la
  have j3 := j2.trans (k3.mono j2.size)
  have Z3 : Hid (w2.heap.size ≤ w3.heap.size) := k3.size
  clear j2
  clear k3
  obtain ⟨aA1, aA2, aA3, cA1, cA2, cA3, rfl⟩ := A.form
  go_wp2_with fail
  refine (HSP.out _ _ A.rd).mono ?_
  rintro e w4 ⟨vRS, rfl, RS⟩
  have k4 := RS.bel
  have j4 := j3.trans (k4.mono j3.size)
  have Z4 : Hid (w3.heap.size ≤ w4.heap.size) := k4.size
  replace A := A.later k4
  clear j3
  replace RS := RS.lown
  clear k4
  obtain ⟨aRS, cRS, rfl⟩ := RS.1.form
  clear A
  obtain ⟨xa, la, _⟩ := HC.out _ j4
  obtain ⟨h0, h1, h2, h3, h4, h5, h6, h7, _⟩ := xa.eightL
  clear xa
  go_wp2_with fail
  clear h0 h1 h2 h3 h4 h5 h6 h7
  refine (toLog_any L _ _ la hL.out).mono ?_
  rintro e w5 ⟨vX, rfl, X, k5⟩
  clear la
  have j5 := j4.trans (k5.mono j4.size)
  have Z5 : Hid (w4.heap.size ≤ w5.heap.size) := k5.size
  replace RS := RS.later k5
  clear j4
  clear k5
  obtain ⟨aX1, aX2, aX3, cX1, cX2, cX3, rfl⟩ := X.form
  have k6 := belNew w5 (.cells #[.slice aX1 L.d.sec.length cX1, .slice aX2 L.d.cache.length cX2, .int .i64 L.segs, .slice aX3 L.used.length cX3, .int .i64 L.ng, .int .i64 L.ns, .int .i64 L.st, .int .i64 L.nv] 37)
  have BX := Box.new w5 #[.slice aX1 L.d.sec.length cX1, .slice aX2 L.d.cache.length cX2, .int .i64 L.segs, .slice aX3 L.used.length cX3, .int .i64 L.ng, .int .i64 L.ns, .int .i64 L.st, .int .i64 L.nv] 37
  obtain ⟨w6, hw6⟩ : ∃ x, w5.alloc (.cells #[.slice aX1 L.d.sec.length cX1, .slice aX2 L.d.cache.length cX2, .int .i64 L.segs, .slice aX3 L.used.length cX3, .int .i64 L.ng, .int .i64 L.ns, .int .i64 L.st, .int .i64 L.nv] 37) = x := ⟨_, rfl⟩
  rw [hw6] at k6 BX
  have HW6 := Lib.hid hw6
  have ZB6 : Hid (w5.heap.size < w6.heap.size) := by show _ < _; rw [← hw6]; simp
  clear hw6
  have j6 := j5.trans (k6.mono j5.size)
  have Z6 : Hid (w5.heap.size ≤ w6.heap.size) := k6.size
  replace RS := RS.later k6
  replace X := X.later k6
  clear j5
  clear k6
  go_wp2_with fail
  rw [HW6.out]
  refine (HIM.out _ _ X.rd).mono ?_
  rintro e w7 ⟨vRG, rfl, RG⟩
  have k7 := RG.bel
  have j7 := j6.trans (k7.mono j6.size)
  have Z7 : Hid (w6.heap.size ≤ w7.heap.size) := k7.size
  replace RS := RS.later k7
  replace X := X.later k7
  replace BX := BX.later k7
  clear j6
  replace RG := RG.lown
  clear k7
  obtain ⟨aRG, cRG, rfl⟩ := RG.1.form
  go_wp2_with fail
  refine (eqItemS_same A _ _ _ RG.rows RS.rows (by omega)).mono ?_
  rintro e w8 ⟨rfl, k8⟩
  have j8 := j7.trans (k8.mono j7.size)
  have Z8 : Hid (w7.heap.size ≤ w8.heap.size) := k8.size
  replace RS := RS.later k8
  replace X := X.later k8
  replace BX := BX.later k8
  replace RG := RG.later k8
  clear j7
  clear k8
  have HS : Hid (∀ x, Below w8.drew.heap.size w8.drew x → ((x.cell? ⟨w.heap.size, 0, none⟩ = some (va) ∧ x.cell? ⟨w.heap.size, 1, none⟩ = some (vb) ∧ x.cell? ⟨w.heap.size, 2, none⟩ = some (.int .i64 L.segs) ∧ x.cell? ⟨w.heap.size, 3, none⟩ = some (vu) ∧ x.cell? ⟨w.heap.size, 4, none⟩ = some (.int .i64 L.ng) ∧ x.cell? ⟨w.heap.size, 5, none⟩ = some (.int .i64 L.ns) ∧ x.cell? ⟨w.heap.size, 6, none⟩ = some (.int .i64 L.st) ∧ x.cell? ⟨w.heap.size, 7, none⟩ = some (.int .i64 L.nv)) ∧ (x.cell? ⟨w5.heap.size, 0, none⟩ = some (.slice aX1 L.d.sec.length cX1) ∧ x.cell? ⟨w5.heap.size, 1, none⟩ = some (.slice aX2 L.d.cache.length cX2) ∧ x.cell? ⟨w5.heap.size, 2, none⟩ = some (.int .i64 L.segs) ∧ x.cell? ⟨w5.heap.size, 3, none⟩ = some (.slice aX3 L.used.length cX3) ∧ x.cell? ⟨w5.heap.size, 4, none⟩ = some (.int .i64 L.ng) ∧ x.cell? ⟨w5.heap.size, 5, none⟩ = some (.int .i64 L.ns) ∧ x.cell? ⟨w5.heap.size, 6, none⟩ = some (.int .i64 L.st) ∧ x.cell? ⟨w5.heap.size, 7, none⟩ = some (.int .i64 L.nv))) ∧ LgO w4.heap.size w5.heap.size x (.agg #[.slice aX1 L.d.sec.length cX1, .slice aX2 L.d.cache.length cX2, .int .i64 L.segs, .slice aX3 L.used.length cX3, .int .i64 L.ng, .int .i64 L.ns, .int .i64 L.st, .int .i64 L.nv]) L ∧ Below w8.heap.size w8 x) := by
    intro x hx
    have hx2 : Below w8.heap.size w8 x := ((Below.refl w8.heap.size w8).drew).trans hx
    obtain ⟨u0, u1, u2, u3, u4, u5, u6, u7, _⟩ := (HC.out _ (j8.trans (hx2.mono j8.size))).1.eightL
    obtain ⟨t0, t1, t2, t3, t4, t5, t6, t7, _⟩ := (BX.later hx2).eightL
    exact ⟨⟨⟨u0, u1, u2, u3, u4, u5, u6, u7⟩, ⟨t0, t1, t2, t3, t4, t5, t6, t7⟩⟩, X.later hx2, hx2⟩
  have la := (HC.out _ (j8.drew)).2.1
  go_upto_region 10 with fail
  go_cut [31] (fun c wx => c = .bool false ∧ ∃ y, y = wx ∧ Below w8.heap.size w8 y)
  case first =>
    clear j8 RS X BX RG
    go_region_held3 (fun x => (x.cell? ⟨w.heap.size, 0, none⟩ = some (va) ∧ x.cell? ⟨w.heap.size, 1, none⟩ = some (vb) ∧ x.cell? ⟨w.heap.size, 2, none⟩ = some (.int .i64 L.segs) ∧ x.cell? ⟨w.heap.size, 3, none⟩ = some (vu) ∧ x.cell? ⟨w.heap.size, 4, none⟩ = some (.int .i64 L.ng) ∧ x.cell? ⟨w.heap.size, 5, none⟩ = some (.int .i64 L.ns) ∧ x.cell? ⟨w.heap.size, 6, none⟩ = some (.int .i64 L.st) ∧ x.cell? ⟨w.heap.size, 7, none⟩ = some (.int .i64 L.nv)) ∧ (x.cell? ⟨w5.heap.size, 0, none⟩ = some (.slice aX1 L.d.sec.length cX1) ∧ x.cell? ⟨w5.heap.size, 1, none⟩ = some (.slice aX2 L.d.cache.length cX2) ∧ x.cell? ⟨w5.heap.size, 2, none⟩ = some (.int .i64 L.segs) ∧ x.cell? ⟨w5.heap.size, 3, none⟩ = some (.slice aX3 L.used.length cX3) ∧ x.cell? ⟨w5.heap.size, 4, none⟩ = some (.int .i64 L.ng) ∧ x.cell? ⟨w5.heap.size, 5, none⟩ = some (.int .i64 L.ns) ∧ x.cell? ⟨w5.heap.size, 6, none⟩ = some (.int .i64 L.st) ∧ x.cell? ⟨w5.heap.size, 7, none⟩ = some (.int .i64 L.nv)))
      (first | exact (HS.out _ (Below.refl _ _)).1 | (exact (HS.out _ kX).1) | (exact (HS.out _ kY).1))
      (first
        | (go_at_call 6; refine (toLog_any L _ _ la hL.out).mono ?_; rintro e wX ⟨v9, rfl, o9, kX⟩)
        | (go_at_call 9; refine (eqLog_same L _ _ _ (HS.out _ kX).2.1.rd o9.rd hsm (by omega) HUM.out).mono ?_; rintro e wY ⟨rfl, kY'⟩; have kY := kX.trans (kY'.mono kX.size)))
    all_goals
      have bZ := (HS.out _ kY).2.2
      go_wp2_with fail
      go_meet
      exact ⟨rfl, _, rfl, bZ⟩
  case rest =>
  obtain ⟨rfl, w9, hwr, k9⟩ := hcut
  clear HS la
  subst hwr
  have j9 := j8.trans (k9.mono j8.size)
  have Z9 : Hid (w8.heap.size ≤ w9.heap.size) := k9.size
  replace RS := RS.later k9
  replace X := X.later k9
  replace BX := BX.later k9
  replace RG := RG.later k9
  clear j8
  clear k9
  obtain ⟨h0, h1, h2, h3, h4, h5, h6, h7, _⟩ := BX.eightL
  obtain ⟨kx, hkx⟩ : ∃ kx : Nat, L.kL 1 = kx := ⟨_, rfl⟩
  have HMK := Lib.hid (markLog_any L _ 1 _ _ _ X (by omega) (by omega) (by omega))
  rw [hkx] at HMK huk
  have hkp : ¬ ((kx : Int) < 0) := by omega
  clear hkx
  go_wp2_with fail
  clear h0 h1 h2 h3 h4 h5 h6 h7
  refine HMK.out.mono ?_
  rintro e w10 ⟨rfl, _, k10⟩
  clear HMK
  clear X BX
  have j10 : Below W.heap.size W w10 := k10.below j9 (by have := ZW.out; have := Z3.out; have := Z4.out; have := Z5.out; have := Z6.out; have := Z7.out; have := Z8.out; have := Z9.out; omega) j9.size
  have Z10 : Hid (w9.heap.size ≤ w10.heap.size) := k10.size
  replace RS := RS.kept k10 (by have := ZW.out; have := Z3.out; have := Z4.out; have := Z5.out; have := Z6.out; have := Z7.out; have := Z8.out; have := Z9.out; have := Z10.out; omega)
  replace RG := RG.kept k10 (by have := ZW.out; have := Z3.out; have := Z4.out; have := Z5.out; have := Z6.out; have := Z7.out; have := Z8.out; have := Z9.out; have := Z10.out; omega)
  clear j9
  clear k10
  go_wp2_with fail
  refine (eqItemS_same A _ _ _ RG.rows RS.rows (by omega)).mono ?_
  rintro e w11 ⟨rfl, k11⟩
  have j11 := j10.trans (k11.mono j10.size)
  have Z11 : Hid (w10.heap.size ≤ w11.heap.size) := k11.size
  replace RS := RS.later k11
  replace RG := RG.later k11
  clear j10
  clear k11
  have HMK := Lib.hid (markItemS_put A (.slice aRG A.length cRG) 1 _ _ _ RG.1 (by omega) (by omega))
  obtain ⟨p, hp⟩ : ∃ p, A.length = p := ⟨_, rfl⟩
  have HP := Lib.hid hp
  rw [hp] at HMK hAl
  obtain ⟨kz, hkz⟩ : ∃ kz : Nat, 1 + 9 * p = kz := ⟨_, rfl⟩
  rw [hkz] at HMK
  have HKZ := Lib.hid hkz
  have hkq : ¬ ((kz : Int) < 0) := by omega
  rw [hp]
  clear hkz hp
  go_wp2_with fail
  refine HMK.out.mono ?_
  rintro e w12 ⟨rfl, RH0, gG⟩
  clear HMK
  have k12 : Kept w6.heap.size w7.heap.size w11 w12 := Kept.of_grown gG (fun k hk => ⟨(RG.1.own.lt k (by rw [HP.out]; exact hk)).1, RG.2.2 k (by rw [HP.out]; exact hk)⟩)
  have RH : LOwn itE w6.heap.size w7.heap.size w12 (.slice aRG p cRG) (marksI 1 p) := ⟨RH0.here, by have := ZW.out; have := Z3.out; have := Z4.out; have := Z5.out; have := Z6.out; have := Z7.out; have := Z8.out; have := Z9.out; have := Z10.out; have := Z11.out; have := k12.size; omega, fun k hk => RG.2.2 k (by rw [HP.out]; exact hk)⟩
  clear RH0 gG
  clear RG
  have j12 : Below W.heap.size W w12 := k12.below j11 (by have := ZW.out; have := Z3.out; have := Z4.out; have := Z5.out; have := Z6.out; have := Z7.out; have := Z8.out; have := Z9.out; have := Z10.out; have := Z11.out; omega) j11.size
  have Z12 : Hid (w11.heap.size ≤ w12.heap.size) := k12.size
  replace RS := RS.kept k12 (by have := ZW.out; have := Z3.out; have := Z4.out; have := Z5.out; have := Z6.out; have := Z7.out; have := Z8.out; have := Z9.out; have := Z10.out; have := Z11.out; have := Z12.out; omega)
  clear j11
  clear k12
  have HHD := Lib.hid (fun x (hx : Rows' itE x (.slice aRG p cRG) (marksI 1 p)) => heldItemS_any p _ 1 x hx (by omega) (by omega))
  rw [HKZ.out] at HHD
  go_wp2_with fail
  refine (HHD.out _ RH.rows).mono ?_
  rintro e w13 ⟨rfl, k13⟩
  have j13 := j12.trans (k13.mono j12.size)
  have Z13 : Hid (w12.heap.size ≤ w13.heap.size) := k13.size
  replace RS := RS.later k13
  replace RH := RH.later k13
  clear j12
  clear k13
  obtain ⟨xa, la, _⟩ := HC.out _ j13
  obtain ⟨h0, h1, h2, h3, h4, h5, h6, h7, _⟩ := xa.eightL
  clear xa
  go_wp2_with fail
  clear h0 h1 h2 h3 h4 h5 h6 h7
  refine (toLog_any L _ _ la hL.out).mono ?_
  rintro e w14 ⟨vE, rfl, E, k14⟩
  clear la
  have j14 := j13.trans (k14.mono j13.size)
  have Z14 : Hid (w13.heap.size ≤ w14.heap.size) := k14.size
  replace RS := RS.later k14
  replace RH := RH.later k14
  clear j13
  clear k14
  obtain ⟨aE1, aE2, aE3, cE1, cE2, cE3, rfl⟩ := E.form
  go_wp2_with fail
  refine (HIM.out _ _ E.rd).mono ?_
  rintro e w15 ⟨vRE, rfl, RE⟩
  have k15 := RE.bel
  have j15 := j14.trans (k15.mono j14.size)
  have Z15 : Hid (w14.heap.size ≤ w15.heap.size) := k15.size
  replace RS := RS.later k15
  replace RH := RH.later k15
  replace E := E.later k15
  clear j14
  replace RE := RE.lown
  clear k15
  obtain ⟨aRE, cRE, rfl⟩ := RE.1.form
  clear E
  rw [HP.out]
  go_wp2_with fail
  refine (eqItemS_same A _ _ _ (by have := RE.rows; rw [HP.out] at this; exact this) (by have := RS.rows; rw [HP.out] at this; exact this) (by rw [HP.out]; omega)).mono ?_
  rintro e w16 ⟨rfl, k16⟩
  have j16 := j15.trans (k16.mono j15.size)
  have Z16 : Hid (w15.heap.size ≤ w16.heap.size) := k16.size
  replace RS := RS.later k16
  replace RH := RH.later k16
  replace RE := RE.later k16
  clear j15
  clear k16
  go_wp2_with fail
  refine (HHD.out _ RH.rows).mono ?_
  rintro e w17 ⟨rfl, k17⟩
  have j17 := j16.trans (k17.mono j16.size)
  have Z17 : Hid (w16.heap.size ≤ w17.heap.size) := k17.size
  replace RS := RS.later k17
  replace RH := RH.later k17
  replace RE := RE.later k17
  clear j16
  clear k17
  have bZ := (HC.out _ j17).2.2
  go_wp2
  go_ret
  exact ⟨rfl, bZ⟩

theorem FnExactItemsOf_own : ownKnob Try.prog.godebug = none := by kernel_rfl

set_option maxRecDepth 100000 in
theorem FnExactItemsOf_lifted (os : Os) (started : os.Started) (H : Type) (enc : TypeId × Value → H) :
    ReturnsInHanded {} Try.checked os 3 .any (Rows.fnExactItemsOfSpec.pre6 enc Try.prog Try.f3 Rows.fnExactItemsOfRow.domain false) (Rows.fnExactItemsOfSpec.post enc Try.prog Try.f3 false true false false) := by
  refine returnsInHanded_of_change (C := Try.checked) FnExactItemsOf_own started (by kernel_rfl) Try.func3
    (ChangeSpec.witness6 (enc := enc) (C := Try.checked) false ⟨#[], #[.agg #[.slice none 0 0, .slice none 0 0, .int .i64 0, .slice none 0 0, .int .i64 0, .int .i64 0, .int .i64 0, .int .i64 0]], []⟩ 8 (by kernel_rfl) (by kernel_rfl) (by kernel_rfl) (by kernel_rfl)) ?_
  intro W base args ds gs before hval0 hW hcnd _
  have hval : ∀ (j : Nat) t v, Try.f3.params[j]? = some t → args[j]? = some v → Value.okWide Try.prog W .any base t v := hval0
  have hW' := hW
  obtain ⟨p, q, hA0, hV, rfl, hfz, hnd⟩ := hW
  have hA : DataW.TrodAll enc Try.prog W 0 (fun _ => true) true Try.f3.params.toList args.toList ds p := hA0
  rw [Try.params3] at hA hval
  obtain ⟨v0, vs0, d0, ds0, p0, q0, hargs, rfl, rfl, h0, r0⟩ := trodAll_cons hA
  obtain ⟨rfl, rfl, rfl⟩ := trodAll_nil r0
  obtain rfl : args = #[v0] := by cases args; simp_all
  obtain ⟨rfl, rfl⟩ := trodVars_none hV
  have k0 := h0
  have lt0 : ∀ x ∈ p0, x.block < W.heap.size := by obtain ⟨m, hm⟩ := k0; exact DataW.trod_lt m _ _ _ hm
  obtain ⟨D0, w0⟩ := open_Log (hval 0 28 v0 rfl rfl) h0
  clear hA0 hval0
  simp only [List.append_nil] at hW'
  refine (walk_FnExactItemsOf v0 D0 w0 (w := W)).mono fun e W' ⟨he, bel⟩ => ?_
  subst he
  exact ⟨_, rfl, _, _, _, [], _, [], hW', trodAll_mk1 (shut_bool Try.underlying4 _), (trodAll_cons_mk (Below.trod (show laidOutB Try.prog = true by kernel_rfl) (by kernel_rfl) (of_decide_eq_true (by kernel_rfl)) k0 bel lt0) trodAll_mk0), rfl, bel.frame _, fun h => by cases h⟩

/-- The given statement. -/
theorem fnExactItemsOf_holds : Rows.FnExactItemsOfSaid :=
  OpenClaim.holds_of_wide 3 Try.f3 rfl rfl rfl rfl rfl rfl rfl ⟨rfl, rfl, rfl, rfl, rfl⟩ rfl rfl rfl rfl rfl (by kernel_rfl) Try.func3 (by kernel_rfl)
    (of_decide_eq_true (by kernel_rfl)) (by unfold Func.isWrapper; first | (rw [if_pos (by decide +kernel)]; kernel_rfl) | (rw [if_neg (by decide +kernel)]; exact ⟨rfl, rfl⟩))
    (fun os started H enc _ => FnExactItemsOf_lifted os started H enc)
#print axioms fnExactItemsOf_holds

end Go.Proofs.Ytahebgceoidebac
