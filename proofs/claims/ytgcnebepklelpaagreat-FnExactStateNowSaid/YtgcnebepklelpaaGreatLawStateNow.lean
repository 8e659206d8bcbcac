/- For every store, StateNow answers as its model; it writes into no argument, its answer owns its memory, and nothing that was there is changed. -/
import Derived.Test.YtgcnebepklelpaaGreatJg
import Derived.Test.YtgcnebepklelpaaGreatJh
import Derived.Test.YtgcnebepklelpaaGreatJq
import Derived.ProofKit
import Derived.OpenShut
import Derived.ShutString
import Derived.ChangeOld
import Derived.Below
namespace Go.Proofs.YtgcnebepklelpaaGreat
open Go.ChangeShapes Go.WideShapes Go.ChangeAt Go.RowKit
open Go.ChangeMaps (open_string shut_string)
set_option linter.unusedVariables false

set_option maxRecDepth 100000 in
set_option maxHeartbeats 8000000 in
theorem walk_FnExactStateNow (v : Value) (S : So) {w : World} (h : SoIn w v S) :
    Calls Tryz.prog 3 #[v] w fun e w' => e = .returned (.bool true) ∧ Below w.heap.size w w' := by
  obtain ⟨va, vb, vu, vf, rfl, _⟩ := id h
  have q0 := Box.new w #[va, vb, .int .i64 S.g.segs, vu, .int .i64 S.g.ng, .int .i64 S.g.ns, .int .i64 S.g.st, .int .i64 S.g.nv, vf] 31
  have b0 := belNew w (.cells #[va, vb, .int .i64 S.g.segs, vu, .int .i64 S.g.ng, .int .i64 S.g.ns, .int .i64 S.g.st, .int .i64 S.g.nv, vf] 31)
  have HC : Hid (∀ x, Below (w.alloc (.cells #[va, vb, .int .i64 S.g.segs, vu, .int .i64 S.g.ng, .int .i64 S.g.ns, .int .i64 S.g.st, .int .i64 S.g.nv, vf] 31)).heap.size (w.alloc (.cells #[va, vb, .int .i64 S.g.segs, vu, .int .i64 S.g.ng, .int .i64 S.g.ns, .int .i64 S.g.st, .int .i64 S.g.nv, vf] 31)) x → Box x w.heap.size #[va, vb, .int .i64 S.g.segs, vu, .int .i64 S.g.ng, .int .i64 S.g.ns, .int .i64 S.g.st, .int .i64 S.g.nv, vf] 31 ∧ SoIn x (.agg #[va, vb, .int .i64 S.g.segs, vu, .int .i64 S.g.ng, .int .i64 S.g.ns, .int .i64 S.g.st, .int .i64 S.g.nv, vf]) S ∧ Below w.heap.size w x) := fun x hx => by
    have h' := b0.trans (hx.mono b0.size)
    exact ⟨q0.later hx, h.later h', h'⟩
  have HSZ := Lib.hid (szStore_any S _ 1048576 _ (h.later b0) (by omega) (by omega))
  have ZW0 : Hid (w.heap.size < (w.alloc (.cells #[va, vb, .int .i64 S.g.segs, vu, .int .i64 S.g.ng, .int .i64 S.g.ns, .int .i64 S.g.st, .int .i64 S.g.nv, vf] 31)).heap.size) := by show _ < _; simp
  clear q0 h b0
  go_enter Tryz.func3, Tryz.ntmps3
  go_wp2_with fail
  generalize w.alloc (.cells #[va, vb, .int .i64 S.g.segs, vu, .int .i64 S.g.ng, .int .i64 S.g.ns, .int .i64 S.g.st, .int .i64 S.g.nv, vf] 31) = W at HC HSZ ZW0 ⊢
  refine HSZ.out.mono ?_
  rintro e w2 ⟨⟨r, rfl, _, hr⟩, j2⟩
  clear HSZ
  by_cases hneg : r < 0
  · have b2 := (HC.out _ j2).2.2
    clear hr
    go_wp2
    go_ret
    exact ⟨rfl, b2⟩
  have hL := Lib.hid (hr (by omega))
  clear hr
  obtain ⟨hsm, hun, hum, huk, hdc⟩ : S.g.d.small ∧ S.g.used.length ≤ 1048576 ∧ (∀ b ∈ S.g.used, b.items.length ≤ 1099511627776) ∧ S.g.kL 1 ≤ 40000000 ∧ S.g.d.count ≤ 4000000 := S.g.lean_small hL.out.1
  have hfl : S.fr.length ≤ 1048576 := hL.out.2
  have hks : S.kS 1 ≤ 80000000 := by unfold So.kS; omega
  have HUM := Lib.hid hum
  have ZW : Hid (W.heap.size ≤ w2.heap.size ∧ w.heap.size < W.heap.size) := ⟨j2.size, ZW0.out⟩
  clear hum ZW0 huk hdc
  obtain ⟨bs, hbs⟩ : ∃ bs, stateL (its S.g.used) = bs := ⟨_, rfl⟩
  have HSP : Hid (∀ (va : Value) (x : World), SoRd x va S → Calls Tryz.prog 5 #[va] x fun e w' => ∃ bv, e = .returned (.agg #[bv]) ∧ SnO x.heap.size w'.heap.size w' bv bs ∧ Below x.heap.size x w') := by
    rw [← hbs]
    exact fun va x hx => specStateNow_any S va x hx hL.out
  have HIM : Hid (∀ (va : Value) (x : World), SoRd x va S → Calls Tryz.prog 7 #[va] x fun e w' => ∃ bv, e = .returned (.agg #[bv]) ∧ SnO x.heap.size w'.heap.size w' bv bs ∧ Below x.heap.size x w') := by
    rw [← hbs]
    exact fun va x hx => implStateNow_any S va x hx hL.out
  have hsl := stateL_small (its S.g.used)
  rw [hbs] at hsl
  have HMM : Hid (∀ b ∈ bs, b.mails.length ≤ 1099511627776) := fun b hb => by have := hsl.2 b hb; omega
  have hbl : bs.length ≤ 1099511627776 := by have := hsl.1; omega
  have hkE : kE 1 bs ≤ 1099511627776 := by have h1 := kE_small 1 bs hsl.2; have := hsl.1; omega
  have hkp : ¬ ((kE 1 bs : Int) < 0) := by omega
  clear hbs hsl
  obtain ⟨xa, la, _⟩ := HC.out _ j2
  obtain ⟨⟨h0, h1, h2, h3, h4, h5, h6, h7, h8⟩, _⟩ := xa.nineL
  clear xa
  go_wp2_with fail
  clear h0 h1 h2 h3 h4 h5 h6 h7 h8
  refine (toStore_any S _ _ la hL.out).mono ?_
  rintro e w3 ⟨vA, rfl, A, k3⟩
  clear la
  have j3 := j2.trans (k3.mono j2.size)
  have Z3 : Hid (w2.heap.size ≤ w3.heap.size) := k3.size
  clear j2
  clear k3
  obtain ⟨aA1, aA2, aA3, aA4, cA1, cA2, cA3, cA4, rfl⟩ := A.form
  go_wp2_with fail
  refine (HSP.out _ _ A.rd).mono ?_
  rintro e w4 ⟨vRS, rfl, RS, k4⟩
  have j4 := j3.trans (k4.mono j3.size)
  have Z4 : Hid (w3.heap.size ≤ w4.heap.size) := k4.size
  replace A := A.later k4
  clear j3
  clear k4
  obtain ⟨aRS, cRS, rfl⟩ := RS.form
  clear A
  have k5 := belNew w4 (.cells #[.slice aRS bs.length cRS] 35)
  have BS := Box.new w4 #[.slice aRS bs.length cRS] 35
  obtain ⟨w5, hw5⟩ : ∃ x, w4.alloc (.cells #[.slice aRS bs.length cRS] 35) = x := ⟨_, rfl⟩
  rw [hw5] at k5 BS
  have HW5 := Lib.hid hw5
  have ZB5 : Hid (w4.heap.size < w5.heap.size) := by show _ < _; rw [← hw5]; simp
  clear hw5
  have j5 := j4.trans (k5.mono j4.size)
  have Z5 : Hid (w4.heap.size ≤ w5.heap.size) := k5.size
  replace RS := RS.later k5
  clear j4
  clear k5
  go_upto_region 6 with fail
  rw [HW5.out]
  obtain ⟨xa, la, _⟩ := HC.out _ j5
  obtain ⟨⟨h0, h1, h2, h3, h4, h5, h6, h7, h8⟩, _⟩ := xa.nineL
  clear xa
  go_wp2_with fail
  clear h0 h1 h2 h3 h4 h5 h6 h7 h8
  refine (toStore_any S _ _ la hL.out).mono ?_
  rintro e w6 ⟨vX, rfl, X, k6⟩
  clear la
  have j6 := j5.trans (k6.mono j5.size)
  have Z6 : Hid (w5.heap.size ≤ w6.heap.size) := k6.size
  replace RS := RS.later k6
  replace BS := BS.later k6
  clear j5
  clear k6
  obtain ⟨aX1, aX2, aX3, aX4, cX1, cX2, cX3, cX4, rfl⟩ := X.form
  have k7 := belNew w6 (.cells #[.slice aX1 S.g.d.sec.length cX1, .slice aX2 S.g.d.cache.length cX2, .int .i64 S.g.segs, .slice aX3 S.g.used.length cX3, .int .i64 S.g.ng, .int .i64 S.g.ns, .int .i64 S.g.st, .int .i64 S.g.nv, .slice aX4 S.fr.length cX4] 44)
  have BX := Box.new w6 #[.slice aX1 S.g.d.sec.length cX1, .slice aX2 S.g.d.cache.length cX2, .int .i64 S.g.segs, .slice aX3 S.g.used.length cX3, .int .i64 S.g.ng, .int .i64 S.g.ns, .int .i64 S.g.st, .int .i64 S.g.nv, .slice aX4 S.fr.length cX4] 44
  obtain ⟨w7, hw7⟩ : ∃ x, w6.alloc (.cells #[.slice aX1 S.g.d.sec.length cX1, .slice aX2 S.g.d.cache.length cX2, .int .i64 S.g.segs, .slice aX3 S.g.used.length cX3, .int .i64 S.g.ng, .int .i64 S.g.ns, .int .i64 S.g.st, .int .i64 S.g.nv, .slice aX4 S.fr.length cX4] 44) = x := ⟨_, rfl⟩
  rw [hw7] at k7 BX
  have HW7 := Lib.hid hw7
  have ZB7 : Hid (w6.heap.size < w7.heap.size) := by show _ < _; rw [← hw7]; simp
  clear hw7
  have j7 := j6.trans (k7.mono j6.size)
  have Z7 : Hid (w6.heap.size ≤ w7.heap.size) := k7.size
  replace RS := RS.later k7
  replace BS := BS.later k7
  replace X := X.later k7
  clear j6
  clear k7
  go_upto_region 7 with fail
  rw [HW7.out]
  obtain ⟨⟨h0, h1, h2, h3, h4, h5, h6, h7, h8⟩, _⟩ := BX.nineL
  go_wp2_with fail
  clear h0 h1 h2 h3 h4 h5 h6 h7 h8
  refine (HIM.out _ _ X.rd).mono ?_
  rintro e w8 ⟨vRG, rfl, RG, k8⟩
  have j8 := j7.trans (k8.mono j7.size)
  have Z8 : Hid (w7.heap.size ≤ w8.heap.size) := k8.size
  replace RS := RS.later k8
  replace BS := BS.later k8
  replace X := X.later k8
  replace BX := BX.later k8
  clear j7
  clear k8
  obtain ⟨aRG, cRG, rfl⟩ := RG.form
  have k9 := belNew w8 (.cells #[.slice aRG bs.length cRG] 35)
  have BG := Box.new w8 #[.slice aRG bs.length cRG] 35
  obtain ⟨w9, hw9⟩ : ∃ x, w8.alloc (.cells #[.slice aRG bs.length cRG] 35) = x := ⟨_, rfl⟩
  rw [hw9] at k9 BG
  have HW9 := Lib.hid hw9
  have ZB9 : Hid (w8.heap.size < w9.heap.size) := by show _ < _; rw [← hw9]; simp
  clear hw9
  have j9 := j8.trans (k9.mono j8.size)
  have Z9 : Hid (w8.heap.size ≤ w9.heap.size) := k9.size
  replace RS := RS.later k9
  replace BS := BS.later k9
  replace X := X.later k9
  replace BX := BX.later k9
  replace RG := RG.later k9
  clear j8
  clear k9
  go_upto_region 8 with fail
  rw [HW9.out]
  have q4 := BG.cell 0 _ rfl
  have q6 := BS.cell 0 _ rfl
  go_wp2_with fail
  clear q4 q6
  refine (eqState_same bs _ _ _ RG.rd RS.rd hbl HMM.out).mono ?_
  rintro e w10 ⟨rfl, k10⟩
  have j10 := j9.trans (k10.mono j9.size)
  have Z10 : Hid (w9.heap.size ≤ w10.heap.size) := k10.size
  replace RS := RS.later k10
  replace BS := BS.later k10
  replace X := X.later k10
  replace BX := BX.later k10
  replace RG := RG.later k10
  replace BG := BG.later k10
  clear j9
  clear k10
  have HS : Hid (∀ x, Below w10.drew.heap.size w10.drew x → ((x.cell? ⟨w.heap.size, 0, none⟩ = some (va) ∧ x.cell? ⟨w.heap.size, 1, none⟩ = some (vb) ∧ x.cell? ⟨w.heap.size, 2, none⟩ = some (.int .i64 S.g.segs) ∧ x.cell? ⟨w.heap.size, 3, none⟩ = some (vu) ∧ x.cell? ⟨w.heap.size, 4, none⟩ = some (.int .i64 S.g.ng) ∧ x.cell? ⟨w.heap.size, 5, none⟩ = some (.int .i64 S.g.ns) ∧ x.cell? ⟨w.heap.size, 6, none⟩ = some (.int .i64 S.g.st) ∧ x.cell? ⟨w.heap.size, 7, none⟩ = some (.int .i64 S.g.nv) ∧ x.cell? ⟨w.heap.size, 8, none⟩ = some (vf)) ∧ (x.cell? ⟨w6.heap.size, 0, none⟩ = some (.slice aX1 S.g.d.sec.length cX1) ∧ x.cell? ⟨w6.heap.size, 1, none⟩ = some (.slice aX2 S.g.d.cache.length cX2) ∧ x.cell? ⟨w6.heap.size, 2, none⟩ = some (.int .i64 S.g.segs) ∧ x.cell? ⟨w6.heap.size, 3, none⟩ = some (.slice aX3 S.g.used.length cX3) ∧ x.cell? ⟨w6.heap.size, 4, none⟩ = some (.int .i64 S.g.ng) ∧ x.cell? ⟨w6.heap.size, 5, none⟩ = some (.int .i64 S.g.ns) ∧ x.cell? ⟨w6.heap.size, 6, none⟩ = some (.int .i64 S.g.st) ∧ x.cell? ⟨w6.heap.size, 7, none⟩ = some (.int .i64 S.g.nv) ∧ x.cell? ⟨w6.heap.size, 8, none⟩ = some (.slice aX4 S.fr.length cX4))) ∧ SoO w5.heap.size w6.heap.size x (.agg #[.slice aX1 S.g.d.sec.length cX1, .slice aX2 S.g.d.cache.length cX2, .int .i64 S.g.segs, .slice aX3 S.g.used.length cX3, .int .i64 S.g.ng, .int .i64 S.g.ns, .int .i64 S.g.st, .int .i64 S.g.nv, .slice aX4 S.fr.length cX4]) S ∧ Below w10.heap.size w10 x) := by
    intro x hx
    have hx2 : Below w10.heap.size w10 x := ((Below.refl w10.heap.size w10).drew).trans hx
    obtain ⟨⟨u0, u1, u2, u3, u4, u5, u6, u7, u8⟩, _⟩ := (HC.out _ (j10.trans (hx2.mono j10.size))).1.nineL
    obtain ⟨⟨t0, t1, t2, t3, t4, t5, t6, t7, t8⟩, _⟩ := (BX.later hx2).nineL
    exact ⟨⟨⟨u0, u1, u2, u3, u4, u5, u6, u7, u8⟩, ⟨t0, t1, t2, t3, t4, t5, t6, t7, t8⟩⟩, X.later hx2, hx2⟩
  have la := (HC.out _ (j10.drew)).2.1
  go_upto_region 10 with fail
  go_cut [31] (fun c wx => c = .bool false ∧ ∃ y, y = wx ∧ Below w10.heap.size w10 y)
  case first =>
    clear j10 RS BS X BX RG BG
    go_region_held3 (fun x => (x.cell? ⟨w.heap.size, 0, none⟩ = some (va) ∧ x.cell? ⟨w.heap.size, 1, none⟩ = some (vb) ∧ x.cell? ⟨w.heap.size, 2, none⟩ = some (.int .i64 S.g.segs) ∧ x.cell? ⟨w.heap.size, 3, none⟩ = some (vu) ∧ x.cell? ⟨w.heap.size, 4, none⟩ = some (.int .i64 S.g.ng) ∧ x.cell? ⟨w.heap.size, 5, none⟩ = some (.int .i64 S.g.ns) ∧ x.cell? ⟨w.heap.size, 6, none⟩ = some (.int .i64 S.g.st) ∧ x.cell? ⟨w.heap.size, 7, none⟩ = some (.int .i64 S.g.nv) ∧ x.cell? ⟨w.heap.size, 8, none⟩ = some (vf)) ∧ (x.cell? ⟨w6.heap.size, 0, none⟩ = some (.slice aX1 S.g.d.sec.length cX1) ∧ x.cell? ⟨w6.heap.size, 1, none⟩ = some (.slice aX2 S.g.d.cache.length cX2) ∧ x.cell? ⟨w6.heap.size, 2, none⟩ = some (.int .i64 S.g.segs) ∧ x.cell? ⟨w6.heap.size, 3, none⟩ = some (.slice aX3 S.g.used.length cX3) ∧ x.cell? ⟨w6.heap.size, 4, none⟩ = some (.int .i64 S.g.ng) ∧ x.cell? ⟨w6.heap.size, 5, none⟩ = some (.int .i64 S.g.ns) ∧ x.cell? ⟨w6.heap.size, 6, none⟩ = some (.int .i64 S.g.st) ∧ x.cell? ⟨w6.heap.size, 7, none⟩ = some (.int .i64 S.g.nv) ∧ x.cell? ⟨w6.heap.size, 8, none⟩ = some (.slice aX4 S.fr.length cX4)))
      (first | exact (HS.out _ (Below.refl _ _)).1 | (exact (HS.out _ kX).1) | (exact (HS.out _ kY).1))
      (first
        | (go_at_call 6; refine (toStore_any S _ _ la hL.out).mono ?_; rintro e wX ⟨v9, rfl, o9, kX⟩)
        | (go_at_call 9; refine (eqStore_same S _ _ _ (HS.out _ kX).2.1.rd o9.rd hsm (by omega) HUM.out (by omega)).mono ?_; rintro e wY ⟨rfl, kY'⟩; have kY := kX.trans (kY'.mono kX.size)))
    all_goals
      have bZ := (HS.out _ kY).2.2
      go_wp2_with fail
      go_meet
      exact ⟨rfl, _, rfl, bZ⟩
  case rest =>
  obtain ⟨rfl, w11, hwr, k11⟩ := hcut
  clear HS la
  subst hwr
  have j11 := j10.trans (k11.mono j10.size)
  have Z11 : Hid (w10.heap.size ≤ w11.heap.size) := k11.size
  replace RS := RS.later k11
  replace BS := BS.later k11
  replace X := X.later k11
  replace BX := BX.later k11
  replace RG := RG.later k11
  replace BG := BG.later k11
  clear j10
  clear k11
  obtain ⟨⟨h0, h1, h2, h3, h4, h5, h6, h7, h8⟩, _⟩ := BX.nineL
  obtain ⟨kx, hkx⟩ : ∃ kx : Nat, S.kS 1 = kx := ⟨_, rfl⟩
  have HMK := Lib.hid (markStore_any S _ 1 _ _ _ X (by omega) (by omega) (by omega))
  rw [hkx] at HMK hks
  have hkp2 : ¬ ((kx : Int) < 0) := by omega
  clear hkx
  go_wp2_with fail
  clear h0 h1 h2 h3 h4 h5 h6 h7 h8
  refine HMK.out.mono ?_
  rintro e w12 ⟨rfl, _, k12⟩
  clear HMK
  clear X BX
  have j12 : Below W.heap.size W w12 := k12.below j11 (by have := ZW.out; have := Z3.out; have := Z4.out; have := Z5.out; have := Z6.out; have := Z7.out; have := Z8.out; have := Z9.out; have := Z10.out; have := Z11.out; have := ZB5.out; have := ZB7.out; have := ZB9.out; omega) j11.size
  have Z12 : Hid (w11.heap.size ≤ w12.heap.size) := k12.size
  replace RS := RS.kept k12 (by have := ZW.out; have := Z3.out; have := Z4.out; have := Z5.out; have := Z6.out; have := Z7.out; have := Z8.out; have := Z9.out; have := Z10.out; have := Z11.out; have := Z12.out; have := ZB5.out; have := ZB7.out; have := ZB9.out; omega)
  replace BS := BS.keptB k12 (by have := ZW.out; have := Z3.out; have := Z4.out; have := Z5.out; have := Z6.out; have := Z7.out; have := Z8.out; have := Z9.out; have := Z10.out; have := Z11.out; have := Z12.out; have := ZB5.out; have := ZB7.out; have := ZB9.out; omega)
  replace RG := RG.kept k12 (by have := ZW.out; have := Z3.out; have := Z4.out; have := Z5.out; have := Z6.out; have := Z7.out; have := Z8.out; have := Z9.out; have := Z10.out; have := Z11.out; have := Z12.out; have := ZB5.out; have := ZB7.out; have := ZB9.out; omega)
  replace BG := BG.keptB k12 (by have := ZW.out; have := Z3.out; have := Z4.out; have := Z5.out; have := Z6.out; have := Z7.out; have := Z8.out; have := Z9.out; have := Z10.out; have := Z11.out; have := Z12.out; have := ZB5.out; have := ZB7.out; have := ZB9.out; omega)
  clear j11
  clear k12
  have q4 := BG.cell 0 _ rfl
  have q6 := BS.cell 0 _ rfl
  go_wp2_with fail
  clear q4 q6
  refine (eqState_same bs _ _ _ RG.rd RS.rd hbl HMM.out).mono ?_
  rintro e w13 ⟨rfl, k13⟩
  have j13 := j12.trans (k13.mono j12.size)
  have Z13 : Hid (w12.heap.size ≤ w13.heap.size) := k13.size
  replace RS := RS.later k13
  replace BS := BS.later k13
  replace RG := RG.later k13
  replace BG := BG.later k13
  clear j12
  clear k13
  have q6 := BG.cell 0 _ rfl
  obtain ⟨hsG, PG⟩ := RG
  go_wp2_with fail
  clear q6
  refine (markState_any bs _ 1 _ hsG _ PG.own (by omega) hkE hbl).mono ?_
  rintro e w14 ⟨rfl, ⟨hsH, SH⟩, kD, kp⟩
  have kD2 := kp
  have k14 : Kept w7.heap.size w8.heap.size w13 w14 := keptOf kD kp PG
  clear kD kp kD2 PG
  have j14 : Below W.heap.size W w14 := k14.below j13 (by have := ZW.out; have := Z3.out; have := Z4.out; have := Z5.out; have := Z6.out; have := Z7.out; have := Z8.out; have := Z9.out; have := Z10.out; have := Z11.out; have := Z12.out; have := Z13.out; have := ZB5.out; have := ZB7.out; have := ZB9.out; omega) j13.size
  have Z14 : Hid (w13.heap.size ≤ w14.heap.size) := k14.size
  replace RS := RS.kept k14 (by have := ZW.out; have := Z3.out; have := Z4.out; have := Z5.out; have := Z6.out; have := Z7.out; have := Z8.out; have := Z9.out; have := Z10.out; have := Z11.out; have := Z12.out; have := Z13.out; have := Z14.out; have := ZB5.out; have := ZB7.out; have := ZB9.out; omega)
  replace BS := BS.keptB k14 (by have := ZW.out; have := Z3.out; have := Z4.out; have := Z5.out; have := Z6.out; have := Z7.out; have := Z8.out; have := Z9.out; have := Z10.out; have := Z11.out; have := Z12.out; have := Z13.out; have := Z14.out; have := ZB5.out; have := ZB7.out; have := ZB9.out; omega)
  replace BG := BG.keptB k14 (by have := ZW.out; have := Z3.out; have := Z4.out; have := Z5.out; have := Z6.out; have := Z7.out; have := Z8.out; have := Z9.out; have := Z10.out; have := Z11.out; have := Z12.out; have := Z13.out; have := Z14.out; have := ZB5.out; have := ZB7.out; have := ZB9.out; omega)
  clear j13
  clear k14
  have q6 := BG.cell 0 _ rfl
  go_wp2_with fail
  clear q6
  refine (heldState_any bs _ 1 _ SH.rd (by omega) hkE hbl).mono ?_
  rintro e w15 ⟨rfl, k15⟩
  have j15 := j14.trans (k15.mono j14.size)
  have Z15 : Hid (w14.heap.size ≤ w15.heap.size) := k15.size
  replace RS := RS.later k15
  replace BS := BS.later k15
  replace BG := BG.later k15
  replace SH := SH.later k15
  clear j14
  clear k15
  obtain ⟨xa, la, _⟩ := HC.out _ j15
  obtain ⟨⟨h0, h1, h2, h3, h4, h5, h6, h7, h8⟩, _⟩ := xa.nineL
  clear xa
  go_wp2_with fail
  clear h0 h1 h2 h3 h4 h5 h6 h7 h8
  refine (toStore_any S _ _ la hL.out).mono ?_
  rintro e w16 ⟨vE, rfl, E, k16⟩
  clear la
  have j16 := j15.trans (k16.mono j15.size)
  have Z16 : Hid (w15.heap.size ≤ w16.heap.size) := k16.size
  replace RS := RS.later k16
  replace BS := BS.later k16
  replace BG := BG.later k16
  replace SH := SH.later k16
  clear j15
  clear k16
  obtain ⟨aE1, aE2, aE3, aE4, cE1, cE2, cE3, cE4, rfl⟩ := E.form
  go_wp2_with fail
  refine (HIM.out _ _ E.rd).mono ?_
  rintro e w17 ⟨vRE, rfl, RE, k17⟩
  have j17 := j16.trans (k17.mono j16.size)
  have Z17 : Hid (w16.heap.size ≤ w17.heap.size) := k17.size
  replace RS := RS.later k17
  replace BS := BS.later k17
  replace BG := BG.later k17
  replace SH := SH.later k17
  replace E := E.later k17
  clear j16
  clear k17
  obtain ⟨aRE, cRE, rfl⟩ := RE.form
  clear E
  have k18 := belNew w17 (.cells #[.slice aRE bs.length cRE] 35)
  have BE := Box.new w17 #[.slice aRE bs.length cRE] 35
  obtain ⟨w18, hw18⟩ : ∃ x, w17.alloc (.cells #[.slice aRE bs.length cRE] 35) = x := ⟨_, rfl⟩
  rw [hw18] at k18 BE
  have HW18 := Lib.hid hw18
  have ZB18 : Hid (w17.heap.size < w18.heap.size) := by show _ < _; rw [← hw18]; simp
  clear hw18
  have j18 := j17.trans (k18.mono j17.size)
  have Z18 : Hid (w17.heap.size ≤ w18.heap.size) := k18.size
  replace RS := RS.later k18
  replace BS := BS.later k18
  replace BG := BG.later k18
  replace SH := SH.later k18
  replace RE := RE.later k18
  clear j17
  clear k18
  go_upto_region 25 with fail
  rw [HW18.out]
  have q4 := BE.cell 0 _ rfl
  have q6 := BS.cell 0 _ rfl
  go_wp2_with fail
  clear q4 q6
  refine (eqState_same bs _ _ _ RE.rd RS.rd hbl HMM.out).mono ?_
  rintro e w19 ⟨rfl, k19⟩
  have j19 := j18.trans (k19.mono j18.size)
  have Z19 : Hid (w18.heap.size ≤ w19.heap.size) := k19.size
  replace RS := RS.later k19
  replace BS := BS.later k19
  replace BG := BG.later k19
  replace SH := SH.later k19
  replace RE := RE.later k19
  replace BE := BE.later k19
  clear j18
  clear k19
  have q6 := BG.cell 0 _ rfl
  go_wp2_with fail
  clear q6
  refine (heldState_any bs _ 1 _ SH.rd (by omega) hkE hbl).mono ?_
  rintro e w20 ⟨rfl, k20⟩
  have j20 := j19.trans (k20.mono j19.size)
  have Z20 : Hid (w19.heap.size ≤ w20.heap.size) := k20.size
  replace RS := RS.later k20
  replace BS := BS.later k20
  replace BG := BG.later k20
  replace SH := SH.later k20
  replace RE := RE.later k20
  replace BE := BE.later k20
  clear j19
  clear k20
  have bZ := (HC.out _ j20).2.2
  go_wp2
  go_ret
  exact ⟨rfl, bZ⟩

theorem FnExactStateNow_own : ownKnob Tryz.prog.godebug = none := by kernel_rfl

set_option maxRecDepth 100000 in
theorem FnExactStateNow_lifted (os : Os) (started : os.Started) (H : Type) (enc : TypeId × Value → H) :
    ReturnsInHanded {} Tryz.checked os 3 .any (Rows.fnExactStateNowSpec.pre6 enc Tryz.prog Tryz.f3 Rows.fnExactStateNowRow.domain false) (Rows.fnExactStateNowSpec.post enc Tryz.prog Tryz.f3 false true false false) := by
  refine returnsInHanded_of_change (C := Tryz.checked) FnExactStateNow_own started (by kernel_rfl) Tryz.func3
    (ChangeSpec.witness6 (enc := enc) (C := Tryz.checked) false ⟨#[], #[.agg #[.slice none 0 0, .slice none 0 0, .int .i64 0, .slice none 0 0, .int .i64 0, .int .i64 0, .int .i64 0, .int .i64 0, .slice none 0 0]], []⟩ 8 (by kernel_rfl) (by kernel_rfl) (by kernel_rfl) (by kernel_rfl)) ?_
  intro W base args ds gs before hval0 hW hcnd _
  have hval : ∀ (j : Nat) t v, Tryz.f3.params[j]? = some t → args[j]? = some v → Value.okWide Tryz.prog W .any base t v := hval0
  have hW' := hW
  obtain ⟨p, q, hA0, hV, rfl, hfz, hnd⟩ := hW
  have hA : DataW.TrodAll enc Tryz.prog W 0 (fun _ => true) true Tryz.f3.params.toList args.toList ds p := hA0
  rw [Tryz.params3] at hA hval
  obtain ⟨v0, vs0, d0, ds0, p0, q0, hargs, rfl, rfl, h0, r0⟩ := trodAll_cons hA
  obtain ⟨rfl, rfl, rfl⟩ := trodAll_nil r0
  obtain rfl : args = #[v0] := by cases args; simp_all
  obtain ⟨rfl, rfl⟩ := trodVars_none hV
  have k0 := h0
  have lt0 : ∀ x ∈ p0, x.block < W.heap.size := by obtain ⟨m, hm⟩ := k0; exact DataW.trod_lt m _ _ _ hm
  obtain ⟨D0, w0⟩ := open_Store (hval 0 31 v0 rfl rfl) h0
  clear hA0 hval0
  simp only [List.append_nil] at hW'
  refine (walk_FnExactStateNow v0 D0 w0 (w := W)).mono fun e W' ⟨he, bel⟩ => ?_
  subst he
  exact ⟨_, rfl, _, _, _, [], _, [], hW', trodAll_mk1 (shut_bool Tryz.underlying4 _), (trodAll_cons_mk (Below.trod (show laidOutB Tryz.prog = true by kernel_rfl) (by kernel_rfl) (of_decide_eq_true (by kernel_rfl)) k0 bel lt0) trodAll_mk0), rfl, bel.frame _, fun h => by cases h⟩

/-- The given statement. -/
theorem fnExactStateNow_holds : Rows.FnExactStateNowSaid :=
  OpenClaim.holds_of_wide 3 Tryz.f3 rfl rfl rfl rfl rfl rfl rfl ⟨rfl, rfl, rfl, rfl, rfl⟩ rfl rfl rfl rfl rfl (by kernel_rfl) Tryz.func3 (by kernel_rfl)
    (of_decide_eq_true (by kernel_rfl)) (by unfold Func.isWrapper; first | (rw [if_pos (by decide +kernel)]; kernel_rfl) | (rw [if_neg (by decide +kernel)]; exact ⟨rfl, rfl⟩))
    (fun os started H enc _ => FnExactStateNow_lifted os started H enc)
#print axioms fnExactStateNow_holds

end Go.Proofs.YtgcnebepklelpaaGreat
