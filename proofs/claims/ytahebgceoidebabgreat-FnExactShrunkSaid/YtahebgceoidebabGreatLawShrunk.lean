/- For every list of items, every list of bools and every number, Shrunk answers as its model, writes into no argument, and its answer owns its memory. No condition. -/
import Derived.Test.YtahebgceoidebabGreatJk
import Derived.Test.YtahebgceoidebabGreatJr
import Derived.Test.YtahebgceoidebabGreatJs
import Derived.Test.YtahebgceoidebabGreatJh
import Derived.ProofKit
import Derived.OpenShut
import Derived.ShutString
import Derived.ChangeOld
import Derived.Below
namespace Go.Proofs.YtahebgceoidebabGreat
open Go.ChangeShapes Go.WideShapes Go.ChangeAt Go.RowKit
open Go.ChangeMaps (open_string shut_string)
set_option linter.unusedVariables false

theorem own_low {v v' : Value} {b : Nat} (h1 : ∀ k, v.ownBlock = some k → k < b) (h2 : ∀ k, v'.ownBlock = some k → b ≤ k) : v.ownBlock = none ∨ v.ownBlock ≠ v'.ownBlock := by
  cases h : v.ownBlock with
  | none => exact .inl rfl
  | some k => exact .inr (fun e => by have := h1 k h; have := h2 k e.symm; omega)
theorem own_high {v v' : Value} {b : Nat} (h1 : ∀ k, v.ownBlock = some k → b ≤ k) (h2 : ∀ k, v'.ownBlock = some k → k < b) : v.ownBlock = none ∨ v.ownBlock ≠ v'.ownBlock := by
  cases h : v.ownBlock with
  | none => exact .inl rfl
  | some k => exact .inr (fun e => by have := h1 k h; have := h2 k e.symm; omega)

set_option maxRecDepth 100000 in
set_option maxHeartbeats 8000000 in
theorem walk_FnExactShrunk (v : Value) (l : List Itm) (vd : Value) (d : List Bool) (sq : Int) {w : World} (h : ItsIn w v l) (hd : BoIn w vd d) (hs : -9223372036854775808 ≤ sq ∧ sq ≤ 9223372036854775807) :
    Calls Tryz.prog 3 #[v, vd, .int .i64 sq] w fun e w' => e = .returned (.bool true) ∧ Below w.heap.size w w' := by
  obtain ⟨h0, hl, hz⟩ := h
  have HL : Hid (∀ x, Below w.heap.size w x → Rows' litE x v l) := fun x hx => h0.later hx
  obtain ⟨ad, cap, rfl, _⟩ := h0.litems
  have HSZ := Lib.hid (fun x hx => szItemS_any l _ 1048576 x (HL.out x hx) (by omega) (by omega) hl hz)
  clear h0 hz
  obtain ⟨hd0, hdl⟩ := hd
  have HD : Hid (∀ x, Below w.heap.size w x → Rows' boE x vd d) := fun x hx => hd0.later hx
  obtain ⟨ab, cab, rfl, _⟩ := hd0.bools
  clear hd0
  by_cases hd1 : (1048576 : Int) < (d.length : Int)
  · clear HSZ
    go_enter Tryz.func3, Tryz.ntmps3
    go_wp2
    go_ret
    exact ⟨rfl, Below.refl _ _⟩
  go_enter Tryz.func3, Tryz.ntmps3
  go_wp2_with fail
  refine (HSZ.out _ (Below.refl _ _)).mono ?_
  rintro e w1 ⟨⟨r, rfl, hr, _⟩, b1⟩
  clear HSZ
  by_cases hneg : r < 0
  · go_wp2
    go_ret
    exact ⟨rfl, b1⟩
  have hr2 : (l.length : Int) ≤ 1048576 ∧ ∀ x ∈ l, (x.2.user.size : Int) + x.2.name.size + x.2.text.size ≤ 1048576 := by
    rcases hr with hr | hr
    · exact absurd hr hneg
    · exact hr
  have hl1 : l.length ≤ 1048576 := by have := hr2.1; omega
  have hz1 : ∀ x ∈ l, x.2.user.size ≤ 1048576 ∧ x.2.name.size ≤ 1048576 ∧ x.2.text.size ≤ 1048576 := fun x hx => by have := hr2.2 x hx; omega
  have hdl1 : d.length ≤ 1048576 := by omega
  obtain ⟨A, hA⟩ : ∃ A, shr l d sq = A := ⟨_, rfl⟩
  have hAl : A.length ≤ 2097152 := by rw [← hA]; exact shr_len l d sq hl1
  have HSP : Hid (∀ (va vb : Value) (x : World), Rows' itE x va l → Rows' boE x vb d → Calls Tryz.prog 5 #[va, vb, .int .i64 sq] x fun e w' => ∃ v', e = .returned v' ∧ RBuf itE x.heap.size x w' v' A) := by
    rw [← hA]
    exact fun va vb x h1 h2 => specShrunk_any l d sq va vb x h1 h2 hl1 hz1
  have HIM : Hid (∀ (va vb : Value) (x : World), Rows' itE x va l → Rows' boE x vb d → Calls Tryz.prog 8 #[va, vb, .int .i64 sq] x fun e w' => ∃ v', e = .returned v' ∧ RBuf itE x.heap.size x w' v' A) := by
    rw [← hA]
    exact fun va vb x h1 h2 => implShrunk_any l d sq va vb x h1 h2 hl1 hz1
  clear hr hr2 hz1 hA hl hd1 hdl
  obtain ⟨n, hn⟩ : ∃ n, l.length = n := ⟨_, rfl⟩
  have HN := Lib.hid hn
  rw [hn] at hl1
  rw [hn]
  obtain ⟨m, hm⟩ : ∃ m, d.length = m := ⟨_, rfl⟩
  have HM := Lib.hid hm
  rw [hm] at hdl1
  rw [hm]
  clear hm
  rw [HM.out] at HD
  rw [hn] at HL
  clear hn
  obtain ⟨p, hp⟩ : ∃ p, A.length = p := ⟨_, rfl⟩
  have HP := Lib.hid hp
  rw [hp] at hAl
  clear hp
  go_wp2_with fail
  refine (toItemS_any l _ _ (HL.out _ b1) (by rw [HN.out]; exact hl1)).mono ?_
  rintro e w2 ⟨vA, rfl, RA⟩
  have b2 := b1.trans (RA.bel.mono b1.size)
  obtain ⟨aA, cA, rfl⟩ := RA.form
  rw [HN.out] at RA ⊢
  have OA : Hid (∀ k, (Value.slice aA n cA).ownBlock = some k → w1.heap.size ≤ k ∧ k < w2.heap.size) := fun k hk => RA.own.lt k hk
  have Z2 : Hid (w1.heap.size ≤ w2.heap.size) := RA.bel.size
  replace RA := RA.here
  clear b1
  go_wp2_with fail
  refine (toBoolS_any d _ _ (HD.out _ b2) (by rw [HM.out]; exact hdl1)).mono ?_
  rintro e w3 ⟨vB, rfl, RB⟩
  have b3 := b2.trans (RB.bel.mono b2.size)
  replace RA := (RA.later RB.bel).here
  obtain ⟨aB, cB, rfl⟩ := RB.form
  rw [HM.out] at RB ⊢
  have OB : Hid (∀ k, (Value.slice aB m cB).ownBlock = some k → w2.heap.size ≤ k ∧ k < w3.heap.size) := fun k hk => RB.own.lt k hk
  have Z3 : Hid (w2.heap.size ≤ w3.heap.size) := RB.bel.size
  replace RB := RB.here
  clear b2
  go_wp2_with fail
  refine (HSP.out _ _ _ RA.rows RB.rows).mono ?_
  rintro e w4 ⟨vS, rfl, RS⟩
  have b4 := b3.trans (RS.bel.mono b3.size)
  replace RA := (RA.later RS.bel).here
  replace RB := (RB.later RS.bel).here
  obtain ⟨aS, cS, rfl⟩ := RS.form
  rw [HP.out] at RS ⊢
  have OS : Hid (∀ k, (Value.slice aS p cS).ownBlock = some k → w3.heap.size ≤ k ∧ k < w4.heap.size) := fun k hk => RS.own.lt k hk
  have Z4 : Hid (w3.heap.size ≤ w4.heap.size) := RS.bel.size
  replace RS := RS.here
  clear b3
  clear RA RB
  go_wp2_with fail
  refine (toItemS_any l _ _ (HL.out _ b4) (by rw [HN.out]; exact hl1)).mono ?_
  rintro e w5 ⟨vX, rfl, RX⟩
  have BX : Hid (w.heap.size ≤ w4.heap.size) := b4.size
  have b5 := b4.trans (RX.bel.mono b4.size)
  replace RS := (RS.later RX.bel).here
  obtain ⟨aX, cX, rfl⟩ := RX.form
  rw [HN.out] at RX ⊢
  have OX : Hid (∀ k, (Value.slice aX n cX).ownBlock = some k → w4.heap.size ≤ k ∧ k < w5.heap.size) := fun k hk => RX.own.lt k hk
  have Z5 : Hid (w4.heap.size ≤ w5.heap.size) := RX.bel.size
  replace RX := RX.here
  clear b4
  go_wp2_with fail
  refine (toBoolS_any d _ _ (HD.out _ b5) (by rw [HM.out]; exact hdl1)).mono ?_
  rintro e w6 ⟨vY, rfl, RY⟩
  have b6 := b5.trans (RY.bel.mono b5.size)
  replace RS := (RS.later RY.bel).here
  replace RX := (RX.later RY.bel).here
  obtain ⟨aY, cY, rfl⟩ := RY.form
  rw [HM.out] at RY ⊢
  have OY : Hid (∀ k, (Value.slice aY m cY).ownBlock = some k → w5.heap.size ≤ k ∧ k < w6.heap.size) := fun k hk => RY.own.lt k hk
  have Z6 : Hid (w5.heap.size ≤ w6.heap.size) := RY.bel.size
  replace RY := RY.here
  clear b5
  go_wp2_with fail
  refine (HIM.out _ _ _ RX.rows RY.rows).mono ?_
  rintro e w7 ⟨vG, rfl, RG⟩
  have b7 := b6.trans (RG.bel.mono b6.size)
  replace RS := (RS.later RG.bel).here
  replace RX := (RX.later RG.bel).here
  replace RY := (RY.later RG.bel).here
  obtain ⟨aG, cG, rfl⟩ := RG.form
  rw [HP.out] at RG ⊢
  have OG : Hid (∀ k, (Value.slice aG p cG).ownBlock = some k → w6.heap.size ≤ k ∧ k < w7.heap.size) := fun k hk => RG.own.lt k hk
  have Z7 : Hid (w6.heap.size ≤ w7.heap.size) := RG.bel.size
  replace RG := RG.here
  clear b6
  go_wp2_with fail
  refine (eqItemS_same A _ _ _ RG.rows RS.rows (by rw [HP.out]; omega)).mono ?_
  rintro e w8 ⟨rfl, k8⟩
  have b8 := b7.trans (k8.mono b7.size)
  replace RS := (RS.later k8).here
  replace RX := (RX.later k8).here
  replace RY := (RY.later k8).here
  replace RG := (RG.later k8).here
  have Z8 : Hid (w7.heap.size ≤ w8.heap.size) := k8.size
  clear k8 b7
  go_wp2_with fail
  refine (toItemS_any l _ _ (HL.out _ b8) (by rw [HN.out]; exact hl1)).mono ?_
  rintro e w9 ⟨vC, rfl, RC⟩
  have b9 := b8.trans (RC.bel.mono b8.size)
  replace RS := (RS.later RC.bel).here
  replace RX := (RX.later RC.bel).here
  replace RY := (RY.later RC.bel).here
  replace RG := (RG.later RC.bel).here
  obtain ⟨aC, cC, rfl⟩ := RC.form
  rw [HN.out] at RC ⊢
  have OC : Hid (∀ k, (Value.slice aC n cC).ownBlock = some k → w8.heap.size ≤ k ∧ k < w9.heap.size) := fun k hk => RC.own.lt k hk
  have Z9 : Hid (w8.heap.size ≤ w9.heap.size) := RC.bel.size
  replace RC := RC.here
  clear b8
  go_wp2_with fail
  refine (eqItemS_same l _ _ _ RX.rows RC.rows (by rw [HN.out]; omega)).mono ?_
  rintro e w10 ⟨rfl, k10⟩
  have b10 := b9.trans (k10.mono b9.size)
  replace RS := (RS.later k10).here
  replace RX := (RX.later k10).here
  replace RY := (RY.later k10).here
  replace RG := (RG.later k10).here
  replace RC := (RC.later k10).here
  have Z10 : Hid (w9.heap.size ≤ w10.heap.size) := k10.size
  clear k10 b9
  clear RC
  go_wp2_with fail
  refine (toBoolS_any d _ _ (HD.out _ b10) (by rw [HM.out]; exact hdl1)).mono ?_
  rintro e w11 ⟨vD, rfl, RD⟩
  have b11 := b10.trans (RD.bel.mono b10.size)
  replace RS := (RS.later RD.bel).here
  replace RX := (RX.later RD.bel).here
  replace RY := (RY.later RD.bel).here
  replace RG := (RG.later RD.bel).here
  obtain ⟨aD, cD, rfl⟩ := RD.form
  rw [HM.out] at RD ⊢
  have OD : Hid (∀ k, (Value.slice aD m cD).ownBlock = some k → w10.heap.size ≤ k ∧ k < w11.heap.size) := fun k hk => RD.own.lt k hk
  have Z11 : Hid (w10.heap.size ≤ w11.heap.size) := RD.bel.size
  replace RD := RD.here
  clear b10
  go_wp2_with fail
  refine (eqBoolS_same d _ _ _ RY.rows RD.rows (by rw [HM.out]; omega)).mono ?_
  rintro e w12 ⟨rfl, k12⟩
  have b12 := b11.trans (k12.mono b11.size)
  replace RS := (RS.later k12).here
  replace RX := (RX.later k12).here
  replace RY := (RY.later k12).here
  replace RG := (RG.later k12).here
  replace RD := (RD.later k12).here
  have Z12 : Hid (w11.heap.size ≤ w12.heap.size) := k12.size
  clear k12 b11
  clear RD
  go_wp2_with fail
  have HMK := Lib.hid (markItemS_any l _ 1 _ _ RX (by omega) (by rw [HN.out]; omega))
  rw [HN.out] at HMK
  obtain ⟨kx, hkx⟩ : ∃ kx : Nat, 1 + 9 * n = kx := ⟨_, rfl⟩
  rw [hkx] at HMK
  have hkx2 : kx ≤ 9437185 := by omega
  clear hkx
  refine HMK.out.mono ?_
  rintro e w13 ⟨rfl, gX⟩
  clear HMK
  have b13 : Below w.heap.size w w13 := b12.grown gX b12.size (fun k hk => by have := (OX.out k hk).1; have := BX.out; omega)
  replace RS := RS.shift gX (own_low (b := w4.heap.size) (fun k hk => by have := (OS.out k hk).2; omega) (fun k hk => (OX.out k hk).1))
  replace RY := RY.shift gX (own_high (b := w5.heap.size) (fun k hk => by have := (OY.out k hk).1; skip; omega) (fun k hk => (OX.out k hk).2))
  replace RG := RG.shift gX (own_high (b := w5.heap.size) (fun k hk => by have := (OG.out k hk).1; have := Z6.out; omega) (fun k hk => (OX.out k hk).2))
  clear gX RX b12
  go_wp2_with fail
  have HMK := Lib.hid (markBoolS_any d _ kx _ _ _ RY (by rw [HM.out]; omega))
  rw [HM.out] at HMK
  obtain ⟨ky, hky⟩ : ∃ ky : Nat, kx + m = ky := ⟨_, rfl⟩
  rw [hky] at HMK
  clear hky
  refine HMK.out.mono ?_
  rintro e w14 ⟨rfl, _, gY⟩
  clear HMK
  have b14 : Below w.heap.size w w14 := b13.grown gY b13.size (fun k hk => by have := (OY.out k hk).1; have := BX.out; have := Z5.out; omega)
  replace RS := RS.shift gY (own_low (b := w5.heap.size) (fun k hk => by have := (OS.out k hk).2; have := Z5.out; omega) (fun k hk => (OY.out k hk).1))
  replace RG := RG.shift gY (own_high (b := w6.heap.size) (fun k hk => by have := (OG.out k hk).1; skip; omega) (fun k hk => (OY.out k hk).2))
  clear gY RY b13
  have hkp : ¬ ((ky : Int) < 0) := by omega
  go_wp2_with fail
  refine (eqItemS_same A _ _ _ RG.rows RS.rows (by rw [HP.out]; omega)).mono ?_
  rintro e w15 ⟨rfl, k15⟩
  have b15 := b14.trans (k15.mono b14.size)
  replace RS := (RS.later k15).here
  replace RG := (RG.later k15).here
  have Z15 : Hid (w14.heap.size ≤ w15.heap.size) := k15.size
  clear k15 b14
  have HMK := Lib.hid (markItemS_put A (.slice aG p cG) 1 _ _ _ RG (by omega) (by rw [HP.out]; omega))
  rw [HP.out] at HMK
  obtain ⟨kz, hkz⟩ : ∃ kz : Nat, 1 + 9 * p = kz := ⟨_, rfl⟩
  rw [hkz] at HMK
  have HKZ := Lib.hid hkz
  have hkq : ¬ ((kz : Int) < 0) := by omega
  clear hkz
  go_wp2_with fail
  refine HMK.out.mono ?_
  rintro e w16 ⟨rfl, RH0, gG⟩
  clear HMK
  have RH := RH0.here
  clear RH0
  have b16 : Below w.heap.size w w16 := b15.grown gG b15.size (fun k hk => by have := (OG.out k hk).1; have := BX.out; have := Z5.out; have := Z6.out; omega)
  replace RS := RS.shift gG (own_low (b := w6.heap.size) (fun k hk => by have := (OS.out k hk).2; have := Z5.out; have := Z6.out; omega) (fun k hk => (OG.out k hk).1))
  clear gG RG b15
  have HHD := Lib.hid (fun x (hx : Rows' itE x (.slice aG p cG) (marksI 1 p)) => heldItemS_any p _ 1 x hx (by omega) (by omega))
  rw [HKZ.out] at HHD
  go_wp2_with fail
  refine (HHD.out _ RH.rows).mono ?_
  rintro e w17 ⟨rfl, k17⟩
  have b17 := b16.trans (k17.mono b16.size)
  replace RS := (RS.later k17).here
  replace RH := (RH.later k17).here
  have Z17 : Hid (w16.heap.size ≤ w17.heap.size) := k17.size
  clear k17 b16
  go_wp2_with fail
  refine (toItemS_any l _ _ (HL.out _ b17) (by rw [HN.out]; exact hl1)).mono ?_
  rintro e w18 ⟨vE, rfl, RE⟩
  have b18 := b17.trans (RE.bel.mono b17.size)
  replace RS := (RS.later RE.bel).here
  replace RH := (RH.later RE.bel).here
  obtain ⟨aE, cE, rfl⟩ := RE.form
  rw [HN.out] at RE ⊢
  have OE : Hid (∀ k, (Value.slice aE n cE).ownBlock = some k → w17.heap.size ≤ k ∧ k < w18.heap.size) := fun k hk => RE.own.lt k hk
  have Z18 : Hid (w17.heap.size ≤ w18.heap.size) := RE.bel.size
  replace RE := RE.here
  clear b17
  go_wp2_with fail
  refine (toBoolS_any d _ _ (HD.out _ b18) (by rw [HM.out]; exact hdl1)).mono ?_
  rintro e w19 ⟨vF, rfl, RF⟩
  have b19 := b18.trans (RF.bel.mono b18.size)
  replace RS := (RS.later RF.bel).here
  replace RH := (RH.later RF.bel).here
  replace RE := (RE.later RF.bel).here
  obtain ⟨aF, cF, rfl⟩ := RF.form
  rw [HM.out] at RF ⊢
  have OF : Hid (∀ k, (Value.slice aF m cF).ownBlock = some k → w18.heap.size ≤ k ∧ k < w19.heap.size) := fun k hk => RF.own.lt k hk
  have Z19 : Hid (w18.heap.size ≤ w19.heap.size) := RF.bel.size
  replace RF := RF.here
  clear b18
  go_wp2_with fail
  refine (HIM.out _ _ _ RE.rows RF.rows).mono ?_
  rintro e w20 ⟨vK, rfl, RK⟩
  have b20 := b19.trans (RK.bel.mono b19.size)
  replace RS := (RS.later RK.bel).here
  replace RH := (RH.later RK.bel).here
  replace RE := (RE.later RK.bel).here
  replace RF := (RF.later RK.bel).here
  obtain ⟨aK, cK, rfl⟩ := RK.form
  rw [HP.out] at RK ⊢
  have OK : Hid (∀ k, (Value.slice aK p cK).ownBlock = some k → w19.heap.size ≤ k ∧ k < w20.heap.size) := fun k hk => RK.own.lt k hk
  have Z20 : Hid (w19.heap.size ≤ w20.heap.size) := RK.bel.size
  replace RK := RK.here
  clear b19
  clear RE RF
  go_wp2_with fail
  refine (eqItemS_same A _ _ _ RK.rows RS.rows (by rw [HP.out]; omega)).mono ?_
  rintro e w21 ⟨rfl, k21⟩
  have b21 := b20.trans (k21.mono b20.size)
  replace RS := (RS.later k21).here
  replace RH := (RH.later k21).here
  replace RK := (RK.later k21).here
  have Z21 : Hid (w20.heap.size ≤ w21.heap.size) := k21.size
  clear k21 b20
  clear RK RS
  go_wp2_with fail
  refine (HHD.out _ RH.rows).mono ?_
  rintro e w22 ⟨rfl, k22⟩
  have b22 := b21.trans (k22.mono b21.size)
  replace RH := (RH.later k22).here
  have Z22 : Hid (w21.heap.size ≤ w22.heap.size) := k22.size
  clear k22 b21
  go_wp2
  go_ret
  exact ⟨rfl, b22⟩

theorem FnExactShrunk_own : ownKnob Tryz.prog.godebug = none := by kernel_rfl

set_option maxRecDepth 100000 in
theorem FnExactShrunk_lifted (os : Os) (started : os.Started) (H : Type) (enc : TypeId × Value → H) :
    ReturnsInHanded {} Tryz.checked os 3 .any (Rows.fnExactShrunkSpec.pre6 enc Tryz.prog Tryz.f3 Rows.fnExactShrunkRow.domain false) (Rows.fnExactShrunkSpec.post enc Tryz.prog Tryz.f3 false true false false) := by
  refine returnsInHanded_of_change (C := Tryz.checked) FnExactShrunk_own started (by kernel_rfl) Tryz.func3
    (ChangeSpec.witness6 (enc := enc) (C := Tryz.checked) false ⟨#[], #[.slice none 0 0, .slice none 0 0, .int .i64 0], []⟩ 8 (by kernel_rfl) (by kernel_rfl) (by kernel_rfl) (by kernel_rfl)) ?_
  intro W base args ds gs before hval0 hW hcnd _
  have hval : ∀ (j : Nat) t v, Tryz.f3.params[j]? = some t → args[j]? = some v → Value.okWide Tryz.prog W .any base t v := hval0
  have hW' := hW
  obtain ⟨p, q, hA0, hV, rfl, hfz, hnd⟩ := hW
  have hA : DataW.TrodAll enc Tryz.prog W 0 (fun _ => true) true Tryz.f3.params.toList args.toList ds p := hA0
  rw [Tryz.params3] at hA hval
  obtain ⟨v0, vs0, d0, ds0, p0, q0, hargs, rfl, rfl, h0, r0⟩ := trodAll_cons hA
  obtain ⟨v1, vs1, d1, ds1, p1, q1, rfl, rfl, rfl, h1, r1⟩ := trodAll_cons r0
  obtain ⟨v2, vs2, d2, ds2, p2, q2, rfl, rfl, rfl, h2, r2⟩ := trodAll_cons r1
  obtain ⟨rfl, rfl, rfl⟩ := trodAll_nil r2
  obtain rfl : args = #[v0, v1, v2] := by cases args; simp_all
  obtain ⟨rfl, rfl⟩ := trodVars_none hV
  have k0 := h0
  have lt0 : ∀ x ∈ p0, x.block < W.heap.size := by obtain ⟨m, hm⟩ := k0; exact DataW.trod_lt m _ _ _ hm
  obtain ⟨D0, w0⟩ := open_ItemS (hval 0 22 v0 rfl rfl) h0
  have k1 := h1
  have lt1 : ∀ x ∈ p1, x.block < W.heap.size := by obtain ⟨m, hm⟩ := k1; exact DataW.trod_lt m _ _ _ hm
  obtain ⟨D1, w1⟩ := open_BoolS (hval 1 23 v1 rfl rfl) h1
  obtain ⟨a2, rfl, rfl, rfl, w2⟩ := open_int Tryz.underlying3 (hval 2 3 v2 rfl rfl) h2
  clear hA0 hval0
  simp only [List.append_nil] at hW'
  refine (walk_FnExactShrunk v0 D0 v1 D1 a2 w0 w1 (bounds_i64 w2) (w := W)).mono fun e W' ⟨he, bel⟩ => ?_
  subst he
  exact ⟨_, rfl, _, _, _, [], _, [], hW', trodAll_mk1 (shut_bool Tryz.underlying4 _), (trodAll_cons_mk (Below.trod (show laidOutB Tryz.prog = true by kernel_rfl) (by kernel_rfl) (of_decide_eq_true (by kernel_rfl)) k0 bel lt0) (trodAll_cons_mk (Below.trod (show laidOutB Tryz.prog = true by kernel_rfl) (by kernel_rfl) (of_decide_eq_true (by kernel_rfl)) k1 bel lt1) (trodAll_cons_mk (shut_int Tryz.underlying3 w2) trodAll_mk0))), rfl, bel.frame _, fun h => by cases h⟩

/-- The given statement. -/
theorem fnExactShrunk_holds : Rows.FnExactShrunkSaid :=
  OpenClaim.holds_of_wide 3 Tryz.f3 rfl rfl rfl rfl rfl rfl rfl ⟨rfl, rfl, rfl, rfl, rfl⟩ rfl rfl rfl rfl rfl (by kernel_rfl) Tryz.func3 (by kernel_rfl)
    (of_decide_eq_true (by kernel_rfl)) (by unfold Func.isWrapper; first | (rw [if_pos (by decide +kernel)]; kernel_rfl) | (rw [if_neg (by decide +kernel)]; exact ⟨rfl, rfl⟩))
    (fun os started H enc _ => FnExactShrunk_lifted os started H enc)
#print axioms fnExactShrunk_holds

end Go.Proofs.YtahebgceoidebabGreat
