/- For every list of items, NeededAll answers as its model, writes into no argument, and its answer owns its memory. No condition. -/
import Derived.Test.YtjfilicddnhniabJp
import Derived.Test.YtjfilicddnhniabJq
import Derived.Test.YtjfilicddnhniabJn
import Derived.ProofKit
import Derived.OpenShut
import Derived.ShutString
import Derived.ChangeOld
import Derived.Below
namespace Go.Proofs.Ytjfilicddnhniab
open Go.ChangeShapes Go.WideShapes Go.ChangeAt Go.RowKit
open Go.ChangeMaps (open_string shut_string)
set_option linter.unusedVariables false

theorem own_low {v v' : Value} {b : Nat} (h1 : ∀ k, v.ownBlock = some k → k < b) (h2 : ∀ k, v'.ownBlock = some k → b ≤ k) : v.ownBlock = none ∨ v.ownBlock ≠ v'.ownBlock := by
  cases h : v.ownBlock with
  | none => exact .inl rfl
  | some k => exact .inr (fun e => by have := h1 k h; have := h2 k e.symm; omega)
theorem own_high {v v' : Value} {b : Nat} (h1 : ∀ k, v.ownBlock = some k → b ≤ k) (h2 : ∀ k, v'.ownBlock = some k → k < b) : v.ownBlock = none ∨ v.ownBlock ≠ v'.ownBlock := by
  cases h : v.ownBlock with
  | none => exact .inl rfl
  | some k => exact .inr (fun e => by have := h1 k h; have := h2 k e.symm; omega)

set_option maxRecDepth 100000 in
set_option maxHeartbeats 8000000 in
theorem walk_FnExactNeededAll (v : Value) (l : List Itm) {w : World} (h : ItsIn w v l) :
    Calls Try.prog 6 #[v] w fun e w' => e = .returned (.bool true) ∧ Below w.heap.size w w' := by
  obtain ⟨h0, hl, hz⟩ := h
  have HL : Hid (∀ x, Below w.heap.size w x → Rows' litE x v l) := fun x hx => h0.later hx
  obtain ⟨ad, cap, rfl, _⟩ := h0.litems
  have HSZ := Lib.hid (fun x hx => szItemS_any l _ 1048576 x (HL.out x hx) (by omega) (by omega) hl hz)
  clear h0 hz
  go_enter Try.func6, Try.ntmps6
  go_wp2_with fail
  refine (HSZ.out _ (Below.refl _ _)).mono ?_
  rintro e w1 ⟨⟨r, rfl, hr, _⟩, b1⟩
  clear HSZ
  by_cases hneg : r < 0
  · go_wp2
    go_ret
    exact ⟨rfl, b1⟩
  have hr2 : (l.length : Int) ≤ 1048576 ∧ ∀ x ∈ l, (x.2.user.size : Int) + x.2.name.size + x.2.text.size ≤ 1048576 := by
    rcases hr with hr | hr
    · exact absurd hr hneg
    · exact hr
  have hl1 : l.length ≤ 1048576 := by have := hr2.1; omega
  have hz1 : ∀ x ∈ l, x.2.user.size ≤ 1048576 ∧ x.2.name.size ≤ 1048576 ∧ x.2.text.size ≤ 1048576 := fun x hx => by have := hr2.2 x hx; omega
  obtain ⟨A, hA⟩ : ∃ A, needL l = A := ⟨_, rfl⟩
  have hAl : A.length ≤ 2097152 := by rw [← hA]; rw [needL_len]; omega
  have HSP : Hid (∀ (va : Value) (x : World), Rows' itE x va l → Calls Try.prog 21 #[va] x fun e w' => ∃ v', e = .returned v' ∧ RBuf boE x.heap.size x w' v' A) := by
    rw [← hA]
    exact fun va x h1 => specNeededAll_any l va x h1 hl1 hz1
  have HIM : Hid (∀ (va : Value) (x : World), Rows' itE x va l → Calls Try.prog 22 #[va] x fun e w' => ∃ v', e = .returned v' ∧ RBuf boE x.heap.size x w' v' A) := by
    rw [← hA]
    exact fun va x h1 => implNeededAll_any l va x h1 hl1
  clear hr hr2 hz1 hA hl
  obtain ⟨n, hn⟩ : ∃ n, l.length = n := ⟨_, rfl⟩
  have HN := Lib.hid hn
  rw [hn] at hl1
  rw [hn]
  rw [hn] at HL
  clear hn
  obtain ⟨p, hp⟩ : ∃ p, A.length = p := ⟨_, rfl⟩
  have HP := Lib.hid hp
  rw [hp] at hAl
  clear hp
  go_wp2_with fail
  refine (toItemS_any l _ _ (HL.out _ b1) (by rw [HN.out]; exact hl1)).mono ?_
  rintro e w2 ⟨vA, rfl, RA⟩
  have b2 := b1.trans (RA.bel.mono b1.size)
  obtain ⟨aA, cA, rfl⟩ := RA.form
  rw [HN.out] at RA ⊢
  have OA : Hid (∀ k, (Value.slice aA n cA).ownBlock = some k → w1.heap.size ≤ k ∧ k < w2.heap.size) := fun k hk => RA.own.lt k hk
  have Z2 : Hid (w1.heap.size ≤ w2.heap.size) := RA.bel.size
  replace RA := RA.here
  clear b1
  go_wp2_with fail
  refine (HSP.out _ _ RA.rows).mono ?_
  rintro e w3 ⟨vS, rfl, RS⟩
  have b3 := b2.trans (RS.bel.mono b2.size)
  replace RA := (RA.later RS.bel).here
  obtain ⟨aS, cS, rfl⟩ := RS.form
  rw [HP.out] at RS ⊢
  have OS : Hid (∀ k, (Value.slice aS p cS).ownBlock = some k → w2.heap.size ≤ k ∧ k < w3.heap.size) := fun k hk => RS.own.lt k hk
  have Z3 : Hid (w2.heap.size ≤ w3.heap.size) := RS.bel.size
  replace RS := RS.here
  clear b2
  clear RA
  go_wp2_with fail
  refine (toItemS_any l _ _ (HL.out _ b3) (by rw [HN.out]; exact hl1)).mono ?_
  rintro e w4 ⟨vX, rfl, RX⟩
  have BX : Hid (w.heap.size ≤ w3.heap.size) := b3.size
  have b4 := b3.trans (RX.bel.mono b3.size)
  replace RS := (RS.later RX.bel).here
  obtain ⟨aX, cX, rfl⟩ := RX.form
  rw [HN.out] at RX ⊢
  have OX : Hid (∀ k, (Value.slice aX n cX).ownBlock = some k → w3.heap.size ≤ k ∧ k < w4.heap.size) := fun k hk => RX.own.lt k hk
  have Z4 : Hid (w3.heap.size ≤ w4.heap.size) := RX.bel.size
  replace RX := RX.here
  clear b3
  go_wp2_with fail
  refine (HIM.out _ _ RX.rows).mono ?_
  rintro e w5 ⟨vG, rfl, RG⟩
  have b5 := b4.trans (RG.bel.mono b4.size)
  replace RS := (RS.later RG.bel).here
  replace RX := (RX.later RG.bel).here
  obtain ⟨aG, cG, rfl⟩ := RG.form
  rw [HP.out] at RG ⊢
  have OG : Hid (∀ k, (Value.slice aG p cG).ownBlock = some k → w4.heap.size ≤ k ∧ k < w5.heap.size) := fun k hk => RG.own.lt k hk
  have Z5 : Hid (w4.heap.size ≤ w5.heap.size) := RG.bel.size
  replace RG := RG.here
  clear b4
  go_wp2_with fail
  refine (eqBoolS_same A _ _ _ RG.rows RS.rows (by rw [HP.out]; omega)).mono ?_
  rintro e w6 ⟨rfl, k6⟩
  have b6 := b5.trans (k6.mono b5.size)
  replace RS := (RS.later k6).here
  replace RX := (RX.later k6).here
  replace RG := (RG.later k6).here
  have Z6 : Hid (w5.heap.size ≤ w6.heap.size) := k6.size
  clear k6 b5
  go_wp2_with fail
  refine (toItemS_any l _ _ (HL.out _ b6) (by rw [HN.out]; exact hl1)).mono ?_
  rintro e w7 ⟨vC, rfl, RC⟩
  have b7 := b6.trans (RC.bel.mono b6.size)
  replace RS := (RS.later RC.bel).here
  replace RX := (RX.later RC.bel).here
  replace RG := (RG.later RC.bel).here
  obtain ⟨aC, cC, rfl⟩ := RC.form
  rw [HN.out] at RC ⊢
  have OC : Hid (∀ k, (Value.slice aC n cC).ownBlock = some k → w6.heap.size ≤ k ∧ k < w7.heap.size) := fun k hk => RC.own.lt k hk
  have Z7 : Hid (w6.heap.size ≤ w7.heap.size) := RC.bel.size
  replace RC := RC.here
  clear b6
  go_wp2_with fail
  refine (eqItemS_same l _ _ _ RX.rows RC.rows (by rw [HN.out]; omega)).mono ?_
  rintro e w8 ⟨rfl, k8⟩
  have b8 := b7.trans (k8.mono b7.size)
  replace RS := (RS.later k8).here
  replace RX := (RX.later k8).here
  replace RG := (RG.later k8).here
  replace RC := (RC.later k8).here
  have Z8 : Hid (w7.heap.size ≤ w8.heap.size) := k8.size
  clear k8 b7
  clear RC
  go_wp2_with fail
  have HMK := Lib.hid (markItemS_any l _ 1 _ _ RX (by omega) (by rw [HN.out]; omega))
  rw [HN.out] at HMK
  obtain ⟨kx, hkx⟩ : ∃ kx : Nat, 1 + 9 * n = kx := ⟨_, rfl⟩
  rw [hkx] at HMK
  have hkx2 : kx ≤ 9437185 := by omega
  clear hkx
  refine HMK.out.mono ?_
  rintro e w9 ⟨rfl, gX⟩
  clear HMK
  have b9 : Below w.heap.size w w9 := b8.grown gX b8.size (fun k hk => by have := (OX.out k hk).1; have := BX.out; omega)
  replace RS := RS.shift gX (own_low (b := w3.heap.size) (fun k hk => by have := (OS.out k hk).2; omega) (fun k hk => (OX.out k hk).1))
  replace RG := RG.shift gX (own_high (b := w4.heap.size) (fun k hk => by have := (OG.out k hk).1; skip; omega) (fun k hk => (OX.out k hk).2))
  clear gX RX b8
  have hkp : ¬ ((kx : Int) < 0) := by omega
  go_wp2_with fail
  refine (eqBoolS_same A _ _ _ RG.rows RS.rows (by rw [HP.out]; omega)).mono ?_
  rintro e w10 ⟨rfl, k10⟩
  have b10 := b9.trans (k10.mono b9.size)
  replace RS := (RS.later k10).here
  replace RG := (RG.later k10).here
  have Z10 : Hid (w9.heap.size ≤ w10.heap.size) := k10.size
  clear k10 b9
  have HMK := Lib.hid (markBoolS_any A (.slice aG p cG) 1 _ _ _ RG (by rw [HP.out]; omega))
  rw [HP.out] at HMK
  obtain ⟨kz, hkz⟩ : ∃ kz : Nat, 1 + p = kz := ⟨_, rfl⟩
  rw [hkz] at HMK
  have HKZ := Lib.hid hkz
  have hkq : ¬ ((kz : Int) < 0) := by omega
  clear hkz
  go_wp2_with fail
  refine HMK.out.mono ?_
  rintro e w11 ⟨rfl, RH0, gG⟩
  clear HMK
  have RH := RH0.here
  clear RH0
  have b11 : Below w.heap.size w w11 := b10.grown gG b10.size (fun k hk => by have := (OG.out k hk).1; have := BX.out; have := Z4.out; omega)
  replace RS := RS.shift gG (own_low (b := w4.heap.size) (fun k hk => by have := (OS.out k hk).2; have := Z4.out; omega) (fun k hk => (OG.out k hk).1))
  clear gG RG b10
  have HHD := Lib.hid (fun x (hx : Rows' boE x (.slice aG p cG) (marksO 1 p)) => heldBoolS_any p _ 1 x hx (by omega))
  rw [HKZ.out] at HHD
  go_wp2_with fail
  refine (HHD.out _ RH.rows).mono ?_
  rintro e w12 ⟨rfl, k12⟩
  have b12 := b11.trans (k12.mono b11.size)
  replace RS := (RS.later k12).here
  replace RH := (RH.later k12).here
  have Z12 : Hid (w11.heap.size ≤ w12.heap.size) := k12.size
  clear k12 b11
  go_wp2_with fail
  refine (toItemS_any l _ _ (HL.out _ b12) (by rw [HN.out]; exact hl1)).mono ?_
  rintro e w13 ⟨vE, rfl, RE⟩
  have b13 := b12.trans (RE.bel.mono b12.size)
  replace RS := (RS.later RE.bel).here
  replace RH := (RH.later RE.bel).here
  obtain ⟨aE, cE, rfl⟩ := RE.form
  rw [HN.out] at RE ⊢
  have OE : Hid (∀ k, (Value.slice aE n cE).ownBlock = some k → w12.heap.size ≤ k ∧ k < w13.heap.size) := fun k hk => RE.own.lt k hk
  have Z13 : Hid (w12.heap.size ≤ w13.heap.size) := RE.bel.size
  replace RE := RE.here
  clear b12
  go_wp2_with fail
  refine (HIM.out _ _ RE.rows).mono ?_
  rintro e w14 ⟨vK, rfl, RK⟩
  have b14 := b13.trans (RK.bel.mono b13.size)
  replace RS := (RS.later RK.bel).here
  replace RH := (RH.later RK.bel).here
  replace RE := (RE.later RK.bel).here
  obtain ⟨aK, cK, rfl⟩ := RK.form
  rw [HP.out] at RK ⊢
  have OK : Hid (∀ k, (Value.slice aK p cK).ownBlock = some k → w13.heap.size ≤ k ∧ k < w14.heap.size) := fun k hk => RK.own.lt k hk
  have Z14 : Hid (w13.heap.size ≤ w14.heap.size) := RK.bel.size
  replace RK := RK.here
  clear b13
  clear RE
  go_wp2_with fail
  refine (eqBoolS_same A _ _ _ RK.rows RS.rows (by rw [HP.out]; omega)).mono ?_
  rintro e w15 ⟨rfl, k15⟩
  have b15 := b14.trans (k15.mono b14.size)
  replace RS := (RS.later k15).here
  replace RH := (RH.later k15).here
  replace RK := (RK.later k15).here
  have Z15 : Hid (w14.heap.size ≤ w15.heap.size) := k15.size
  clear k15 b14
  clear RK RS
  go_wp2_with fail
  refine (HHD.out _ RH.rows).mono ?_
  rintro e w16 ⟨rfl, k16⟩
  have b16 := b15.trans (k16.mono b15.size)
  replace RH := (RH.later k16).here
  have Z16 : Hid (w15.heap.size ≤ w16.heap.size) := k16.size
  clear k16 b15
  go_wp2
  go_ret
  exact ⟨rfl, b16⟩

theorem FnExactNeededAll_own : ownKnob Try.prog.godebug = none := by kernel_rfl

set_option maxRecDepth 100000 in
theorem FnExactNeededAll_lifted (os : Os) (started : os.Started) (H : Type) (enc : TypeId × Value → H) :
    ReturnsInHanded {} Try.checked os 6 .any (Rows.fnExactNeededAllSpec.pre6 enc Try.prog Try.f6 Rows.fnExactNeededAllRow.domain false) (Rows.fnExactNeededAllSpec.post enc Try.prog Try.f6 false true false false) := by
  refine returnsInHanded_of_change (C := Try.checked) FnExactNeededAll_own started (by kernel_rfl) Try.func6
    (ChangeSpec.witness6 (enc := enc) (C := Try.checked) false ⟨#[], #[.slice none 0 0], []⟩ 8 (by kernel_rfl) (by kernel_rfl) (by kernel_rfl) (by kernel_rfl)) ?_
  intro W base args ds gs before hval0 hW hcnd _
  have hval : ∀ (j : Nat) t v, Try.f6.params[j]? = some t → args[j]? = some v → Value.okWide Try.prog W .any base t v := hval0
  have hW' := hW
  obtain ⟨p, q, hA0, hV, rfl, hfz, hnd⟩ := hW
  have hA : DataW.TrodAll enc Try.prog W 0 (fun _ => true) true Try.f6.params.toList args.toList ds p := hA0
  rw [Try.params6] at hA hval
  obtain ⟨v0, vs0, d0, ds0, p0, q0, hargs, rfl, rfl, h0, r0⟩ := trodAll_cons hA
  obtain ⟨rfl, rfl, rfl⟩ := trodAll_nil r0
  obtain rfl : args = #[v0] := by cases args; simp_all
  obtain ⟨rfl, rfl⟩ := trodVars_none hV
  have k0 := h0
  have lt0 : ∀ x ∈ p0, x.block < W.heap.size := by obtain ⟨m, hm⟩ := k0; exact DataW.trod_lt m _ _ _ hm
  obtain ⟨D0, w0⟩ := open_ItemS (hval 0 34 v0 rfl rfl) h0
  clear hA0 hval0
  simp only [List.append_nil] at hW'
  refine (walk_FnExactNeededAll v0 D0 w0 (w := W)).mono fun e W' ⟨he, bel⟩ => ?_
  subst he
  exact ⟨_, rfl, _, _, _, [], _, [], hW', trodAll_mk1 (shut_bool Try.underlying4 _), (trodAll_cons_mk (Below.trod (show laidOutB Try.prog = true by kernel_rfl) (by kernel_rfl) (of_decide_eq_true (by kernel_rfl)) k0 bel lt0) trodAll_mk0), rfl, bel.frame _, fun h => by cases h⟩

/-- The given statement. -/
theorem fnExactNeededAll_holds : Rows.FnExactNeededAllSaid :=
  OpenClaim.holds_of_wide 6 Try.f6 rfl rfl rfl rfl rfl rfl rfl ⟨rfl, rfl, rfl, rfl, rfl⟩ rfl rfl rfl rfl rfl (by kernel_rfl) Try.func6 (by kernel_rfl)
    (of_decide_eq_true (by kernel_rfl)) (by unfold Func.isWrapper; first | (rw [if_pos (by decide +kernel)]; kernel_rfl) | (rw [if_neg (by decide +kernel)]; exact ⟨rfl, rfl⟩))
    (fun os started H enc _ => FnExactNeededAll_lifted os started H enc)
#print axioms fnExactNeededAll_holds

end Go.Proofs.Ytjfilicddnhniab
