/- For every call, CallOk answers as its model, and nothing that was there is changed. No condition. -/
import Derived.Test.YtodldamjleehlaaJc
import Derived.Test.YtodldamjleehlaaJf
import Derived.Deep.RegionHeld3
import Derived.ProofKit
import Derived.OpenShut
import Derived.ShutString
import Derived.ChangeOld
import Derived.Below
namespace Go.Proofs.Ytodldamjleehlaa
open Go.ChangeShapes Go.WideShapes Go.ChangeAt Go.RowKit
open Go.ChangeMaps (open_string shut_string)
set_option linter.unusedVariables false

set_option maxRecDepth 100000 in
set_option maxHeartbeats 4000000 in
theorem walk_FnExactCallOk (v : Value) (c : Cal) {w : World} (hd : CalIn w v c) :
    Calls Try.prog 3 #[v] w fun e w' => e = .returned (.bool true) ∧ Below w.heap.size w w' := by
  obtain ⟨u, rfl, hin, s1, s2, s3, s4⟩ := hd
  obtain ⟨ad, cap, rfl, _⟩ := hin.1.intsD
  have b0 : Below w.heap.size w (w.alloc (.cells (c.cs (.slice ad c.uids.length cap)) 24)) := belNew _ _
  have q0 := Box.new w (c.cs (.slice ad c.uids.length cap)) 24
  obtain ⟨X, hX⟩ : ∃ X, sameP c.ok = X := ⟨_, rfl⟩
  have HX := Lib.hid hX
  have hxx : (X != X) = false := by cases X <;> rfl
  clear hX
  have HSZ := Lib.hid (szCall_any c (.slice ad c.uids.length cap) 1048576 _ (hin.later b0) s1 s2 s3 s4 (by omega) (by omega))
  have HV : Hid (∀ x : Value, c.v x = .agg #[.int .i64 c.kind, .string c.user, .string c.box, .string c.tob, .int .i64 c.uid, x, .int .i64 c.flags, .string c.text]) := fun _ => rfl
  have HI := Lib.hid hin.1
  have HB0 := Lib.hid b0
  have HQ0 := Lib.hid q0
  unfold Cal.cs at q0 HQ0 HB0 HSZ b0
  rw [HV.out] at HSZ ⊢
  clear hin s1 s2 s3 s4
  go_enter Try.func3, Try.ntmps3
  go_wp2_with fail
  generalize w.alloc (.cells #[.int .i64 c.kind, .string c.user, .string c.box, .string c.tob, .int .i64 c.uid, .slice ad c.uids.length cap, .int .i64 c.flags, .string c.text] 24) = W at *
  refine HSZ.out.mono ?_
  rintro e w1 ⟨⟨q, rfl, hq, _, _⟩, k1⟩
  have HK1 := Lib.hid k1
  have HQS := Lib.hid hq
  clear hq q0 b0
  by_cases hneg : q < 0
  · go_wp2
    go_ret
    exact ⟨rfl, HB0.out.trans (HK1.out.mono HB0.out.size)⟩
  have HSM : Hid c.small := HQS.out (by omega)
  obtain ⟨a0, a1, a2, a3, a4, a5, a6, a7, _⟩ := (HQ0.out.later k1).eightL
  have HR : Hid (∀ x, Below W.heap.size W x → Rows' intE x (.slice ad c.uids.length cap) c.uids ∧ Box x w.heap.size #[.int .i64 c.kind, .string c.user, .string c.box, .string c.tob, .int .i64 c.uid, .slice ad c.uids.length cap, .int .i64 c.flags, .string c.text] 24 ∧ Below w.heap.size w x) := by
    intro x hx
    have hb := HB0.out.trans (hx.mono HB0.out.size)
    exact ⟨HI.out.later hb, HQ0.out.later hx, hb⟩
  clear k1
  go_wp2_with fail
  rw [← HV.out]
  have HT1 := Lib.hid (toCall_any c (.slice ad c.uids.length cap) w1 (HR.out _ HK1.out).1 HSM.out.2.2.2.2)
  refine HT1.out.mono ?_
  rintro e w2 ⟨⟨u1, rfl, r1⟩, k2⟩
  have HK2 := Lib.hid (HK1.out.trans (k2.mono HK1.out.size))
  have HC1 := Lib.hid (specCallOk_any c u1 w2 r1 HSM.out.2.2.2.2 (by have := HSM.out.1; omega) (by have := HSM.out.2.1; omega) (by have := HSM.out.2.2.1; omega) HSM.out.2.2.2.1)
  clear a0 a1 a2 a3 a4 a5 a6 a7 r1 k2 HT1
  go_wp2_with fail
  refine HC1.out.mono ?_
  rintro e w3 ⟨rfl, k3⟩
  rw [HX.out]
  have HK3 := Lib.hid (HK2.out.trans (k3.mono HK2.out.size))
  obtain ⟨a0, a1, a2, a3, a4, a5, a6, a7, _⟩ := (HR.out _ HK3.out).2.1.eightL
  clear k3 HC1
  go_wp2_with fail
  rw [← HV.out]
  have HT2 := Lib.hid (toCall_any c (.slice ad c.uids.length cap) w3 (HR.out _ HK3.out).1 HSM.out.2.2.2.2)
  refine HT2.out.mono ?_
  rintro e w4 ⟨⟨u2, rfl, r2⟩, k4⟩
  obtain ⟨ad2, cap2, rfl, _⟩ := r2.intsD
  have HK4 := Lib.hid (HK3.out.trans (k4.mono HK3.out.size))
  have Y5 := Box.new w4 #[.int .i64 c.kind, .string c.user, .string c.box, .string c.tob, .int .i64 c.uid, .slice ad2 c.uids.length cap2, .int .i64 c.flags, .string c.text] 27
  have k5 := belNew w4 (.cells #[.int .i64 c.kind, .string c.user, .string c.box, .string c.tob, .int .i64 c.uid, .slice ad2 c.uids.length cap2, .int .i64 c.flags, .string c.text] 27)
  obtain ⟨w5, hw5⟩ : ∃ w5, w4.alloc (.cells #[.int .i64 c.kind, .string c.user, .string c.box, .string c.tob, .int .i64 c.uid, .slice ad2 c.uids.length cap2, .int .i64 c.flags, .string c.text] 27) = w5 := ⟨_, rfl⟩
  rw [hw5] at Y5 k5
  have HW5 := Lib.hid hw5
  have HK5 := Lib.hid (HK4.out.trans (k5.mono HK4.out.size))
  have HR5 : Hid (∀ x, Below w5.heap.size w5 x → Rows' intE x (.slice ad2 c.uids.length cap2) c.uids ∧ Box x w4.heap.size #[.int .i64 c.kind, .string c.user, .string c.box, .string c.tob, .int .i64 c.uid, .slice ad2 c.uids.length cap2, .int .i64 c.flags, .string c.text] 27 ∧ Rows' intE x (.slice ad c.uids.length cap) c.uids ∧ Box x w.heap.size #[.int .i64 c.kind, .string c.user, .string c.box, .string c.tob, .int .i64 c.uid, .slice ad c.uids.length cap, .int .i64 c.flags, .string c.text] 24 ∧ Below w.heap.size w x) := by
    intro x hx
    obtain ⟨g1, g2, g3⟩ := HR.out x (HK5.out.trans (hx.mono HK5.out.size))
    exact ⟨(r2.later k5).later hx, Y5.later hx, g1, g2, g3⟩
  have HC2 := Lib.hid (implCallOk_any c (.slice ad2 c.uids.length cap2) w5 (r2.later k5) HSM.out.2.2.2.2)
  obtain ⟨d0, d1, d2, d3, d4, d5, d6, d7, _⟩ := Y5.eightL
  clear a0 a1 a2 a3 a4 a5 a6 a7 r2 k4 k5 Y5 hw5 HT2
  rw [HV.out]
  go_upto_region 7 with fail
  rw [HW5.out]
  go_wp2_with fail
  rw [← HV.out]
  refine HC2.out.mono ?_
  rintro e w6 ⟨rfl, k6⟩
  rw [HX.out]
  have HK6 := Lib.hid k6
  clear d0 d1 d2 d3 d4 d5 d6 d7 k6 HC2
  go_upto_region 10 with fail
  have kk : Below w5.heap.size w5 w6.drew := HK6.out.drew
  go_region_held3 (fun Y => (Y.cell? ⟨w4.heap.size, 0, none⟩ = some (.int .i64 c.kind) ∧ Y.cell? ⟨w4.heap.size, 1, none⟩ = some (.string c.user) ∧ Y.cell? ⟨w4.heap.size, 2, none⟩ = some (.string c.box) ∧ Y.cell? ⟨w4.heap.size, 3, none⟩ = some (.string c.tob) ∧ Y.cell? ⟨w4.heap.size, 4, none⟩ = some (.int .i64 c.uid) ∧ Y.cell? ⟨w4.heap.size, 5, none⟩ = some (.slice ad2 c.uids.length cap2) ∧ Y.cell? ⟨w4.heap.size, 6, none⟩ = some (.int .i64 c.flags) ∧ Y.cell? ⟨w4.heap.size, 7, none⟩ = some (.string c.text)) ∧ (Y.cell? ⟨w.heap.size, 0, none⟩ = some (.int .i64 c.kind) ∧ Y.cell? ⟨w.heap.size, 1, none⟩ = some (.string c.user) ∧ Y.cell? ⟨w.heap.size, 2, none⟩ = some (.string c.box) ∧ Y.cell? ⟨w.heap.size, 3, none⟩ = some (.string c.tob) ∧ Y.cell? ⟨w.heap.size, 4, none⟩ = some (.int .i64 c.uid) ∧ Y.cell? ⟨w.heap.size, 5, none⟩ = some (.slice ad c.uids.length cap) ∧ Y.cell? ⟨w.heap.size, 6, none⟩ = some (.int .i64 c.flags) ∧ Y.cell? ⟨w.heap.size, 7, none⟩ = some (.string c.text)))
    (first | (obtain ⟨_, g1, _, g2, _⟩ := HR5.out _ kk; exact ⟨⟨g1.cell 0 _ rfl, g1.cell 1 _ rfl, g1.cell 2 _ rfl, g1.cell 3 _ rfl, g1.cell 4 _ rfl, g1.cell 5 _ rfl, g1.cell 6 _ rfl, g1.cell 7 _ rfl⟩, ⟨g2.cell 0 _ rfl, g2.cell 1 _ rfl, g2.cell 2 _ rfl, g2.cell 3 _ rfl, g2.cell 4 _ rfl, g2.cell 5 _ rfl, g2.cell 6 _ rfl, g2.cell 7 _ rfl⟩⟩))
    (first
      | (go_at_call 6; rw [← HV.out]; refine (toCall_any c _ _ (HR5.out _ kk).2.2.1 HSM.out.2.2.2.2).mono ?_; rintro e wX ⟨⟨u3, rfl, r3⟩, kX⟩; have kk := kk.trans (kX.mono kk.size); rw [HV.out])
      | (go_at_call 8; rw [← HV.out, ← HV.out]; refine (eqCall_same c _ _ _ (HR5.out _ kk).1 r3 HSM.out.2.2.2.2).mono ?_; rintro e wV ⟨rfl, kY⟩; have kk := kk.trans (kY.mono kk.size)))
  all_goals
    have bE := (HR5.out _ kk).2.2.2.2
    go_wp2
    go_ret
    exact ⟨rfl, bE⟩

theorem FnExactCallOk_own : ownKnob Try.prog.godebug = none := by kernel_rfl

set_option maxRecDepth 100000 in
theorem FnExactCallOk_lifted (os : Os) (started : os.Started) (H : Type) (enc : TypeId × Value → H) :
    ReturnsInHanded {} Try.checked os 3 .any (Rows.fnExactCallOkSpec.pre6 enc Try.prog Try.f3 Rows.fnExactCallOkRow.domain false) (Rows.fnExactCallOkSpec.post enc Try.prog Try.f3 false true false false) := by
  refine returnsInHanded_of_change (C := Try.checked) FnExactCallOk_own started (by kernel_rfl) Try.func3
    (ChangeSpec.witness6 (enc := enc) (C := Try.checked) false ⟨#[], #[.agg #[.int .i64 0, .string ByteArray.empty, .string ByteArray.empty, .string ByteArray.empty, .int .i64 0, .slice none 0 0, .int .i64 0, .string ByteArray.empty]], []⟩ 8 (by kernel_rfl) (by kernel_rfl) (by kernel_rfl) (by kernel_rfl)) ?_
  intro W base args ds gs before hval0 hW hcnd _
  have hval : ∀ (j : Nat) t v, Try.f3.params[j]? = some t → args[j]? = some v → Value.okWide Try.prog W .any base t v := hval0
  have hW' := hW
  obtain ⟨p, q, hA0, hV, rfl, hfz, hnd⟩ := hW
  have hA : DataW.TrodAll enc Try.prog W 0 (fun _ => true) true Try.f3.params.toList args.toList ds p := hA0
  rw [Try.params3] at hA hval
  obtain ⟨v0, vs0, d0, ds0, p0, q0, hargs, rfl, rfl, h0, r0⟩ := trodAll_cons hA
  obtain ⟨rfl, rfl, rfl⟩ := trodAll_nil r0
  obtain rfl : args = #[v0] := by cases args; simp_all
  obtain ⟨rfl, rfl⟩ := trodVars_none hV
  have k0 := h0
  have lt0 : ∀ x ∈ p0, x.block < W.heap.size := by obtain ⟨m, hm⟩ := k0; exact DataW.trod_lt m _ _ _ hm
  obtain ⟨D0, w0⟩ := open_Call (hval 0 24 v0 rfl rfl) h0
  clear hA0 hval0
  simp only [List.append_nil] at hW'
  refine (walk_FnExactCallOk v0 D0 w0 (w := W)).mono fun e W' ⟨he, bel⟩ => ?_
  subst he
  exact ⟨_, rfl, _, _, _, [], _, [], hW', trodAll_mk1 (shut_bool Try.underlying4 _), (trodAll_cons_mk (Below.trod (show laidOutB Try.prog = true by kernel_rfl) (by kernel_rfl) (of_decide_eq_true (by kernel_rfl)) k0 bel lt0) trodAll_mk0), rfl, bel.frame _, fun h => by cases h⟩

/-- The given statement. -/
theorem fnExactCallOk_holds : Rows.FnExactCallOkSaid :=
  OpenClaim.holds_of_wide 3 Try.f3 rfl rfl rfl rfl rfl rfl rfl ⟨rfl, rfl, rfl, rfl, rfl⟩ rfl rfl rfl rfl rfl (by kernel_rfl) Try.func3 (by kernel_rfl)
    (of_decide_eq_true (by kernel_rfl)) (by unfold Func.isWrapper; first | (rw [if_pos (by decide +kernel)]; kernel_rfl) | (rw [if_neg (by decide +kernel)]; exact ⟨rfl, rfl⟩))
    (fun os started H enc _ => FnExactCallOk_lifted os started H enc)
#print axioms fnExactCallOk_holds

end Go.Proofs.Ytodldamjleehlaa
