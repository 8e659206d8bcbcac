/- For every number, DiskNew answers as its model; its answer owns its memory, and nothing that was there is changed. No condition. -/
import Derived.Test.YtegjkcooebmkoaoKitLaw
import Derived.Test.YtegjkcooebmkoaoDiskNew
import Derived.ProofKit
import Derived.OpenShut
import Derived.ShutString
import Derived.ChangeOld
import Derived.Below
namespace Go.Proofs.Ytegjkcooebmkoao
open Go.ChangeShapes Go.WideShapes Go.ChangeAt Go.RowKit
open Go.ChangeMaps (open_string shut_string)
set_option linter.unusedVariables false

theorem newD_small (n : Int) : (newD n).small ∧ (newD n).count ≤ 100 := by
  unfold newD
  split
  · refine ⟨⟨?_, by show (0 : Nat) ≤ _; omega⟩, ?_⟩
    · show (List.replicate n.toNat zero32).length ≤ _; simp; omega
    · show (List.replicate n.toNat zero32).length + 2 * 0 ≤ _; simp; omega
  · exact ⟨⟨by show (0 : Nat) ≤ _; omega, by show (0 : Nat) ≤ _; omega⟩, by show 0 + 2 * 0 ≤ 100; omega⟩

set_option maxRecDepth 100000 in
set_option maxHeartbeats 4000000 in
theorem walk_FnExactDiskNew (n : Int) (_hn : -9223372036854775808 ≤ n ∧ n ≤ 9223372036854775807) (w : World) :
    Calls Try.prog 3 #[.int .i64 n] w fun e w' => e = .returned (.bool true) ∧ Below w.heap.size w w' := by
  obtain ⟨D2, hD2⟩ : ∃ D2, newD n = D2 := ⟨_, rfl⟩
  have HD2 := Lib.hid hD2
  obtain ⟨f, hf⟩ : ∃ f, decide (1 ≤ n ∧ n ≤ 100) = f := ⟨_, rfl⟩
  have HF := Lib.hid hf
  have hsm2 : Hid (D2.small ∧ D2.count ≤ 100) := by rw [← hD2]; exact newD_small n
  clear hD2 hf
  go_enter Try.func3, Try.ntmps3
  go_wp2_with fail
  refine (specDiskNew_any n _).mono ?_
  intro e w4 hres
  rw [HD2.out, HF.out] at hres
  obtain ⟨v0, rfl, o0, k4⟩ := hres
  obtain ⟨p8, r8, q8, s8, rfl⟩ := o0.form
  have D8 := DB.new o0
  have k5 : Below w4.heap.size w4 (w4.alloc (.cells #[.slice p8 D2.sec.length q8, .slice r8 D2.cache.length s8] 25)) := (Below.refl _ _).alloc (Nat.le_refl _) _
  have j5 := k4.trans (k5.mono k4.size)
  have z5 : w4.heap.size < (w4.alloc (.cells #[.slice p8 D2.sec.length q8, .slice r8 D2.cache.length s8] 25)).heap.size := by simp
  clear o0
  go_wp2_with fail
  generalize w4.alloc (.cells #[.slice p8 D2.sec.length q8, .slice r8 D2.cache.length s8] 25) = w7 at D8 k5 j5 z5 ⊢
  refine (implDiskNew_any n _).mono ?_
  intro e w8 hres
  rw [HD2.out, HF.out] at hres
  obtain ⟨v3, rfl, o3, k8⟩ := hres
  have j8 := j5.trans (k8.mono j5.size)
  obtain ⟨p11, r11, q11, s11, rfl⟩ := o3.form
  have D11 := DB.new o3
  have k9 : Below w8.heap.size w8 (w8.alloc (.cells #[.slice p11 D2.sec.length q11, .slice r11 D2.cache.length s11] 25)) := (Below.refl _ _).alloc (Nat.le_refl _) _
  have j9 := j8.trans (k9.mono j8.size)
  have D8b := (D8.later k8).later k9
  have c0 := D11.c0
  have c1 := D11.c1
  have e0 := D8b.c0
  have e1 := D8b.c1
  have z8 : w7.heap.size ≤ w8.heap.size := k8.size
  have z4 : w.heap.size ≤ w4.heap.size := k4.size
  clear o3 D8
  go_wp2_with fail
  clear c0 c1 e0 e1
  generalize w8.alloc (.cells #[.slice p11 D2.sec.length q11, .slice r11 D2.cache.length s11] 25) = w9 at D11 k9 j9 D8b ⊢
  refine (eqDisk_same D2 _ _ _ D11.2.rd D8b.2.rd hsm2.out.1).mono ?_
  rintro e wC ⟨rfl, kC⟩
  have jD := j9.trans (kC.mono j9.size)
  have V8 := D8b.later kC
  have V11 := D11.later kC
  have c0 := V11.c0
  have c1 := V11.c1
  have hcnt := hsm2.out.2
  clear D8b D11
  go_wp2_with fail
  clear c0 c1
  refine (markDisk_any D2 _ 1 _ _ _ V11.2 (by omega) (by omega)).mono ?_
  rintro e wD ⟨rfl, oD, kD⟩
  have hm0 : ¬ ((1 + D2.count : Nat) : Int) < 0 := by omega
  obtain ⟨mm, hmm⟩ : ∃ mm : Nat, 1 + D2.count = mm := ⟨_, rfl⟩
  have HMM := Lib.hid hmm
  rw [hmm] at hm0 ⊢
  clear hmm
  have jE := kD.below jD (by omega) jD.size
  have U8 := V8.kept kD (.inl (by omega)) (.inl (by omega))
  have U11 := V11.marked kD oD (.inr (by omega))
  have c0 := U11.c0
  have c1 := U11.c1
  clear V8 V11 oD
  go_wp2_with fail
  clear c0 c1
  refine (heldDisk_any D2 _ 1 _ U11.2.rd (by omega) (by omega)).mono ?_
  rintro e wE ⟨rfl, kE⟩
  have jF := jE.trans (kE.mono jE.size)
  have T8 := U8.later kE
  have T11 := U11.later kE
  rw [HMM.out]
  clear U8 U11 hcnt
  go_wp2_with fail
  refine (implDiskNew_any n _).mono ?_
  intro e wG hres
  rw [HD2.out, HF.out] at hres
  obtain ⟨v6, rfl, oG, kG⟩ := hres
  obtain ⟨p16, r16, q16, s16, rfl⟩ := oG.form
  have D16 := DB.new oG
  have kH : Below wG.heap.size wG (wG.alloc (.cells #[.slice p16 D2.sec.length q16, .slice r16 D2.cache.length s16] 25)) := (Below.refl _ _).alloc (Nat.le_refl _) _
  have S8 := (T8.later kG).later kH
  have S11 := (T11.later kG).later kH
  have jH := jF.trans (kG.mono jF.size)
  have jI := jH.trans (kH.mono jH.size)
  have c0 := D16.c0
  have c1 := D16.c1
  have e0 := S8.c0
  have e1 := S8.c1
  clear T8 T11 oG
  go_wp2_with fail
  clear c0 c1 e0 e1
  generalize wG.alloc (.cells #[.slice p16 D2.sec.length q16, .slice r16 D2.cache.length s16] 25) = wH at D16 kH S8 S11 jI ⊢
  refine (eqDisk_same D2 _ _ _ D16.2.rd S8.2.rd hsm2.out.1).mono ?_
  rintro e wI ⟨rfl, kI⟩
  have R11 := S11.later kI
  have jJ := jI.trans (kI.mono jI.size)
  have c0 := R11.c0
  have c1 := R11.c1
  have hcnt := hsm2.out.2
  clear S8 S11 D16
  go_wp2_with fail
  clear c0 c1
  refine (heldDisk_any D2 _ 1 _ R11.2.rd (by omega) (by omega)).mono ?_
  rintro e wJ ⟨rfl, kJ⟩
  have bZ := jJ.trans (kJ.mono jJ.size)
  rw [HMM.out]
  clear hcnt R11
  go_wp2
  go_ret
  exact ⟨rfl, bZ⟩

theorem FnExactDiskNew_own : ownKnob Try.prog.godebug = none := by kernel_rfl

set_option maxRecDepth 100000 in
theorem FnExactDiskNew_lifted (os : Os) (started : os.Started) (H : Type) (enc : TypeId × Value → H) :
    ReturnsInHanded {} Try.checked os 3 .any (Rows.fnExactDiskNewSpec.pre6 enc Try.prog Try.f3 Rows.fnExactDiskNewRow.domain false) (Rows.fnExactDiskNewSpec.post enc Try.prog Try.f3 false true false false) := by
  refine returnsInHanded_of_change (C := Try.checked) FnExactDiskNew_own started (by kernel_rfl) Try.func3
    (ChangeSpec.witness6 (enc := enc) (C := Try.checked) false ⟨#[], #[.int .i64 0], []⟩ 8 (by kernel_rfl) (by kernel_rfl) (by kernel_rfl) (by kernel_rfl)) ?_
  intro W base args ds gs before hval0 hW hcnd _
  have hval : ∀ (j : Nat) t v, Try.f3.params[j]? = some t → args[j]? = some v → Value.okWide Try.prog W .any base t v := hval0
  have hW' := hW
  obtain ⟨p, q, hA0, hV, rfl, hfz, hnd⟩ := hW
  have hA : DataW.TrodAll enc Try.prog W 0 (fun _ => true) true Try.f3.params.toList args.toList ds p := hA0
  rw [Try.params3] at hA hval
  obtain ⟨v0, vs0, d0, ds0, p0, q0, hargs, rfl, rfl, h0, r0⟩ := trodAll_cons hA
  obtain ⟨rfl, rfl, rfl⟩ := trodAll_nil r0
  obtain rfl : args = #[v0] := by cases args; simp_all
  obtain ⟨rfl, rfl⟩ := trodVars_none hV
  obtain ⟨a0, rfl, rfl, rfl, w0⟩ := open_int Try.underlying3 (hval 0 3 v0 rfl rfl) h0
  clear hA0 hval0
  simp only [List.append_nil] at hW'
  refine (walk_FnExactDiskNew a0 (bounds_i64 w0) (w := W)).mono fun e W' ⟨he, bel⟩ => ?_
  subst he
  exact ⟨_, rfl, _, _, _, [], _, [], hW', trodAll_mk1 (shut_bool Try.underlying4 _), (trodAll_cons_mk (shut_int Try.underlying3 w0) trodAll_mk0), rfl, bel.frame _, fun h => by cases h⟩

/-- The given statement. -/
theorem fnExactDiskNew_holds : Rows.FnExactDiskNewSaid :=
  OpenClaim.holds_of_wide 3 Try.f3 rfl rfl rfl rfl rfl rfl rfl ⟨rfl, rfl, rfl, rfl, rfl⟩ rfl rfl rfl rfl rfl (by kernel_rfl) Try.func3 (by kernel_rfl)
    (of_decide_eq_true (by kernel_rfl)) (by unfold Func.isWrapper; first | (rw [if_pos (by decide +kernel)]; kernel_rfl) | (rw [if_neg (by decide +kernel)]; exact ⟨rfl, rfl⟩))
    (fun os started H enc _ => FnExactDiskNew_lifted os started H enc)
#print axioms fnExactDiskNew_holds

end Go.Proofs.Ytegjkcooebmkoao
