/- For every record, RecOk answers as its model, and nothing that was there is changed. No condition. -/
import Derived.Test.YthlbokfajiahpaaRecK
import Derived.Test.YthlbokfajiahpaaLawRecKit
import Derived.Test.YthlbokfajiahpaaOpenRec
import Derived.ProofKit
import Derived.OpenShut
import Derived.ShutString
import Derived.ChangeOld
import Derived.Below
namespace Go.Proofs.Ythlbokfajiahpaa
open Go.ChangeShapes Go.WideShapes Go.ChangeAt Go.RowKit
open Go.ChangeMaps (open_string shut_string)
set_option linter.unusedVariables false

set_option maxRecDepth 100000 in
set_option maxHeartbeats 1000000 in
theorem walk_FnExactRecOk (v : Value) (r : Rc) (hd : RIn v r) (w : World) :
    Calls Try.prog 8 #[v] w fun e w' => e = .returned (.bool true) ∧ Below w.heap.size w w' := by
  obtain ⟨rfl, hs1, hs2, hs3⟩ := hd
  have b0 : Below w.heap.size w (w.alloc (.cells #[.int .i64 r.kind, .int .i64 r.valid, .int .i64 r.uid, .int .i64 r.next, .int .i64 r.flags, .string r.user, .string r.name, .string r.text] 70)) := (Below.refl _ _).alloc (Nat.le_refl _) _
  have hx := Box.new w #[.int .i64 r.kind, .int .i64 r.valid, .int .i64 r.uid, .int .i64 r.next, .int .i64 r.flags, .string r.user, .string r.name, .string r.text] 70
  obtain ⟨x, hx0⟩ : ∃ x, decide r.ok = x := ⟨_, rfl⟩
  have HX := Lib.hid hx0
  clear hx0
  have hb0 : (x != x) = false := by cases x <;> rfl
  have hv : r.v = .agg #[.int .i64 r.kind, .int .i64 r.valid, .int .i64 r.uid, .int .i64 r.next, .int .i64 r.flags, .string r.user, .string r.name, .string r.text] := rfl
  rw [hv]
  go_enter Try.func8, Try.ntmps8
  go_wp2_with fail
  rw [← hv]
  generalize w.alloc (.cells #[.int .i64 r.kind, .int .i64 r.valid, .int .i64 r.uid, .int .i64 r.next, .int .i64 r.flags, .string r.user, .string r.name, .string r.text] 70) = W at b0 hx ⊢
  refine (szRec_any r 1048576 _ hs1 hs2 hs3 (by omega) (by omega)).mono ?_
  rintro e w1 ⟨⟨q, rfl, hr, _, _⟩, k1⟩
  have b1 := b0.trans (k1.mono b0.size)
  by_cases hneg : q < 0
  · go_wp2
    go_ret
    exact ⟨rfl, b1⟩
  have hz1 : r.user.size ≤ 1048576 := by omega
  have hz2 : r.name.size ≤ 1048576 := by omega
  have hz3 : r.text.size ≤ 1048576 := by omega
  obtain ⟨c0, c1, c2, c3, c4, c5, c6, c7, _⟩ := (hx.later k1).eight
  go_wp2_with fail
  rw [← hv]
  refine (toRec_any r _).mono ?_
  rintro e w2 ⟨rfl, k2⟩
  have j2 := k1.trans (k2.mono k1.size)
  clear c0 c1 c2 c3 c4 c5 c6 c7
  go_wp2_with fail
  refine (specRecOk_any r _ (by omega) (by omega) (by omega)).mono ?_
  rintro e w3 ⟨rfl, k3⟩
  rw [HX.out]
  have j3 := j2.trans (k3.mono j2.size)
  obtain ⟨c0, c1, c2, c3, c4, c5, c6, c7, _⟩ := (hx.later j3).eight
  go_wp2_with fail
  rw [← hv]
  refine (toRec_any r _).mono ?_
  rintro e w4 ⟨rfl, k4⟩
  have j4 := j3.trans (k4.mono j3.size)
  have b4 := b0.trans (j4.mono b0.size)
  clear c0 c1 c2 c3 c4 c5 c6 c7
  go_wp2_with fail
  refine (implRecOk_any r _).mono ?_
  rintro e w5 ⟨rfl, k5⟩
  rw [HX.out]
  go_wp2
  go_ret
  exact ⟨rfl, b4.trans (k5.mono b4.size)⟩

theorem FnExactRecOk_own : ownKnob Try.prog.godebug = none := by kernel_rfl

set_option maxRecDepth 100000 in
theorem FnExactRecOk_lifted (os : Os) (started : os.Started) (H : Type) (enc : TypeId × Value → H) :
    ReturnsInHanded {} Try.checked os 8 .any (Rows.fnExactRecOkSpec.pre6 enc Try.prog Try.f8 Rows.fnExactRecOkRow.domain false) (Rows.fnExactRecOkSpec.post enc Try.prog Try.f8 false true false false) := by
  refine returnsInHanded_of_change (C := Try.checked) FnExactRecOk_own started (by kernel_rfl) Try.func8
    (ChangeSpec.witness6 (enc := enc) (C := Try.checked) false ⟨#[], #[.agg #[.int .i64 0, .int .i64 0, .int .i64 0, .int .i64 0, .int .i64 0, .string ByteArray.empty, .string ByteArray.empty, .string ByteArray.empty]], []⟩ 8 (by kernel_rfl) (by kernel_rfl) (by kernel_rfl) (by kernel_rfl)) ?_
  intro W base args ds gs before hval0 hW hcnd _
  have hval : ∀ (j : Nat) t v, Try.f8.params[j]? = some t → args[j]? = some v → Value.okWide Try.prog W .any base t v := hval0
  have hW' := hW
  obtain ⟨p, q, hA0, hV, rfl, hfz, hnd⟩ := hW
  have hA : DataW.TrodAll enc Try.prog W 0 (fun _ => true) true Try.f8.params.toList args.toList ds p := hA0
  rw [Try.params8] at hA hval
  obtain ⟨v0, vs0, d0, ds0, p0, q0, hargs, rfl, rfl, h0, r0⟩ := trodAll_cons hA
  obtain ⟨rfl, rfl, rfl⟩ := trodAll_nil r0
  obtain rfl : args = #[v0] := by cases args; simp_all
  obtain ⟨rfl, rfl⟩ := trodVars_none hV
  have k0 := h0
  have lt0 : ∀ x ∈ p0, x.block < W.heap.size := by obtain ⟨m, hm⟩ := k0; exact DataW.trod_lt m _ _ _ hm
  obtain ⟨D0, w0⟩ := open_Rec (hval 0 70 v0 rfl rfl) h0
  clear hA0 hval0
  simp only [List.append_nil] at hW'
  refine (walk_FnExactRecOk v0 D0 w0 (w := W)).mono fun e W' ⟨he, bel⟩ => ?_
  subst he
  exact ⟨_, rfl, _, _, _, [], _, [], hW', trodAll_mk1 (shut_bool Try.underlying4 _), (trodAll_cons_mk (Below.trod (show laidOutB Try.prog = true by kernel_rfl) (by kernel_rfl) (of_decide_eq_true (by kernel_rfl)) k0 bel lt0) trodAll_mk0), rfl, bel.frame _, fun h => by cases h⟩

/-- The given statement. -/
theorem fnExactRecOk_holds : Rows.FnExactRecOkSaid :=
  OpenClaim.holds_of_wide 8 Try.f8 rfl rfl rfl rfl rfl rfl rfl ⟨rfl, rfl, rfl, rfl, rfl⟩ rfl rfl rfl rfl rfl (by kernel_rfl) Try.func8 (by kernel_rfl)
    (of_decide_eq_true (by kernel_rfl)) (by unfold Func.isWrapper; first | (rw [if_pos (by decide +kernel)]; kernel_rfl) | (rw [if_neg (by decide +kernel)]; exact ⟨rfl, rfl⟩))
    (fun os started H enc _ => FnExactRecOk_lifted os started H enc)
#print axioms fnExactRecOk_holds

end Go.Proofs.Ythlbokfajiahpaa
