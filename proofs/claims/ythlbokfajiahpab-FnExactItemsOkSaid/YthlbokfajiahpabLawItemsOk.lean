/- For every list of items, ItemsOk answers as its model, and nothing that was there is changed. No condition. -/
import Derived.Test.YthlbokfajiahpabJi
import Derived.Test.YthlbokfajiahpabJj
import Derived.ProofKit
import Derived.OpenShut
import Derived.ShutString
import Derived.ChangeOld
import Derived.Below
namespace Go.Proofs.Ythlbokfajiahpab
open Go.ChangeShapes Go.WideShapes Go.ChangeAt Go.RowKit
open Go.ChangeMaps (open_string shut_string)
set_option linter.unusedVariables false

set_option maxRecDepth 100000 in
set_option maxHeartbeats 2000000 in
theorem walk_FnExactItemsOk (v : Value) (l : List Itm) {w : World} (hd : ItsIn w v l) :
    Calls Try.prog 7 #[v] w fun e w' => e = .returned (.bool true) ∧ Below w.heap.size w w' := by
  obtain ⟨h, hl, hz⟩ := hd
  have HL : Hid (∀ X, Below w.heap.size w X → Rows' litE X v l) := fun X hb => h.later hb
  obtain ⟨ad, cap, rfl, _⟩ := h.litems
  have HSZ := Lib.hid (szItemS_any l _ 1048576 w h (by omega) (by omega) hl hz)
  clear h hz
  obtain ⟨x, hx0⟩ : ∃ x, decide (itemsOk l) = x := ⟨_, rfl⟩
  have HX := Lib.hid hx0
  clear hx0
  have hb0 : (x != x) = false := by cases x <;> rfl
  go_enter Try.func7, Try.ntmps7
  go_wp2_with fail
  refine HSZ.out.mono ?_
  rintro e w1 ⟨⟨r, rfl, hr, _⟩, b1⟩
  clear HSZ
  by_cases hneg : r < 0
  · go_wp2
    go_ret
    exact ⟨rfl, b1⟩
  have hr2 : (l.length : Int) ≤ 1048576 ∧ ∀ x ∈ l, (x.2.user.size : Int) + x.2.name.size + x.2.text.size ≤ 1048576 := by
    rcases hr with hr | hr
    · exact absurd hr hneg
    · exact hr
  have hl1 : l.length ≤ 1048576 := by have := hr2.1; omega
  have HZ1 : Hid (∀ x ∈ l, x.2.user.size ≤ 1099511627776 ∧ x.2.name.size ≤ 1099511627776 ∧ x.2.text.size ≤ 1099511627776) := fun x hx => by have := hr2.2 x hx; omega
  clear hr hr2 hl
  go_wp2_with fail
  refine (toItemS_any l _ _ (HL.out _ b1) hl1).mono ?_
  rintro e w2 ⟨v2, rfl, R2⟩
  have b2 := b1.trans (R2.bel.mono b1.size)
  obtain ⟨a2, c2, rfl⟩ := R2.form
  go_wp2_with fail
  refine (specItemsOk_any l _ _ R2.rows (by omega) HZ1.out).mono ?_
  rintro e w3 ⟨rfl, k3⟩
  rw [HX.out]
  have b3 := b2.trans (k3.mono b2.size)
  clear R2 k3 b1 b2
  go_wp2_with fail
  refine (toItemS_any l _ _ (HL.out _ b3) hl1).mono ?_
  rintro e w5 ⟨v5, rfl, R5⟩
  have b5 := b3.trans (R5.bel.mono b3.size)
  obtain ⟨a5, c5, rfl⟩ := R5.form
  replace R5 := R5.here
  clear b3
  go_wp2_with fail
  refine (implItemsOk_any l _ _ R5.rows (by omega)).mono ?_
  rintro e w6 ⟨rfl, k6⟩
  rw [HX.out]
  have b6 := b5.trans (k6.mono b5.size)
  replace R5 := R5.here' k6
  clear b5 k6
  go_wp2_with fail
  refine (toItemS_any l _ _ (HL.out _ b6) hl1).mono ?_
  rintro e w9 ⟨v9, rfl, R9⟩
  obtain ⟨a9, c9, rfl⟩ := R9.form
  have b9 := b6.trans (R9.bel.mono b6.size)
  replace R5 := R5.here' R9.bel
  clear b6
  go_wp2_with fail
  refine (eqItemS_same l _ _ _ R5.rows R9.rows (by omega)).mono ?_
  rintro e wA ⟨rfl, kA⟩
  go_wp2
  go_ret
  exact ⟨rfl, b9.trans (kA.mono b9.size)⟩

theorem FnExactItemsOk_own : ownKnob Try.prog.godebug = none := by kernel_rfl

set_option maxRecDepth 100000 in
theorem FnExactItemsOk_lifted (os : Os) (started : os.Started) (H : Type) (enc : TypeId × Value → H) :
    ReturnsInHanded {} Try.checked os 7 .any (Rows.fnExactItemsOkSpec.pre6 enc Try.prog Try.f7 Rows.fnExactItemsOkRow.domain false) (Rows.fnExactItemsOkSpec.post enc Try.prog Try.f7 false true false false) := by
  refine returnsInHanded_of_change (C := Try.checked) FnExactItemsOk_own started (by kernel_rfl) Try.func7
    (ChangeSpec.witness6 (enc := enc) (C := Try.checked) false ⟨#[], #[.slice none 0 0], []⟩ 8 (by kernel_rfl) (by kernel_rfl) (by kernel_rfl) (by kernel_rfl)) ?_
  intro W base args ds gs before hval0 hW hcnd _
  have hval : ∀ (j : Nat) t v, Try.f7.params[j]? = some t → args[j]? = some v → Value.okWide Try.prog W .any base t v := hval0
  have hW' := hW
  obtain ⟨p, q, hA0, hV, rfl, hfz, hnd⟩ := hW
  have hA : DataW.TrodAll enc Try.prog W 0 (fun _ => true) true Try.f7.params.toList args.toList ds p := hA0
  rw [Try.params7] at hA hval
  obtain ⟨v0, vs0, d0, ds0, p0, q0, hargs, rfl, rfl, h0, r0⟩ := trodAll_cons hA
  obtain ⟨rfl, rfl, rfl⟩ := trodAll_nil r0
  obtain rfl : args = #[v0] := by cases args; simp_all
  obtain ⟨rfl, rfl⟩ := trodVars_none hV
  have k0 := h0
  have lt0 : ∀ x ∈ p0, x.block < W.heap.size := by obtain ⟨m, hm⟩ := k0; exact DataW.trod_lt m _ _ _ hm
  obtain ⟨D0, w0⟩ := open_ItemS (hval 0 53 v0 rfl rfl) h0
  clear hA0 hval0
  simp only [List.append_nil] at hW'
  refine (walk_FnExactItemsOk v0 D0 w0 (w := W)).mono fun e W' ⟨he, bel⟩ => ?_
  subst he
  exact ⟨_, rfl, _, _, _, [], _, [], hW', trodAll_mk1 (shut_bool Try.underlying4 _), (trodAll_cons_mk (Below.trod (show laidOutB Try.prog = true by kernel_rfl) (by kernel_rfl) (of_decide_eq_true (by kernel_rfl)) k0 bel lt0) trodAll_mk0), rfl, bel.frame _, fun h => by cases h⟩

/-- The given statement. -/
theorem fnExactItemsOk_holds : Rows.FnExactItemsOkSaid :=
  OpenClaim.holds_of_wide 7 Try.f7 rfl rfl rfl rfl rfl rfl rfl ⟨rfl, rfl, rfl, rfl, rfl⟩ rfl rfl rfl rfl rfl (by kernel_rfl) Try.func7 (by kernel_rfl)
    (of_decide_eq_true (by kernel_rfl)) (by unfold Func.isWrapper; first | (rw [if_pos (by decide +kernel)]; kernel_rfl) | (rw [if_neg (by decide +kernel)]; exact ⟨rfl, rfl⟩))
    (fun os started H enc _ => FnExactItemsOk_lifted os started H enc)
#print axioms fnExactItemsOk_holds

end Go.Proofs.Ythlbokfajiahpab
