/- For every line, WordsOf answers as its model; the list that it hands back is its own, behind another call too; nothing that was there is changed. No condition. -/
import Derived.Test.YtnaaebbinmpjeaaWdS
import Derived.Test.YtnaaebbinmpjeaaWdI
import Derived.Test.YtnaaebbinmpjeaaMarksS
import Derived.ProofKit
import Derived.OpenShut
import Derived.ShutString
import Derived.ChangeOld
import Derived.Below
namespace Go.Proofs.Ytnaaebbinmpjeaa
open Go.ChangeShapes Go.WideShapes Go.ChangeAt Go.RowKit
open Go.ChangeMaps (open_string shut_string)
set_option linter.unusedVariables false

set_option maxRecDepth 100000 in
set_option maxHeartbeats 1000000 in
theorem walk_FnExactWordsOf (s : ByteArray) (_hs : s.size ≤ maxLen) (w : World) :
    Calls Try.prog 4 #[.string s] w fun e w' => e = .returned (.bool true) ∧ Below w.heap.size w w' := by
  unfold maxLen at _hs
  by_cases h : s.size ≤ 1048576
  · go_enter Try.func4, Try.ntmps4
    go_wp2_with fail
    refine (specWordsOf_any _ _ (by omega)).mono ?_
    rintro e w1 ⟨v1, l, rfl, hp1, hb1⟩
    have hl := hp1.len
    have HP := Lib.hid hp1
    clear hp1
    go_wp2_with fail
    refine (implWordsOf_any _ _ (by omega)).mono ?_
    rintro e w2 ⟨v2, l2, rfl, hp2, hb2⟩
    obtain rfl := HP.out.one hp2
    clear hp2
    have hs1 : Strs w2 v1 l2 := hb1.strs.later hb2.bel
    go_wp2_with fail
    refine (eqStringS_same l2 _ _ _ hb2.strs hs1 (by omega)).mono ?_
    rintro e w3 ⟨rfl, hb3⟩
    go_wp2_with fail
    refine (markStringS_any l2 _ 1 w1.heap.size w1 _ (hb2.later hb3) (by omega) (by omega)).mono ?_
    rintro e w4 ⟨rfl, hb4⟩
    go_wp2_with fail
    refine (heldStringS_any l2.length _ 1 _ hb4.strs (by omega) (by omega)).mono ?_
    rintro e w5 ⟨rfl, hb5⟩
    go_wp2_with fail
    refine (implWordsOf_any _ _ (by omega)).mono ?_
    rintro e w6 ⟨v6, l6, rfl, hp6, hb6⟩
    obtain rfl := HP.out.one hp6
    clear hp6
    have hs6 : Strs w6 v1 l6 := ((hb1.strs.later hb4.bel).later hb5).later hb6.bel
    go_wp2_with fail
    refine (eqStringS_same l6 _ _ _ hb6.strs hs6 (by omega)).mono ?_
    rintro e w7 ⟨rfl, hb7⟩
    have hs7 : Strs w7 v2 (marksOf 1 l6.length) := ((hb4.strs.later hb5).later hb6.bel).later hb7
    go_wp2_with fail
    refine (heldStringS_any l6.length _ 1 _ hs7 (by omega) (by omega)).mono ?_
    rintro e w8 ⟨rfl, hb8⟩
    go_wp2
    go_ret
    have b14 : Below w.heap.size w w4 := hb1.bel.trans (hb4.bel.mono hb1.bel.size)
    have b15 : Below w.heap.size w w5 := b14.trans (hb5.mono b14.size)
    have b16 : Below w.heap.size w w6 := b15.trans (hb6.bel.mono b15.size)
    have b17 : Below w.heap.size w w7 := b16.trans (hb7.mono b16.size)
    exact ⟨rfl, b17.trans (hb8.mono b17.size)⟩
  · go_enter Try.func4, Try.ntmps4
    go_wp2
    go_ret
    exact ⟨rfl, Below.refl _ _⟩

theorem FnExactWordsOf_own : ownKnob Try.prog.godebug = none := by kernel_rfl

set_option maxRecDepth 100000 in
theorem FnExactWordsOf_lifted (os : Os) (started : os.Started) (H : Type) (enc : TypeId × Value → H) :
    ReturnsInHanded {} Try.checked os 4 .any (Rows.fnExactWordsOfSpec.pre6 enc Try.prog Try.f4 Rows.fnExactWordsOfRow.domain false) (Rows.fnExactWordsOfSpec.post enc Try.prog Try.f4 false true false false) := by
  refine returnsInHanded_of_change (C := Try.checked) FnExactWordsOf_own started (by kernel_rfl) Try.func4
    (ChangeSpec.witness6 (enc := enc) (C := Try.checked) false ⟨#[], #[.string ByteArray.empty], []⟩ 8 (by kernel_rfl) (by kernel_rfl) (by kernel_rfl) (by kernel_rfl)) ?_
  intro W base args ds gs before hval0 hW hcnd _
  have hval : ∀ (j : Nat) t v, Try.f4.params[j]? = some t → args[j]? = some v → Value.okWide Try.prog W .any base t v := hval0
  have hW' := hW
  obtain ⟨p, q, hA0, hV, rfl, hfz, hnd⟩ := hW
  have hA : DataW.TrodAll enc Try.prog W 0 (fun _ => true) true Try.f4.params.toList args.toList ds p := hA0
  rw [Try.params4] at hA hval
  obtain ⟨v0, vs0, d0, ds0, p0, q0, hargs, rfl, rfl, h0, r0⟩ := trodAll_cons hA
  obtain ⟨rfl, rfl, rfl⟩ := trodAll_nil r0
  obtain rfl : args = #[v0] := by cases args; simp_all
  obtain ⟨rfl, rfl⟩ := trodVars_none hV
  obtain ⟨a0, rfl, rfl, rfl, w0⟩ := open_string Try.underlying9 (hval 0 9 v0 rfl rfl) h0
  clear hA0 hval0
  simp only [List.append_nil] at hW'
  refine (walk_FnExactWordsOf a0 w0 (w := W)).mono fun e W' ⟨he, bel⟩ => ?_
  subst he
  exact ⟨_, rfl, _, _, _, [], _, [], hW', trodAll_mk1 (shut_bool Try.underlying4 _), (trodAll_cons_mk (shut_string Try.underlying9 w0) trodAll_mk0), rfl, bel.frame _, fun h => by cases h⟩

/-- The given statement. -/
theorem fnExactWordsOf_holds : Rows.FnExactWordsOfSaid :=
  OpenClaim.holds_of_wide 4 Try.f4 rfl rfl rfl rfl rfl rfl rfl ⟨rfl, rfl, rfl, rfl, rfl⟩ rfl rfl rfl rfl rfl (by kernel_rfl) Try.func4 (by kernel_rfl)
    (of_decide_eq_true (by kernel_rfl)) (by unfold Func.isWrapper; first | (rw [if_pos (by decide +kernel)]; kernel_rfl) | (rw [if_neg (by decide +kernel)]; exact ⟨rfl, rfl⟩))
    (fun os started H enc _ => FnExactWordsOf_lifted os started H enc)
#print axioms fnExactWordsOf_holds

end Go.Proofs.Ytnaaebbinmpjeaa
