/- For every list of items and every number, Needed answers as its model, and nothing that was there is changed. No condition. -/
import Derived.Test.YtjfilicddnhniabJp
import Derived.Test.YtjfilicddnhniabJq
import Derived.Test.YtjfilicddnhniabJn
import Derived.ProofKit
import Derived.OpenShut
import Derived.ShutString
import Derived.ChangeOld
import Derived.Below
namespace Go.Proofs.Ytjfilicddnhniab
open Go.ChangeShapes Go.WideShapes Go.ChangeAt Go.RowKit
open Go.ChangeMaps (open_string shut_string)
set_option linter.unusedVariables false

set_option maxRecDepth 100000 in
theorem implNeeded_any (l : List Itm) (v : Value) (k : Int) (w : World) (h : Rows' itE w v l) (hl : l.length ≤ 1048576) (hk : -9223372036854775808 ≤ k ∧ k ≤ 9223372036854775807) :
    Calls Try.prog 19 #[v, .int .i64 k] w fun e w' => e = .returned (.bool (soB (needL l) k)) ∧ Below w.heap.size w w' := by
  have HNA := Lib.hid (implNeededAll_any l v w h hl)
  obtain ⟨ad, cap, rfl, _⟩ := h.items
  clear h
  obtain ⟨D, hD⟩ : ∃ D, soB (needL l) k = D := ⟨_, rfl⟩
  have HD := Lib.hid hD
  rw [hD]
  clear hD
  go_enter Try.func19, Try.ntmps19
  go_wp2_with fail
  refine HNA.out.mono ?_
  rintro e w1 ⟨v1, rfl, R1⟩
  obtain ⟨a1, c1, rfl⟩ := R1.form
  have b1 := R1.bel
  go_wp2_with fail
  refine (soAt_any _ _ k _ R1.rows hk).mono ?_
  rintro e w2 ⟨rfl, rfl⟩
  rw [HD.out]
  go_wp2
  go_ret
  exact ⟨rfl, b1⟩

set_option maxRecDepth 100000 in
set_option maxHeartbeats 4000000 in
theorem walk_FnExactNeeded (v : Value) (l : List Itm) (k : Int) {w : World} (h : ItsIn w v l) (hk : -9223372036854775808 ≤ k ∧ k ≤ 9223372036854775807) :
    Calls Try.prog 5 #[v, .int .i64 k] w fun e w' => e = .returned (.bool true) ∧ Below w.heap.size w w' := by
  obtain ⟨h0, hl, hz⟩ := h
  have HL : Hid (∀ x, Below w.heap.size w x → Rows' litE x v l) := fun x hx => h0.later hx
  obtain ⟨ad, cap, rfl, _⟩ := h0.litems
  have HSZ := Lib.hid (fun x hx => szItemS_any l _ 1048576 x (HL.out x hx) (by omega) (by omega) hl hz)
  clear h0 hz
  go_enter Try.func5, Try.ntmps5
  go_wp2_with fail
  refine (HSZ.out _ (Below.refl _ _)).mono ?_
  rintro e w1 ⟨⟨r, rfl, hr, _⟩, b1⟩
  clear HSZ
  by_cases hneg : r < 0
  · go_wp2
    go_ret
    exact ⟨rfl, b1⟩
  have hr2 : (l.length : Int) ≤ 1048576 ∧ ∀ x ∈ l, (x.2.user.size : Int) + x.2.name.size + x.2.text.size ≤ 1048576 := by
    rcases hr with hr | hr
    · exact absurd hr hneg
    · exact hr
  have hl1 : l.length ≤ 1048576 := by have := hr2.1; omega
  have hz1 : ∀ x ∈ l, x.2.user.size ≤ 1048576 ∧ x.2.name.size ≤ 1048576 ∧ x.2.text.size ≤ 1048576 := fun x hx => by have := hr2.2 x hx; omega
  have HSP := Lib.hid (fun va x h1 => specNeeded_any l va k x h1 hl1 hz1)
  have HIM := Lib.hid (fun va x h1 => implNeeded_any l va k x h1 hl1 hk)
  generalize soB (needL l) k = D at HSP HIM
  have hDD : (D != D) = false := by cases D <;> rfl
  clear hr hr2 hz1 hl
  go_wp2_with fail
  refine (toItemS_any l _ _ (HL.out _ b1) hl1).mono ?_
  rintro e w2 ⟨v2, rfl, R2⟩
  have b2 := b1.trans (R2.bel.mono b1.size)
  obtain ⟨a2, c2, rfl⟩ := R2.form
  clear b1
  go_wp2_with fail
  refine (HSP.out _ _ R2.rows).mono ?_
  rintro e w3 ⟨rfl, k3⟩
  have b3 := b2.trans (k3.mono b2.size)
  clear R2 k3 b2 HSP
  go_wp2_with fail
  refine (toItemS_any l _ _ (HL.out _ b3) hl1).mono ?_
  rintro e w4 ⟨v4, rfl, R4⟩
  have b4 := b3.trans (R4.bel.mono b3.size)
  obtain ⟨a4, c4, rfl⟩ := R4.form
  replace R4 := R4.here
  clear b3
  go_wp2_with fail
  refine (HIM.out _ _ R4.rows).mono ?_
  rintro e w5 ⟨rfl, k5⟩
  have b5 := b4.trans (k5.mono b4.size)
  replace R4 := (R4.later k5).here
  clear k5 b4 HIM
  go_wp2_with fail
  refine (toItemS_any l _ _ (HL.out _ b5) hl1).mono ?_
  rintro e w6 ⟨v6, rfl, R6⟩
  have b6 := b5.trans (R6.bel.mono b5.size)
  obtain ⟨a6, c6, rfl⟩ := R6.form
  replace R4 := (R4.later R6.bel).here
  clear b5
  go_wp2_with fail
  refine (eqItemS_same l _ _ _ R4.rows R6.rows (by omega)).mono ?_
  rintro e w7 ⟨rfl, k7⟩
  have b7 := b6.trans (k7.mono b6.size)
  clear R4 R6 k7 b6
  go_wp2
  go_ret
  exact ⟨rfl, b7⟩

theorem FnExactNeeded_own : ownKnob Try.prog.godebug = none := by kernel_rfl

set_option maxRecDepth 100000 in
theorem FnExactNeeded_lifted (os : Os) (started : os.Started) (H : Type) (enc : TypeId × Value → H) :
    ReturnsInHanded {} Try.checked os 5 .any (Rows.fnExactNeededSpec.pre6 enc Try.prog Try.f5 Rows.fnExactNeededRow.domain false) (Rows.fnExactNeededSpec.post enc Try.prog Try.f5 false true false false) := by
  refine returnsInHanded_of_change (C := Try.checked) FnExactNeeded_own started (by kernel_rfl) Try.func5
    (ChangeSpec.witness6 (enc := enc) (C := Try.checked) false ⟨#[], #[.slice none 0 0, .int .i64 0], []⟩ 8 (by kernel_rfl) (by kernel_rfl) (by kernel_rfl) (by kernel_rfl)) ?_
  intro W base args ds gs before hval0 hW hcnd _
  have hval : ∀ (j : Nat) t v, Try.f5.params[j]? = some t → args[j]? = some v → Value.okWide Try.prog W .any base t v := hval0
  have hW' := hW
  obtain ⟨p, q, hA0, hV, rfl, hfz, hnd⟩ := hW
  have hA : DataW.TrodAll enc Try.prog W 0 (fun _ => true) true Try.f5.params.toList args.toList ds p := hA0
  rw [Try.params5] at hA hval
  obtain ⟨v0, vs0, d0, ds0, p0, q0, hargs, rfl, rfl, h0, r0⟩ := trodAll_cons hA
  obtain ⟨v1, vs1, d1, ds1, p1, q1, rfl, rfl, rfl, h1, r1⟩ := trodAll_cons r0
  obtain ⟨rfl, rfl, rfl⟩ := trodAll_nil r1
  obtain rfl : args = #[v0, v1] := by cases args; simp_all
  obtain ⟨rfl, rfl⟩ := trodVars_none hV
  have k0 := h0
  have lt0 : ∀ x ∈ p0, x.block < W.heap.size := by obtain ⟨m, hm⟩ := k0; exact DataW.trod_lt m _ _ _ hm
  obtain ⟨D0, w0⟩ := open_ItemS (hval 0 34 v0 rfl rfl) h0
  obtain ⟨a1, rfl, rfl, rfl, w1⟩ := open_int Try.underlying3 (hval 1 3 v1 rfl rfl) h1
  clear hA0 hval0
  simp only [List.append_nil] at hW'
  refine (walk_FnExactNeeded v0 D0 a1 w0 (bounds_i64 w1) (w := W)).mono fun e W' ⟨he, bel⟩ => ?_
  subst he
  exact ⟨_, rfl, _, _, _, [], _, [], hW', trodAll_mk1 (shut_bool Try.underlying4 _), (trodAll_cons_mk (Below.trod (show laidOutB Try.prog = true by kernel_rfl) (by kernel_rfl) (of_decide_eq_true (by kernel_rfl)) k0 bel lt0) (trodAll_cons_mk (shut_int Try.underlying3 w1) trodAll_mk0)), rfl, bel.frame _, fun h => by cases h⟩

/-- The given statement. -/
theorem fnExactNeeded_holds : Rows.FnExactNeededSaid :=
  OpenClaim.holds_of_wide 5 Try.f5 rfl rfl rfl rfl rfl rfl rfl ⟨rfl, rfl, rfl, rfl, rfl⟩ rfl rfl rfl rfl rfl (by kernel_rfl) Try.func5 (by kernel_rfl)
    (of_decide_eq_true (by kernel_rfl)) (by unfold Func.isWrapper; first | (rw [if_pos (by decide +kernel)]; kernel_rfl) | (rw [if_neg (by decide +kernel)]; exact ⟨rfl, rfl⟩))
    (fun os started H enc _ => FnExactNeeded_lifted os started H enc)
#print axioms fnExactNeeded_holds

end Go.Proofs.Ytjfilicddnhniab
