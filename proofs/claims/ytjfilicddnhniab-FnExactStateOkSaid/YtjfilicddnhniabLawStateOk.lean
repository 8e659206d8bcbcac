/- For every state, StateOk answers as its model, and nothing that was there is changed. No condition. -/
import Derived.Test.YtjfilicddnhniabJf
import Derived.Test.YtjfilicddnhniabJg
import Derived.Test.YtjfilicddnhniabJh
import Derived.Test.YtjfilicddnhniabJi
import Derived.ProofKit
import Derived.OpenShut
import Derived.ShutString
import Derived.ChangeOld
import Derived.Below
import Derived.Deep.RegionHeld3
namespace Go.Proofs.Ytjfilicddnhniab
open Go.ChangeShapes Go.WideShapes Go.ChangeAt Go.RowKit
open Go.ChangeMaps (open_string shut_string)
set_option linter.unusedVariables false

theorem belDrew2 (w : World) : Below w.heap.size w w.drew := (Below.refl _ _).drew
theorem sz_small2 {l : List Bx} {left r : Int} (h : r < 0 ∨ r = left - ((l.length + bzs l : Nat) : Int)) (hn : ¬ r < 0) (h1 : left ≤ 1048576) : l.length ≤ 1048576 ∧ ∀ b ∈ l, b.mails.length ≤ 1048576 ∧ b.user.size ≤ 1048576 ∧ b.name.size ≤ 1048576 := by
  rcases h with h | h
  · exact absurd h hn
  · refine ⟨by omega, fun b hb => ?_⟩
    have h2 := bzs_mem hb
    have h3 := bz_user b
    have h4 := bz_name b
    have h5 := bz_mails b
    exact ⟨by omega, by omega, by omega⟩

set_option maxRecDepth 100000 in
set_option maxHeartbeats 8000000 in
theorem walk_FnExactStateOk (va : Value) (la : List Bx) {w : World} (ha : StIn w va la) :
    Calls Try.prog 4 #[va] w fun e w' => e = .returned (.bool true) ∧ Below w.heap.size w w' := by
  obtain ⟨ua, rfl, ra, hla, hza⟩ := ha
  obtain ⟨a1, c1, rfl, _⟩ := ra.boxes
  have X2 := Box.new w #[.slice a1 la.length c1] 24
  have b0 := belNew w (.cells #[.slice a1 la.length c1] 24)
  go_enter Try.func4, Try.ntmps4
  go_wp2_with fail
  generalize w.alloc (.cells #[.slice a1 la.length c1] 24) = W at X2 b0 ⊢
  have HC : Hid (∀ x, Below W.heap.size W x → x.cell? ⟨w.heap.size, 0, none⟩ = some (.slice a1 la.length c1) ∧ LBRd x (.slice a1 la.length c1) la ∧ Below w.heap.size w x) := by
    intro x h
    have h' := b0.trans (h.mono b0.size)
    exact ⟨(X2.later h).cell 0 _ rfl, ra.later h', h'⟩
  clear X2 ra
  refine (szState_any la _ 1048576 _ (HC.out _ (Below.refl _ _)).2.1 (by omega) (by omega) hla hza).mono ?_
  rintro e w1 ⟨⟨r1, rfl, hr1⟩, k1⟩
  clear hza b0
  by_cases hn1 : r1 < 0
  · obtain ⟨_, _, bz⟩ := HC.out _ k1
    clear hr1
    go_wp2
    go_ret
    exact ⟨rfl, bz⟩
  obtain ⟨sa1, sa2⟩ := sz_small2 hr1 hn1 (by omega)
  have HMA : Hid (∀ b ∈ la, b.mails.length ≤ 1048576) := fun b hb => (sa2 b hb).1
  have HMA' : Hid (∀ b ∈ la, b.mails.length ≤ 1099511627776) := fun b hb => by have := (sa2 b hb).1; omega
  have HMI : Hid (∀ b ∈ la, b.mails.length ≤ 1048576 ∧ b.user.size ≤ 1099511627776 ∧ b.name.size ≤ 1099511627776) := fun b hb => by
    obtain ⟨q1, q2, q3⟩ := sa2 b hb
    exact ⟨q1, by omega, by omega⟩
  clear sa2 hr1 hla
  have HSP := Lib.hid (fun va x hx => specStateOk_any la va x hx sa1 HMI.out)
  have HIM := Lib.hid (fun va x hx => implStateOk_any la va x hx sa1 HMI.out)
  generalize stB la = D at HSP HIM
  have hDD : (D != D) = false := by cases D <;> rfl
  obtain ⟨q0, pa, _⟩ := HC.out _ k1
  go_wp2_with fail
  clear q0
  refine (toState_any la _ _ pa sa1 HMA.out).mono ?_
  rintro e w2 ⟨v2, hs2, rfl, S2, k2⟩
  have j2 := k1.trans (k2.mono k1.size)
  obtain ⟨p2, d2, rfl⟩ := S2.row.form
  clear pa k1 k2
  go_wp2_with fail
  refine (HSP.out _ _ S2.rd).mono ?_
  rintro e w3 ⟨rfl, k3⟩
  have j3 := j2.trans (k3.mono j2.size)
  clear S2 k3 HSP j2
  obtain ⟨q0, pa, _⟩ := HC.out _ j3
  go_wp2_with fail
  clear q0
  refine (toState_any la _ _ pa sa1 HMA.out).mono ?_
  rintro e w4 ⟨v4, hs4, rfl, S4, k4⟩
  obtain ⟨p4, c4, rfl⟩ := S4.row.form
  have j4 := j3.trans (k4.mono j3.size)
  have X7 := Box.new w4 #[.slice p4 hs4.length c4] 29
  have k5 := belNew w4 (.cells #[.slice p4 hs4.length c4] 29)
  have j5 := j4.trans (k5.mono j4.size)
  have R4 := S4.rd.later k5
  clear S4 k4 k5 j3 j4 pa
  go_upto_region 7 with fail
  generalize w4.alloc (.cells #[.slice p4 hs4.length c4] 29) = w5 at X7 j5 R4 ⊢
  generalize w4.heap.size = g7 at X7 ⊢
  have y7 := X7.cell 0 (.slice p4 hs4.length c4) rfl
  go_wp2_with fail
  clear y7
  refine (HIM.out _ _ R4).mono ?_
  rintro e w8 ⟨rfl, k8⟩
  have j8 := j5.trans (k8.mono j5.size)
  replace R4 := R4.later k8
  replace X7 := X7.later k8
  clear j5 k8 HIM
  have jd := j8.trans ((belDrew2 w8).mono j8.size)
  have HS : Hid (∀ x, Below w8.drew.heap.size w8.drew x → (x.cell? ⟨w.heap.size, 0, none⟩ = some (.slice a1 la.length c1) ∧ x.cell? ⟨g7, 0, none⟩ = some (.slice p4 hs4.length c4)) ∧ BRd x (.slice p4 hs4.length c4) la ∧ Below w.heap.size w x) := by
    intro x hx
    have hx2 : Below w8.heap.size w8 x := (belDrew2 w8).trans hx
    obtain ⟨u0, _, ub⟩ := HC.out _ (jd.trans (hx.mono jd.size))
    exact ⟨⟨u0, (X7.later hx2).cell 0 _ rfl⟩, R4.later hx2, ub⟩
  obtain ⟨q0, _⟩ := HC.out _ j8
  have y7 := X7.cell 0 (.slice p4 hs4.length c4) rfl
  clear X7 R4
  go_upto_region 10 with fail
  clear q0 y7
  obtain ⟨p0, pa, _⟩ := HC.out _ jd
  obtain ⟨⟨_, y7⟩, _⟩ := HS.out _ (Below.refl _ _)
  go_region_held3 (fun x => x.cell? ⟨w.heap.size, 0, none⟩ = some (.slice a1 la.length c1) ∧ x.cell? ⟨g7, 0, none⟩ = some (.slice p4 hs4.length c4))
    (first | go_keep | (exact (HS.out _ kX).1) | (exact (HS.out _ kY).1))
    (first
      | (go_at_call 11; refine (toState_any la _ _ pa (by omega) HMA.out).mono ?_; rintro e wX ⟨v1, hs1, rfl, S1, kX⟩)
      | (go_at_call 13; refine (eqState_same la _ _ _ (HS.out _ kX).2.1 S1.rd (by omega) HMA'.out).mono ?_; rintro e wY ⟨rfl, kY'⟩; have kY := kX.trans (kY'.mono kX.size)))
  all_goals
    obtain ⟨_, _, bE⟩ := HS.out _ kY
    go_wp2
    go_ret
    exact ⟨rfl, bE⟩

theorem FnExactStateOk_own : ownKnob Try.prog.godebug = none := by kernel_rfl

set_option maxRecDepth 100000 in
theorem FnExactStateOk_lifted (os : Os) (started : os.Started) (H : Type) (enc : TypeId × Value → H) :
    ReturnsInHanded {} Try.checked os 4 .any (Rows.fnExactStateOkSpec.pre6 enc Try.prog Try.f4 Rows.fnExactStateOkRow.domain false) (Rows.fnExactStateOkSpec.post enc Try.prog Try.f4 false true false false) := by
  refine returnsInHanded_of_change (C := Try.checked) FnExactStateOk_own started (by kernel_rfl) Try.func4
    (ChangeSpec.witness6 (enc := enc) (C := Try.checked) false ⟨#[], #[.agg #[.slice none 0 0]], []⟩ 8 (by kernel_rfl) (by kernel_rfl) (by kernel_rfl) (by kernel_rfl)) ?_
  intro W base args ds gs before hval0 hW hcnd _
  have hval : ∀ (j : Nat) t v, Try.f4.params[j]? = some t → args[j]? = some v → Value.okWide Try.prog W .any base t v := hval0
  have hW' := hW
  obtain ⟨p, q, hA0, hV, rfl, hfz, hnd⟩ := hW
  have hA : DataW.TrodAll enc Try.prog W 0 (fun _ => true) true Try.f4.params.toList args.toList ds p := hA0
  rw [Try.params4] at hA hval
  obtain ⟨v0, vs0, d0, ds0, p0, q0, hargs, rfl, rfl, h0, r0⟩ := trodAll_cons hA
  obtain ⟨rfl, rfl, rfl⟩ := trodAll_nil r0
  obtain rfl : args = #[v0] := by cases args; simp_all
  obtain ⟨rfl, rfl⟩ := trodVars_none hV
  have k0 := h0
  have lt0 : ∀ x ∈ p0, x.block < W.heap.size := by obtain ⟨m, hm⟩ := k0; exact DataW.trod_lt m _ _ _ hm
  obtain ⟨D0, w0⟩ := open_State (hval 0 24 v0 rfl rfl) h0
  clear hA0 hval0
  simp only [List.append_nil] at hW'
  refine (walk_FnExactStateOk v0 D0 w0 (w := W)).mono fun e W' ⟨he, bel⟩ => ?_
  subst he
  exact ⟨_, rfl, _, _, _, [], _, [], hW', trodAll_mk1 (shut_bool Try.underlying4 _), (trodAll_cons_mk (Below.trod (show laidOutB Try.prog = true by kernel_rfl) (by kernel_rfl) (of_decide_eq_true (by kernel_rfl)) k0 bel lt0) trodAll_mk0), rfl, bel.frame _, fun h => by cases h⟩

/-- The given statement. -/
theorem fnExactStateOk_holds : Rows.FnExactStateOkSaid :=
  OpenClaim.holds_of_wide 4 Try.f4 rfl rfl rfl rfl rfl rfl rfl ⟨rfl, rfl, rfl, rfl, rfl⟩ rfl rfl rfl rfl rfl (by kernel_rfl) Try.func4 (by kernel_rfl)
    (of_decide_eq_true (by kernel_rfl)) (by unfold Func.isWrapper; first | (rw [if_pos (by decide +kernel)]; kernel_rfl) | (rw [if_neg (by decide +kernel)]; exact ⟨rfl, rfl⟩))
    (fun os started H enc _ => FnExactStateOk_lifted os started H enc)
#print axioms fnExactStateOk_holds

end Go.Proofs.Ytjfilicddnhniab
