/- For every state, number and record, Fitting answers as its model; it writes into no argument, and nothing that was there is changed. No condition. -/
import Derived.Test.YtmbmbnjbeofmaaaJf
import Derived.Test.YtmbmbnjbeofmaaaJi
import Derived.Test.YtmbmbnjbeofmaaaJj
import Derived.Test.YtmbmbnjbeofmaaaJk
import Derived.ProofKit
import Derived.OpenShut
import Derived.ShutString
import Derived.ChangeOld
import Derived.Below
import Derived.Deep.RegionHeld3
namespace Go.Proofs.Ytmbmbnjbeofmaaa
open Go.ChangeShapes Go.WideShapes Go.ChangeAt Go.RowKit
open Go.ChangeMaps (open_string shut_string)
set_option linter.unusedVariables false

theorem belDrew3 (w : World) : Below w.heap.size w w.drew := (Below.refl _ _).drew
theorem sz_small3 {l : List Bx} {left r : Int} (h : r < 0 ∨ r = left - ((l.length + bzs l : Nat) : Int)) (hn : ¬ r < 0) (h1 : left ≤ 1048576) : l.length ≤ 1048576 ∧ (∀ b ∈ l, b.mails.length ≤ 1048576 ∧ b.name.size ≤ 1048576) ∧ r ≤ 1048576 := by
  rcases h with h | h
  · exact absurd h hn
  · refine ⟨by omega, fun b hb => ?_, by omega⟩
    have h2 := bzs_mem hb
    have h4 := bz_name b
    have h5 := bz_mails b
    exact ⟨by omega, by omega⟩

set_option maxRecDepth 100000 in
set_option maxHeartbeats 8000000 in
theorem walk_FnExactFitting (va : Value) (la : List Bx) (nv : Int) (vr : Value) (r : Rc) {w : World} (ha : StIn w va la) (hnv : -9223372036854775808 ≤ nv ∧ nv ≤ 9223372036854775807) (hr : RIn vr r) :
    Calls Try.prog 3 #[va, .int .i64 nv, vr] w fun e w' => e = .returned (.bool true) ∧ Below w.heap.size w w' := by
  obtain ⟨ua, rfl, ra, hla, hza⟩ := ha
  obtain ⟨a1, c1, rfl, _⟩ := ra.boxes
  obtain ⟨rfl, hs1, hs2, hs3⟩ := hr
  have HSR := Lib.hid (fun x left h0 h1 => szRec_any r left x hs1 hs2 hs3 h0 h1)
  have HTR := Lib.hid (fun x => toRec_any r x)
  have HSPF := Lib.hid (fun va x hx hl hm q1 q2 q3 => specFitting_any r la va nv x hx hl hm q1 q2 q3)
  have HIMF := Lib.hid (fun va x hx hl hm q1 q2 q3 => implFitting_any r la va nv x hx hl hm q1 q2 q3)
  obtain ⟨D, hD⟩ : ∃ D, fitB la nv r = D := ⟨_, rfl⟩
  rw [hD] at HSPF HIMF
  clear hD hs1 hs2 hs3 hnv
  obtain ⟨K, V, U, N, FL, US, NM, TX⟩ := r
  unfold Rc.v at *
  simp only at *
  have b0 : Below w.heap.size w ((w.alloc (.cells #[.slice a1 la.length c1] 24)).alloc (.cells #[.int .i64 K, .int .i64 V, .int .i64 U, .int .i64 N, .int .i64 FL, .string US, .string NM, .string TX] 26)) := ((Below.refl _ _).alloc (Nat.le_refl _) _).alloc (by simp) _
  have X2 := (Box.new w #[.slice a1 la.length c1] 24).later (belNew _ (.cells #[.int .i64 K, .int .i64 V, .int .i64 U, .int .i64 N, .int .i64 FL, .string US, .string NM, .string TX] 26))
  have X3 := Box.new (w.alloc (.cells #[.slice a1 la.length c1] 24)) #[.int .i64 K, .int .i64 V, .int .i64 U, .int .i64 N, .int .i64 FL, .string US, .string NM, .string TX] 26
  rw [show (w.alloc (.cells #[.slice a1 la.length c1] 24)).heap.size = w.heap.size + 1 by simp] at X3
  go_enter Try.func3, Try.ntmps3
  go_wp2_with fail
  generalize (w.alloc (.cells #[.slice a1 la.length c1] 24)).alloc (.cells #[.int .i64 K, .int .i64 V, .int .i64 U, .int .i64 N, .int .i64 FL, .string US, .string NM, .string TX] 26) = W at X2 X3 b0 ⊢
  obtain ⟨g3, hg3⟩ : ∃ g3, w.heap.size + 1 = g3 := ⟨_, rfl⟩
  rw [hg3] at X3 ⊢
  have HC : Hid (∀ x, Below W.heap.size W x → (x.cell? ⟨w.heap.size, 0, none⟩ = some (.slice a1 la.length c1) ∧ x.cell? ⟨g3, 0, none⟩ = some (.int .i64 K) ∧ x.cell? ⟨g3, 1, none⟩ = some (.int .i64 V) ∧ x.cell? ⟨g3, 2, none⟩ = some (.int .i64 U) ∧ x.cell? ⟨g3, 3, none⟩ = some (.int .i64 N) ∧ x.cell? ⟨g3, 4, none⟩ = some (.int .i64 FL) ∧ x.cell? ⟨g3, 5, none⟩ = some (.string US) ∧ x.cell? ⟨g3, 6, none⟩ = some (.string NM) ∧ x.cell? ⟨g3, 7, none⟩ = some (.string TX)) ∧ LBRd x (.slice a1 la.length c1) la ∧ Below w.heap.size w x) := by
    intro x h
    have h' := b0.trans (h.mono b0.size)
    have y3 := X3.later h
    exact ⟨⟨(X2.later h).cell 0 _ rfl, y3.cell 0 _ rfl, y3.cell 1 _ rfl, y3.cell 2 _ rfl, y3.cell 3 _ rfl, y3.cell 4 _ rfl, y3.cell 5 _ rfl, y3.cell 6 _ rfl, y3.cell 7 _ rfl⟩, ra.later h', h'⟩
  clear X2 X3 ra hg3
  refine (szState_any la _ 1048576 _ (HC.out _ (Below.refl _ _)).2.1 (by omega) (by omega) hla hza).mono ?_
  rintro e w1 ⟨⟨r1, rfl, hr1⟩, k1⟩
  clear hza b0
  by_cases hn1 : r1 < 0
  · obtain ⟨_, _, bz⟩ := HC.out _ k1
    clear hr1
    go_wp2
    go_ret
    exact ⟨rfl, bz⟩
  obtain ⟨sa1, sa2, sa3⟩ := sz_small3 hr1 hn1 (by omega)
  have HM2 := Lib.hid sa2
  have HMA : Hid (∀ b ∈ la, b.mails.length ≤ 1048576) := fun b hb => (sa2 b hb).1
  have HMA' : Hid (∀ b ∈ la, b.mails.length ≤ 1099511627776) := fun b hb => by have := (sa2 b hb).1; omega
  clear sa2 hr1 hla
  obtain ⟨⟨q0, d0, d1, d2, d3, d4, d5, d6, d7⟩, _, _⟩ := HC.out _ k1
  go_wp2_with fail
  clear q0 d0 d1 d2 d3 d4 d5 d6 d7
  refine (HSR.out _ r1 (by omega) (by omega)).mono ?_
  rintro e w2 ⟨⟨r2, rfl, hr2, hr3, hr4⟩, k2⟩
  have j2 := k1.trans (k2.mono k1.size)
  clear k1 k2
  by_cases hn2 : r2 < 0
  · obtain ⟨_, _, bz⟩ := HC.out _ j2
    clear hr2
    go_wp2
    go_ret
    exact ⟨rfl, bz⟩
  have sz : US.size ≤ 1048576 ∧ NM.size ≤ 1048576 ∧ TX.size ≤ 1048576 := by
    rcases hr2 with h | h
    · exact absurd h hn2
    · exact ⟨by omega, by omega, by omega⟩
  have HSP : Hid (∀ va x, BRd x va la → Calls Try.prog 6 #[.agg #[va], .int .i64 nv, .agg #[.int .i64 K, .int .i64 V, .int .i64 U, .int .i64 N, .int .i64 FL, .string US, .string NM, .string TX]] x fun e w' => e = .returned (.bool D) ∧ Below x.heap.size x w') := fun va x hx => HSPF.out va x hx sa1 HM2.out sz.1 sz.2.1 sz.2.2
  have HIM : Hid (∀ va x, BRd x va la → Calls Try.prog 9 #[.agg #[va], .int .i64 nv, .agg #[.int .i64 K, .int .i64 V, .int .i64 U, .int .i64 N, .int .i64 FL, .string US, .string NM, .string TX]] x fun e w' => e = .returned (.bool D) ∧ Below x.heap.size x w') := fun va x hx => HIMF.out va x hx sa1 HM2.out sz.1 sz.2.1 sz.2.2
  clear HSPF HIMF sz hr2 HSR
  have hDD : (D != D) = false := by cases D <;> rfl
  -- the model's
  have kk := j2.trans ((belDrew3 w2).mono j2.size)
  obtain ⟨⟨q0, d0, d1, d2, d3, d4, d5, d6, d7⟩, _, _⟩ := HC.out _ kk
  go_upto_region 8 with fail
  go_cut [8] (fun c wx => c = .bool D ∧ ∃ y, y = wx ∧ Below W.heap.size W y)
  case first =>
    clear j2
    go_region_held3 (fun x => x.cell? ⟨w.heap.size, 0, none⟩ = some (.slice a1 la.length c1) ∧ x.cell? ⟨g3, 0, none⟩ = some (.int .i64 K) ∧ x.cell? ⟨g3, 1, none⟩ = some (.int .i64 V) ∧ x.cell? ⟨g3, 2, none⟩ = some (.int .i64 U) ∧ x.cell? ⟨g3, 3, none⟩ = some (.int .i64 N) ∧ x.cell? ⟨g3, 4, none⟩ = some (.int .i64 FL) ∧ x.cell? ⟨g3, 5, none⟩ = some (.string US) ∧ x.cell? ⟨g3, 6, none⟩ = some (.string NM) ∧ x.cell? ⟨g3, 7, none⟩ = some (.string TX))
      (first | exact (HC.out _ kk).1)
      (first
        | (go_at_call 7; refine (toState_any la _ _ (HC.out _ kk).2.1 sa1 HMA.out).mono ?_; rintro e wX ⟨v9, hs9, rfl, S9, kX⟩; have kk := kk.trans (kX.mono kk.size); have kx := Below.refl wX.heap.size wX)
        | (go_at_call 8; refine (HTR.out _).mono ?_; rintro e wR ⟨rfl, kR⟩; have kk := kk.trans (kR.mono kk.size); have kx := kx.trans (kR.mono kx.size))
        | (go_at_call 8; refine (HTR.out _).mono ?_; rintro e wR ⟨rfl, kR⟩; have kk := kk.trans (kR.mono kk.size))
        | (go_at_call 6; refine (HSP.out _ _ (S9.rd.later kx)).mono ?_; rintro e wY ⟨rfl, kY⟩; have kk := kk.trans (kY.mono kk.size)))
    all_goals
      go_wp2_with fail
      go_meet
      exact ⟨rfl, _, rfl, kk⟩
  case rest =>
  obtain ⟨rfl, w3, hwr, j3⟩ := hcut
  subst hwr
  clear q0 d0 d1 d2 d3 d4 d5 d6 d7 kk j2 HSP
  obtain ⟨⟨q0, d0, d1, d2, d3, d4, d5, d6, d7⟩, pa, _⟩ := HC.out _ j3
  go_wp2_with fail
  clear q0 d0 d1 d2 d3 d4 d5 d6 d7
  refine (toState_any la _ _ pa sa1 HMA.out).mono ?_
  rintro e w4 ⟨v4, hs4, rfl, S4, k4⟩
  obtain ⟨p4, c4, rfl⟩ := S4.row.form
  have j4 := j3.trans (k4.mono j3.size)
  have X7 := Box.new w4 #[.slice p4 hs4.length c4] 32
  have k5 := belNew w4 (.cells #[.slice p4 hs4.length c4] 32)
  have j5 := j4.trans (k5.mono j4.size)
  have R4 := S4.rd.later k5
  clear S4 k4 k5 j3 j4 pa
  go_upto_region 10 with fail
  generalize w4.alloc (.cells #[.slice p4 hs4.length c4] 32) = w5 at X7 j5 R4 ⊢
  generalize w4.heap.size = g7 at X7 ⊢
  have HS : Hid (∀ x, Below w5.heap.size w5 x → ((x.cell? ⟨w.heap.size, 0, none⟩ = some (.slice a1 la.length c1) ∧ x.cell? ⟨g3, 0, none⟩ = some (.int .i64 K) ∧ x.cell? ⟨g3, 1, none⟩ = some (.int .i64 V) ∧ x.cell? ⟨g3, 2, none⟩ = some (.int .i64 U) ∧ x.cell? ⟨g3, 3, none⟩ = some (.int .i64 N) ∧ x.cell? ⟨g3, 4, none⟩ = some (.int .i64 FL) ∧ x.cell? ⟨g3, 5, none⟩ = some (.string US) ∧ x.cell? ⟨g3, 6, none⟩ = some (.string NM) ∧ x.cell? ⟨g3, 7, none⟩ = some (.string TX)) ∧ x.cell? ⟨g7, 0, none⟩ = some (.slice p4 hs4.length c4)) ∧ BRd x (.slice p4 hs4.length c4) la ∧ LBRd x (.slice a1 la.length c1) la ∧ Below w.heap.size w x) := by
    intro x hx
    obtain ⟨u0, ul, ub⟩ := HC.out _ (j5.trans (hx.mono j5.size))
    exact ⟨⟨u0, (X7.later hx).cell 0 _ rfl⟩, R4.later hx, ul, ub⟩
  clear X7 R4 j5 HC
  have kk := belDrew3 w5
  obtain ⟨⟨⟨q0, d0, d1, d2, d3, d4, d5, d6, d7⟩, y7⟩, _⟩ := HS.out _ kk
  go_cut [10] (fun c wx => c = .bool D ∧ ∃ y, y = wx ∧ Below w5.heap.size w5 y)
  case first =>
    go_region_held3 (fun x => (x.cell? ⟨w.heap.size, 0, none⟩ = some (.slice a1 la.length c1) ∧ x.cell? ⟨g3, 0, none⟩ = some (.int .i64 K) ∧ x.cell? ⟨g3, 1, none⟩ = some (.int .i64 V) ∧ x.cell? ⟨g3, 2, none⟩ = some (.int .i64 U) ∧ x.cell? ⟨g3, 3, none⟩ = some (.int .i64 N) ∧ x.cell? ⟨g3, 4, none⟩ = some (.int .i64 FL) ∧ x.cell? ⟨g3, 5, none⟩ = some (.string US) ∧ x.cell? ⟨g3, 6, none⟩ = some (.string NM) ∧ x.cell? ⟨g3, 7, none⟩ = some (.string TX)) ∧ x.cell? ⟨g7, 0, none⟩ = some (.slice p4 hs4.length c4))
      (first | exact (HS.out _ kk).1)
      (first
        | (go_at_call 8; refine (HTR.out _).mono ?_; rintro e wR ⟨rfl, kR⟩; have kk := kk.trans (kR.mono kk.size))
        | (go_at_call 9; refine (HIM.out _ _ (HS.out _ kk).2.1).mono ?_; rintro e wY ⟨rfl, kY⟩; have kk := kk.trans (kY.mono kk.size)))
    all_goals
      go_wp2_with fail
      go_meet
      exact ⟨rfl, _, rfl, kk⟩
  case rest =>
  obtain ⟨rfl, w6, hwr, j6⟩ := hcut
  subst hwr
  clear q0 d0 d1 d2 d3 d4 d5 d6 d7 y7 kk HIM HTR
  have kk := j6.trans ((belDrew3 w6).mono j6.size)
  obtain ⟨⟨⟨q0, d0, d1, d2, d3, d4, d5, d6, d7⟩, y7⟩, _⟩ := HS.out _ j6
  go_upto_region 13 with fail
  clear q0 d0 d1 d2 d3 d4 d5 d6 d7 y7
  obtain ⟨⟨⟨q0, _⟩, y7⟩, _⟩ := HS.out _ kk
  go_region_held3 (fun x => x.cell? ⟨w.heap.size, 0, none⟩ = some (.slice a1 la.length c1) ∧ x.cell? ⟨g7, 0, none⟩ = some (.slice p4 hs4.length c4))
    (first | exact ⟨(HS.out _ kk).1.1.1, (HS.out _ kk).1.2⟩)
    (first
      | (go_at_call 7; refine (toState_any la _ _ (HS.out _ kk).2.2.1 (by omega) HMA.out).mono ?_; rintro e wX ⟨v1, hs1, rfl, S1, kX⟩; have kk := kk.trans (kX.mono kk.size))
      | (go_at_call 10; refine (eqState_same la _ _ _ (HS.out _ kk).2.1 S1.rd (by omega) HMA'.out).mono ?_; rintro e wY ⟨rfl, kY⟩; have kk := kk.trans (kY.mono kk.size)))
  all_goals
    obtain ⟨_, _, _, bE⟩ := HS.out _ kk
    go_wp2
    go_ret
    exact ⟨rfl, bE⟩

theorem FnExactFitting_own : ownKnob Try.prog.godebug = none := by kernel_rfl

set_option maxRecDepth 100000 in
theorem FnExactFitting_lifted (os : Os) (started : os.Started) (H : Type) (enc : TypeId × Value → H) :
    ReturnsInHanded {} Try.checked os 3 .any (Rows.fnExactFittingSpec.pre6 enc Try.prog Try.f3 Rows.fnExactFittingRow.domain false) (Rows.fnExactFittingSpec.post enc Try.prog Try.f3 false true false false) := by
  refine returnsInHanded_of_change (C := Try.checked) FnExactFitting_own started (by kernel_rfl) Try.func3
    (ChangeSpec.witness6 (enc := enc) (C := Try.checked) false ⟨#[], #[.agg #[.slice none 0 0], .int .i64 0, .agg #[.int .i64 0, .int .i64 0, .int .i64 0, .int .i64 0, .int .i64 0, .string ByteArray.empty, .string ByteArray.empty, .string ByteArray.empty]], []⟩ 8 (by kernel_rfl) (by kernel_rfl) (by kernel_rfl) (by kernel_rfl)) ?_
  intro W base args ds gs before hval0 hW hcnd _
  have hval : ∀ (j : Nat) t v, Try.f3.params[j]? = some t → args[j]? = some v → Value.okWide Try.prog W .any base t v := hval0
  have hW' := hW
  obtain ⟨p, q, hA0, hV, rfl, hfz, hnd⟩ := hW
  have hA : DataW.TrodAll enc Try.prog W 0 (fun _ => true) true Try.f3.params.toList args.toList ds p := hA0
  rw [Try.params3] at hA hval
  obtain ⟨v0, vs0, d0, ds0, p0, q0, hargs, rfl, rfl, h0, r0⟩ := trodAll_cons hA
  obtain ⟨v1, vs1, d1, ds1, p1, q1, rfl, rfl, rfl, h1, r1⟩ := trodAll_cons r0
  obtain ⟨v2, vs2, d2, ds2, p2, q2, rfl, rfl, rfl, h2, r2⟩ := trodAll_cons r1
  obtain ⟨rfl, rfl, rfl⟩ := trodAll_nil r2
  obtain rfl : args = #[v0, v1, v2] := by cases args; simp_all
  obtain ⟨rfl, rfl⟩ := trodVars_none hV
  have k0 := h0
  have lt0 : ∀ x ∈ p0, x.block < W.heap.size := by obtain ⟨m, hm⟩ := k0; exact DataW.trod_lt m _ _ _ hm
  obtain ⟨D0, w0⟩ := open_State (hval 0 24 v0 rfl rfl) h0
  obtain ⟨a1, rfl, rfl, rfl, w1⟩ := open_int Try.underlying3 (hval 1 3 v1 rfl rfl) h1
  have k2 := h2
  have lt2 : ∀ x ∈ p2, x.block < W.heap.size := by obtain ⟨m, hm⟩ := k2; exact DataW.trod_lt m _ _ _ hm
  obtain ⟨D2, w2⟩ := open_Rec (hval 2 26 v2 rfl rfl) h2
  clear hA0 hval0
  simp only [List.append_nil] at hW'
  refine (walk_FnExactFitting v0 D0 a1 v2 D2 w0 (bounds_i64 w1) w2 (w := W)).mono fun e W' ⟨he, bel⟩ => ?_
  subst he
  exact ⟨_, rfl, _, _, _, [], _, [], hW', trodAll_mk1 (shut_bool Try.underlying4 _), (trodAll_cons_mk (Below.trod (show laidOutB Try.prog = true by kernel_rfl) (by kernel_rfl) (of_decide_eq_true (by kernel_rfl)) k0 bel lt0) (trodAll_cons_mk (shut_int Try.underlying3 w1) (trodAll_cons_mk (Below.trod (show laidOutB Try.prog = true by kernel_rfl) (by kernel_rfl) (of_decide_eq_true (by kernel_rfl)) k2 bel lt2) trodAll_mk0))), rfl, bel.frame _, fun h => by cases h⟩

/-- The given statement. -/
theorem fnExactFitting_holds : Rows.FnExactFittingSaid :=
  OpenClaim.holds_of_wide 3 Try.f3 rfl rfl rfl rfl rfl rfl rfl ⟨rfl, rfl, rfl, rfl, rfl⟩ rfl rfl rfl rfl rfl (by kernel_rfl) Try.func3 (by kernel_rfl)
    (of_decide_eq_true (by kernel_rfl)) (by unfold Func.isWrapper; first | (rw [if_pos (by decide +kernel)]; kernel_rfl) | (rw [if_neg (by decide +kernel)]; exact ⟨rfl, rfl⟩))
    (fun os started H enc _ => FnExactFitting_lifted os started H enc)
#print axioms fnExactFitting_holds

end Go.Proofs.Ytmbmbnjbeofmaaa
