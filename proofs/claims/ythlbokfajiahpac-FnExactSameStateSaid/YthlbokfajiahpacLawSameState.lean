/- For every two states, SameState answers as its model, and nothing that was there is changed. No condition. -/
import Derived.Test.YthlbokfajiahpacJe
import Derived.Test.YthlbokfajiahpacJf
import Derived.ProofKit
import Derived.OpenShut
import Derived.ShutString
import Derived.ChangeOld
import Derived.Below
import Derived.Deep.RegionHeld3
namespace Go.Proofs.Ythlbokfajiahpac
open Go.ChangeShapes Go.WideShapes Go.ChangeAt Go.RowKit
open Go.ChangeMaps (open_string shut_string)
set_option linter.unusedVariables false

theorem belDrew (w : World) : Below w.heap.size w w.drew := (Below.refl _ _).drew

/-- What the sizes say. -/
theorem sz_small {l : List Bx} {left r : Int} (h : r < 0 ∨ r = left - ((l.length + bzs l : Nat) : Int)) (hn : ¬ r < 0) (h1 : left ≤ 1048576) : l.length ≤ 1048576 ∧ (∀ b ∈ l, b.mails.length ≤ 1048576 ∧ b.user.size ≤ 1048576 ∧ b.name.size ≤ 1048576 ∧ ∀ m ∈ b.mails, m.text.size ≤ 1048576) ∧ r ≤ 1048576 ∧ l.length + bzs l ≤ 1048576 := by
  rcases h with h | h
  · exact absurd h hn
  · refine ⟨by omega, fun b hb => ?_, by omega, by omega⟩
    have h2 := bzs_mem hb
    have h3 := bz_user b
    have h4 := bz_name b
    have h5 := bz_mails b
    refine ⟨by omega, by omega, by omega, fun m hm => ?_⟩
    have := bz_text hm
    omega

set_option maxRecDepth 100000 in
set_option maxHeartbeats 8000000 in
theorem walk_FnExactSameState (va : Value) (la : List Bx) (vb : Value) (lb : List Bx) {w : World} (ha : StIn w va la) (hb : StIn w vb lb) :
    Calls Try.prog 4 #[va, vb] w fun e w' => e = .returned (.bool true) ∧ Below w.heap.size w w' := by
  obtain ⟨ua, rfl, ra, hla, hza⟩ := ha
  obtain ⟨ub, rfl, rb, hlb, hzb⟩ := hb
  obtain ⟨a1, c1, rfl, _⟩ := ra.boxes
  obtain ⟨a2, c2, rfl, _⟩ := rb.boxes
  have X2 := (Box.new w #[.slice a1 la.length c1] 24).later (belNew _ (.cells #[.slice a2 lb.length c2] 24))
  have X3 : Box ((w.alloc (.cells #[.slice a1 la.length c1] 24)).alloc (.cells #[.slice a2 lb.length c2] 24)) (w.heap.size + 1) #[.slice a2 lb.length c2] 24 := by
    have := Box.new (w.alloc (.cells #[.slice a1 la.length c1] 24)) #[.slice a2 lb.length c2] 24
    rwa [show (w.alloc (.cells #[.slice a1 la.length c1] 24)).heap.size = w.heap.size + 1 from by simp] at this
  have b0 : Below w.heap.size w ((w.alloc (.cells #[.slice a1 la.length c1] 24)).alloc (.cells #[.slice a2 lb.length c2] 24)) := ((Below.refl _ _).alloc (Nat.le_refl _) _).alloc (by simp) _
  go_enter Try.func4, Try.ntmps4
  go_wp2_with fail
  generalize (w.alloc (.cells #[.slice a1 la.length c1] 24)).alloc (.cells #[.slice a2 lb.length c2] 24) = W at X2 X3 b0 ⊢
  obtain ⟨g3, hg3⟩ : ∃ g3, w.heap.size + 1 = g3 := ⟨_, rfl⟩
  rw [hg3] at X3 ⊢
  have HC : Hid (∀ x, Below W.heap.size W x → x.cell? ⟨w.heap.size, 0, none⟩ = some (.slice a1 la.length c1) ∧ x.cell? ⟨g3, 0, none⟩ = some (.slice a2 lb.length c2) ∧ LBRd x (.slice a1 la.length c1) la ∧ LBRd x (.slice a2 lb.length c2) lb ∧ Below w.heap.size w x) := by
    intro x h
    have h' := b0.trans (h.mono b0.size)
    exact ⟨(X2.later h).cell 0 _ rfl, (X3.later h).cell 0 _ rfl, ra.later h', rb.later h', h'⟩
  clear hg3 X2 X3 ra rb
  refine (szState_any la _ 1048576 _ (HC.out _ (Below.refl _ _)).2.2.1 (by omega) (by omega) hla hza).mono ?_
  rintro e w1 ⟨⟨r1, rfl, hr1⟩, k1⟩
  clear hza b0
  by_cases hn1 : r1 < 0
  · obtain ⟨_, _, _, _, bz⟩ := HC.out _ k1
    clear hr1
    go_wp2
    go_ret
    exact ⟨rfl, bz⟩
  obtain ⟨sa1, sa2, sa3, _⟩ := sz_small hr1 hn1 (by omega)
  have SA2 := Lib.hid sa2
  clear sa2 hr1
  obtain ⟨q0, q1, q2, q3, bz⟩ := HC.out _ k1
  have HQ := Lib.hid q3
  clear q2 q3 bz
  go_wp2_with fail
  clear q0 q1
  refine (szState_any lb _ r1 _ HQ.out (by omega) (by omega) hlb hzb).mono ?_
  rintro e w2 ⟨⟨r2, rfl, hr2⟩, k2⟩
  have j2 := k1.trans (k2.mono k1.size)
  clear hzb HQ
  by_cases hn2 : r2 < 0
  · obtain ⟨_, _, _, _, bz⟩ := HC.out _ j2
    clear hr2
    go_wp2
    go_ret
    exact ⟨rfl, bz⟩
  obtain ⟨sb1, sb2, _, _⟩ := sz_small hr2 hn2 (by omega)
  have SB2 := Lib.hid sb2
  clear sb2 hr2 k1 k2 hla hlb
  have HMA : Hid (∀ b ∈ la, b.mails.length ≤ 1048576) := fun b hb => (SA2.out b hb).1
  have HMB : Hid (∀ b ∈ lb, b.mails.length ≤ 1048576) := fun b hb => (SB2.out b hb).1
  have HMA' : Hid (∀ b ∈ la, b.mails.length ≤ 1099511627776) := fun b hb => by have := (SA2.out b hb).1; omega
  have HMB' : Hid (∀ b ∈ lb, b.mails.length ≤ 1099511627776) := fun b hb => by have := (SB2.out b hb).1; omega
  obtain ⟨D, hD⟩ : ∃ D, sameS la lb = D := ⟨_, rfl⟩
  have HD := Lib.hid hD
  clear hD
  have hDD : (D != D) = false := by cases D <;> rfl
  have jd := j2.trans ((belDrew w2).mono j2.size)
  have HS : Hid (∀ x, Below w2.drew.heap.size w2.drew x → x.cell? ⟨w.heap.size, 0, none⟩ = some (.slice a1 la.length c1) ∧ x.cell? ⟨g3, 0, none⟩ = some (.slice a2 lb.length c2)) := by
    intro x hx
    obtain ⟨u0, u1, _⟩ := HC.out _ (jd.trans (hx.mono jd.size))
    exact ⟨u0, u1⟩
  obtain ⟨q0, q1, _⟩ := HC.out _ j2
  go_upto_region 8 with fail
  clear q0 q1
  go_cut [6] (fun c wx => c = .bool D ∧ Below W.heap.size W wx)
  case first =>
    obtain ⟨p0, p1, pa, pb, _⟩ := HC.out _ jd
    go_region_held3 (fun x => x.cell? ⟨w.heap.size, 0, none⟩ = some (.slice a1 la.length c1) ∧ x.cell? ⟨g3, 0, none⟩ = some (.slice a2 lb.length c2))
      (first | go_keep | (exact HS.out _ kX) | (exact HS.out _ kY) | (exact HS.out _ kZ))
      (first
        | (go_at_call 8; refine (toState_any lb _ _ ((HC.out _ (jd.trans (kX.mono jd.size))).2.2.2.1) (by omega) HMB.out).mono ?_; rintro e wY ⟨v2, hs2, rfl, S2, kY'⟩; have kY := kX.trans (kY'.mono kX.size))
        | (go_at_call 8; refine (toState_any la _ _ pa (by omega) HMA.out).mono ?_; rintro e wX ⟨v1, hs1, rfl, S1, kX⟩)
        | (go_at_call 15; refine (specSameState_any la lb _ _ _ (S1.later kY').rd S2.rd (by omega) HMA'.out HMB'.out).mono ?_; rintro e wZ ⟨rfl, kZ'⟩; rw [HD.out]; have kZ := kY.trans (kZ'.mono kY.size)))
    all_goals
      go_wp2_with fail
      go_meet
      exact ⟨rfl, jd.trans (kZ.mono jd.size)⟩
  case rest =>
    obtain ⟨rfl, j3⟩ := hcut
    clear j2 jd HS
    obtain ⟨q0, q1, pa, _, _⟩ := HC.out _ j3
    go_wp2_with fail
    clear q0 q1
    refine (toState_any la _ _ pa (by omega) HMA.out).mono ?_
    rintro e w4 ⟨v4, hs4, rfl, S4, k4⟩
    obtain ⟨p4, c4, rfl⟩ := S4.row.form
    have j4 := j3.trans (k4.mono j3.size)
    have X7 := Box.new w4 #[.slice p4 hs4.length c4] 33
    have k5 := belNew w4 (.cells #[.slice p4 hs4.length c4] 33)
    have j5 := j4.trans (k5.mono j4.size)
    have R4 := S4.rd.later k5
    obtain ⟨q0, q1, _, pb, _⟩ := HC.out _ j5
    clear S4 k4 k5 j3 j4 pa
    go_wp2_with fail
    clear q0 q1
    generalize w4.alloc (.cells #[.slice p4 hs4.length c4] 33) = w5 at X7 j5 R4 pb ⊢
    generalize w4.heap.size = g7 at X7 ⊢
    refine (toState_any lb _ _ pb (by omega) HMB.out).mono ?_
    rintro e w6 ⟨v6, hs6, rfl, S6, k6⟩
    obtain ⟨p6, c6, rfl⟩ := S6.row.form
    have j6 := j5.trans (k6.mono j5.size)
    have X8 := Box.new w6 #[.slice p6 hs6.length c6] 33
    have k7 := belNew w6 (.cells #[.slice p6 hs6.length c6] 33)
    have j7 := j6.trans (k7.mono j6.size)
    have R6 := S6.rd.later k7
    replace R4 := (R4.later k6).later k7
    replace X7 := (X7.later k6).later k7
    have y7 := X7.cell 0 _ rfl
    have y8 := X8.cell 0 _ rfl
    clear S6 k6 k7 j5 j6 pb
    go_wp2_with fail
    clear y7 y8
    generalize w6.alloc (.cells #[.slice p6 hs6.length c6] 33) = w7 at X7 X8 j7 R4 R6 ⊢
    generalize w6.heap.size = g8 at X8 ⊢
    refine (implSameState_any la lb _ _ _ R4 R6 (by omega) HMA'.out).mono ?_
    rintro e w8 ⟨rfl, k8⟩
    rw [HD.out]
    have j8 := j7.trans (k8.mono j7.size)
    replace R4 := R4.later k8
    replace R6 := R6.later k8
    replace X7 := X7.later k8
    replace X8 := X8.later k8
    clear j7 k8
    have jd := j8.trans ((belDrew w8).mono j8.size)
    have HS : Hid (∀ x, Below w8.drew.heap.size w8.drew x → (x.cell? ⟨w.heap.size, 0, none⟩ = some (.slice a1 la.length c1) ∧ x.cell? ⟨g7, 0, none⟩ = some (.slice p4 hs4.length c4)) ∧ BRd x (.slice p4 hs4.length c4) la ∧ Below W.heap.size W x) := by
      intro x hx
      have hx2 : Below w8.heap.size w8 x := (belDrew w8).trans hx
      obtain ⟨u0, _⟩ := HC.out _ (jd.trans (hx.mono jd.size))
      exact ⟨⟨u0, (X7.later hx2).cell 0 _ rfl⟩, R4.later hx2, jd.trans (hx.mono jd.size)⟩
    have HY : Hid (∀ x, Below w8.heap.size w8 x → Box x g8 #[.slice p6 hs6.length c6] 33 ∧ BRd x (.slice p6 hs6.length c6) lb) := fun x hx => ⟨X8.later hx, R6.later hx⟩
    obtain ⟨q0, _⟩ := HC.out _ j8
    have y7 := X7.cell 0 _ rfl
    clear X7 X8 R4 R6
    go_upto_region 14 with fail
    clear q0 y7
    go_cut [39] (fun c wx => c = .bool false ∧ Below w8.heap.size w8 wx)
    case first =>
      obtain ⟨p0, _, pa, _, _⟩ := HC.out _ jd
      obtain ⟨⟨_, y7⟩, _⟩ := HS.out _ (Below.refl _ _)
      go_region_held3 (fun x => x.cell? ⟨w.heap.size, 0, none⟩ = some (.slice a1 la.length c1) ∧ x.cell? ⟨g7, 0, none⟩ = some (.slice p4 hs4.length c4))
        (first | go_keep | (exact (HS.out _ kX).1) | (exact (HS.out _ kY).1))
        (first
          | (go_at_call 8; refine (toState_any la _ _ pa (by omega) HMA.out).mono ?_; rintro e wX ⟨v1, hs1, rfl, S1, kX⟩)
          | (go_at_call 11; refine (eqState_same la _ _ _ (HS.out _ kX).2.1 S1.rd (by omega) HMA'.out).mono ?_; rintro e wY ⟨rfl, kY'⟩; have kY := kX.trans (kY'.mono kX.size)))
      all_goals
        go_wp2_with fail
        go_meet
        exact ⟨rfl, (belDrew w8).trans kY⟩
    case rest =>
      obtain ⟨rfl, k9⟩ := hcut
      clear HS jd
      have j9 := j8.trans (k9.mono j8.size)
      obtain ⟨X8, R6⟩ := HY.out _ k9
      clear j8 k9 HY
      have jd := j9.trans ((belDrew _).mono j9.size)
      have HS := (fun (y : World) (jy : Below W.heap.size W y) (X : Box y g8 #[.slice p6 hs6.length c6] 33) (R : BRd y (.slice p6 hs6.length c6) lb) => (show Hid (∀ x, Below y.drew.heap.size y.drew x → (x.cell? ⟨g3, 0, none⟩ = some (.slice a2 lb.length c2) ∧ x.cell? ⟨g8, 0, none⟩ = some (.slice p6 hs6.length c6)) ∧ BRd x (.slice p6 hs6.length c6) lb ∧ Below w.heap.size w x) from fun x hx => by
        have hx2 : Below y.heap.size y x := (belDrew y).trans hx
        obtain ⟨_, u0, _, _, ub⟩ := HC.out _ (jy.trans (hx2.mono jy.size))
        exact ⟨⟨u0, (X.later hx2).cell 0 _ rfl⟩, R.later hx2, ub⟩)) _ j9 X8 R6
      obtain ⟨_, q0, _⟩ := HC.out _ j9
      have y7 := X8.cell 0 _ rfl
      clear X8 R6
      go_upto_region 16 with fail
      clear q0 y7
      obtain ⟨_, p0, _, pb, _⟩ := HC.out _ jd
      obtain ⟨⟨_, y7⟩, _⟩ := HS.out _ (Below.refl _ _)
      go_region_held3 (fun x => x.cell? ⟨g3, 0, none⟩ = some (.slice a2 lb.length c2) ∧ x.cell? ⟨g8, 0, none⟩ = some (.slice p6 hs6.length c6))
        (first | go_keep | (exact (HS.out _ kX).1) | (exact (HS.out _ kY).1))
        (first
          | (go_at_call 8; refine (toState_any lb _ _ pb (by omega) HMB.out).mono ?_; rintro e wX ⟨v1, hs1, rfl, S1, kX⟩)
          | (go_at_call 11; refine (eqState_same lb _ _ _ (HS.out _ kX).2.1 S1.rd (by omega) HMB'.out).mono ?_; rintro e wY ⟨rfl, kY'⟩; have kY := kX.trans (kY'.mono kX.size)))
      all_goals
        obtain ⟨_, _, bE⟩ := HS.out _ kY
        go_wp2
        go_ret
        exact ⟨rfl, bE⟩

theorem FnExactSameState_own : ownKnob Try.prog.godebug = none := by kernel_rfl

set_option maxRecDepth 100000 in
theorem FnExactSameState_lifted (os : Os) (started : os.Started) (H : Type) (enc : TypeId × Value → H) :
    ReturnsInHanded {} Try.checked os 4 .any (Rows.fnExactSameStateSpec.pre6 enc Try.prog Try.f4 Rows.fnExactSameStateRow.domain false) (Rows.fnExactSameStateSpec.post enc Try.prog Try.f4 false true false false) := by
  refine returnsInHanded_of_change (C := Try.checked) FnExactSameState_own started (by kernel_rfl) Try.func4
    (ChangeSpec.witness6 (enc := enc) (C := Try.checked) false ⟨#[], #[.agg #[.slice none 0 0], .agg #[.slice none 0 0]], []⟩ 8 (by kernel_rfl) (by kernel_rfl) (by kernel_rfl) (by kernel_rfl)) ?_
  intro W base args ds gs before hval0 hW hcnd _
  have hval : ∀ (j : Nat) t v, Try.f4.params[j]? = some t → args[j]? = some v → Value.okWide Try.prog W .any base t v := hval0
  have hW' := hW
  obtain ⟨p, q, hA0, hV, rfl, hfz, hnd⟩ := hW
  have hA : DataW.TrodAll enc Try.prog W 0 (fun _ => true) true Try.f4.params.toList args.toList ds p := hA0
  rw [Try.params4] at hA hval
  obtain ⟨v0, vs0, d0, ds0, p0, q0, hargs, rfl, rfl, h0, r0⟩ := trodAll_cons hA
  obtain ⟨v1, vs1, d1, ds1, p1, q1, rfl, rfl, rfl, h1, r1⟩ := trodAll_cons r0
  obtain ⟨rfl, rfl, rfl⟩ := trodAll_nil r1
  obtain rfl : args = #[v0, v1] := by cases args; simp_all
  obtain ⟨rfl, rfl⟩ := trodVars_none hV
  have k0 := h0
  have lt0 : ∀ x ∈ p0, x.block < W.heap.size := by obtain ⟨m, hm⟩ := k0; exact DataW.trod_lt m _ _ _ hm
  obtain ⟨D0, w0⟩ := open_State (hval 0 24 v0 rfl rfl) h0
  have k1 := h1
  have lt1 : ∀ x ∈ p1, x.block < W.heap.size := by obtain ⟨m, hm⟩ := k1; exact DataW.trod_lt m _ _ _ hm
  obtain ⟨D1, w1⟩ := open_State (hval 1 24 v1 rfl rfl) h1
  clear hA0 hval0
  simp only [List.append_nil] at hW'
  refine (walk_FnExactSameState v0 D0 v1 D1 w0 w1 (w := W)).mono fun e W' ⟨he, bel⟩ => ?_
  subst he
  exact ⟨_, rfl, _, _, _, [], _, [], hW', trodAll_mk1 (shut_bool Try.underlying4 _), (trodAll_cons_mk (Below.trod (show laidOutB Try.prog = true by kernel_rfl) (by kernel_rfl) (of_decide_eq_true (by kernel_rfl)) k0 bel lt0) (trodAll_cons_mk (Below.trod (show laidOutB Try.prog = true by kernel_rfl) (by kernel_rfl) (of_decide_eq_true (by kernel_rfl)) k1 bel lt1) trodAll_mk0)), rfl, bel.frame _, fun h => by cases h⟩

/-- The given statement. -/
theorem fnExactSameState_holds : Rows.FnExactSameStateSaid :=
  OpenClaim.holds_of_wide 4 Try.f4 rfl rfl rfl rfl rfl rfl rfl ⟨rfl, rfl, rfl, rfl, rfl⟩ rfl rfl rfl rfl rfl (by kernel_rfl) Try.func4 (by kernel_rfl)
    (of_decide_eq_true (by kernel_rfl)) (by unfold Func.isWrapper; first | (rw [if_pos (by decide +kernel)]; kernel_rfl) | (rw [if_neg (by decide +kernel)]; exact ⟨rfl, rfl⟩))
    (fun os started H enc _ => FnExactSameState_lifted os started H enc)
#print axioms fnExactSameState_holds

end Go.Proofs.Ythlbokfajiahpac
