/- For every code: the program and the model say the same of whatever list of items, of whatever two states, and of whatever state; and what comes after is never less than one. No condition. -/
import Derived.Test.YtgdkndlkapmhjaaJl
import Derived.Test.YtgdkndlkapmhjaaJq
import Derived.Test.YtgdkndlkapmhjaaJn
import Derived.Test.YtgdkndlkapmhjaaJp
import Derived.Test.YtgdkndlkapmhjaaJr
import Derived.Test.YtgdkndlkapmhjaaJs
import Derived.ProofKit
import Derived.OpenShut
import Derived.ShutString
import Derived.ChangeOld
import Derived.Below
import Derived.Deep.RegionHeld3
namespace Go.Proofs.Ytgdkndlkapmhjaa
open Go.ChangeShapes Go.WideShapes Go.ChangeAt Go.RowKit
open Go.ChangeMaps (open_string shut_string)
set_option linter.unusedVariables false

theorem bigS_any (a : Option Addr) (len cap : Nat) (w : World) :
    Calls Try.prog 4 #[.slice a len cap] w fun e w' => e = .returned (.bool (decide ((1048576 : Int) < (len : Int)))) ∧ w = w' := by
  go_enter Try.func4, Try.ntmps4
  go_wp2
  go_ret
  exact ⟨rfl, rfl⟩

theorem BRd.empty (w : World) : BRd w (.slice none 0 0) [] := ⟨[], Or.inl ⟨rfl, none, 0, rfl⟩, rfl, fun j x b h _ => by cases h⟩

set_option maxRecDepth 100000 in
set_option maxHeartbeats 8000000 in
theorem walk_FnStatesTold (a : Option Addr) (len cap : Nat) {w : World} (hcode : CodeIn w a len) :
    Calls Try.prog 3 #[.slice a len cap] w fun e w' => e = .returned (.bool true) ∧ Below w.heap.size w w' := by
  by_cases hbig : (1048576 : Int) < (len : Int)
  · go_enter Try.func3, Try.ntmps3
    go_wp2_with (go_at_call 4; refine (bigS_any a len cap _).mono ?_; rintro e w1 ⟨rfl, rfl⟩; rw [decide_eq_true hbig])
    go_ret
    exact ⟨rfl, Below.refl _ _⟩
  have hlen : len ≤ 1048576 := by omega
  have HNB : Hid (decide ((1048576 : Int) < (len : Int)) = false) := decide_eq_false hbig
  have HCD := Lib.hid hcode
  clear hcode
  go_enter Try.func3, Try.ntmps3
  go_wp2_with fail
  refine (bigS_any a len cap _).mono ?_
  rintro e w0 ⟨rfl, rfl⟩
  rw [HNB.out]
  go_wp2_with fail
  refine (drawStateOf_any a len cap _ HCD.out hlen).mono ?_
  rintro e w1 ⟨l, v1, hD, rfl, R1, b1⟩
  have HD := Lib.hid hD
  have hll := hD.1
  obtain ⟨a1, c1, rfl, -⟩ := R1.items
  clear hD
  go_wp2_with fail
  refine (drawSameState_any a len cap _ (HCD.out.later b1) hlen).mono ?_
  rintro e w2 ⟨ps, qs, va, vb, hP, hQ, rfl, RA, RB, k2⟩
  obtain ⟨ap, cp, rfl, -⟩ := RA.boxes
  obtain ⟨aq, cq, rfl, -⟩ := RB.boxes
  have b2 := b1.trans (k2.mono b1.size)
  have R2 := R1.later k2
  have HP := Lib.hid hP
  have HQ := Lib.hid hQ
  clear hP hQ k2 R1
  go_wp2_with fail
  have XA := Box.new w2 #[.slice ap ps.length cp] 28
  have kA := belNew w2 (.cells #[.slice ap ps.length cp] 28)
  have XB := Box.new (w2.alloc (.cells #[.slice ap ps.length cp] 28)) #[.slice aq qs.length cq] 28
  have kB := belNew (w2.alloc (.cells #[.slice ap ps.length cp] 28)) (.cells #[.slice aq qs.length cq] 28)
  rw [show (w2.alloc (.cells #[.slice ap ps.length cp] 28)).heap.size = w2.heap.size + 1 by simp] at XB
  have k3 := kA.trans (kB.mono kA.size)
  have XA3 := XA.later kB
  have b3 := b2.trans (k3.mono b2.size)
  have RA3 := RA.later k3
  have RB3 := RB.later k3
  have R3 := R2.later k3
  clear XA kA kB k3 RA RB R2 b1 b2
  generalize (w2.alloc (.cells #[.slice ap ps.length cp] 28)).alloc (.cells #[.slice aq qs.length cq] 28) = w3 at XA3 XB RA3 RB3 R3 b3 ⊢
  obtain ⟨gA, hgA⟩ : ∃ gA, w2.heap.size = gA := ⟨_, rfl⟩
  rw [hgA] at XA3 XB ⊢
  clear hgA
  refine (drawStateOk_any a len cap _ (HCD.out.later b3) hlen).mono ?_
  rintro e w4 ⟨ss, vs, hS, rfl, RS, k4⟩
  obtain ⟨aS, cs, rfl, -⟩ := RS.boxes
  have HS := Lib.hid hS
  clear hS
  have XS := Box.new w4 #[.slice aS ss.length cs] 28
  have kS := belNew w4 (.cells #[.slice aS ss.length cs] 28)
  have k5 := k4.trans (kS.mono k4.size)
  have XA5 := XA3.later k5
  have XB5 := XB.later k5
  have b5 := b3.trans (k5.mono b3.size)
  have RA5 := RA3.later k5
  have RB5 := RB3.later k5
  have RS5 := RS.later kS
  have R5 := R3.later k5
  clear XA3 XB b3 RA3 RB3 RS R3 k4 kS k5
  go_wp2_with fail
  generalize w4.alloc (.cells #[.slice aS ss.length cs] 28) = w5 at XS XA5 XB5 b5 RA5 RB5 RS5 R5 ⊢
  obtain ⟨gS, hgS⟩ : ∃ gS, w4.heap.size = gS := ⟨_, rfl⟩
  rw [hgS] at XS ⊢
  clear hgS
  have HSZ : Hid (∀ x ∈ l, x.2.user.size ≤ 1099511627776 ∧ x.2.name.size ≤ 1099511627776 ∧ x.2.text.size ≤ 1099511627776) := fun x hx => by have h8 := (HD.out.2 x hx).1; unfold Rc.slim at h8; omega
  have HVA : Hid (∀ x ∈ l, 0 ≤ x.2.valid ∧ x.2.valid ≤ 10000) := fun x hx => (HD.out.2 x hx).2
  refine (implStateOf_any l (by omega) _ _ R5).mono ?_
  rintro e w6 ⟨bv, hs, rfl, SO, k6⟩
  obtain ⟨aT, ct, rfl⟩ := SO.row.form
  have HSL := Lib.hid SO.len
  have XT := Box.new w6 #[.slice aT hs.length ct] 28
  have kT := belNew w6 (.cells #[.slice aT hs.length ct] 28)
  have k7 := k6.trans (kT.mono k6.size)
  have XA7 := XA5.later k7
  have XB7 := XB5.later k7
  have XS7 := XS.later k7
  have b7 := b5.trans (k7.mono b5.size)
  have RA7 := RA5.later k7
  have RB7 := RB5.later k7
  have RS7 := RS5.later k7
  have RT7 := SO.rd.later kT
  have R7 := R5.later k7
  clear XA5 XB5 XS b5 RA5 RB5 RS5 R5 SO k6 kT k7
  go_upto_region 7 with fail
  generalize w6.alloc (.cells #[.slice aT hs.length ct] 28) = wG at XA7 XB7 XS7 XT b7 RA7 RB7 RS7 RT7 R7 ⊢
  generalize w6.heap.size = gT at XT ⊢
  have HY : Hid (∀ Y, Below wG.heap.size wG Y → (Y.cell? ⟨gA, 0, none⟩ = some (.slice ap ps.length cp) ∧ Y.cell? ⟨gA + 1, 0, none⟩ = some (.slice aq qs.length cq) ∧ Y.cell? ⟨gS, 0, none⟩ = some (.slice aS ss.length cs) ∧ Y.cell? ⟨gT, 0, none⟩ = some (.slice aT hs.length ct)) ∧
      (Rows' itE Y (.slice a1 l.length c1) l ∧ BRd Y (.slice ap ps.length cp) ps ∧ BRd Y (.slice aq qs.length cq) qs ∧ BRd Y (.slice aS ss.length cs) ss ∧ BRd Y (.slice aT hs.length ct) (stateL l)) ∧ Below w.heap.size w Y) := fun Y hY =>
    ⟨⟨(XA7.later hY).cell 0 _ rfl, (XB7.later hY).cell 0 _ rfl, (XS7.later hY).cell 0 _ rfl, (XT.later hY).cell 0 _ rfl⟩, ⟨R7.later hY, RA7.later hY, RB7.later hY, RS7.later hY, RT7.later hY⟩, b7.trans (hY.mono b7.size)⟩
  have hss := stateL_small l
  have HMS : Hid ((stateL l).length ≤ 1099511627776 ∧ ∀ b ∈ stateL l, b.mails.length ≤ 1099511627776) := ⟨by omega, fun b hb => by have := hss.2 b hb; omega⟩
  have HMP : Hid (ps.length ≤ 1099511627776 ∧ ∀ b ∈ ps, b.mails.length ≤ 1099511627776) := ⟨by have := HP.out.1; omega, fun b hb => by have := HP.out.2 b hb; omega⟩
  have HMQ : Hid (∀ b ∈ qs, b.mails.length ≤ 1099511627776) := fun b hb => by have := HQ.out.2 b hb; omega
  have HMO : Hid (ss.length ≤ 1048576 ∧ ∀ b ∈ ss, b.mails.length ≤ 1048576 ∧ b.user.size ≤ 1099511627776 ∧ b.name.size ≤ 1099511627776) := ⟨by have := HS.out.1; omega, fun b hb => by have := HS.out.2 b hb; omega⟩
  have HTR : Hid (sameS (stateL l) (stateL l) = true) := sameS_yes rfl
  have HTP : Hid (sameS ps ps = true) := sameS_yes rfl
  have HT0 : Hid (stB [] = true) := stB_all fun i hi => by simp at hi
  obtain ⟨q1, hq1⟩ : ∃ q, decide (itemsOk l) = q := ⟨_, rfl⟩
  have HQ1 := Lib.hid hq1
  obtain ⟨q2, hq2⟩ : ∃ q, sameS ps qs = q := ⟨_, rfl⟩
  have HQ2 := Lib.hid hq2
  obtain ⟨q3, hq3⟩ : ∃ q, stB ss = q := ⟨_, rfl⟩
  have HQ3 := Lib.hid hq3
  have HLL := Lib.hid hll
  clear hq1 hq2 hq3 hss hll XA7 XB7 XS7 XT b7 RA7 RB7 RS7 RT7 R7
  have e1 : (q1 == q1) = true := by simp
  have e2 : (q2 == q2) = true := by simp
  have e3 : (q3 == q3) = true := by simp
  have kk : Below wG.heap.size wG wG.drew := (Below.refl _ _).drew
  obtain ⟨m1, m2, m3, m4⟩ := (HY.out _ kk).1
  go_region_held3 (fun Y => (Y.cell? ⟨gA, 0, none⟩ = some (.slice ap ps.length cp) ∧ Y.cell? ⟨gA + 1, 0, none⟩ = some (.slice aq qs.length cq) ∧ Y.cell? ⟨gS, 0, none⟩ = some (.slice aS ss.length cs) ∧ Y.cell? ⟨gT, 0, none⟩ = some (.slice aT hs.length ct)))
    (first | exact (HY.out _ kk).1)
    (first
      | (go_at_call 9; obtain ⟨_, ⟨y1, _, _, _, _⟩, _⟩ := HY.out _ kk; refine (implItemsOk_any l _ _ y1 (by have := HLL.out; omega)).mono ?_; rintro e wX ⟨rfl, kX⟩; rw [HQ1.out]; have kk := kk.trans (kX.mono kk.size); clear y1 kX)
      | (go_at_call 10; obtain ⟨_, ⟨y1, _, _, _, _⟩, _⟩ := HY.out _ kk; refine (specItemsOk_any l _ _ y1 (by have := HLL.out; omega) HSZ.out).mono ?_; rintro e wX ⟨rfl, kX⟩; rw [HQ1.out]; have kk := kk.trans (kX.mono kk.size); clear y1 kX)
      | (go_at_call 12; obtain ⟨_, ⟨y1, _, _, _, _⟩, _⟩ := HY.out _ kk; refine (specStateOf_any l _ _ y1 (by have := HLL.out; omega) HSZ.out).mono ?_; rintro e wX ⟨bvO, hsO, rfl, oO, kX⟩; have rO := Lib.hid oO.rd; have kk := kk.trans (kX.mono kk.size); clear y1 kX oO)
      | (go_at_call 11; have hh := tA; obtain ⟨_, ⟨_, y2, y3, _, _⟩, _⟩ := HY.out _ kk; refine (specSameState_any ps qs _ _ _ y2 y3 HMP.out.1 HMP.out.2 HMQ.out).mono ?_; rintro e wX ⟨rfl, kX⟩; rw [HQ2.out]; have kk := kk.trans (kX.mono kk.size); have tB : True := trivial; clear y2 y3 kX hh)
      | (go_at_call 11; have hh := rO.out; obtain ⟨_, ⟨_, _, _, _, y5⟩, _⟩ := HY.out _ kk; refine (specSameState_any (stateL l) (stateL l) _ _ _ y5 hh HMS.out.1 HMS.out.2 HMS.out.2).mono ?_; rintro e wX ⟨rfl, kX⟩; rw [HTR.out]; have kk := kk.trans (kX.mono kk.size); clear y5 kX hh)
      | (go_at_call 13; have hh := tB; obtain ⟨_, ⟨_, y2, _, _, _⟩, _⟩ := HY.out _ kk; refine (implSameState_any ps ps _ _ _ y2 y2 HMP.out.1 HMP.out.2).mono ?_; rintro e wX ⟨rfl, kX⟩; rw [HTP.out]; have kk := kk.trans (kX.mono kk.size); clear y2 kX hh)
      | (go_at_call 13; obtain ⟨_, ⟨_, y2, y3, _, _⟩, _⟩ := HY.out _ kk; refine (implSameState_any ps qs _ _ _ y2 y3 HMP.out.1 HMP.out.2).mono ?_; rintro e wX ⟨rfl, kX⟩; rw [HQ2.out]; have kk := kk.trans (kX.mono kk.size); have tA : True := trivial; clear y2 y3 kX)
      | (go_at_call 14; have hh := tC; refine (implStateOk_any [] _ _ (BRd.empty _) (by simp) (fun b hb => by cases hb)).mono ?_; rintro e wX ⟨rfl, kX⟩; rw [HT0.out]; have kk := kk.trans (kX.mono kk.size); clear kX hh)
      | (go_at_call 14; obtain ⟨_, ⟨_, _, _, y4, _⟩, _⟩ := HY.out _ kk; refine (implStateOk_any ss _ _ y4 HMO.out.1 HMO.out.2).mono ?_; rintro e wX ⟨rfl, kX⟩; rw [HQ3.out]; have kk := kk.trans (kX.mono kk.size); clear y4 kX)
      | (go_at_call 15; obtain ⟨_, ⟨_, _, _, y4, _⟩, _⟩ := HY.out _ kk; refine (specStateOk_any ss _ _ y4 HMO.out.1 HMO.out.2).mono ?_; rintro e wX ⟨rfl, kX⟩; rw [HQ3.out]; have kk := kk.trans (kX.mono kk.size); have tC : True := trivial; clear y4 kX)
      | (go_at_call 16; obtain ⟨_, ⟨y1, _, _, _, _⟩, _⟩ := HY.out _ kk; refine (implValidAfter_one l _ _ y1 (by have := HLL.out; omega) HVA.out).mono ?_; rintro e wX ⟨⟨r, rfl, hr⟩, kX⟩; have kk := kk.trans (kX.mono kk.size); clear y1 kX))
  all_goals
    have bE := (HY.out _ kk).2.2
    go_wp2
    go_ret
    exact ⟨rfl, bE⟩

theorem FnStatesTold_own : ownKnob Try.prog.godebug = none := by kernel_rfl

set_option maxRecDepth 100000 in
theorem FnStatesTold_lifted (os : Os) (started : os.Started) (H : Type) (enc : TypeId × Value → H) :
    ReturnsInHanded {} Try.checked os 3 .any (Rows.fnStatesToldSpec.pre6 enc Try.prog Try.f3 Rows.fnStatesToldRow.domain false) (Rows.fnStatesToldSpec.post enc Try.prog Try.f3 false true false false) := by
  refine returnsInHanded_of_change (C := Try.checked) FnStatesTold_own started (by kernel_rfl) Try.func3
    (ChangeSpec.witness6 (enc := enc) (C := Try.checked) false ⟨#[], #[.slice none 0 0], []⟩ 8 (by kernel_rfl) (by kernel_rfl) (by kernel_rfl) (by kernel_rfl)) ?_
  intro W base args ds gs before hval0 hW hcnd _
  have hval : ∀ (j : Nat) t v, Try.f3.params[j]? = some t → args[j]? = some v → Value.okWide Try.prog W .any base t v := hval0
  have hW' := hW
  obtain ⟨p, q, hA0, hV, rfl, hfz, hnd⟩ := hW
  have hA : DataW.TrodAll enc Try.prog W 0 (fun _ => true) true Try.f3.params.toList args.toList ds p := hA0
  rw [Try.params3] at hA hval
  obtain ⟨v0, vs0, d0, ds0, p0, q0, hargs, rfl, rfl, h0, r0⟩ := trodAll_cons hA
  obtain ⟨rfl, rfl, rfl⟩ := trodAll_nil r0
  obtain rfl : args = #[v0] := by cases args; simp_all
  obtain ⟨rfl, rfl⟩ := trodVars_none hV
  obtain ⟨a0, len0, cap0, rfl⟩ := okWide_slice Try.underlying22 (hval 0 22 v0 rfl rfl)
  have k0 := h0
  have lt0 : ∀ x ∈ p0, x.block < W.heap.size := by obtain ⟨m, hm⟩ := k0; exact DataW.trod_lt m _ _ _ hm
  have w0 : CodeIn W a0 len0 := by
    obtain ⟨fuel, hf⟩ := h0
    rcases open_ints Try.underlying22 Try.underlying5 (by kernel_rfl) hf with ⟨hcs, _⟩ | ⟨x, l, c, zs, hcs, _, hl, hm, hz, _, hcell, hwz⟩
    · simp [Value.cells] at hcs
      obtain ⟨rfl, rfl, rfl⟩ := hcs
      intro i hi; omega
    · simp [Value.cells] at hcs
      obtain ⟨rfl, rfl, rfl⟩ := hcs
      exact codeIn_of_row hl (by simpa using hz) hcell hwz
  clear hA0 hval0
  simp only [List.append_nil] at hW'
  refine (walk_FnStatesTold a0 len0 cap0 w0 (w := W)).mono fun e W' ⟨he, bel⟩ => ?_
  subst he
  exact ⟨_, rfl, _, _, _, [], _, [], hW', trodAll_mk1 (shut_bool Try.underlying4 _), (trodAll_cons_mk (Below.trod (show laidOutB Try.prog = true by kernel_rfl) (by kernel_rfl) (of_decide_eq_true (by kernel_rfl)) k0 bel lt0) trodAll_mk0), rfl, bel.frame _, fun h => by cases h⟩

/-- The given statement. -/
theorem fnStatesTold_holds : Rows.FnStatesToldSaid :=
  OpenClaim.holds_of_wide 3 Try.f3 rfl rfl rfl rfl rfl rfl rfl ⟨rfl, rfl, rfl, rfl, rfl⟩ rfl rfl rfl rfl rfl (by kernel_rfl) Try.func3 (by kernel_rfl)
    (of_decide_eq_true (by kernel_rfl)) (by unfold Func.isWrapper; first | (rw [if_pos (by decide +kernel)]; kernel_rfl) | (rw [if_neg (by decide +kernel)]; exact ⟨rfl, rfl⟩))
    (fun os started H enc _ => FnStatesTold_lifted os started H enc)
#print axioms fnStatesTold_holds


end Go.Proofs.Ytgdkndlkapmhjaa
