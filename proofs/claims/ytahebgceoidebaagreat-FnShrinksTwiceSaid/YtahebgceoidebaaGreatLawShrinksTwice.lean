/- For every code: what was shrunk is shrunk again, part by part, and tells the same; Needed tells of each item what NeededAll tells; what is needed and what is not is all; nothing that was there is changed. No condition. -/
import Derived.Test.YtahebgceoidebaaGreatJp
import Derived.Test.YtahebgceoidebaaGreatJr
import Derived.Test.YtahebgceoidebaaGreatJs
import Derived.Test.YtahebgceoidebaaGreatJu
import Derived.Test.YtahebgceoidebaaGreatJi
import Derived.ProofKit
import Derived.OpenShut
import Derived.ShutString
import Derived.ChangeOld
import Derived.Below
import Derived.Deep.RegionHeld3
namespace Go.Proofs.YtahebgceoidebaaGreat
open Go.ChangeShapes Go.WideShapes Go.ChangeAt Go.RowKit
open Go.ChangeMaps (open_string shut_string)
set_option linter.unusedVariables false

theorem bigS_any (a : Option Addr) (len cap : Nat) (w : World) :
    Calls Tryz.prog 6 #[.slice a len cap] w fun e w' => e = .returned (.bool (decide ((1048576 : Int) < (len : Int)))) ∧ w = w' := by
  go_enter Tryz.func6, Tryz.ntmps6
  go_wp2
  go_ret
  exact ⟨rfl, rfl⟩

/-- The texts of what is shrunk are short. -/
theorem shr_texts {l : List Itm} {d : List Bool} {seq : Int} (ok : itemsOk (shr l d seq)) : ∀ x ∈ shr l d seq, x.2.user.size ≤ 1048576 ∧ x.2.name.size ≤ 1048576 ∧ x.2.text.size ≤ 1048576 := fun x hx => by
  obtain ⟨_, _, _, _, _, h6, h7, h8⟩ := Rc.ok_small (ok.1 x hx).2
  exact ⟨by omega, by omega, by omega⟩

set_option maxRecDepth 100000 in
set_option maxHeartbeats 8000000 in
theorem walk_FnShrinksTwice (a : Option Addr) (len cap : Nat) {w : World} (hcode : CodeIn w a len) :
    Calls Tryz.prog 4 #[.slice a len cap] w fun e w' => e = .returned (.bool true) ∧ Below w.heap.size w w' := by
  by_cases hbig : (1048576 : Int) < (len : Int)
  · go_enter Tryz.func4, Tryz.ntmps4
    go_wp2_with (go_at_call 6; refine (bigS_any a len cap _).mono ?_; rintro e w1 ⟨rfl, rfl⟩; rw [decide_eq_true hbig])
    go_ret
    exact ⟨rfl, Below.refl _ _⟩
  have hlen : len ≤ 1048576 := by omega
  have HNB : Hid (decide ((1048576 : Int) < (len : Int)) = false) := decide_eq_false hbig
  have HCD := Lib.hid hcode
  clear hcode
  go_enter Tryz.func4, Tryz.ntmps4
  go_wp2_with fail
  refine (bigS_any a len cap _).mono ?_
  rintro e w0 ⟨rfl, rfl⟩
  rw [HNB.out]
  go_wp2_with fail
  refine (drawItems_any a len cap _ HCD.out hlen).mono ?_
  rintro e w1 ⟨l, v1, hD, rfl, R1, _⟩
  obtain ⟨a1, c1, rfl⟩ := R1.form
  have b1 := R1.bel
  have hl23 := hD.2.1
  have HD := Lib.hid hD
  clear hD
  go_wp2_with fail
  refine (drawPlaces_any a len cap _ (HCD.out.later b1) hlen).mono ?_
  rintro e w2 ⟨P, v2, hP1, hP2, rfl, hib⟩
  obtain ⟨gp, cp, rfl, hcp, PR⟩ := places_row hP1 hP2 hib
  have k2 : Below w1.heap.size w1 w2 := hib.bel
  have b2 := b1.trans (k2.mono b1.size)
  have HPR := Lib.hid PR
  have R2 := R1.rows.later k2
  clear hP1 hP2 hib PR R1 k2 b1
  go_wp2_with fail
  refine (chosen_any l.length 12 gp 0 cp _ HPR.out (by omega) hcp (by omega) (by omega)).mono ?_
  rintro e w3 ⟨d, v3, hd, rfl, RD⟩
  obtain ⟨a3, c3, rfl⟩ := RD.form
  have b3 := b2.trans (RD.bel.mono b2.size)
  have R3 := R2.later RD.bel
  have hk24 : Below w2.heap.size w2 w3 := RD.bel
  have D3 := RD.rows
  have HLZ : Hid (∀ x ∈ l, x.2.user.size ≤ 1048576 ∧ x.2.name.size ≤ 1048576 ∧ x.2.text.size ≤ 1048576) := fun x hx => by
    obtain ⟨s1, s2, s3⟩ := HD.out.2.2.1 x hx
    exact ⟨by omega, by omega, by omega⟩
  have hT := tellAll_len l
  have HS1 : Hid (∀ x ∈ l, x.1 < 500) := fun x hx => by have := HD.out.2.2.2 x hx; omega
  obtain ⟨qa1, qa2, qa3, qa4⟩ := shr_right (d := d) (seq := 500) HD.out.1 HS1.out (by omega) (by omega) (by omega)
  have HQA := Lib.hid (And.intro qa1 (And.intro (shr_state (d := d) (seq := 500) HD.out.1 HS1.out (by omega) (by omega) (by omega)) (And.intro (shr_texts qa1) (And.intro qa2 qa3))))
  clear qa1 qa2 qa3 RD R2 b2 hd
  go_wp2_with fail
  refine (implShrunk_any l d 500 _ _ _ R3 D3 (by omega) HLZ.out).mono ?_
  rintro e w4 ⟨v4, rfl, RA⟩
  obtain ⟨QA, hQA⟩ : ∃ QA, shr l d 500 = QA := ⟨_, rfl⟩
  rw [hQA] at RA HQA qa4
  clear hQA
  obtain ⟨a4, c4, rfl⟩ := RA.form
  have b4 := b3.trans (RA.bel.mono b3.size)
  have R4 := R3.later RA.bel
  have D4 := D3.later RA.bel
  have A4 := RA.rows
  have P4 := (HPR.out.later (show Below w2.heap.size w2 w4 from hk24.trans (RA.bel.mono hk24.size))).tail 3
  have HEA : Hid (tellAll QA = tellAll l) := HQA.out.2.2.2.1
  have hTA : (tellAll QA).length ≤ 23 := by rw [HEA.out]; omega
  clear D4 R3 D3
  go_wp2_with fail
  refine (chosen_any QA.length 9 gp 3 (cp - 3) _ P4 (by omega) (by omega) (by omega) (by omega)).mono ?_
  rintro e w5 ⟨dB, v5, hdB, rfl, RD⟩
  obtain ⟨a5, c5, rfl⟩ := RD.form
  have k5 := RD.bel
  have A5 := A4.later k5
  have R5 := R4.later k5
  have b5 := b4.trans (k5.mono b4.size)
  obtain ⟨qb1, qb2, qb3, qb4⟩ := shr_right (l := QA) (d := dB) (seq := 600) HQA.out.1 (fun x hx => by have := HQA.out.2.2.2.2 x hx; omega) (by omega) (by omega) (by omega)
  have HQB := Lib.hid (And.intro qb1 (And.intro (shr_state (l := QA) (d := dB) (seq := 600) HQA.out.1 (fun x hx => by have := HQA.out.2.2.2.2 x hx; omega) (by omega) (by omega) (by omega)) (And.intro (shr_texts qb1) (And.intro qb2 qb3))))
  have P5 := (HPR.out.later (show Below w2.heap.size w2 w5 from (hk24.trans (RA.bel.mono hk24.size)).trans (k5.mono (hk24.trans (RA.bel.mono hk24.size)).size)))
  have hk25 : Below w2.heap.size w2 w5 := (hk24.trans (RA.bel.mono hk24.size)).trans (k5.mono (hk24.trans (RA.bel.mono hk24.size)).size)
  clear qb1 qb2 qb3 A4 R4 b4 P4 hdB
  go_wp2_with fail
  refine (implShrunk_any QA dB 600 _ _ _ A5 RD.rows (by omega) HQA.out.2.2.1).mono ?_
  rintro e w6 ⟨v6, rfl, RB⟩
  obtain ⟨QB, hQB⟩ : ∃ QB, shr QA dB 600 = QB := ⟨_, rfl⟩
  rw [hQB] at RB HQB qb4
  clear hQB
  obtain ⟨a6, c6, rfl⟩ := RB.form
  have k6 := RB.bel
  have R6 := R5.later k6
  have B6 := RB.rows
  have b6 := b5.trans (k6.mono b5.size)
  have P6 := (P5.later k6).tail 5
  have HEB : Hid (tellAll QB = tellAll l) := by show _ = _; rw [HQB.out.2.2.2.1, HEA.out]
  have HSB : Hid (stateL QB = stateL l) := by show _ = _; rw [HQB.out.2.1, HQA.out.2.1]
  have hTB : (tellAll QB).length ≤ 23 := by rw [HEB.out]; omega
  clear RD RA A5 R5 b5 P5 RB k5
  go_wp2_with fail
  refine (chosen_any QB.length 7 gp 5 (cp - 5) _ P6 (by omega) (by omega) (by omega) (by omega)).mono ?_
  rintro e w7 ⟨dC, v7, hdC, rfl, RD⟩
  obtain ⟨a7, c7, rfl⟩ := RD.form
  have k7 := RD.bel
  have B7 := B6.later k7
  have R7 := R6.later k7
  have b7 := b6.trans (k7.mono b6.size)
  obtain ⟨qc1, qc2, _, qc4⟩ := shr_right (l := QB) (d := dC) (seq := 700) HQB.out.1 (fun x hx => by have := HQB.out.2.2.2.2 x hx; omega) (by omega) (by omega) (by omega)
  have HQC := Lib.hid (And.intro qc1 (And.intro (shr_state (l := QB) (d := dC) (seq := 700) HQB.out.1 (fun x hx => by have := HQB.out.2.2.2.2 x hx; omega) (by omega) (by omega) (by omega)) (shr_texts qc1)))
  clear qc1 qc2 B6 R6 b6 P6 hdC
  go_wp2_with fail
  refine (implShrunk_any QB dC 700 _ _ _ B7 RD.rows (by omega) HQB.out.2.2.1).mono ?_
  rintro e w8 ⟨v8, rfl, RC⟩
  obtain ⟨QC, hQC⟩ : ∃ QC, shr QB dC 700 = QC := ⟨_, rfl⟩
  rw [hQC] at RC HQC qc4
  clear hQC
  obtain ⟨a8, c8, rfl⟩ := RC.form
  have k8 := RC.bel
  have R8 := R7.later k8
  have B8 := B7.later k8
  have C8 := RC.rows
  have b8 := b7.trans (k8.mono b7.size)
  have HSC : Hid (stateL QC = stateL l) := by show _ = _; rw [HQC.out.2.1, HSB.out]
  clear RD RC B7 R7 b7 k7
  go_wp2_with fail
  refine (specStateOf_any l _ _ R8 (by omega) (fun x hx => by have := HLZ.out x hx; omega)).mono ?_
  rintro e w9 ⟨bv, hs, rfl, SO, k9⟩
  obtain ⟨a9, c9, rfl⟩ := SO.row.form
  have XA := Box.new w9 #[.slice a9 hs.length c9] 33
  have kA := belNew w9 (.cells #[.slice a9 hs.length c9] 33)
  have SR := SO.rd.later kA
  have k9A := k9.trans (kA.mono k9.size)
  have RA := R8.later k9A
  have BA := B8.later k9A
  have CA := C8.later k9A
  have bA := b8.trans (k9A.mono b8.size)
  clear SO R8 B8 C8 b8 k9
  go_upto_region 9 with fail
  generalize w9.alloc (.cells #[.slice a9 hs.length c9] 33) = wA at XA SR RA BA CA bA ⊢
  generalize w9.heap.size = gS at XA ⊢
  clear kA k9A
  go_wp2_with fail
  refine (implNeededAll_any l _ _ RA (by omega)).mono ?_
  rintro e wB ⟨vB, rfl, RN⟩
  obtain ⟨aB, cB, rfl⟩ := RN.form
  have kB := RN.bel
  rw [needL_len] at RN ⊢
  have HK : Hid (∀ X, Below wB.heap.size wB X → X.cell? ⟨gS, 0, none⟩ = some (.slice a9 hs.length c9) ∧ (Rows' itE X (.slice a1 l.length c1) l ∧ Rows' itE X (.slice a6 QB.length c6) QB ∧ Rows' itE X (.slice a8 QC.length c8) QC ∧ BRd X (.slice a9 hs.length c9) (stateL l) ∧ Rows' boE X (.slice aB l.length cB) (needL l)) ∧ Below w.heap.size w X) := fun X hX => by
    have kX := kB.trans (hX.mono kB.size)
    exact ⟨(XA.later kX).cell 0 _ rfl, ⟨RA.later kX, BA.later kX, CA.later kX, SR.later kX, RN.rows.later hX⟩, bA.trans (kX.mono bA.size)⟩
  have hss := stateL_small l
  have HMS : Hid ((stateL l).length ≤ 1099511627776 ∧ ∀ b ∈ stateL l, b.mails.length ≤ 1099511627776) := ⟨by omega, fun b hb => by have := hss.2 b hb; omega⟩
  have HTR : Hid (sameS (stateL l) (stateL l) = true) := sameS_yes rfl
  have HWB : Hid ((wo l (needL l)).length + (wo l ((needL l).map (!·))).length = l.length) := wo_both (needL_len l)
  have HNL := Lib.hid (needL_len l)
  have HN1 : Hid (QB.length ≤ 1000 ∧ QC.length ≤ 1000) := ⟨by omega, by omega⟩
  clear XA SR RA BA CA RN kB bA hss qa4 qb4 qc4 hTA hTB hT HPR
  obtain ⟨n, hn⟩ : ∃ n, l.length = n := ⟨_, rfl⟩
  rw [hn] at hl23 HK HNL HWB ⊢
  have HN := Lib.hid hn
  clear hn
  go_wp2
  go_loopw [10] (fun iv wr => ∃ i : Nat, i ≤ n ∧ iv = .int .i64 (i : Int) ∧ Below wB.heap.size wB wr) (fun iv _ => n - (intOf iv).toNat)
  case atStart => exact ⟨0, by omega, rfl, Below.refl _ _⟩
  case round =>
    obtain ⟨i, hi, rfl, bq⟩ := hrel
    by_cases hlt : i < n
    · obtain ⟨q, hq⟩ : ∃ q, (needL l)[i]? = some q := ⟨_, List.getElem?_eq_getElem (by rw [HNL.out]; exact hlt)⟩
      have kk : Below wB.heap.size wB wr.drew := bq.drew
      obtain ⟨ad3, cap3, e3, hr3⟩ := (HK.out _ (Below.refl _ _)).2.1.2.2.2.2.bools
      simp only [Value.slice.injEq] at e3
      rw [← e3.1] at hr3
      obtain ⟨g3, o3, rfl, p3⟩ := hr3 _ kk i q hq
      have HC : Hid (∀ X, Below wB.heap.size wB X → X.cell? ⟨g3, o3 + i, none⟩ = some (.bool q)) := fun X hX => by
        obtain ⟨g4, o4, e4, p4⟩ := hr3 X hX i q hq
        cases e4
        exact p4
      have HSQ : Hid (soB (needL l) (i : Int) = q) := by show _ = _; rw [soB_nat, hq]; cases q <;> rfl
      have hi0 : (0 : Int) ≤ (i : Int) := by omega
      have hi1 : (i : Int) < (n : Int) := by omega
      have hqq : (q == q) = true := by simp
      have hqn : (q != q) = false := by simp
      clear hr3 e3 hq
      go_upto_region 13 with fail
      go_region_held3 (fun Y => Y.cell? ⟨g3, o3 + i, none⟩ = some (.bool q))
        (first | exact HC.out _ kk)
        (first | (go_at_call 17; obtain ⟨_, ⟨y1, _⟩, _⟩ := HK.out _ kk; refine (implNeeded_e l _ (i : Int) _ y1 (by rw [HN.out]; omega) (by omega)).mono ?_; rintro e wX ⟨rfl, kX⟩; rw [HSQ.out]; have kk := kk.trans (kX.mono kk.size); clear y1 kX))
      all_goals
        have bE := kk
        go_wp2
        go_roundw
        case rel => exact ⟨i + 1, by omega, by go_num, bE⟩
        case measure => simp [intOf]; omega
    · have hge : ¬ (i : Int) < (n : Int) := by omega
      obtain ⟨wG, hwG⟩ : ∃ wG, wG = wr := ⟨_, rfl⟩
      subst hwG
      have hnn : ((n : Int) == (n : Int)) = true := by simp
      obtain ⟨n1, hn1⟩ : ∃ n1, (wo l (needL l)).length = n1 := ⟨_, rfl⟩
      obtain ⟨n2, hn2⟩ : ∃ n2, (wo l ((needL l).map (!·))).length = n2 := ⟨_, rfl⟩
      have H1 := Lib.hid hn1
      have H2 := Lib.hid hn2
      have hsum : IntKind.i64.wrap ((n1 : Int) + (n2 : Int)) = (n : Int) := by
        have h9 := HWB.out
        rw [hn1, hn2] at h9
        rw [show (n1 : Int) + (n2 : Int) = (n : Int) by omega]
        exact IntWalk.i64_in _ ⟨by omega, by omega⟩
      clear hn1 hn2
      have kk : Below wB.heap.size wB wG.drew := bq.drew
      have m0 := (HK.out _ kk).1
      go_upto_region 15 with fail
      go_region_held3 (fun Y => Y.cell? ⟨gS, 0, none⟩ = some (.slice a9 hs.length c9))
        (first | exact (HK.out _ kk).1)
        (first
          | (go_at_call 11; have hh := tA; obtain ⟨_, ⟨_, _, y3, _, _⟩, _⟩ := HK.out _ kk; refine (specStateOf_any QC _ _ y3 (by have := HN1.out; omega) (fun x hx => by have := HQC.out.2.2 x hx; omega)).mono ?_; rintro e wX ⟨bvB, hsB, rfl, oB, kX⟩; rw [HSC.out] at oB; have rB := Lib.hid oB.rd; have kk := kk.trans (kX.mono kk.size); clear y3 kX oB hh)
          | (go_at_call 11; obtain ⟨_, ⟨_, y2, _, _, _⟩, _⟩ := HK.out _ kk; refine (specStateOf_any QB _ _ y2 (by have := HN1.out; omega) (fun x hx => by have := HQB.out.2.2.1 x hx; omega)).mono ?_; rintro e wX ⟨bvA, hsA, rfl, oA, kX⟩; rw [HSB.out] at oA; have rA := Lib.hid oA.rd; have kk := kk.trans (kX.mono kk.size); clear y2 kX oA)
          | (go_at_call 12; have hh := rB.out; obtain ⟨_, ⟨_, _, _, y5, _⟩, _⟩ := HK.out _ kk; refine (specSameState_any (stateL l) (stateL l) _ _ _ hh y5 HMS.out.1 HMS.out.2 HMS.out.2).mono ?_; rintro e wX ⟨rfl, kX⟩; rw [HTR.out]; have kk := kk.trans (kX.mono kk.size); clear y5 kX hh)
          | (go_at_call 12; have hh := rA.out; obtain ⟨_, ⟨_, _, _, y5, _⟩, _⟩ := HK.out _ kk; refine (specSameState_any (stateL l) (stateL l) _ _ _ hh y5 HMS.out.1 HMS.out.2 HMS.out.2).mono ?_; rintro e wX ⟨rfl, kX⟩; rw [HTR.out]; have kk := kk.trans (kX.mono kk.size); have tA : True := trivial; clear y5 kX hh)
          | (go_at_call 19; obtain ⟨_, ⟨_, _, _, _, y6⟩, _⟩ := HK.out _ kk; refine (flip_any (needL l) _ _ y6 (by rw [HNL.out]; omega)).mono ?_; rintro e wX ⟨vF, rfl, oF⟩; have kX := oF.bel; have rF := Lib.hid oF.rows; have kk := kk.trans (kX.mono kk.size); clear y6 kX oF)
          | (go_at_call 18; have hh := rF.out; obtain ⟨_, ⟨y1, _⟩, _⟩ := HK.out _ kk; refine (implWithout_any l _ _ _ _ y1 hh (by rw [HN.out]; omega) (fun y hy => by have := HLZ.out y hy; omega)).mono ?_; rintro e wX ⟨vW, rfl, oW⟩; have kX := oW.bel; obtain ⟨aW, cW, hvW⟩ := oW.form; subst hvW; rw [H2.out]; have kk := kk.trans (kX.mono kk.size); clear y1 kX oW hh)
          | (go_at_call 18; obtain ⟨_, ⟨y1, _, _, _, y6⟩, _⟩ := HK.out _ kk; refine (implWithout_any l _ _ _ _ y1 y6 (by rw [HN.out]; omega) (fun y hy => by have := HLZ.out y hy; omega)).mono ?_; rintro e wX ⟨vV, rfl, oV⟩; have kX := oV.bel; obtain ⟨aV, cV, hvV⟩ := oV.form; subst hvV; rw [H1.out]; have kk := kk.trans (kX.mono kk.size); clear y1 y6 kX oV))
      all_goals
        have bE := (HK.out _ kk).2.2
        go_wp2
        go_ret
        exact ⟨rfl, bE⟩

theorem FnShrinksTwice_own : ownKnob Tryz.prog.godebug = none := by kernel_rfl

set_option maxRecDepth 100000 in
theorem FnShrinksTwice_lifted (os : Os) (started : os.Started) (H : Type) (enc : TypeId × Value → H) :
    ReturnsInHanded {} Tryz.checked os 4 .any (Rows.fnShrinksTwiceSpec.pre6 enc Tryz.prog Tryz.f4 Rows.fnShrinksTwiceRow.domain false) (Rows.fnShrinksTwiceSpec.post enc Tryz.prog Tryz.f4 false true false false) := by
  refine returnsInHanded_of_change (C := Tryz.checked) FnShrinksTwice_own started (by kernel_rfl) Tryz.func4
    (ChangeSpec.witness6 (enc := enc) (C := Tryz.checked) false ⟨#[], #[.slice none 0 0], []⟩ 8 (by kernel_rfl) (by kernel_rfl) (by kernel_rfl) (by kernel_rfl)) ?_
  intro W base args ds gs before hval0 hW hcnd _
  have hval : ∀ (j : Nat) t v, Tryz.f4.params[j]? = some t → args[j]? = some v → Value.okWide Tryz.prog W .any base t v := hval0
  have hW' := hW
  obtain ⟨p, q, hA0, hV, rfl, hfz, hnd⟩ := hW
  have hA : DataW.TrodAll enc Tryz.prog W 0 (fun _ => true) true Tryz.f4.params.toList args.toList ds p := hA0
  rw [Tryz.params4] at hA hval
  obtain ⟨v0, vs0, d0, ds0, p0, q0, hargs, rfl, rfl, h0, r0⟩ := trodAll_cons hA
  obtain ⟨rfl, rfl, rfl⟩ := trodAll_nil r0
  obtain rfl : args = #[v0] := by cases args; simp_all
  obtain ⟨rfl, rfl⟩ := trodVars_none hV
  obtain ⟨a0, len0, cap0, rfl⟩ := okWide_slice Tryz.underlying22 (hval 0 22 v0 rfl rfl)
  have k0 := h0
  have lt0 : ∀ x ∈ p0, x.block < W.heap.size := by obtain ⟨m, hm⟩ := k0; exact DataW.trod_lt m _ _ _ hm
  have w0 : CodeIn W a0 len0 := by
    obtain ⟨fuel, hf⟩ := h0
    rcases open_ints Tryz.underlying22 Tryz.underlying5 (by kernel_rfl) hf with ⟨hcs, _⟩ | ⟨x, l, c, zs, hcs, _, hl, hm, hz, _, hcell, hwz⟩
    · simp [Value.cells] at hcs
      obtain ⟨rfl, rfl, rfl⟩ := hcs
      intro i hi; omega
    · simp [Value.cells] at hcs
      obtain ⟨rfl, rfl, rfl⟩ := hcs
      exact codeIn_of_row hl (by simpa using hz) hcell hwz
  clear hA0 hval0
  simp only [List.append_nil] at hW'
  refine (walk_FnShrinksTwice a0 len0 cap0 w0 (w := W)).mono fun e W' ⟨he, bel⟩ => ?_
  subst he
  exact ⟨_, rfl, _, _, _, [], _, [], hW', trodAll_mk1 (shut_bool Tryz.underlying4 _), (trodAll_cons_mk (Below.trod (show laidOutB Tryz.prog = true by kernel_rfl) (by kernel_rfl) (of_decide_eq_true (by kernel_rfl)) k0 bel lt0) trodAll_mk0), rfl, bel.frame _, fun h => by cases h⟩

/-- The given statement. -/
theorem fnShrinksTwice_holds : Rows.FnShrinksTwiceSaid :=
  OpenClaim.holds_of_wide 4 Tryz.f4 rfl rfl rfl rfl rfl rfl rfl ⟨rfl, rfl, rfl, rfl, rfl⟩ rfl rfl rfl rfl rfl (by kernel_rfl) Tryz.func4 (by kernel_rfl)
    (of_decide_eq_true (by kernel_rfl)) (by unfold Func.isWrapper; first | (rw [if_pos (by decide +kernel)]; kernel_rfl) | (rw [if_neg (by decide +kernel)]; exact ⟨rfl, rfl⟩))
    (fun os started H enc _ => FnShrinksTwice_lifted os started H enc)
#print axioms fnShrinksTwice_holds

end Go.Proofs.YtahebgceoidebaaGreat
