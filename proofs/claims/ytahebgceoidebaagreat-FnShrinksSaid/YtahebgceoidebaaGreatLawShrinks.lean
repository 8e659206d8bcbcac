/- For every code: without what is not needed, of whichever of the drawn records are let go, all is told the same; what is left is right, and it is what the model leaves; nothing that was there is changed. No condition. -/
import Derived.Test.YtahebgceoidebaaGreatJp
import Derived.Test.YtahebgceoidebaaGreatJr
import Derived.Test.YtahebgceoidebaaGreatJs
import Derived.Test.YtahebgceoidebaaGreatJu
import Derived.Test.YtahebgceoidebaaGreatJi
import Derived.ProofKit
import Derived.OpenShut
import Derived.ShutString
import Derived.ChangeOld
import Derived.Below
import Derived.Deep.RegionHeld3
namespace Go.Proofs.YtahebgceoidebaaGreat
open Go.ChangeShapes Go.WideShapes Go.ChangeAt Go.RowKit
open Go.ChangeMaps (open_string shut_string)
set_option linter.unusedVariables false

theorem bigS_any (a : Option Addr) (len cap : Nat) (w : World) :
    Calls Tryz.prog 6 #[.slice a len cap] w fun e w' => e = .returned (.bool (decide ((1048576 : Int) < (len : Int)))) ∧ w = w' := by
  go_enter Tryz.func6, Tryz.ntmps6
  go_wp2
  go_ret
  exact ⟨rfl, rfl⟩

/-- The texts of what is shrunk are short. -/
theorem shr_texts {l : List Itm} {d : List Bool} {seq : Int} (ok : itemsOk (shr l d seq)) : ∀ x ∈ shr l d seq, x.2.user.size ≤ 1048576 ∧ x.2.name.size ≤ 1048576 ∧ x.2.text.size ≤ 1048576 := fun x hx => by
  obtain ⟨_, _, _, _, _, h6, h7, h8⟩ := Rc.ok_small (ok.1 x hx).2
  exact ⟨by omega, by omega, by omega⟩

set_option maxRecDepth 100000 in
set_option maxHeartbeats 8000000 in
theorem walk_FnShrinks (a : Option Addr) (len cap : Nat) {w : World} (hcode : CodeIn w a len) :
    Calls Tryz.prog 3 #[.slice a len cap] w fun e w' => e = .returned (.bool true) ∧ Below w.heap.size w w' := by
  by_cases hbig : (1048576 : Int) < (len : Int)
  · go_enter Tryz.func3, Tryz.ntmps3
    go_wp2_with (go_at_call 6; refine (bigS_any a len cap _).mono ?_; rintro e w1 ⟨rfl, rfl⟩; rw [decide_eq_true hbig])
    go_ret
    exact ⟨rfl, Below.refl _ _⟩
  have hlen : len ≤ 1048576 := by omega
  have HNB : Hid (decide ((1048576 : Int) < (len : Int)) = false) := decide_eq_false hbig
  have HCD := Lib.hid hcode
  clear hcode
  go_enter Tryz.func3, Tryz.ntmps3
  go_wp2_with fail
  refine (bigS_any a len cap _).mono ?_
  rintro e w0 ⟨rfl, rfl⟩
  rw [HNB.out]
  go_wp2_with fail
  refine (drawItems_any a len cap _ HCD.out hlen).mono ?_
  rintro e w1 ⟨l, v1, hD, rfl, R1, _⟩
  obtain ⟨a1, c1, rfl⟩ := R1.form
  have b1 := R1.bel
  have hl23 := hD.2.1
  have HD := Lib.hid hD
  clear hD
  go_wp2_with fail
  refine (drawPlaces_any a len cap _ (HCD.out.later b1) hlen).mono ?_
  rintro e w2 ⟨P, v2, hP1, hP2, rfl, hib⟩
  obtain ⟨gp, cp, rfl, hcp, PR⟩ := places_row hP1 hP2 hib
  have k2 : Below w1.heap.size w1 w2 := hib.bel
  have b2 := b1.trans (k2.mono b1.size)
  have HPR := Lib.hid PR
  have R2 := R1.rows.later k2
  clear hP1 hP2 hib PR R1 k2 b1
  go_wp2_with fail
  refine (chosen_any l.length 12 gp 0 cp _ HPR.out (by omega) hcp (by omega) (by omega)).mono ?_
  rintro e w3 ⟨d, v3, hd, rfl, RD⟩
  obtain ⟨a3, c3, rfl⟩ := RD.form
  have b3 := b2.trans (RD.bel.mono b2.size)
  have R3 := R2.later RD.bel
  have D3 := RD.rows
  have HLZ : Hid (∀ x ∈ l, x.2.user.size ≤ 1048576 ∧ x.2.name.size ≤ 1048576 ∧ x.2.text.size ≤ 1048576) := fun x hx => by
    obtain ⟨s1, s2, s3⟩ := HD.out.2.2.1 x hx
    exact ⟨by omega, by omega, by omega⟩
  have hT := tellAll_len l
  have HS1 : Hid (∀ x ∈ l, x.1 < 500) := fun x hx => by have := HD.out.2.2.2 x hx; omega
  obtain ⟨qa1, qa2, _, qa4⟩ := shr_right (d := d) (seq := 500) HD.out.1 HS1.out (by omega) (by omega) (by omega)
  have HQA := Lib.hid (And.intro qa1 (And.intro (shr_state (d := d) (seq := 500) HD.out.1 HS1.out (by omega) (by omega) (by omega)) (shr_texts qa1)))
  clear qa1 qa2 RD R2 b2 hd
  go_wp2_with fail
  refine (implShrunk_any l d 500 _ _ _ R3 D3 (by omega) HLZ.out).mono ?_
  rintro e w4 ⟨v4, rfl, RA⟩
  obtain ⟨QA, hQA⟩ : ∃ QA, shr l d 500 = QA := ⟨_, rfl⟩
  rw [hQA] at RA HQA qa4
  have HEA := Lib.hid hQA
  clear hQA
  obtain ⟨a4, c4, rfl⟩ := RA.form
  have b4 := b3.trans (RA.bel.mono b3.size)
  have R4 := R3.later RA.bel
  have D4 := D3.later RA.bel
  have A4 := RA.rows
  have I0 : RBuf boE w4.heap.size w4 (w4.alloc (.cells #[] 4)) (.slice (some ⟨w4.heap.size, 0, none⟩) 0 0) (List.replicate 0 true) := RBuf.fresh boE w4
  have HK : Hid (∀ X, Below w4.heap.size w4 X → Rows' itE X (.slice a1 l.length c1) l ∧ Rows' boE X (.slice a3 d.length c3) d ∧ Rows' itE X (.slice a4 QA.length c4) QA ∧ Below w.heap.size w X) := fun X hX => ⟨R4.later hX, D4.later hX, A4.later hX, b4.trans (hX.mono b4.size)⟩
  clear R3 D3 RA R4 D4 A4 b3 b4
  obtain ⟨n, hn⟩ : ∃ n, l.length = n := ⟨_, rfl⟩
  rw [hn] at hl23 HK hT qa4 ⊢
  have HN := Lib.hid hn
  clear hn
  go_wp2
  go_loopw [7, 8] (fun v iv wr => ∃ i : Nat, i ≤ n ∧ iv = .int .i64 (i : Int) ∧ RBuf boE w4.heap.size w4 wr v (List.replicate i true)) (fun _ iv _ => n - (intOf iv).toNat)
  case atStart => exact ⟨0, by omega, rfl, I0⟩
  case round =>
    clear I0
    obtain ⟨i, hi, rfl, I⟩ := hrel
    by_cases hlt : (i : Int) < (n : Int)
    · have hb5 := Lib.hid (I.alloc (.cells #[.bool true] 4))
      have hL5 := Lib.hid (RBuf.lit1 boE wr true)
      have HT : Hid (List.replicate (i + 1) true = List.replicate i true ++ [true]) := List.replicate_succ'
      have hul : (List.replicate i true).length ≤ 1000 := by rw [List.length_replicate]; omega
      obtain ⟨us, hus⟩ : ∃ us, List.replicate i true = us := ⟨_, rfl⟩
      rw [hus] at I hb5 HT hul
      obtain ⟨a5, c5, rfl⟩ := I.form
      clear hus I
      go_wp2_with (at_builtin; refine wpList_append_rows rfl _ _ boE rfl w4.heap.size _ us rfl hb5.out.here wr.heap.size _ [true] rfl hL5.out (by show _ * 2 ≤ _; simp only [List.length_cons, List.length_nil]; omega) ?_; intro v8 w8 r8 g8 at8)
      exact ⟨⟨i + 1, by omega, by simp, by rw [HT.out]; exact ⟨r8.own, hb5.out.bel.grown g8 hb5.out.le (fun q hq => (hb5.out.own.lt q hq).1), r8.le⟩⟩, by first | omega | (simp [intOf]; omega)⟩
    · obtain ⟨wB, hwB⟩ : ∃ wB, wB = wr := ⟨_, rfl⟩
      subst hwB
      obtain ⟨dA, hdA⟩ : ∃ dA, List.replicate i true = dA := ⟨_, rfl⟩
      rw [hdA] at I
      obtain ⟨a5, c5, rfl⟩ := I.form
      obtain ⟨l5, d5, A5, b5⟩ := HK.out _ I.bel
      obtain ⟨qb1, qb2, _, qb4⟩ := shr_right (d := dA) (seq := 500) HD.out.1 HS1.out (by rw [HN.out]; omega) (by omega) (by omega)
      have HQB := Lib.hid (And.intro qb1 (And.intro (shr_state (d := dA) (seq := 500) HD.out.1 HS1.out (by rw [HN.out]; omega) (by omega) (by omega)) (shr_texts qb1)))
      have HST : Hid ((stateL l).length = (tellAll l).length) := by show _ = _; rw [show stateL l = tellAll l from if_pos HD.out.1]
      clear qb1 qb2 hdA d5 A5
      go_wp2_with fail
      refine (implShrunk_any l dA 500 _ _ _ l5 I.rows (by rw [HN.out]; omega) HLZ.out).mono ?_
      rintro e w6 ⟨v6, rfl, RB⟩
      obtain ⟨QB, hQB⟩ : ∃ QB, shr l dA 500 = QB := ⟨_, rfl⟩
      rw [hQB] at RB HQB qb4
      clear hQB
      obtain ⟨a6, c6, rfl⟩ := RB.form
      have k6 := I.bel.trans (RB.bel.mono I.bel.size)
      obtain ⟨l6, _, _, b6⟩ := HK.out _ k6
      have B6 := RB.rows
      clear RB I l5 b5
      go_wp2_with fail
      refine (specStateOf_any l _ _ l6 (by rw [HN.out]; omega) (fun x hx => by have := HLZ.out x hx; omega)).mono ?_
      rintro e w7 ⟨bv, hs, rfl, SO, k7⟩
      obtain ⟨a7, c7, rfl⟩ := SO.row.form
      have HSL := Lib.hid SO.len
      have X8 := Box.new w7 #[.slice a7 hs.length c7] 33
      have kA := belNew w7 (.cells #[.slice a7 hs.length c7] 33)
      have SR := SO.rd.later kA
      have B8 := (B6.later k7).later kA
      have k8 := k6.trans ((k7.trans (kA.mono k7.size)).mono k6.size)
      have hss := stateL_small l
      go_upto_region 14 with fail
      generalize w7.alloc (.cells #[.slice a7 hs.length c7] 33) = wG at X8 SR B8 k8 ⊢
      generalize w7.heap.size = gS at X8 ⊢
      have HY : Hid (∀ Y, Below wG.heap.size wG Y → Y.cell? ⟨gS, 0, none⟩ = some (.slice a7 hs.length c7) ∧ (Rows' itE Y (.slice a1 n c1) l ∧ Rows' boE Y (.slice a3 d.length c3) d ∧ Rows' itE Y (.slice a4 QA.length c4) QA ∧ Rows' itE Y (.slice a6 QB.length c6) QB ∧ BRd Y (.slice a7 hs.length c7) (stateL l)) ∧ Below w.heap.size w Y) := fun Y hY => by
        obtain ⟨y1, y2, y3, y4⟩ := HK.out _ (k8.trans (hY.mono k8.size))
        exact ⟨(X8.later hY).cell 0 _ rfl, ⟨y1, y2, y3, B8.later hY, SR.later hY⟩, y4⟩
      have HMS : Hid ((stateL l).length ≤ 1099511627776 ∧ ∀ b ∈ stateL l, b.mails.length ≤ 1099511627776) := ⟨by omega, fun b hb => by have := hss.2 b hb; omega⟩
      have HTR : Hid (sameS (stateL l) (stateL l) = true) := sameS_yes rfl
      have hhs : hs.length ≤ 200 := by have := HSL.out; omega
      have hqal : QA.length ≤ 1000 := by omega
      have hqbl : QB.length ≤ 1000 := by have := HN.out; omega
      have hsum : IntKind.i64.wrap ((n : Int) + (hs.length : Int)) = (n : Int) + (hs.length : Int) := IntWalk.i64_in _ ⟨by omega, by omega⟩
      have hlast : (QB.length : Int) ≤ (n : Int) + (hs.length : Int) := by have h8 := HSL.out; have h9 := HST.out; have := HN.out; omega
      have HN1 := Lib.hid (And.intro hqal hqbl)
      have kk : Below wG.heap.size wG wG.drew := (Below.refl _ _).drew
      have m0 := (HY.out _ kk).1
      clear X8 SR B8 k8 k6 k7 kA SO B6 l6 b6 hss qa4 qb4 hT HK hlt hqal hqbl hhs
      go_region_held3 (fun Y => Y.cell? ⟨gS, 0, none⟩ = some (.slice a7 hs.length c7))
        (first | exact (HY.out _ kk).1)
        (first
          | (go_at_call 11; have hh := tA; obtain ⟨_, ⟨_, _, _, y4, _⟩, _⟩ := HY.out _ kk; refine (specStateOf_any QB _ _ y4 (by have := HN1.out; omega) (fun x hx => by have := HQB.out.2.2 x hx; omega)).mono ?_; rintro e wX ⟨bvB, hsB, rfl, oB, kX⟩; rw [HQB.out.2.1] at oB; have rB := Lib.hid oB.rd; have kk := kk.trans (kX.mono kk.size); clear y4 kX oB hh)
          | (go_at_call 11; obtain ⟨_, ⟨_, _, y3, _, _⟩, _⟩ := HY.out _ kk; refine (specStateOf_any QA _ _ y3 (by have := HN1.out; omega) (fun x hx => by have := HQA.out.2.2 x hx; omega)).mono ?_; rintro e wX ⟨bvA, hsA, rfl, oA, kX⟩; rw [HQA.out.2.1] at oA; have rA := Lib.hid oA.rd; have kk := kk.trans (kX.mono kk.size); clear y3 kX oA)
          | (go_at_call 12; have hh := rB.out; obtain ⟨_, ⟨_, _, _, _, y5⟩, _⟩ := HY.out _ kk; refine (specSameState_any (stateL l) (stateL l) _ _ _ hh y5 HMS.out.1 HMS.out.2 HMS.out.2).mono ?_; rintro e wX ⟨rfl, kX⟩; rw [HTR.out]; have kk := kk.trans (kX.mono kk.size); clear y5 kX hh)
          | (go_at_call 12; have hh := rA.out; obtain ⟨_, ⟨_, _, _, _, y5⟩, _⟩ := HY.out _ kk; refine (specSameState_any (stateL l) (stateL l) _ _ _ hh y5 HMS.out.1 HMS.out.2 HMS.out.2).mono ?_; rintro e wX ⟨rfl, kX⟩; rw [HTR.out]; have kk := kk.trans (kX.mono kk.size); have tA : True := trivial; clear y5 kX hh)
          | (go_at_call 13; obtain ⟨_, ⟨_, _, y3, _, _⟩, _⟩ := HY.out _ kk; refine (specItemsOk_any QA _ _ y3 (by have := HN1.out; omega) (fun x hx => by have := HQA.out.2.2 x hx; omega)).mono ?_; rintro e wX ⟨rfl, kX⟩; rw [decide_eq_true HQA.out.1]; have kk := kk.trans (kX.mono kk.size); clear y3 kX)
          | (go_at_call 15; obtain ⟨_, ⟨y1, y2, _, _, _⟩, _⟩ := HY.out _ kk; refine (specShrunk_any l d 500 _ _ _ y1 y2 (by rw [HN.out]; omega) HLZ.out).mono ?_; rintro e wX ⟨vS, rfl, oS⟩; have kX := oS.bel; rw [HEA.out] at oS; have rS := Lib.hid oS.rows; have kk := kk.trans (kX.mono kk.size); clear y1 y2 kX oS)
          | (go_at_call 14; have hh := rS.out; obtain ⟨_, ⟨_, _, y3, _, _⟩, _⟩ := HY.out _ kk; refine (sameItems_same QA _ _ _ y3 hh (by have := HN1.out; omega)).mono ?_; rintro e wX ⟨rfl, kX⟩; have kk := kk.trans (kX.mono kk.size); clear y3 kX hh))
      all_goals
        have bE := (HY.out _ kk).2.2
        go_wp2
        go_ret
        exact ⟨rfl, bE⟩

theorem FnShrinks_own : ownKnob Tryz.prog.godebug = none := by kernel_rfl

set_option maxRecDepth 100000 in
theorem FnShrinks_lifted (os : Os) (started : os.Started) (H : Type) (enc : TypeId × Value → H) :
    ReturnsInHanded {} Tryz.checked os 3 .any (Rows.fnShrinksSpec.pre6 enc Tryz.prog Tryz.f3 Rows.fnShrinksRow.domain false) (Rows.fnShrinksSpec.post enc Tryz.prog Tryz.f3 false true false false) := by
  refine returnsInHanded_of_change (C := Tryz.checked) FnShrinks_own started (by kernel_rfl) Tryz.func3
    (ChangeSpec.witness6 (enc := enc) (C := Tryz.checked) false ⟨#[], #[.slice none 0 0], []⟩ 8 (by kernel_rfl) (by kernel_rfl) (by kernel_rfl) (by kernel_rfl)) ?_
  intro W base args ds gs before hval0 hW hcnd _
  have hval : ∀ (j : Nat) t v, Tryz.f3.params[j]? = some t → args[j]? = some v → Value.okWide Tryz.prog W .any base t v := hval0
  have hW' := hW
  obtain ⟨p, q, hA0, hV, rfl, hfz, hnd⟩ := hW
  have hA : DataW.TrodAll enc Tryz.prog W 0 (fun _ => true) true Tryz.f3.params.toList args.toList ds p := hA0
  rw [Tryz.params3] at hA hval
  obtain ⟨v0, vs0, d0, ds0, p0, q0, hargs, rfl, rfl, h0, r0⟩ := trodAll_cons hA
  obtain ⟨rfl, rfl, rfl⟩ := trodAll_nil r0
  obtain rfl : args = #[v0] := by cases args; simp_all
  obtain ⟨rfl, rfl⟩ := trodVars_none hV
  obtain ⟨a0, len0, cap0, rfl⟩ := okWide_slice Tryz.underlying22 (hval 0 22 v0 rfl rfl)
  have k0 := h0
  have lt0 : ∀ x ∈ p0, x.block < W.heap.size := by obtain ⟨m, hm⟩ := k0; exact DataW.trod_lt m _ _ _ hm
  have w0 : CodeIn W a0 len0 := by
    obtain ⟨fuel, hf⟩ := h0
    rcases open_ints Tryz.underlying22 Tryz.underlying5 (by kernel_rfl) hf with ⟨hcs, _⟩ | ⟨x, l, c, zs, hcs, _, hl, hm, hz, _, hcell, hwz⟩
    · simp [Value.cells] at hcs
      obtain ⟨rfl, rfl, rfl⟩ := hcs
      intro i hi; omega
    · simp [Value.cells] at hcs
      obtain ⟨rfl, rfl, rfl⟩ := hcs
      exact codeIn_of_row hl (by simpa using hz) hcell hwz
  clear hA0 hval0
  simp only [List.append_nil] at hW'
  refine (walk_FnShrinks a0 len0 cap0 w0 (w := W)).mono fun e W' ⟨he, bel⟩ => ?_
  subst he
  exact ⟨_, rfl, _, _, _, [], _, [], hW', trodAll_mk1 (shut_bool Tryz.underlying4 _), (trodAll_cons_mk (Below.trod (show laidOutB Tryz.prog = true by kernel_rfl) (by kernel_rfl) (of_decide_eq_true (by kernel_rfl)) k0 bel lt0) trodAll_mk0), rfl, bel.frame _, fun h => by cases h⟩

/-- The given statement. -/
theorem fnShrinks_holds : Rows.FnShrinksSaid :=
  OpenClaim.holds_of_wide 3 Tryz.f3 rfl rfl rfl rfl rfl rfl rfl ⟨rfl, rfl, rfl, rfl, rfl⟩ rfl rfl rfl rfl rfl (by kernel_rfl) Tryz.func3 (by kernel_rfl)
    (of_decide_eq_true (by kernel_rfl)) (by unfold Func.isWrapper; first | (rw [if_pos (by decide +kernel)]; kernel_rfl) | (rw [if_neg (by decide +kernel)]; exact ⟨rfl, rfl⟩))
    (fun os started H enc _ => FnShrinks_lifted os started H enc)
#print axioms fnShrinks_holds

end Go.Proofs.YtahebgceoidebaaGreat
