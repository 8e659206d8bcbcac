/- For every code, what NeededAll, Needed, NextsOf and Without tell of the drawn items is what their models tell; the one record of a box is needed, and without it its Next is told. Nothing that was there is changed. -/
import Derived.Test.YtahebgceoidebaaGreatJo
import Derived.Test.YtahebgceoidebaaGreatJq
import Derived.Test.YtahebgceoidebaaGreatJt
import Derived.Test.YtahebgceoidebaaGreatJj
import Derived.ProofKit
import Derived.OpenShut
import Derived.ShutString
import Derived.ChangeOld
import Derived.Below
namespace Go.Proofs.YtahebgceoidebaaGreat
open Go.ChangeShapes Go.WideShapes Go.ChangeAt Go.RowKit
open Go.ChangeMaps (open_string shut_string)
set_option linter.unusedVariables false

def oneR : Rc := ⟨1, 1, 0, 1, 0, ⟨#[97, 110, 110]⟩, ⟨#[105, 110, 98, 111, 120]⟩, ⟨#[]⟩⟩
def oneL : List Itm := [(5, oneR)]
theorem oneR_ok : oneR.ok := by decide
theorem oneL_ok : itemsOk oneL := by
  refine ⟨fun x hx => ?_, fun x hx y hy _ => ?_, by decide⟩
  · rw [List.mem_singleton.1 hx]
    exact ⟨by decide, oneR_ok⟩
  · rw [List.mem_singleton.1 hx, List.mem_singleton.1 hy]
theorem oneL_need : soB (needL oneL) 0 = true := by
  have h := soB_need (l := oneL) (k := 0) (x := (5, oneR)) rfl
  rw [show ((0 : Nat) : Int) = 0 from rfl] at h
  rw [h, decide_eq_true oneL_ok, Bool.true_and]
  decide
theorem oneL_next : (nxs (stateL (wo oneL [true])) (stateL oneL)).length = 1 := by
  have h1 : wo oneL [true] = [] := rfl
  have h2 : stateL ([] : List Itm) = [] := by
    unfold stateL
    split <;> rfl
  have h3 : stateL oneL = tellAll oneL := if_pos oneL_ok
  rw [h1, h2, h3]
  decide

theorem one_cells {w5 : World} {j : Nat} {y : Itm} (hj : oneL[j]? = some y) {q : Nat} {u : Value} (hu : (itE.f y)[q]? = some u) : (w5.alloc (.cells #[.int .i64 5, .int .i64 1, .int .i64 1, .int .i64 0, .int .i64 1, .int .i64 0, .string ⟨#[97, 110, 110]⟩, .string ⟨#[105, 110, 98, 111, 120]⟩, .string ⟨#[]⟩] 49)).cell? ⟨w5.heap.size, 0 + j * itE.sz + q, none⟩ = some u := by
  have hj0 : j = 0 := by have := (List.getElem?_eq_some_iff.1 hj).1; simp [oneL] at this; exact this
  subst hj0
  have hy : y = (5, oneR) := (Option.some.inj hj).symm
  subst hy
  rw [show 0 + 0 * itE.sz + q = q by omega, cell_of_row _ _ _ #[.int .i64 5, .int .i64 1, .int .i64 1, .int .i64 0, .int .i64 1, .int .i64 0, .string ⟨#[97, 110, 110]⟩, .string ⟨#[105, 110, 98, 111, 120]⟩, .string ⟨#[]⟩] _ (0, 0) (heap_alloc_new w5 _), ← Array.getElem?_toList]
  exact hu
theorem one_cellsB {w5 : World} {j : Nat} {y : Bool} (hj : ([true] : List Bool)[j]? = some y) {q : Nat} {u : Value} (hu : (boE.f y)[q]? = some u) : (w5.alloc (.cells #[.bool true] 4)).cell? ⟨w5.heap.size, 0 + j * boE.sz + q, none⟩ = some u := by
  have hj0 : j = 0 := by have := (List.getElem?_eq_some_iff.1 hj).1; simp at this; exact this
  subst hj0
  have hy : y = true := (Option.some.inj hj).symm
  subst hy
  rw [show 0 + 0 * boE.sz + q = q by omega, cell_of_row _ _ _ #[.bool true] _ (0, 0) (heap_alloc_new w5 _), ← Array.getElem?_toList]
  exact hu

theorem bigN_any (a : Option Addr) (len cap : Nat) (w : World) :
    Calls Tryz.prog 6 #[.slice a len cap] w fun e w' => e = .returned (.bool (decide ((1048576 : Int) < (len : Int)))) ∧ w = w' := by
  go_enter Tryz.func6, Tryz.ntmps6
  go_wp2
  go_ret
  exact ⟨rfl, rfl⟩

set_option maxRecDepth 100000 in
set_option maxHeartbeats 8000000 in
theorem walk_FnNeedsTold (a : Option Addr) (len cap : Nat) {w : World} (hcode : CodeIn w a len) :
    Calls Tryz.prog 5 #[.slice a len cap] w fun e w' => e = .returned (.bool true) ∧ Below w.heap.size w w' := by
  by_cases hbig : (1048576 : Int) < (len : Int)
  · go_enter Tryz.func5, Tryz.ntmps5
    go_wp2_with (go_at_call 6; refine (bigN_any a len cap _).mono ?_; rintro e w1 ⟨rfl, rfl⟩; rw [decide_eq_true hbig])
    go_ret
    exact ⟨rfl, Below.refl _ _⟩
  have hlen : len ≤ 1048576 := by omega
  have HNB : Hid (decide ((1048576 : Int) < (len : Int)) = false) := decide_eq_false hbig
  have HCD := Lib.hid hcode
  clear hcode
  go_enter Tryz.func5, Tryz.ntmps5
  go_wp2_with fail
  refine (bigN_any a len cap _).mono ?_
  rintro e w0 ⟨rfl, rfl⟩
  rw [HNB.out]
  go_wp2_with fail
  refine (drawNeeded_any a len cap _ HCD.out hlen).mono ?_
  rintro e w1 ⟨l, v1, k, hl, hk, rfl, R1, b1⟩
  obtain ⟨al, cl, rfl, _⟩ := R1.items
  go_wp2_with fail
  refine (drawNextsOf_any a len cap _ (HCD.out.later b1) hlen).mono ?_
  rintro e w2 ⟨x, v2, d, u2, hx, hd, rfl, R2, R3, k2⟩
  obtain ⟨ax, cx, rfl, _⟩ := R2.items
  obtain ⟨ad, cd, rfl, _⟩ := R3.bools
  have b2 := b1.trans (k2.mono b1.size)
  have hll := hl.1
  have hxl := hx.1
  have HLZ : Hid (∀ y ∈ l, y.2.user.size ≤ 1048576 ∧ y.2.name.size ≤ 1048576 ∧ y.2.text.size ≤ 1048576) := fun y hy => by
    obtain ⟨⟨s1, s2, s3⟩, _⟩ := hl.2 y hy
    exact ⟨by omega, by omega, by omega⟩
  have HXZ : Hid (∀ y ∈ x, y.2.user.size ≤ 1048576 ∧ y.2.name.size ≤ 1048576 ∧ y.2.text.size ≤ 1048576) := fun y hy => by
    obtain ⟨⟨s1, s2, s3⟩, _⟩ := hx.2 y hy
    exact ⟨by omega, by omega, by omega⟩
  have HL : Hid (∀ X, Below w2.heap.size w2 X → Rows' itE X (.slice al l.length cl) l) := fun X hX => (R1.later k2).later hX
  have HX : Hid (∀ X, Below w2.heap.size w2 X → Rows' itE X (.slice ax x.length cx) x ∧ Rows' boE X (.slice ad d.length cd) d) := fun X hX => ⟨R2.later hX, R3.later hX⟩
  have HK := Lib.hid hk
  have HB2 := Lib.hid b2
  clear R1 R2 R3 k2 b1 b2 hl hx hk
  go_wp2_with fail
  refine (implNeededAll_any l _ _ (HL.out _ (Below.refl _ _)) (by omega)).mono ?_
  rintro e w3 ⟨v3, rfl, R3⟩
  have b3 := R3.bel
  obtain ⟨a3, c3, rfl⟩ := R3.form
  rw [needL_len] at R3 ⊢
  go_wp2_with fail
  refine (specNeededAll_any l _ _ (HL.out _ b3) (by omega) HLZ.out).mono ?_
  rintro e w4 ⟨v4, rfl, R4⟩
  have b4 := b3.trans (R4.bel.mono b3.size)
  obtain ⟨a4, c4, rfl⟩ := R4.form
  rw [needL_len] at R4 ⊢
  have HR3 := Lib.hid (R3.later R4.bel).rows
  have HR4 := Lib.hid R4.rows
  have hnl := needL_len l
  obtain ⟨n, hn⟩ : ∃ n, l.length = n := ⟨_, rfl⟩
  rw [hn] at HR3 HR4 hnl HL hll ⊢
  have HN := Lib.hid hn
  clear hn R3 R4 b3
  obtain ⟨ND, hND⟩ : ∃ ND, needL l = ND := ⟨_, rfl⟩
  rw [hND] at HR3 HR4 hnl
  have HND := Lib.hid hND
  have HNL := Lib.hid hnl
  clear hND hnl
  go_wp2
  go_loopw [9] (fun iv wr => ∃ i : Nat, i ≤ n ∧ iv = .int .i64 (i : Int) ∧ Below w4.heap.size w4 wr) (fun iv _ => n - (intOf iv).toNat)
  case atStart => exact ⟨0, by omega, rfl, Below.refl _ _⟩
  case round =>
    obtain ⟨i, hi, rfl, bq⟩ := hrel
    by_cases hlt : i < n
    · obtain ⟨q, hq⟩ : ∃ q, ND[i]? = some q := ⟨_, List.getElem?_eq_getElem (by rw [HNL.out]; exact hlt)⟩
      obtain ⟨ad3, cap3, e3, hr3⟩ := HR3.out.bools
      obtain ⟨ad4, cap4, e4, hr4⟩ := HR4.out.bools
      simp only [Value.slice.injEq] at e3 e4
      rw [← e3.1] at hr3
      rw [← e4.1] at hr4
      obtain ⟨g3, o3, rfl, p3⟩ := hr3 _ bq i q hq
      obtain ⟨g4, o4, rfl, p4⟩ := hr4 _ bq i q hq
      have hi0 : (0 : Int) ≤ (i : Int) := by omega
      have hi1 : (i : Int) < (n : Int) := by omega
      clear hr3 hr4 e3 e4 hq
      cases q with
      | false =>
        go_wp2
        go_quiet (fail)
        go_wp2
        go_roundw
        case rel => exact ⟨i + 1, by omega, by go_num, bq.trans ⟨rfl, rfl, rfl, Nat.le_refl _, fun _ _ => rfl⟩⟩
        case measure => simp [intOf]; omega
      | true =>
        go_wp2
        go_quiet (fail)
        go_wp2
        go_roundw
        case rel => exact ⟨i + 1, by omega, by go_num, bq.trans ⟨rfl, rfl, rfl, Nat.le_refl _, fun _ _ => rfl⟩⟩
        case measure => simp [intOf]; omega
    · have hge : ¬ (i : Int) < (n : Int) := by omega
      obtain ⟨w5, hw5⟩ : ∃ w5, w5 = wr := ⟨_, rfl⟩
      subst hw5
      have b5 := b4.trans (bq.mono b4.size)
      have L6 : Rows' itE (w5.alloc (.cells #[.int .i64 5, .int .i64 1, .int .i64 1, .int .i64 0, .int .i64 1, .int .i64 0, .string ⟨#[97, 110, 110]⟩, .string ⟨#[105, 110, 98, 111, 120]⟩, .string ⟨#[]⟩] 49)) (.slice (some ⟨w5.heap.size, 0, none⟩) 1 1) oneL := by
        refine .inr ⟨w5.heap.size, 0, 1, rfl, Nat.le_refl _, by simp, fun j y hj q u hu => ?_⟩
        exact one_cells hj hu
      have k6 := belNew w5 (.cells #[.int .i64 5, .int .i64 1, .int .i64 1, .int .i64 0, .int .i64 1, .int .i64 0, .string ⟨#[97, 110, 110]⟩, .string ⟨#[105, 110, 98, 111, 120]⟩, .string ⟨#[]⟩] 49)
      have b6 := b5.trans (k6.mono b5.size)
      have HL6 := Lib.hid L6
      have HB4 := Lib.hid b4
      clear L6 k6 b5 bq b4 hge
      obtain ⟨D, hD⟩ : ∃ D, soB (needL l) k = D := ⟨_, rfl⟩
      have HD := Lib.hid hD
      clear hD
      go_wp2_with fail
      generalize w5.alloc (.cells #[.int .i64 5, .int .i64 1, .int .i64 1, .int .i64 0, .int .i64 1, .int .i64 0, .string ⟨#[97, 110, 110]⟩, .string ⟨#[105, 110, 98, 111, 120]⟩, .string ⟨#[]⟩] 49) = w6 at HL6 b6 ⊢
      generalize w5.heap.size = g6 at HL6 ⊢
      refine (implNeeded_e l _ k _ (HL.out _ b6) (by rw [HN.out]; omega) HK.out).mono ?_
      rintro e w7 ⟨rfl, k7⟩
      rw [HD.out]
      have b7 := b6.trans (k7.mono b6.size)
      have L7 := HL6.out.later k7
      clear HL6 k7 b6
      go_wp2_with fail
      refine (specNeeded_any l _ k _ (HL.out _ b7) (by rw [HN.out]; omega) HLZ.out).mono ?_
      rintro e w8 ⟨rfl, k8⟩
      rw [HD.out]
      have b8 := b7.trans (k8.mono b7.size)
      have HL8 := Lib.hid (L7.later k8)
      clear L7 k8 b7
      go_wp2_with fail
      refine (implNextsOf_any x d _ _ _ (HX.out _ b8).1 (HX.out _ b8).2 (by omega) HXZ.out).mono ?_
      rintro e w9 ⟨v9, rfl, R9⟩
      have b9 := b8.trans (R9.bel.mono b8.size)
      have L9 := HL8.out.later R9.bel
      obtain ⟨a9, c9, rfl⟩ := R9.form
      clear HL8 b8
      go_wp2_with fail
      refine (specNextsOf_any x d _ _ _ (HX.out _ b9).1 (HX.out _ b9).2 (by omega) HXZ.out).mono ?_
      rintro e wA ⟨vA, rfl, RA⟩
      have bA := b9.trans (RA.bel.mono b9.size)
      have LA := L9.later RA.bel
      have R9' := (R9.later RA.bel).rows
      have hml : (nxs (stateL (wo x d)) (stateL x)).length ≤ 1099511627776 := by have h1 := nxs_len (stateL (wo x d)) (stateL x); have h2 := (stateL_small x).1; omega
      obtain ⟨aA, cA, rfl⟩ := RA.form
      clear b9 L9 R9
      go_wp2_with fail
      refine (sameRecs_same _ _ _ _ R9' RA.rows hml).mono ?_
      rintro e wB ⟨rfl, kB⟩
      have bB := bA.trans (kB.mono bA.size)
      have LB := LA.later kB
      clear bA LA R9' RA hml kB
      go_wp2_with fail
      refine (implWithout_any x d _ _ _ (HX.out _ bB).1 (HX.out _ bB).2 (by omega) (fun y hy => by have := HXZ.out y hy; omega)).mono ?_
      rintro e wC ⟨vC, rfl, RC⟩
      have bC := bB.trans (RC.bel.mono bB.size)
      have LC := LB.later RC.bel
      obtain ⟨aC, cC, rfl⟩ := RC.form
      clear bB LB
      go_wp2_with fail
      refine (specWithout_any x d _ _ _ (HX.out _ bC).1 (HX.out _ bC).2 (by omega)).mono ?_
      rintro e wD ⟨vD, rfl, RD⟩
      have bD := bC.trans (RD.bel.mono bC.size)
      have LD := LC.later RD.bel
      have RC' := (RC.later RD.bel).rows
      have hwl : (wo x d).length ≤ 1099511627776 := by have := wo_len x d; omega
      obtain ⟨aD, cD, rfl⟩ := RD.form
      clear bC LC RC
      go_wp2_with fail
      refine (sameItems_same _ _ _ _ RC' RD.rows hwl).mono ?_
      rintro e wE ⟨rfl, kE⟩
      have bE := bD.trans (kE.mono bD.size)
      have LE := LD.later kE
      clear bD LD RC' RD hwl kE
      go_wp2_with fail
      refine (implNeeded_e oneL _ 0 _ LE (by decide) (by omega)).mono ?_
      rintro e wF ⟨rfl, kF'⟩
      rw [oneL_need]
      have bF := bE.trans (kF'.mono bE.size)
      have LF := LE.later kF'
      have kG := belNew wF (.cells #[.bool true] 4)
      have HLG := Lib.hid (LF.later kG)
      have bG := bF.trans (kG.mono bF.size)
      have HBG : Hid (Rows' boE (wF.alloc (.cells #[.bool true] 4)) (.slice (some ⟨wF.heap.size, 0, none⟩) 1 1) [true]) := by
        refine .inr ⟨wF.heap.size, 0, 1, rfl, Nat.le_refl _, by simp, fun j y hj q u hu => ?_⟩
        exact one_cellsB hj hu
      clear bE LE kF' LF kG bF
      go_wp2_with fail
      refine (implNextsOf_any oneL [true] _ _ _ HLG.out HBG.out (by decide) (fun y hy => by rw [List.mem_singleton.1 hy]; decide)).mono ?_
      rintro e wH ⟨vH, rfl, RH⟩
      have bH := bG.trans (RH.bel.mono bG.size)
      obtain ⟨aH, cH, rfl⟩ := RH.form
      rw [oneL_next]
      have bZ := HB2.out.trans (bH.mono HB2.out.size)
      clear RH bH bG
      go_wp2
      go_ret
      exact ⟨rfl, bZ⟩

theorem FnNeedsTold_own : ownKnob Tryz.prog.godebug = none := by kernel_rfl

set_option maxRecDepth 100000 in
theorem FnNeedsTold_lifted (os : Os) (started : os.Started) (H : Type) (enc : TypeId × Value → H) :
    ReturnsInHanded {} Tryz.checked os 5 .any (Rows.fnNeedsToldSpec.pre6 enc Tryz.prog Tryz.f5 Rows.fnNeedsToldRow.domain false) (Rows.fnNeedsToldSpec.post enc Tryz.prog Tryz.f5 false true false false) := by
  refine returnsInHanded_of_change (C := Tryz.checked) FnNeedsTold_own started (by kernel_rfl) Tryz.func5
    (ChangeSpec.witness6 (enc := enc) (C := Tryz.checked) false ⟨#[], #[.slice none 0 0], []⟩ 8 (by kernel_rfl) (by kernel_rfl) (by kernel_rfl) (by kernel_rfl)) ?_
  intro W base args ds gs before hval0 hW hcnd _
  have hval : ∀ (j : Nat) t v, Tryz.f5.params[j]? = some t → args[j]? = some v → Value.okWide Tryz.prog W .any base t v := hval0
  have hW' := hW
  obtain ⟨p, q, hA0, hV, rfl, hfz, hnd⟩ := hW
  have hA : DataW.TrodAll enc Tryz.prog W 0 (fun _ => true) true Tryz.f5.params.toList args.toList ds p := hA0
  rw [Tryz.params5] at hA hval
  obtain ⟨v0, vs0, d0, ds0, p0, q0, hargs, rfl, rfl, h0, r0⟩ := trodAll_cons hA
  obtain ⟨rfl, rfl, rfl⟩ := trodAll_nil r0
  obtain rfl : args = #[v0] := by cases args; simp_all
  obtain ⟨rfl, rfl⟩ := trodVars_none hV
  obtain ⟨a0, len0, cap0, rfl⟩ := okWide_slice Tryz.underlying22 (hval 0 22 v0 rfl rfl)
  have k0 := h0
  have lt0 : ∀ x ∈ p0, x.block < W.heap.size := by obtain ⟨m, hm⟩ := k0; exact DataW.trod_lt m _ _ _ hm
  have w0 : CodeIn W a0 len0 := by
    obtain ⟨fuel, hf⟩ := h0
    rcases open_ints Tryz.underlying22 Tryz.underlying5 (by kernel_rfl) hf with ⟨hcs, _⟩ | ⟨x, l, c, zs, hcs, _, hl, hm, hz, _, hcell, hwz⟩
    · simp [Value.cells] at hcs
      obtain ⟨rfl, rfl, rfl⟩ := hcs
      intro i hi; omega
    · simp [Value.cells] at hcs
      obtain ⟨rfl, rfl, rfl⟩ := hcs
      exact codeIn_of_row hl (by simpa using hz) hcell hwz
  clear hA0 hval0
  simp only [List.append_nil] at hW'
  refine (walk_FnNeedsTold a0 len0 cap0 w0 (w := W)).mono fun e W' ⟨he, bel⟩ => ?_
  subst he
  exact ⟨_, rfl, _, _, _, [], _, [], hW', trodAll_mk1 (shut_bool Tryz.underlying4 _), (trodAll_cons_mk (Below.trod (show laidOutB Tryz.prog = true by kernel_rfl) (by kernel_rfl) (of_decide_eq_true (by kernel_rfl)) k0 bel lt0) trodAll_mk0), rfl, bel.frame _, fun h => by cases h⟩

/-- The given statement. -/
theorem fnNeedsTold_holds : Rows.FnNeedsToldSaid :=
  OpenClaim.holds_of_wide 5 Tryz.f5 rfl rfl rfl rfl rfl rfl rfl ⟨rfl, rfl, rfl, rfl, rfl⟩ rfl rfl rfl rfl rfl (by kernel_rfl) Tryz.func5 (by kernel_rfl)
    (of_decide_eq_true (by kernel_rfl)) (by unfold Func.isWrapper; first | (rw [if_pos (by decide +kernel)]; kernel_rfl) | (rw [if_neg (by decide +kernel)]; exact ⟨rfl, rfl⟩))
    (fun os started H enc _ => FnNeedsTold_lifted os started H enc)
#print axioms fnNeedsTold_holds

end Go.Proofs.YtahebgceoidebaaGreat
