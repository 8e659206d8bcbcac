/- For every disk and every number, SegFrames answers as its model, every field of every frame; it writes into no argument, the list that it hands back is its own, behind another call too, and nothing that was there is changed; where the table of sixteen words holds what the program's text lays there (the card ties that to the text). -/
import Derived.Test.YtmlhpjkijpbinaqDoorJc
import Derived.Test.YtmlhpjkijpbinaqDoorJh
import Derived.Deep.DeepCutAuto
import Derived.Test.YtmlhpjkijpbinaqDoorTie
import Derived.Test.YtmlhpjkijpbinaqDoorCards
import Derived.ProofKit
import Derived.LaidMore
import Derived.OpenShut
import Derived.OpenVars
import Derived.Stop.Joined
import Derived.SevenTiedAt
import Derived.Below
namespace Go.Proofs.YtmlhpjkijpbinaqDoor
open Go.ChangeShapes Go.WideShapes Go.ChangeAt Go.RowKit
open Go.ChangeMaps (open_string shut_string)
set_option linter.unusedVariables false

/-- The list l stands behind some others, in a row of its own in the blocks B .. T-1. -/
def TOwn (B T : Nat) (w : World) (v : Value) (l : List Fr) : Prop :=
  ∃ (g off cap c0 : Nat) (pre : List Fr), v = .slice (some ⟨g, off, none⟩) l.length cap ∧ l.length ≤ cap ∧ (l ≠ [] → off = pre.length * 3) ∧ LOwn frE B T w (.slice (some ⟨g, 0, none⟩) (pre ++ l).length c0) (pre ++ l)
theorem Tail.town {B : Nat} {w0 w : World} {v : Value} {l : List Fr} (h : Tail B w0 w v l) : TOwn B w.heap.size w v l := by
  obtain ⟨g, off, cap, c0, pre, h1, h2, h3, h4⟩ := h
  exact ⟨g, off, cap, c0, pre, h1, h2, h3, h4.lown⟩
theorem TOwn.tail {B T : Nat} {w : World} {v : Value} {l : List Fr} (h : TOwn B T w v l) : Tail B w w v l := by
  obtain ⟨g, off, cap, c0, pre, h1, h2, h3, h4⟩ := h
  exact ⟨g, off, cap, c0, pre, h1, h2, h3, h4.1⟩
theorem TOwn.kept {B T B' T' : Nat} {w w' : World} {v : Value} {l : List Fr} (h : TOwn B T w v l) (hk : Kept B' T' w w') (hd : T ≤ B' ∨ T' ≤ B) : TOwn B T w' v l := by
  obtain ⟨g, off, cap, c0, pre, h1, h2, h3, h4⟩ := h
  exact ⟨g, off, cap, c0, pre, h1, h2, h3, h4.kept hk hd⟩
theorem TOwn.later {B T : Nat} {w w' : World} {v : Value} {l : List Fr} (h : TOwn B T w v l) (hb : Below w.heap.size w w') : TOwn B T w' v l :=
  h.kept (Kept.of_below hb T T) (.inl (Nat.le_refl _))
theorem TOwn.rows {B T : Nat} {w : World} {v : Value} {l : List Fr} (h : TOwn B T w v l) : Rows' frE w v l := h.tail.rows

set_option maxRecDepth 100000 in
set_option maxHeartbeats 8000000 in
theorem walk_FnExactSegFrames (v : Value) (d : Dk) (a : Int) (w : World) (hd : DIn w v d) (_ha : -9223372036854775808 ≤ a ∧ a ≤ 9223372036854775807) (htab : SumTab w) :
    Calls Tryd.prog 6 #[v, .int .i64 a] w fun e w' => e = .returned (.bool true) ∧ Below w.heap.size w w' := by
  obtain ⟨va, vb, rfl, _⟩ := id hd
  have hx := Box.new w #[va, vb] 38
  have b0 : Below w.heap.size w (w.alloc (.cells #[va, vb] 38)) := (Below.refl _ _).alloc (Nat.le_refl _) _
  have HC : Hid (∀ x, Below (w.alloc (.cells #[va, vb] 38)).heap.size (w.alloc (.cells #[va, vb] 38)) x → x.cell? ⟨w.heap.size, 0, none⟩ = some va ∧ x.cell? ⟨w.heap.size, 1, none⟩ = some vb ∧ DIn x (.agg #[va, vb]) d ∧ Below w.heap.size w x ∧ SumTab x) := by
    intro x h
    have h' := b0.trans (h.mono b0.size)
    exact ⟨(hx.later h).cell 0 va rfl, (hx.later h).cell 1 vb rfl, hd.later h', h', htab.later h'⟩
  have hd0 := hd.later b0
  clear hx hd htab
  go_enter Tryd.func6, Tryd.ntmps6
  go_wp2_with fail
  generalize w.alloc (.cells #[va, vb] 38) = W at HC b0 hd0 ⊢
  refine (szDisk_any d _ 1048576 _ hd0 (by omega) (by omega)).mono ?_
  rintro e w2 ⟨r, rfl, k2, hr1, hr2, hr3⟩
  by_cases hneg : r < 0
  · have HR := Lib.hid hr3
    clear hr3
    obtain ⟨_, _, _, b2, _⟩ := HC.out _ k2
    go_wp2
    go_ret
    exact ⟨rfl, b2⟩
  obtain ⟨ls, lc, ht, hu⟩ := hr3 (by omega)
  have hsm : d.small := ⟨by omega, by omega⟩
  have hdc : d.count ≤ 4000000 := by unfold Dk.count; omega
  have HT2 : Hid ((∀ s ∈ d.sec, s.size ≤ 137438953472) ∧ ∀ x ∈ d.cache, x.text.size ≤ 137438953472) := ⟨fun s hs => by have := ht s hs; omega, fun x hx => by have := hu x hx; omega⟩
  have hLn : (sfL (sgT d a)).length ≤ 8388608 := by
    have h1 := sfL_le (sgT d a)
    have h2 := sgT_size (M := 1048576) (fun s hs => by have := ht s hs; omega) (fun x hx => by have := hu x hx; omega) a
    omega
  clear hr3 ht hu hd0
  obtain ⟨t, ht0⟩ : ∃ t, sgT d a = t := ⟨_, rfl⟩
  obtain ⟨L, hL⟩ : ∃ L, sfL t = L := ⟨_, rfl⟩
  obtain ⟨N, hN⟩ : ∃ N, sfE t = N := ⟨_, rfl⟩
  rw [ht0, hL] at hLn
  have HT0 := Lib.hid ht0
  have HL := Lib.hid hL
  have HN := Lib.hid hN
  clear ht0 hL hN
  obtain ⟨c0, c1, d2, b2, _⟩ := HC.out _ k2
  go_wp2_with fail
  clear c0 c1
  refine (toDisk_any d _ _ d2 (by omega) (by omega)).mono ?_
  rintro e w3 ⟨v1, rfl, o1, k3⟩
  have j3 := k2.trans (k3.mono k2.size)
  go_wp2_with fail
  refine (specSegFrames_any d _ a _ o1.rd hsm HT2.out.1 HT2.out.2).mono ?_
  intro e w4 hres
  rw [HT0.out] at hres
  obtain ⟨v0, rfl, r0⟩ := hres
  rw [HL.out] at r0
  rw [HN.out]
  have k4 := r0.bel
  have j4 := j3.trans (k4.mono j3.size)
  have S0 := r0.lown
  obtain ⟨c0, c1, d4, _, _⟩ := HC.out _ j4
  clear o1 r0
  go_wp2_with fail
  clear c0 c1
  refine (toDisk_any d _ _ d4 (by omega) (by omega)).mono ?_
  rintro e w5 ⟨v2, rfl, o2, k5⟩
  have j5 := j4.trans (k5.mono j4.size)
  obtain ⟨p10, r10, q10, s10, rfl⟩ := o2.form
  have D10 := DB.new o2
  have k6 : Below w5.heap.size w5 (w5.alloc (.cells #[.slice p10 d.sec.length q10, .slice r10 d.cache.length s10] 43)) := (Below.refl _ _).alloc (Nat.le_refl _) _
  have j6 := j5.trans (k6.mono j5.size)
  have S0a := (S0.later k5).later k6
  have z6 : w5.heap.size < (w5.alloc (.cells #[.slice p10 d.sec.length q10, .slice r10 d.cache.length s10] 43)).heap.size := by simp
  have c0 := D10.c0
  have c1 := D10.c1
  have o6 := D10.2
  clear o2 S0
  go_wp2_with fail
  clear c0 c1
  generalize w5.alloc (.cells #[.slice p10 d.sec.length q10, .slice r10 d.cache.length s10] 43) = w6 at D10 k6 j6 S0a z6 o6 ⊢
  obtain ⟨_, _, _, _, tb6⟩ := HC.out _ j6
  refine (implSegFrames_any d _ a _ o6.rd hsm HT2.out.1 HT2.out.2 tb6).mono ?_
  intro e w7 hres
  rw [HT0.out] at hres
  obtain ⟨v3, rfl, t3⟩ := hres
  rw [HL.out] at t3
  rw [HN.out]
  have k7 := t3.bel
  have j7 := j6.trans (k7.mono j6.size)
  have S0b := S0a.later k7
  have D10a := D10.later k7
  have T3 := t3.town
  clear S0a D10 t3 o6 tb6
  go_wp2_with fail
  refine (eqFrameS_same L _ _ _ T3.rows S0b.rows (by omega)).mono ?_
  rintro e wA ⟨rfl, kA⟩
  have jA := j7.trans (kA.mono j7.size)
  have X0 := Lib.hid (S0b.later kA)
  have X10 := Lib.hid (D10a.later kA)
  have XT := Lib.hid (T3.later kA)
  have z3 : W.heap.size ≤ w3.heap.size := j3.size
  have z4 : w3.heap.size ≤ w4.heap.size := k4.size
  have z5 : w4.heap.size ≤ w5.heap.size := k5.size
  have z7 : w6.heap.size ≤ w7.heap.size := k7.size
  obtain ⟨a0, a1, dA, _, _⟩ := HC.out _ jA
  have e0 := X10.out.c0
  have e1 := X10.out.c1
  have HS : Hid (∀ x, Below wA.drew.heap.size wA.drew x → x.cell? ⟨w.heap.size, 0, none⟩ = some va ∧ x.cell? ⟨w.heap.size, 1, none⟩ = some vb ∧ x.cell? ⟨w5.heap.size, 0, none⟩ = some (.slice p10 d.sec.length q10) ∧ x.cell? ⟨w5.heap.size, 1, none⟩ = some (.slice r10 d.cache.length s10) ∧ DB x w5.heap.size w4.heap.size w5.heap.size (.slice p10 d.sec.length q10) (.slice r10 d.cache.length s10) d ∧ Below wA.heap.size wA x) := by
    intro x hx
    have hx2 : Below wA.heap.size wA x := (drewBel wA).trans hx
    obtain ⟨u0, u1, _, _, _⟩ := HC.out _ (jA.trans (hx2.mono jA.size))
    have := X10.out.later hx2
    exact ⟨u0, u1, this.c0, this.c1, this, hx2⟩
  have d8 := dA.later (drewBel wA)
  clear dA S0b D10a T3
  go_upto_region 10 with fail
  go_cut [49] (fun c wx => c = .bool false ∧ Below wA.heap.size wA wx)
  case first =>
    go_region_held3 (fun x => x.cell? ⟨w.heap.size, 0, none⟩ = some va ∧ x.cell? ⟨w.heap.size, 1, none⟩ = some vb ∧ x.cell? ⟨w5.heap.size, 0, none⟩ = some (.slice p10 d.sec.length q10) ∧ x.cell? ⟨w5.heap.size, 1, none⟩ = some (.slice r10 d.cache.length s10))
      (first | go_keep | (obtain ⟨u0, u1, u2, u3, _⟩ := HS.out _ kX; exact ⟨u0, u1, u2, u3⟩) | (obtain ⟨u0, u1, u2, u3, _⟩ := HS.out _ kY; exact ⟨u0, u1, u2, u3⟩))
      (first
        | (go_at_call 18; refine (toDisk_any d _ _ d8 (by omega) (by omega)).mono ?_; rintro e wX ⟨v9, rfl, o9, kX⟩; obtain ⟨_, _, _, _, o9', _⟩ := HS.out _ kX)
        | (go_at_call 20; refine (eqDisk_same d _ _ _ o9'.2.rd o9.rd hsm).mono ?_; rintro e wY ⟨rfl, kY'⟩; have kY := kX.trans (kY'.mono kX.size)))
    all_goals
      obtain ⟨_, _, _, _, _, bZ⟩ := HS.out _ kY
      go_wp2_with fail
      go_meet
      exact ⟨rfl, bZ⟩
  case rest =>
    obtain ⟨rfl, hcut⟩ := hcut
    have jB := jA.trans (hcut.mono jA.size)
    have Y0 := X0.out.later hcut
    have Y10 := X10.out.later hcut
    have YT := XT.out.later hcut
    have c0 := Y10.c0
    have c1 := Y10.c1
    clear X0 X10 XT HS d8 a0 a1 e0 e1
    go_wp2_with fail
    clear c0 c1
    refine (markDisk_any d _ 1 _ _ _ Y10.2 (by omega) (by omega)).mono ?_
    rintro e wB ⟨rfl, oB, kB⟩
    have jC := kB.belowW jB (by omega)
    have Z0 := Y0.kept kB (.inl (Nat.le_refl _))
    have ZT := YT.kept kB (.inr (by omega))
    have hk0 : ¬ ((1 + d.count : Nat) : Int) < 0 := by omega
    generalize (1 + d.count) = kk at *
    clear Y0 Y10 YT oB
    go_wp2_with fail
    refine (eqFrameS_same L _ _ _ ZT.rows Z0.rows (by omega)).mono ?_
    rintro e wC ⟨rfl, kC⟩
    have jD := jC.trans (kC.mono jC.size)
    have V0 := Z0.later kC
    have VT := ZT.later kC
    clear Z0 ZT
    go_wp2_with fail
    refine (markFrameS_tail L _ 1 w6.heap.size wC _ VT.tail (by omega) (by omega)).mono ?_
    rintro e wD ⟨rfl, tD, kD⟩
    have jE := kD.belowW jD (by omega)
    have U0 := V0.kept kD (.inl (by omega))
    have UT := tD.town
    clear V0 VT tD
    go_wp2_with fail
    refine (heldFrameS_any L.length _ 1 _ UT.rows (by omega) (by omega)).mono ?_
    rintro e wE ⟨rfl, kE⟩
    have jF := jE.trans (kE.mono jE.size)
    have T0 := U0.later kE
    have TT := UT.later kE
    obtain ⟨c0, c1, dF, _, _⟩ := HC.out _ jF
    clear U0 UT
    go_wp2_with fail
    clear c0 c1
    refine (toDisk_any d _ _ dF (by omega) (by omega)).mono ?_
    rintro e wF ⟨v5, rfl, oF, kF⟩
    have jG := jF.trans (kF.mono jF.size)
    obtain ⟨_, _, _, _, tbG⟩ := HC.out _ jG
    go_wp2_with fail
    refine (implSegFrames_any d _ a _ oF.rd hsm HT2.out.1 HT2.out.2 tbG).mono ?_
    intro e wG hres
    rw [HT0.out] at hres
    obtain ⟨v6, rfl, t6⟩ := hres
    rw [HL.out] at t6
    rw [HN.out]
    have kG := t6.bel
    have jH := jG.trans (kG.mono jG.size)
    have R0 := (T0.later kF).later kG
    have RT := (TT.later kF).later kG
    have R6 := t6.rows
    clear T0 TT t6 oF dF tbG
    go_wp2_with fail
    refine (eqFrameS_same L _ _ _ R6 R0.rows (by omega)).mono ?_
    rintro e wH ⟨rfl, kH⟩
    have jI := jH.trans (kH.mono jH.size)
    have QT := RT.later kH
    clear R0 RT R6
    go_wp2_with fail
    refine (heldFrameS_any L.length _ 1 _ QT.rows (by omega) (by omega)).mono ?_
    rintro e wI ⟨rfl, kI⟩
    obtain ⟨_, _, _, bZ, _⟩ := HC.out _ (jI.trans (kI.mono jI.size))
    clear QT
    go_wp2
    go_ret
    exact ⟨rfl, bZ⟩

theorem FnExactSegFrames_of_laid {W : World} (h : laidMetH Tryd.prog Rows.fnExactSegFramesRow.laid W) : SumTab W := sumTab_of_laid h

theorem FnExactSegFrames_own : ownKnob Tryd.prog.godebug = none := by kernel_rfl
theorem FnExactSegFrames_door (os : Os) (args : Array Value) : laidMetH Tryd.prog Rows.fnExactSegFramesRow.laid ((World.doorLaid Tryd.prog 400 os).forCall (fun _ _ => 0) ⟨#[], args, []⟩).memory :=
  laidMetH_of_parts3 (fuel := 8) (laidMet_of_run' 8 (by kernel_rfl) (by kernel_rfl)) (by kernel_rfl) (by kernel_rfl)

set_option maxRecDepth 100000 in
theorem FnExactSegFrames_lifted (os : Os) (started : os.Started) (H : Type) (enc : TypeId × Value → H) :
    ReturnsInHanded {} Tryd.checked os 6 .any (fun w args => (Rows.fnExactSegFramesSpec.pre enc Tryd.prog Tryd.f6 [] false w args ∧ laidMetH Tryd.prog Rows.fnExactSegFramesRow.laid w) ∧ sizedMet enc Tryd.prog Tryd.f6 (OpenSpec.ofChange Rows.fnExactSegFramesSpec) false w args)
      (Rows.fnExactSegFramesSpec.post enc Tryd.prog Tryd.f6 false true false false) := by
  refine returnsInHanded_of_change_and (C := Tryd.checked) (X := fun w _ => laidMetH Tryd.prog Rows.fnExactSegFramesRow.laid w) (fun _ _ _ hh h => h.of_heap hh) FnExactSegFrames_own started (by kernel_rfl) Tryd.func6
    (ChangeSpec.witness_shaped (enc := enc) (C := Tryd.checked) (os := os) (X := fun w _ => laidMetH Tryd.prog Rows.fnExactSegFramesRow.laid w) false (World.doorLaid Tryd.prog 400 os) #[.agg #[.slice none 0 0, .slice none 0 0], .int .i64 0] 8 rfl (World.shaped_of_RefB (by kernel_rfl) (by kernel_rfl)) (by kernel_rfl) (by kernel_rfl) (by kernel_rfl) (FnExactSegFrames_door os _)) ?_
  intro W base args ds gs before hval0 hW _ _ hL _
  have hval : ∀ (j : Nat) t v, Tryd.f6.params[j]? = some t → args[j]? = some v → Value.okWide Tryd.prog W .any base t v := hval0
  have hW' := hW
  obtain ⟨p, q, hA0, hV, rfl, hfz, hnd⟩ := hW
  have hA : DataW.TrodAll enc Tryd.prog W 0 (fun _ => true) true Tryd.f6.params.toList args.toList ds p := hA0
  rw [Tryd.params6] at hA hval
  obtain ⟨v0, vs0, d0, ds0, p0, q0, hargs, rfl, rfl, h0, r0⟩ := trodAll_cons hA
  obtain ⟨v1, vs1, d1, ds1, p1, q1, rfl, rfl, rfl, h1, r1⟩ := trodAll_cons r0
  obtain ⟨rfl, rfl, rfl⟩ := trodAll_nil r1
  obtain rfl : args = #[v0, v1] := by cases args; simp_all
  obtain ⟨e0, rfl⟩ : ∃ d, gs = [d] := by obtain ⟨_, _, _, _, d, _, e, _⟩ := trodVars_one hV; exact ⟨d, e⟩
  have k0 := h0
  have lt0 : ∀ x ∈ p0, x.block < W.heap.size := by obtain ⟨m, hm⟩ := k0; exact DataW.trod_lt m _ _ _ hm
  obtain ⟨D0, w0⟩ := open_Disk (hval 0 38 v0 rfl rfl) h0
  obtain ⟨a1, rfl, rfl, rfl, w1⟩ := open_int Tryd.underlying3 (hval 1 3 v1 rfl rfl) h1
  clear hA0 hval0
  try simp only [List.append_nil] at hW'
  refine (walk_FnExactSegFrames v0 D0 a1 w0 (bounds_i64 w1) (w := W) (FnExactSegFrames_of_laid hL)).mono fun e W' ⟨he, bel⟩ => ?_
  subst he
  exact ⟨_, rfl, _, _, _, [], _, _, hW', trodAll_mk1 (shut_bool Tryd.underlying4 _), (trodAll_cons_mk (Below.trod (show laidOutB Tryd.prog = true by kernel_rfl) (by kernel_rfl) (of_decide_eq_true (by kernel_rfl)) k0 bel lt0) (trodAll_cons_mk (shut_int Tryd.underlying3 w1) trodAll_mk0)), Below.trodVars (show laidOutB Tryd.prog = true by kernel_rfl) bel (by kernel_rfl) hV, bel.frame _, fun h => by cases h⟩

theorem fnExactSegFrames_row : Rows.FnExactSegFramesSaid :=
  OpenClaim.holds_of_wide 6 Tryd.f6 rfl rfl rfl rfl rfl rfl rfl ⟨rfl, rfl, rfl, rfl, rfl⟩ rfl rfl rfl rfl rfl (by kernel_rfl) Tryd.func6 (by kernel_rfl)
    (of_decide_eq_true (by kernel_rfl)) (by unfold Func.isWrapper; first | (rw [if_pos (by decide +kernel)]; kernel_rfl) | (rw [if_neg (by decide +kernel)]; exact ⟨rfl, rfl⟩))
    (fun os started H enc _ => FnExactSegFrames_lifted os started H enc)

/-- The given statement. -/
theorem fnExactSegFrames_cardsaid : Rows.FnExactSegFramesCardSaid :=
  Claim7.holds_tied_plain_at .later [] [.data] true (true, "67e5dfc5e4d47bb11e06d8081b9590947b34807de968be18581759f560173b8c") false
    fnExactSegFrames_row (fun _ h => by cases h) (by kernel_rfl) (fun _ h => by cases h) fnExactSegFrames_row_tie rfl ⟨rfl, rfl⟩ (by kernel_rfl) rfl
    (fun f fn hf hfn => by
      obtain rfl : f = 6 := Option.some.inj ((show Tryd.prog.funcNamed "loop.example/g00287/laws.FnExactSegFrames" = some 6 by kernel_rfl).symm.trans hf) |>.symm
      obtain rfl : fn = Tryd.f6 := (Option.some.inj (Tryd.func6.symm.trans hfn)).symm
      exact ⟨by kernel_rfl, fun j t ht => by
        rw [Tryd.params6] at ht
        have hm : t ∈ [38, 3] := by simpa using Array.mem_of_getElem? ht
        have hall : ([38, 3].all fun u => !Tryd.prog.wantsStandIn u) = true := by kernel_rfl
        exact (show Tryd.prog.wantsStandIn t = false by simpa using List.all_eq_true.1 hall t hm)⟩)
    (by kernel_rfl)
#print axioms fnExactSegFrames_cardsaid

end Go.Proofs.YtmlhpjkijpbinaqDoor
