/- For every disk and every number, SegOf answers as its model, every field; it writes into no argument, what it hands back is its own, behind another call too, and nothing that was there is changed; where the table of sixteen words holds what the program's text lays there (the card ties that to the text). -/
import Derived.Test.YtieenkloiicnkaaGreatDoorJn
import Derived.Test.YtieenkloiicnkaaGreatDoorJo
import Derived.Test.YtieenkloiicnkaaGreatDoorJq
import Derived.Deep.DeepCutAuto
import Derived.Test.YtieenkloiicnkaaGreatDoorTie
import Derived.Test.YtieenkloiicnkaaGreatDoorCards
import Derived.ProofKit
import Derived.LaidMore
import Derived.OpenShut
import Derived.OpenVars
import Derived.Stop.Joined
import Derived.SevenTiedAt
import Derived.Below
namespace Go.Proofs.YtieenkloiicnkaaGreatDoor
open Go.ChangeShapes Go.WideShapes Go.ChangeAt Go.RowKit
open Go.ChangeMaps (open_string shut_string)
set_option linter.unusedVariables false

set_option maxRecDepth 100000 in
set_option maxHeartbeats 8000000 in
theorem walk_FnExactSegOf (v : Value) (d : Dk) (s : Int) (w : World) (hd : DIn w v d) (_ha : -9223372036854775808 ≤ s ∧ s ≤ 9223372036854775807) (htab : SumTab w) :
    Calls Tryz.prog 3 #[v, .int .i64 s] w fun e w' => e = .returned (.bool true) ∧ Below w.heap.size w w' := by
  obtain ⟨va, vb, rfl, _⟩ := id hd
  have hx := Box.new w #[va, vb] 25
  have b0 : Below w.heap.size w (w.alloc (.cells #[va, vb] 25)) := (Below.refl _ _).alloc (Nat.le_refl _) _
  have HC : Hid (∀ x, Below (w.alloc (.cells #[va, vb] 25)).heap.size (w.alloc (.cells #[va, vb] 25)) x → x.cell? ⟨w.heap.size, 0, none⟩ = some va ∧ x.cell? ⟨w.heap.size, 1, none⟩ = some vb ∧ DIn x (.agg #[va, vb]) d ∧ Below w.heap.size w x ∧ SumTab x) := by
    intro x h
    have h' := b0.trans (h.mono b0.size)
    exact ⟨(hx.later h).cell 0 va rfl, (hx.later h).cell 1 vb rfl, hd.later h', h', htab.later h'⟩
  have hd0 := hd.later b0
  clear hx hd htab
  go_enter Tryz.func3, Tryz.ntmps3
  go_wp2_with fail
  generalize w.alloc (.cells #[va, vb] 25) = W at HC b0 hd0 ⊢
  refine (szDisk_any d _ 1048576 _ hd0 (by omega) (by omega)).mono ?_
  rintro e w2 ⟨r, rfl, k2, hr1, hr2, hr3⟩
  by_cases hneg : r < 0
  · have HR := Lib.hid hr3
    clear hr3
    obtain ⟨_, _, _, b2, _⟩ := HC.out _ k2
    go_wp2
    go_ret
    exact ⟨rfl, b2⟩
  obtain ⟨ls, lc, ht, hu⟩ := hr3 (by omega)
  have hsm : d.small := ⟨by omega, by omega⟩
  have hdc : d.count ≤ 4000000 := by unfold Dk.count; omega
  have HT2 : Hid ((∀ s ∈ d.sec, s.size ≤ 137438953472) ∧ ∀ x ∈ d.cache, x.text.size ≤ 137438953472) := ⟨fun s hs => by have := ht s hs; omega, fun x hx => by have := hu x hx; omega⟩
  have hLn : (sgOf d s).items.length ≤ 8388608 := by
    have h1 : (sgI (sgT d s)).length ≤ _ := sgI_le (sgT d s)
    have h2 := sgT_size (M := 1048576) (fun s hs => by have := ht s hs; omega) (fun x hx => by have := hu x hx; omega) s
    show (sgI (sgT d s)).length ≤ _
    omega
  have HSP : Hid (∀ (x : World) (u : Value), DRd x u d → Calls Tryz.prog 7 #[u, .int .i64 s] x fun e w' => SoR (sgOf d s) x e w') := fun x u hu => specSegOf_any d u s x hu hsm HT2.out.1 HT2.out.2
  have HIM : Hid (∀ (x : World) (u : Value), DRd x u d → SumTab x → Calls Tryz.prog 9 #[u, .int .i64 s] x fun e w' => SoR (sgOf d s) x e w') := fun x u hu htb => implSegOf_any d u s x hu hsm HT2.out.1 HT2.out.2 htb
  clear hr3 ht hu hd0
  have HEQ : Hid (∀ (a1 a2 : Option Addr) (c1 c2 : Nat) (x : World), Rows' itE x (.slice a1 (sgOf d s).items.length c1) (sgOf d s).items → Rows' itE x (.slice a2 (sgOf d s).items.length c2) (sgOf d s).items → Calls Tryz.prog 10 #[.agg #[.int .i64 (sgOf d s).no, .int .i64 (sgOf d s).gen, .int .i64 (sgOf d s).ende, .slice a1 (sgOf d s).items.length c1], .agg #[.int .i64 (sgOf d s).no, .int .i64 (sgOf d s).gen, .int .i64 (sgOf d s).ende, .slice a2 (sgOf d s).items.length c2]] x fun e w' => e = .returned (.bool true) ∧ Below x.heap.size x w') := fun a1 a2 c1 c2 x h1 h2 => eqSeg_same (sgOf d s) a1 a2 _ _ c1 c2 x h1 h2 (by omega)
  generalize sgOf d s = S at HSP HIM HEQ hLn
  obtain ⟨no, gn, en, L⟩ := S
  unfold SoR at HSP HIM
  simp only at HSP HIM HEQ hLn
  obtain ⟨n, hn⟩ : ∃ n, L.length = n := ⟨_, rfl⟩
  rw [hn] at HSP HIM HEQ hLn
  have HN := Lib.hid hn
  clear hn
  obtain ⟨c0, c1, d2, b2, _⟩ := HC.out _ k2
  go_wp2_with fail
  clear c0 c1
  refine (toDisk_any d _ _ d2 (by omega) (by omega)).mono ?_
  rintro e w3 ⟨v1, rfl, o1, k3⟩
  have j3 := k2.trans (k3.mono k2.size)
  go_wp2_with fail
  refine (HSP.out _ _ o1.rd).mono ?_
  rintro e w4 ⟨a4, c4, rfl, r4⟩
  have k4 := r4.bel
  have j4 := j3.trans (k4.mono j3.size)
  have S0 := SB.new (no := no) (gn := gn) (en := en) r4.lown
  have k4' := belNew w4 (.cells #[.int .i64 no, .int .i64 gn, .int .i64 en, .slice a4 n c4] 29)
  have j4' := j4.trans (k4'.mono j4.size)
  have zz4 : Hid (w4.heap.size < (w4.alloc (.cells #[.int .i64 no, .int .i64 gn, .int .i64 en, .slice a4 n c4] 29)).heap.size ∧ W.heap.size ≤ w3.heap.size ∧ w3.heap.size ≤ w4.heap.size) := ⟨by simp, j3.size, k4.size⟩
  obtain ⟨c0, c1, d4, _, _⟩ := HC.out _ j4'
  clear o1 r4 k4 k4' j4 d2 b2 HSP
  go_wp2_with fail
  clear c0 c1
  generalize w4.alloc (.cells #[.int .i64 no, .int .i64 gn, .int .i64 en, .slice a4 n c4] 29) = w5 at S0 j4' zz4 d4 ⊢
  generalize hg4 : w4.heap.size = g4 at S0 zz4 ⊢
  clear hg4
  refine (toDisk_any d _ _ d4 (by omega) (by omega)).mono ?_
  rintro e w6 ⟨v2, rfl, o2, k6⟩
  have j6 := j4'.trans (k6.mono j4'.size)
  obtain ⟨p10, r10, q10, s10, rfl⟩ := o2.form
  have D10 := DB.new o2
  have k7 : Below w6.heap.size w6 (w6.alloc (.cells #[.slice p10 d.sec.length q10, .slice r10 d.cache.length s10] 33)) := (Below.refl _ _).alloc (Nat.le_refl _) _
  have j7 := j6.trans (k7.mono j6.size)
  have S1 := (S0.later k6).later k7
  have zz7 : Hid (w5.heap.size ≤ w6.heap.size ∧ w6.heap.size < (w6.alloc (.cells #[.slice p10 d.sec.length q10, .slice r10 d.cache.length s10] 33)).heap.size) := ⟨k6.size, by simp⟩
  have c0 := D10.c0
  have c1 := D10.c1
  have o6 := D10.2
  clear o2 S0 d4 k6 k7 j6 j4'
  go_wp2_with fail
  clear c0 c1
  generalize w6.alloc (.cells #[.slice p10 d.sec.length q10, .slice r10 d.cache.length s10] 33) = w7 at D10 j7 S1 zz7 o6 ⊢
  generalize hg6 : w6.heap.size = g6 at D10 S1 zz7 o6 ⊢
  clear hg6
  obtain ⟨_, _, _, _, tb6⟩ := HC.out _ j7
  refine (HIM.out _ _ o6.rd tb6).mono ?_
  rintro e w8 ⟨a8, c8, rfl, r8⟩
  have k8 := r8.bel
  have k8' := belNew w8 (.cells #[.int .i64 no, .int .i64 gn, .int .i64 en, .slice a8 n c8] 29)
  have T0 := SB.new (no := no) (gn := gn) (en := en) r8.lown
  have j8 := (j7.trans (k8.mono j7.size))
  have j9 := j8.trans (k8'.mono j8.size)
  have S2 := (S1.later k8).later k8'
  have D11 := (D10.later k8).later k8'
  have zz8 : Hid (w7.heap.size ≤ w8.heap.size ∧ w8.heap.size < (w8.alloc (.cells #[.int .i64 no, .int .i64 gn, .int .i64 en, .slice a8 n c8] 29)).heap.size) := ⟨k8.size, by simp⟩
  clear S1 D10 o6 r8 k8 k8' j7 j8 tb6
  obtain ⟨t0, t1, t2, t3, _⟩ := T0.1.fourG
  obtain ⟨s0, s1, s2, s3, _⟩ := S2.1.fourG
  go_upto_region 8 with fail
  generalize w8.alloc (.cells #[.int .i64 no, .int .i64 gn, .int .i64 en, .slice a8 n c8] 29) = w9 at T0 S2 D11 j9 zz8 t0 t1 t2 t3 s0 s1 s2 s3 ⊢
  generalize hg8 : w8.heap.size = g8 at T0 zz8 t0 t1 t2 t3 ⊢
  clear hg8
  go_wp2_with fail
  clear t0 t1 t2 t3 s0 s1 s2 s3
  refine (HEQ.out _ _ _ _ _ T0.2.rows S2.2.rows).mono ?_
  rintro e wA ⟨rfl, kA⟩
  have jA := j9.trans (kA.mono j9.size)
  have X0 := Lib.hid (S2.later kA)
  have X10 := Lib.hid (D11.later kA)
  have XT := Lib.hid (T0.later kA)
  obtain ⟨a0, a1, dA, _, _⟩ := HC.out _ jA
  have e0 := X10.out.c0
  have e1 := X10.out.c1
  have HS : Hid (∀ x, Below wA.drew.heap.size wA.drew x → x.cell? ⟨w.heap.size, 0, none⟩ = some va ∧ x.cell? ⟨w.heap.size, 1, none⟩ = some vb ∧ x.cell? ⟨g6, 0, none⟩ = some (.slice p10 d.sec.length q10) ∧ x.cell? ⟨g6, 1, none⟩ = some (.slice r10 d.cache.length s10) ∧ DB x g6 w5.heap.size g6 (.slice p10 d.sec.length q10) (.slice r10 d.cache.length s10) d ∧ Below wA.heap.size wA x) := by
    intro x hx
    have hx2 : Below wA.heap.size wA x := (drewBel wA).trans hx
    obtain ⟨u0, u1, _, _, _⟩ := HC.out _ (jA.trans (hx2.mono jA.size))
    have := X10.out.later hx2
    exact ⟨u0, u1, this.c0, this.c1, this, hx2⟩
  have d8 := dA.later (drewBel wA)
  clear dA S2 D11 T0 j9 kA
  go_upto_region 10 with fail
  go_cut [35] (fun c wx => c = .bool false ∧ Below wA.heap.size wA wx)
  case first =>
    go_region_held3 (fun x => x.cell? ⟨w.heap.size, 0, none⟩ = some va ∧ x.cell? ⟨w.heap.size, 1, none⟩ = some vb ∧ x.cell? ⟨g6, 0, none⟩ = some (.slice p10 d.sec.length q10) ∧ x.cell? ⟨g6, 1, none⟩ = some (.slice r10 d.cache.length s10))
      (first | go_keep | (obtain ⟨u0, u1, u2, u3, _⟩ := HS.out _ kX; exact ⟨u0, u1, u2, u3⟩) | (obtain ⟨u0, u1, u2, u3, _⟩ := HS.out _ kY; exact ⟨u0, u1, u2, u3⟩))
      (first
        | (go_at_call 8; refine (toDisk_any d _ _ d8 (by omega) (by omega)).mono ?_; rintro e wX ⟨v9, rfl, o9, kX⟩; obtain ⟨_, _, _, _, o9', _⟩ := HS.out _ kX)
        | (go_at_call 11; refine (eqDisk_same d _ _ _ o9'.2.rd o9.rd hsm).mono ?_; rintro e wY ⟨rfl, kY'⟩; have kY := kX.trans (kY'.mono kX.size)))
    all_goals
      obtain ⟨_, _, _, _, _, bZ⟩ := HS.out _ kY
      go_wp2_with fail
      go_meet
      exact ⟨rfl, bZ⟩
  case rest =>
    obtain ⟨rfl, hcut⟩ := hcut
    have jB := jA.trans (hcut.mono jA.size)
    have Y0 := X0.out.later hcut
    have Y10 := X10.out.later hcut
    have YT := XT.out.later hcut
    have c0 := Y10.c0
    have c1 := Y10.c1
    clear X0 X10 XT HS d8 a0 a1 e0 e1 jA
    go_wp2_with fail
    clear c0 c1
    refine (markDisk_any d _ 1 _ _ _ Y10.2 (by omega) (by omega)).mono ?_
    rintro e wB ⟨rfl, oB, kB⟩
    have jC := kB.belowW jB (by have := zz4.out; have := zz7.out; have := zz8.out; omega)
    have Z0 := Y0.kept kB (by have := zz4.out; have := zz7.out; have := zz8.out; omega) (by have := zz4.out; have := zz7.out; have := zz8.out; omega)
    have ZT := YT.kept kB (by have := zz4.out; have := zz7.out; have := zz8.out; omega) (by have := zz4.out; have := zz7.out; have := zz8.out; omega)
    have hk0 : ¬ ((1 + d.count : Nat) : Int) < 0 := by omega
    generalize (1 + d.count) = kk at *
    obtain ⟨t0, t1, t2, t3, _⟩ := ZT.1.fourG
    obtain ⟨s0, s1, s2, s3, _⟩ := Z0.1.fourG
    clear Y0 Y10 YT oB kB jB
    go_wp2_with fail
    clear t0 t1 t2 t3 s0 s1 s2 s3
    refine (HEQ.out _ _ _ _ _ ZT.2.rows Z0.2.rows).mono ?_
    rintro e wC ⟨rfl, kC⟩
    have jD := jC.trans (kC.mono jC.size)
    have V0 := Z0.later kC
    have VT := ZT.later kC
    obtain ⟨t0, t1, t2, t3, _⟩ := VT.1.fourG
    have HMK := Lib.hid (markSeg_own no gn en a8 c8 L n 1 _ _ _ VT.2 HN.out (by omega) (by omega))
    have HHD := Lib.hid (fun x h => heldSeg_any no gn en a8 c8 n 1 x h (by omega) (by omega))
    have hkm : ¬ (((1 + 9 * n : Nat) : Int) < 0) := by omega
    generalize 1 + 9 * n = km at HMK HHD hkm ⊢
    clear Z0 ZT kC jC
    go_wp2_with fail
    clear t0 t1 t2 t3
    refine HMK.out.mono ?_
    rintro e wD ⟨rfl, tD, kD⟩
    have jE := kD.belowW jD (by have := zz4.out; have := zz7.out; have := zz8.out; omega)
    have U0 := V0.kept kD (by have := zz4.out; have := zz7.out; have := zz8.out; omega) (by have := zz4.out; have := zz7.out; have := zz8.out; omega)
    have UT := VT.marked kD tD (by have := zz4.out; have := zz7.out; have := zz8.out; omega)
    obtain ⟨t0, t1, t2, t3, _⟩ := UT.1.fourG
    clear V0 VT tD HMK kD jD
    go_wp2_with fail
    clear t0 t1 t2 t3
    refine (HHD.out _ UT.2.rows).mono ?_
    rintro e wE ⟨rfl, kE⟩
    have jF := jE.trans (kE.mono jE.size)
    have T0 := U0.later kE
    have TT := UT.later kE
    obtain ⟨c0, c1, dF, _, _⟩ := HC.out _ jF
    clear U0 UT kE jE
    go_wp2_with fail
    clear c0 c1
    refine (toDisk_any d _ _ dF (by omega) (by omega)).mono ?_
    rintro e wF ⟨v5, rfl, oF, kF⟩
    have jG := jF.trans (kF.mono jF.size)
    obtain ⟨_, _, _, _, tbG⟩ := HC.out _ jG
    go_wp2_with fail
    refine (HIM.out _ _ oF.rd tbG).mono ?_
    rintro e wG ⟨aG, cG, rfl, rG⟩
    have kG := rG.bel
    have kG' := belNew wG (.cells #[.int .i64 no, .int .i64 gn, .int .i64 en, .slice aG n cG] 29)
    have RG := SB.new (no := no) (gn := gn) (en := en) rG.lown
    have jH0 := jG.trans (kG.mono jG.size)
    have jH := jH0.trans (kG'.mono jH0.size)
    have R0 := ((T0.later kF).later kG).later kG'
    have RT := ((TT.later kF).later kG).later kG'
    obtain ⟨t0, t1, t2, t3, _⟩ := RG.1.fourG
    obtain ⟨s0, s1, s2, s3, _⟩ := R0.1.fourG
    clear T0 TT oF dF tbG rG kF kG kG' jG jF jH0
    go_upto_region 25 with fail
    generalize wG.alloc (.cells #[.int .i64 no, .int .i64 gn, .int .i64 en, .slice aG n cG] 29) = wH at RG R0 RT jH t0 t1 t2 t3 s0 s1 s2 s3 ⊢
    generalize hgH : wG.heap.size = gH at RG t0 t1 t2 t3 ⊢
    clear hgH
    go_wp2_with fail
    clear t0 t1 t2 t3 s0 s1 s2 s3
    refine (HEQ.out _ _ _ _ _ RG.2.rows R0.2.rows).mono ?_
    rintro e wI ⟨rfl, kI⟩
    have jI := jH.trans (kI.mono jH.size)
    have QT := RT.later kI
    obtain ⟨t0, t1, t2, t3, _⟩ := QT.1.fourG
    clear R0 RT RG jH
    go_wp2_with fail
    clear t0 t1 t2 t3
    refine (HHD.out _ QT.2.rows).mono ?_
    rintro e wJ ⟨rfl, kJ⟩
    obtain ⟨_, _, _, bZ, _⟩ := HC.out _ (jI.trans (kJ.mono jI.size))
    clear QT
    go_wp2
    go_ret
    exact ⟨rfl, bZ⟩

theorem FnExactSegOf_of_laid {W : World} (h : laidMetH Tryz.prog Rows.fnExactSegOfRow.laid W) : SumTab W := sumTab_of_laid h

theorem FnExactSegOf_own : ownKnob Tryz.prog.godebug = none := by kernel_rfl
theorem FnExactSegOf_door (os : Os) (args : Array Value) : laidMetH Tryz.prog Rows.fnExactSegOfRow.laid ((World.doorLaid Tryz.prog 400 os).forCall (fun _ _ => 0) ⟨#[], args, []⟩).memory :=
  laidMetH_of_parts3 (fuel := 8) (laidMet_of_run' 8 (by kernel_rfl) (by kernel_rfl)) (by kernel_rfl) (by kernel_rfl)

set_option maxRecDepth 100000 in
theorem FnExactSegOf_lifted (os : Os) (started : os.Started) (H : Type) (enc : TypeId × Value → H) :
    ReturnsInHanded {} Tryz.checked os 3 .any (fun w args => (Rows.fnExactSegOfSpec.pre enc Tryz.prog Tryz.f3 [] false w args ∧ laidMetH Tryz.prog Rows.fnExactSegOfRow.laid w) ∧ sizedMet enc Tryz.prog Tryz.f3 (OpenSpec.ofChange Rows.fnExactSegOfSpec) false w args)
      (Rows.fnExactSegOfSpec.post enc Tryz.prog Tryz.f3 false true false false) := by
  refine returnsInHanded_of_change_and (C := Tryz.checked) (X := fun w _ => laidMetH Tryz.prog Rows.fnExactSegOfRow.laid w) (fun _ _ _ hh h => h.of_heap hh) FnExactSegOf_own started (by kernel_rfl) Tryz.func3
    (ChangeSpec.witness_shaped (enc := enc) (C := Tryz.checked) (os := os) (X := fun w _ => laidMetH Tryz.prog Rows.fnExactSegOfRow.laid w) false (World.doorLaid Tryz.prog 400 os) #[.agg #[.slice none 0 0, .slice none 0 0], .int .i64 0] 8 rfl (World.shaped_of_RefB (by kernel_rfl) (by kernel_rfl)) (by kernel_rfl) (by kernel_rfl) (by kernel_rfl) (FnExactSegOf_door os _)) ?_
  intro W base args ds gs before hval0 hW _ _ hL _
  have hval : ∀ (j : Nat) t v, Tryz.f3.params[j]? = some t → args[j]? = some v → Value.okWide Tryz.prog W .any base t v := hval0
  have hW' := hW
  obtain ⟨p, q, hA0, hV, rfl, hfz, hnd⟩ := hW
  have hA : DataW.TrodAll enc Tryz.prog W 0 (fun _ => true) true Tryz.f3.params.toList args.toList ds p := hA0
  rw [Tryz.params3] at hA hval
  obtain ⟨v0, vs0, d0, ds0, p0, q0, hargs, rfl, rfl, h0, r0⟩ := trodAll_cons hA
  obtain ⟨v1, vs1, d1, ds1, p1, q1, rfl, rfl, rfl, h1, r1⟩ := trodAll_cons r0
  obtain ⟨rfl, rfl, rfl⟩ := trodAll_nil r1
  obtain rfl : args = #[v0, v1] := by cases args; simp_all
  obtain ⟨e0, rfl⟩ : ∃ d, gs = [d] := by obtain ⟨_, _, _, _, d, _, e, _⟩ := trodVars_one hV; exact ⟨d, e⟩
  have k0 := h0
  have lt0 : ∀ x ∈ p0, x.block < W.heap.size := by obtain ⟨m, hm⟩ := k0; exact DataW.trod_lt m _ _ _ hm
  obtain ⟨D0, w0⟩ := open_Disk (hval 0 25 v0 rfl rfl) h0
  obtain ⟨a1, rfl, rfl, rfl, w1⟩ := open_int Tryz.underlying3 (hval 1 3 v1 rfl rfl) h1
  clear hA0 hval0
  try simp only [List.append_nil] at hW'
  refine (walk_FnExactSegOf v0 D0 a1 w0 (bounds_i64 w1) (w := W) (FnExactSegOf_of_laid hL)).mono fun e W' ⟨he, bel⟩ => ?_
  subst he
  exact ⟨_, rfl, _, _, _, [], _, _, hW', trodAll_mk1 (shut_bool Tryz.underlying4 _), (trodAll_cons_mk (Below.trod (show laidOutB Tryz.prog = true by kernel_rfl) (by kernel_rfl) (of_decide_eq_true (by kernel_rfl)) k0 bel lt0) (trodAll_cons_mk (shut_int Tryz.underlying3 w1) trodAll_mk0)), Below.trodVars (show laidOutB Tryz.prog = true by kernel_rfl) bel (by kernel_rfl) hV, bel.frame _, fun h => by cases h⟩

theorem fnExactSegOf_row : Rows.FnExactSegOfSaid :=
  OpenClaim.holds_of_wide 3 Tryz.f3 rfl rfl rfl rfl rfl rfl rfl ⟨rfl, rfl, rfl, rfl, rfl⟩ rfl rfl rfl rfl rfl (by kernel_rfl) Tryz.func3 (by kernel_rfl)
    (of_decide_eq_true (by kernel_rfl)) (by unfold Func.isWrapper; first | (rw [if_pos (by decide +kernel)]; kernel_rfl) | (rw [if_neg (by decide +kernel)]; exact ⟨rfl, rfl⟩))
    (fun os started H enc _ => FnExactSegOf_lifted os started H enc)

/-- The given statement. -/
theorem fnExactSegOf_cardsaid : Rows.FnExactSegOfCardSaid :=
  Claim7.holds_tied_plain_at .later [] [.data] true (true, "86b249c541a9206e1da35a22826e517713138d78ec26604ff10e59483b28f276") true
    fnExactSegOf_row (fun _ h => by cases h) (by kernel_rfl) (fun _ h => by cases h) fnExactSegOf_row_tie rfl ⟨rfl, rfl⟩ (by kernel_rfl) rfl
    (fun f fn hf hfn => by
      obtain rfl : f = 3 := Option.some.inj ((show Tryz.prog.funcNamed "loop.example/g00287/laws.FnExactSegOf" = some 3 by kernel_rfl).symm.trans hf) |>.symm
      obtain rfl : fn = Tryz.f3 := (Option.some.inj (Tryz.func3.symm.trans hfn)).symm
      exact ⟨by kernel_rfl, fun j t ht => by
        rw [Tryz.params3] at ht
        have hm : t ∈ [25, 3] := by simpa using Array.mem_of_getElem? ht
        have hall : ([25, 3].all fun u => !Tryz.prog.wantsStandIn u) = true := by kernel_rfl
        exact (show Tryz.prog.wantsStandIn t = false by simpa using List.all_eq_true.1 hall t hm)⟩)
    (by kernel_rfl)
#print axioms fnExactSegOf_cardsaid

end Go.Proofs.YtieenkloiicnkaaGreatDoor
