/- For every disk, list and number, CrashDisk answers as its model; it writes into no argument, its answer owns its memory, and nothing that was there is changed. No condition. -/
import Derived.Test.YtegjkcooebmkoapKitLaw
import Derived.Test.YtegjkcooebmkoapSpecCrash
import Derived.Test.YtegjkcooebmkoapIntS
import Derived.ProofKit
import Derived.OpenShut
import Derived.ShutString
import Derived.ChangeOld
import Derived.Below
namespace Go.Proofs.Ytegjkcooebmkoap
open Go.ChangeShapes Go.WideShapes Go.ChangeAt Go.RowKit
open Go.ChangeMaps (open_string shut_string)
set_option linter.unusedVariables false

set_option maxRecDepth 100000 in
set_option maxHeartbeats 8000000 in
theorem walk_FnExactCrashDisk (v : Value) (d : Dk) (vk : Value) (ks : List Int) (t : Int) (w : World) (hd : DIn w v d) (hk : IIn w vk ks) (_ht : -9223372036854775808 ≤ t ∧ t ≤ 9223372036854775807) :
    Calls Try.prog 3 #[v, vk, .int .i64 t] w fun e w' => e = .returned (.bool true) ∧ Below w.heap.size w w' := by
  obtain ⟨va, vb, rfl, _⟩ := id hd
  have hx := Box.new w #[va, vb] 25
  have b0 : Below w.heap.size w (w.alloc (.cells #[va, vb] 25)) := (Below.refl _ _).alloc (Nat.le_refl _) _
  have HC : Hid (∀ x, Below (w.alloc (.cells #[va, vb] 25)).heap.size (w.alloc (.cells #[va, vb] 25)) x → x.cell? ⟨w.heap.size, 0, none⟩ = some va ∧ x.cell? ⟨w.heap.size, 1, none⟩ = some vb ∧ DIn x (.agg #[va, vb]) d ∧ Below w.heap.size w x) := by
    intro x h
    have h' := b0.trans (h.mono b0.size)
    exact ⟨(hx.later h).cell 0 va rfl, (hx.later h).cell 1 vb rfl, hd.later h', h'⟩
  have hd0 := hd.later b0
  obtain ⟨hk0, hkm⟩ := hk
  obtain ⟨ak, ck, rfl⟩ : ∃ (a : Option Addr) (c : Nat), vk = .slice a ks.length c := by
    rcases hk0 with ⟨e, a, c, rfl⟩ | ⟨g, o, c, rfl, _⟩
    · exact ⟨a, c, by rw [e]; rfl⟩
    · exact ⟨_, c, rfl⟩
  have HKI : Hid (∀ x, Below w.heap.size w x → Rows' intE x (.slice ak ks.length ck) ks) := fun x hx => hk0.later hx
  clear hx hd hk0
  by_cases hT : ¬ ks.length ≤ 1048576
  · obtain ⟨_, _, _, b⟩ := HC.out _ (Below.refl _ _)
    go_enter Try.func3, Try.ntmps3
    go_wp2
    go_ret
    exact ⟨rfl, b⟩
  have hkl : ks.length ≤ 1048576 := by omega
  clear hT
  go_enter Try.func3, Try.ntmps3
  go_wp2_with fail
  generalize w.alloc (.cells #[va, vb] 25) = W at HC b0 hd0 ⊢
  refine (szDisk_any d _ 1048576 _ hd0 (by omega) (by omega)).mono ?_
  rintro e w2 ⟨r, rfl, k2, hr1, hr2, hr3⟩
  by_cases hneg : r < 0
  · have HR := Lib.hid hr3
    clear hr3
    obtain ⟨_, _, _, b2⟩ := HC.out _ k2
    go_wp2
    go_ret
    exact ⟨rfl, b2⟩
  obtain ⟨ls, lc, ht, hu⟩ := hr3 (by omega)
  have hsm : d.small := ⟨by omega, by omega⟩
  have HT : Hid ((∀ s ∈ d.sec, s.size ≤ 1099511627776) ∧ ∀ x ∈ d.cache, x.text.size ≤ 1099511627776) := ⟨fun s hs => by have := ht s hs; omega, fun x hx => by have := hu x hx; omega⟩
  have hdc : d.count ≤ 4000000 := by unfold Dk.count; omega
  clear hr3 ht hu hd0
  obtain ⟨D2, hD2⟩ : ∃ D2, crD d ks t = D2 := ⟨_, rfl⟩
  have HD2 := Lib.hid hD2
  have hsm2 : Hid (D2.small ∧ D2.count ≤ 4000010) := by rw [← hD2]; exact crD_small hsm hdc
  clear hD2
  obtain ⟨c0, c1, d2, b2⟩ := HC.out _ k2
  go_wp2_with fail
  clear c0 c1
  refine (toDisk_any d _ _ d2 (by omega) (by omega)).mono ?_
  rintro e w3 ⟨v1, rfl, o1, k3⟩
  have j3 := k2.trans (k3.mono k2.size)
  obtain ⟨_, _, _, b3⟩ := HC.out _ j3
  go_wp2_with fail
  refine (toIntS_any ks _ _ (HKI.out _ b3) hkl).mono ?_
  rintro e w3q ⟨u1, rfl, i1⟩
  obtain ⟨pu1, qu1, rfl⟩ := i1.form
  have i1z : Hid (w3.heap.size ≤ w3q.heap.size) := i1.bel.size
  have j3q := j3.trans (i1.bel.mono j3.size)
  go_wp2_with fail
  refine (specCrashDisk_any d _ _ _ _ (o1.later i1.bel) hsm HT.out.1 HT.out.2 _ ks i1.rows hkl t).mono ?_
  intro e w4 hres
  rw [crS_eq, HD2.out] at hres
  obtain ⟨v0, rfl, o0, k4⟩ := hres
  have j4 := j3q.trans (k4.mono j3q.size)
  obtain ⟨p8, r8, q8, s8, rfl⟩ := o0.form
  have D8 := DB.new o0
  have k5 : Below w4.heap.size w4 (w4.alloc (.cells #[.slice p8 D2.sec.length q8, .slice r8 D2.cache.length s8] 30)) := (Below.refl _ _).alloc (Nat.le_refl _) _
  have j5 := j4.trans (k5.mono j4.size)
  have z5 : w4.heap.size < (w4.alloc (.cells #[.slice p8 D2.sec.length q8, .slice r8 D2.cache.length s8] 30)).heap.size := by simp
  obtain ⟨c0, c1, d5, _⟩ := HC.out _ j5
  clear o0 o1 i1
  go_wp2_with fail
  clear c0 c1
  generalize w4.alloc (.cells #[.slice p8 D2.sec.length q8, .slice r8 D2.cache.length s8] 30) = w5 at D8 k5 j5 d5 z5 ⊢
  refine (toDisk_any d _ _ d5 (by omega) (by omega)).mono ?_
  rintro e w6 ⟨v2, rfl, o2, k6⟩
  have j6 := j5.trans (k6.mono j5.size)
  obtain ⟨p10, r10, q10, s10, rfl⟩ := o2.form
  have D10 := DB.new o2
  have k7 : Below w6.heap.size w6 (w6.alloc (.cells #[.slice p10 d.sec.length q10, .slice r10 d.cache.length s10] 30)) := (Below.refl _ _).alloc (Nat.le_refl _) _
  have j7 := j6.trans (k7.mono j6.size)
  have D8a := (D8.later k6).later k7
  have z7 : w6.heap.size < (w6.alloc (.cells #[.slice p10 d.sec.length q10, .slice r10 d.cache.length s10] 30)).heap.size := by simp
  clear o2 D8
  obtain ⟨_, _, _, b7⟩ := HC.out _ j7
  have hki7 := HKI.out _ b7
  go_wp2_with fail
  generalize w6.alloc (.cells #[.slice p10 d.sec.length q10, .slice r10 d.cache.length s10] 30) = w7p at D10 k7 j7 D8a z7 hki7 ⊢
  refine (toIntS_any ks _ _ hki7 hkl).mono ?_
  rintro e w7 ⟨u2, rfl, i2⟩
  obtain ⟨pu2, qu2, rfl⟩ := i2.form
  have k7q := i2.bel
  have I2 := Lib.hid i2.lown
  have z7q : w7p.heap.size ≤ w7.heap.size := k7q.size
  have z7b : w6.heap.size < w7.heap.size := by omega
  have j7p := j7
  have j7 := j7p.trans (k7q.mono j7p.size)
  have D10p := D10.later k7q
  have D8p := D8a.later k7q
  clear D10 D8a i2
  have D10 := D10p
  have D8a := D8p
  clear D10p D8p
  have c0 := D10.c0
  have c1 := D10.c1
  have o7 := D10.2
  go_wp2_with fail
  clear c0 c1
  refine (implCrashDisk_any d _ _ _ _ o7 hsm (by omega) HT.out.1 HT.out.2 _ ks I2.out.rows hkl t).mono ?_
  intro e w8 hres
  rw [HD2.out] at hres
  obtain ⟨v3, rfl, o3, k8⟩ := hres
  have j8 := j7.trans (k8.mono j7.size)
  obtain ⟨p11, r11, q11, s11, rfl⟩ := o3.form
  have D11 := DB.new o3
  have k9 : Below w8.heap.size w8 (w8.alloc (.cells #[.slice p11 D2.sec.length q11, .slice r11 D2.cache.length s11] 30)) := (Below.refl _ _).alloc (Nat.le_refl _) _
  have j9 := j8.trans (k9.mono j8.size)
  have D8b := (D8a.later k8).later k9
  have D10b := (D10.later k8).later k9
  have c0 := D11.c0
  have c1 := D11.c1
  have e0 := D8b.c0
  have e1 := D8b.c1
  have z3 : w3.heap.size ≤ w4.heap.size := by have := k4.size; have := i1z.out; omega
  have z6 : w5.heap.size ≤ w6.heap.size := k6.size
  have z8 : w7.heap.size ≤ w8.heap.size := k8.size
  clear o3 D8a D10
  go_wp2_with fail
  clear c0 c1 e0 e1
  generalize w8.alloc (.cells #[.slice p11 D2.sec.length q11, .slice r11 D2.cache.length s11] 30) = w9 at D11 k9 j9 D8b D10b ⊢
  refine (eqDisk_same D2 _ _ _ D11.2.rd D8b.2.rd hsm2.out.1).mono ?_
  rintro e wA ⟨rfl, kA⟩
  have jA := j9.trans (kA.mono j9.size)
  obtain ⟨a0, a1, dA, _⟩ := HC.out _ jA
  have X8 := Lib.hid (D8b.later kA)
  have X10 := Lib.hid (D10b.later kA)
  have X11 := Lib.hid (D11.later kA)
  have I2A := Lib.hid (((I2.out.later k8).later k9).later kA)
  have e0 := X10.out.c0
  have e1 := X10.out.c1
  have HS : Hid (∀ x, Below wA.drew.heap.size wA.drew x → x.cell? ⟨w.heap.size, 0, none⟩ = some va ∧ x.cell? ⟨w.heap.size, 1, none⟩ = some vb ∧ x.cell? ⟨w6.heap.size, 0, none⟩ = some (.slice p10 d.sec.length q10) ∧ x.cell? ⟨w6.heap.size, 1, none⟩ = some (.slice r10 d.cache.length s10) ∧ DB x w6.heap.size w5.heap.size w6.heap.size (.slice p10 d.sec.length q10) (.slice r10 d.cache.length s10) d ∧ Below wA.heap.size wA x) := by
    intro x hx
    have hx2 : Below wA.heap.size wA x := (drewBel wA).trans hx
    obtain ⟨u0, u1, _, _⟩ := HC.out _ (jA.trans (hx2.mono jA.size))
    have := X10.out.later hx2
    exact ⟨u0, u1, this.c0, this.c1, this, hx2⟩
  have d8 := dA.later (drewBel wA)
  clear dA D8b D10b D11
  go_upto_region 13 with fail
  go_cut [46] (fun c wx => c = .bool false ∧ Below wA.heap.size wA wx)
  case first =>
    go_region_held3 (fun x => x.cell? ⟨w.heap.size, 0, none⟩ = some va ∧ x.cell? ⟨w.heap.size, 1, none⟩ = some vb ∧ x.cell? ⟨w6.heap.size, 0, none⟩ = some (.slice p10 d.sec.length q10) ∧ x.cell? ⟨w6.heap.size, 1, none⟩ = some (.slice r10 d.cache.length s10))
      (first | go_keep | (obtain ⟨u0, u1, u2, u3, _⟩ := HS.out _ kX; exact ⟨u0, u1, u2, u3⟩) | (obtain ⟨u0, u1, u2, u3, _⟩ := HS.out _ kY; exact ⟨u0, u1, u2, u3⟩))
      (first
        | (go_at_call 8; refine (toDisk_any d _ _ d8 (by omega) (by omega)).mono ?_; rintro e wX ⟨v9, rfl, o9, kX⟩; obtain ⟨_, _, _, _, o9', _⟩ := HS.out _ kX)
        | (go_at_call 11; refine (eqDisk_same d _ _ _ o9'.2.rd o9.rd hsm).mono ?_; rintro e wY ⟨rfl, kY'⟩; have kY := kX.trans (kY'.mono kX.size)))
    all_goals
      obtain ⟨_, _, _, _, _, bZ⟩ := HS.out _ kY
      go_wp2_with fail
      go_meet
      exact ⟨rfl, bZ⟩
  case rest =>
    obtain ⟨rfl, hcut⟩ := hcut
    have jB := jA.trans (hcut.mono jA.size)
    have IB := I2A.out.later hcut
    obtain ⟨_, _, _, bB⟩ := HC.out _ jB
    have hkiB := HKI.out _ bB
    clear HS d8 a0 a1 e0 e1
    go_wp2_with fail
    refine (toIntS_any ks _ _ hkiB hkl).mono ?_
    rintro e wq1 ⟨u3, rfl, i3⟩
    obtain ⟨pu3, qu3, rfl⟩ := i3.form
    have kq1 := i3.bel
    have IB1 := IB.later kq1
    go_wp2_with fail
    refine (eqIntS_same ks _ _ _ IB1.rows i3.rows (by omega)).mono ?_
    rintro e wq2 ⟨rfl, kq2⟩
    have hcut2 : Below wA.heap.size wA wq2 := (hcut.trans (kq1.mono hcut.size)).trans (kq2.mono (Nat.le_trans hcut.size kq1.size))
    have IB2 := Lib.hid (IB1.later kq2)
    have jB := jA.trans (hcut2.mono jA.size)
    have Y8 := X8.out.later hcut2
    have Y10 := X10.out.later hcut2
    have Y11 := X11.out.later hcut2
    clear i3 IB IB1
    have c0 := Y10.c0
    have c1 := Y10.c1
    have gW : W.heap.size ≤ w3.heap.size := j3.size
    have gW5 : W.heap.size ≤ w5.heap.size := j5.size
    have gW7 : W.heap.size ≤ w7.heap.size := j7.size
    have gW7p : W.heap.size ≤ w7p.heap.size := j7p.size
    have I2z : Hid (w7p.heap.size ≤ w7.heap.size) := z7q
    clear X8 X10 X11
    go_wp2_with fail
    clear c0 c1
    refine (markDisk_any d _ 1 _ _ _ Y10.2 (by omega) (by omega)).mono ?_
    rintro e wB0 ⟨rfl, oB, kB0⟩
    have jC0 := kB0.belowW jB gW5
    have IB3 := IB2.out.kept kB0 (.inr (by omega))
    have Z8a := Y8.kept kB0 (.inl (by omega)) (.inl (by omega))
    have Z11a := Y11.kept kB0 (.inr (by omega)) (.inr (by omega))
    obtain ⟨kk0, hkk0⟩ : ∃ kk0 : Nat, 1 + d.count = kk0 := ⟨_, rfl⟩
    have hkkb : kk0 ≤ 4000010 := by omega
    rw [hkk0]
    clear hkk0 Y8 Y10 Y11 oB
    go_wp2_with fail
    refine (markIntS_any ks _ kk0 _ _ IB3.1 (by omega)).mono ?_
    rintro e wB ⟨rfl, gB⟩
    have kB := Kept.of_grown gB (B := w7p.heap.size) (T := w7.heap.size) (fun k hk => ⟨(IB3.1.own.lt k hk).1, IB3.2.2 k hk⟩)
    have jC := kB.belowW jC0 gW7p
    have Z8 := Z8a.kept kB (.inl (by omega)) (.inl (by omega))
    have Z11 := Z11a.kept kB (.inr (by omega)) (.inr (by omega))
    have c0 := Z11.c0
    have c1 := Z11.c1
    have e0 := Z8.c0
    have e1 := Z8.c1
    have hk0 : ¬ ((kk0 + ks.length : Nat) : Int) < 0 := by omega
    clear Z8a Z11a IB3
    generalize (kk0 + ks.length) = kk at *
    go_wp2_with fail
    clear c0 c1 e0 e1
    refine (eqDisk_same D2 _ _ _ Z11.2.rd Z8.2.rd hsm2.out.1).mono ?_
    rintro e wC ⟨rfl, kC⟩
    have jD := jC.trans (kC.mono jC.size)
    have V8 := Z8.later kC
    have V11 := Z11.later kC
    have c0 := V11.c0
    have c1 := V11.c1
    have hcnt := hsm2.out.2
    clear Z8 Z11
    go_wp2_with fail
    clear c0 c1
    refine (markDisk_any D2 _ 1 _ _ _ V11.2 (by omega) (by omega)).mono ?_
    rintro e wD ⟨rfl, oD, kD⟩
    have hm0 : ¬ ((1 + D2.count : Nat) : Int) < 0 := by omega
    obtain ⟨mm, hmm⟩ : ∃ mm : Nat, 1 + D2.count = mm := ⟨_, rfl⟩
    have HMM := Lib.hid hmm
    rw [hmm] at hm0 ⊢
    clear hmm
    have jE := kD.belowW jD gW7
    have U8 := V8.kept kD (.inl (by omega)) (.inl (by omega))
    have U11 := V11.marked kD oD (.inr (by omega))
    have c0 := U11.c0
    have c1 := U11.c1
    clear V8 V11 oD
    go_wp2_with fail
    clear c0 c1
    refine (heldDisk_any D2 _ 1 _ U11.2.rd (by omega) (by omega)).mono ?_
    rintro e wE ⟨rfl, kE⟩
    have jF := jE.trans (kE.mono jE.size)
    have T8 := U8.later kE
    have T11 := U11.later kE
    obtain ⟨c0, c1, dF, _⟩ := HC.out _ jF
    rw [HMM.out]
    clear U8 U11 hcnt
    go_wp2_with fail
    clear c0 c1
    refine (toDisk_any d _ _ dF (by omega) (by omega)).mono ?_
    rintro e wF ⟨v5, rfl, oF, kF⟩
    have jGp := jF.trans (kF.mono jF.size)
    obtain ⟨_, _, _, bGp⟩ := HC.out _ jGp
    have hkiG := HKI.out _ bGp
    go_wp2_with fail
    refine (toIntS_any ks _ _ hkiG hkl).mono ?_
    rintro e wFq ⟨u5, rfl, i5⟩
    obtain ⟨pu5, qu5, rfl⟩ := i5.form
    have kFq := i5.bel
    have I5 := Lib.hid i5.rows
    have jG := jGp.trans (kFq.mono jGp.size)
    clear i5

    go_wp2_with fail
    refine (implCrashDisk_any d _ _ _ _ (oF.later kFq) hsm (by omega) HT.out.1 HT.out.2 _ ks I5.out hkl t).mono ?_
    intro e wG hres
    rw [HD2.out] at hres
    obtain ⟨v6, rfl, oG, kG⟩ := hres
    obtain ⟨p16, r16, q16, s16, rfl⟩ := oG.form
    have D16 := DB.new oG
    have kH : Below wG.heap.size wG (wG.alloc (.cells #[.slice p16 D2.sec.length q16, .slice r16 D2.cache.length s16] 30)) := (Below.refl _ _).alloc (Nat.le_refl _) _
    have S8 := (((T8.later kF).later kFq).later kG).later kH
    have S11 := (((T11.later kF).later kFq).later kG).later kH
    have jH := (jG.trans (kG.mono jG.size))
    have jI := jH.trans (kH.mono jH.size)
    have c0 := D16.c0
    have c1 := D16.c1
    have e0 := S8.c0
    have e1 := S8.c1
    clear T8 T11 oG dF
    go_wp2_with fail
    clear c0 c1 e0 e1
    generalize wG.alloc (.cells #[.slice p16 D2.sec.length q16, .slice r16 D2.cache.length s16] 30) = wH at D16 kH S8 S11 jI ⊢
    refine (eqDisk_same D2 _ _ _ D16.2.rd S8.2.rd hsm2.out.1).mono ?_
    rintro e wI ⟨rfl, kI⟩
    have R11 := S11.later kI
    have jJ := jI.trans (kI.mono jI.size)
    have c0 := R11.c0
    have c1 := R11.c1
    have hcnt := hsm2.out.2
    clear S8 S11 D16
    go_wp2_with fail
    clear c0 c1
    refine (heldDisk_any D2 _ 1 _ R11.2.rd (by omega) (by omega)).mono ?_
    rintro e wJ ⟨rfl, kJ⟩
    obtain ⟨_, _, _, bZ⟩ := HC.out _ (jJ.trans (kJ.mono jJ.size))
    rw [HMM.out]
    clear hcnt R11
    go_wp2
    go_ret
    exact ⟨rfl, bZ⟩

theorem FnExactCrashDisk_own : ownKnob Try.prog.godebug = none := by kernel_rfl

set_option maxRecDepth 100000 in
theorem FnExactCrashDisk_lifted (os : Os) (started : os.Started) (H : Type) (enc : TypeId × Value → H) :
    ReturnsInHanded {} Try.checked os 3 .any (Rows.fnExactCrashDiskSpec.pre6 enc Try.prog Try.f3 Rows.fnExactCrashDiskRow.domain false) (Rows.fnExactCrashDiskSpec.post enc Try.prog Try.f3 false true false false) := by
  refine returnsInHanded_of_change (C := Try.checked) FnExactCrashDisk_own started (by kernel_rfl) Try.func3
    (ChangeSpec.witness6 (enc := enc) (C := Try.checked) false ⟨#[], #[.agg #[.slice none 0 0, .slice none 0 0], .slice none 0 0, .int .i64 0], []⟩ 8 (by kernel_rfl) (by kernel_rfl) (by kernel_rfl) (by kernel_rfl)) ?_
  intro W base args ds gs before hval0 hW hcnd _
  have hval : ∀ (j : Nat) t v, Try.f3.params[j]? = some t → args[j]? = some v → Value.okWide Try.prog W .any base t v := hval0
  have hW' := hW
  obtain ⟨p, q, hA0, hV, rfl, hfz, hnd⟩ := hW
  have hA : DataW.TrodAll enc Try.prog W 0 (fun _ => true) true Try.f3.params.toList args.toList ds p := hA0
  rw [Try.params3] at hA hval
  obtain ⟨v0, vs0, d0, ds0, p0, q0, hargs, rfl, rfl, h0, r0⟩ := trodAll_cons hA
  obtain ⟨v1, vs1, d1, ds1, p1, q1, rfl, rfl, rfl, h1, r1⟩ := trodAll_cons r0
  obtain ⟨v2, vs2, d2, ds2, p2, q2, rfl, rfl, rfl, h2, r2⟩ := trodAll_cons r1
  obtain ⟨rfl, rfl, rfl⟩ := trodAll_nil r2
  obtain rfl : args = #[v0, v1, v2] := by cases args; simp_all
  obtain ⟨rfl, rfl⟩ := trodVars_none hV
  have k0 := h0
  have lt0 : ∀ x ∈ p0, x.block < W.heap.size := by obtain ⟨m, hm⟩ := k0; exact DataW.trod_lt m _ _ _ hm
  obtain ⟨D0, w0⟩ := open_Disk (hval 0 25 v0 rfl rfl) h0
  have k1 := h1
  have lt1 : ∀ x ∈ p1, x.block < W.heap.size := by obtain ⟨m, hm⟩ := k1; exact DataW.trod_lt m _ _ _ hm
  obtain ⟨D1, w1⟩ := open_IntS (hval 1 26 v1 rfl rfl) h1
  obtain ⟨a2, rfl, rfl, rfl, w2⟩ := open_int Try.underlying3 (hval 2 3 v2 rfl rfl) h2
  clear hA0 hval0
  simp only [List.append_nil] at hW'
  refine (walk_FnExactCrashDisk v0 D0 v1 D1 a2 w0 w1 (bounds_i64 w2) (w := W)).mono fun e W' ⟨he, bel⟩ => ?_
  subst he
  exact ⟨_, rfl, _, _, _, [], _, [], hW', trodAll_mk1 (shut_bool Try.underlying4 _), (trodAll_cons_mk (Below.trod (show laidOutB Try.prog = true by kernel_rfl) (by kernel_rfl) (of_decide_eq_true (by kernel_rfl)) k0 bel lt0) (trodAll_cons_mk (Below.trod (show laidOutB Try.prog = true by kernel_rfl) (by kernel_rfl) (of_decide_eq_true (by kernel_rfl)) k1 bel lt1) (trodAll_cons_mk (shut_int Try.underlying3 w2) trodAll_mk0))), rfl, bel.frame _, fun h => by cases h⟩

/-- The given statement. -/
theorem fnExactCrashDisk_holds : Rows.FnExactCrashDiskSaid :=
  OpenClaim.holds_of_wide 3 Try.f3 rfl rfl rfl rfl rfl rfl rfl ⟨rfl, rfl, rfl, rfl, rfl⟩ rfl rfl rfl rfl rfl (by kernel_rfl) Try.func3 (by kernel_rfl)
    (of_decide_eq_true (by kernel_rfl)) (by unfold Func.isWrapper; first | (rw [if_pos (by decide +kernel)]; kernel_rfl) | (rw [if_neg (by decide +kernel)]; exact ⟨rfl, rfl⟩))
    (fun os started H enc _ => FnExactCrashDisk_lifted os started H enc)
#print axioms fnExactCrashDisk_holds

end Go.Proofs.Ytegjkcooebmkoap
