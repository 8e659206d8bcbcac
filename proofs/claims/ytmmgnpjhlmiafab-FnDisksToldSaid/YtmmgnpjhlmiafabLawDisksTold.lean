/- For every code: what is told of drawn disks, right or not, is what the model tells. No condition. -/
import Derived.Test.YtmmgnpjhlmiafabSectKit
import Derived.Test.YtmmgnpjhlmiafabImplFlush
import Derived.Test.YtmmgnpjhlmiafabSecText
import Derived.Test.YtmmgnpjhlmiafabSameDk
import Derived.Test.YtmmgnpjhlmiafabDrawTold
import Derived.ProofKit
import Derived.OpenShut
import Derived.ShutString
import Derived.ChangeOld
import Derived.Below
namespace Go.Proofs.Ytmmgnpjhlmiafab
open Go.ChangeShapes Go.WideShapes Go.ChangeAt Go.RowKit
open Go.ChangeMaps (open_string shut_string)
set_option linter.unusedVariables false

theorem flD_few {d : Dk} (h : d.small) : (flD d).small := by
  unfold flD
  split
  · exact ⟨by show (flush d.sec d.cache).length ≤ _; rw [flush_length]; exact h.1, by simp⟩
  · exact h

set_option maxRecDepth 100000 in
set_option maxHeartbeats 4000000 in
theorem walk_FnDisksTold (a : Option Addr) (len cap : Nat) (w : World) (hcode : CodeIn w a len) :
    Calls Try.prog 3 #[.slice a len cap] w fun e w' => e = .returned (.bool true) ∧ Below w.heap.size w w' := by
  by_cases hbig : len ≤ 1048576
  · have hb0 : decide ((1048576 : Int) < (len : Int)) = false := decide_eq_false (by omega)
    have HCO : Hid (∀ w', Below w.heap.size w w' → CodeIn w' a len) := fun w' hb => hcode.later hb
    go_enter Try.func3, Try.ntmps3
    go_wp2_with fail
    refine (big_any a len cap _).mono ?_
    rintro e w0 ⟨rfl, rfl⟩
    rw [hb0]
    go_wp2_with fail
    refine (drawDiskOk_any a len cap _ hcode hbig).mono ?_
    rintro e w2 ⟨d, hdr, v2, rfl, o2, b2⟩
    obtain ⟨hsm, hts, htu⟩ := Dk.drawn_small hdr
    have hdc : d.cache.length ≤ 1048576 := by have := hdr.2.1; omega
    obtain ⟨s1, s2, c1, c2, rfl⟩ := o2.form
    have kA : Below w2.heap.size w2 (w2.alloc (.cells #[.slice s1 d.sec.length c1, .slice s2 d.cache.length c2] 27)) := belAlloc _ _
    have y3 := Box.new w2 #[.slice s1 d.sec.length c1, .slice s2 d.cache.length c2] 27
    have o3 := o2.later kA
    have b3 := b2.trans (kA.mono b2.size)
    go_upto_region 4 with fail
    generalize w2.alloc (.cells #[.slice s1 d.sec.length c1, .slice s2 d.cache.length c2] 27) = w3 at y3 o3 b3 ⊢
    clear o2 kA hcode hdr
    go_wp2_with fail
    refine (drawRead_any a len cap _ (HCO.out _ b3) hbig).mono ?_
    rintro e w4 ⟨x, v4, z, hdx, rfl, o4, k4⟩
    obtain ⟨hsmX, htsX, htuX⟩ := Dk.drawn_small hdx
    obtain ⟨x1, x2, j1, j2, rfl⟩ := o4.form
    have kB : Below w4.heap.size w4 (w4.alloc (.cells #[.slice x1 x.sec.length j1, .slice x2 x.cache.length j2] 27)) := belAlloc _ _
    have kC := k4.trans (kB.mono k4.size)
    have yX := Box.new w4 #[.slice x1 x.sec.length j1, .slice x2 x.cache.length j2] 27
    have rX := (o4.later kB).rd
    have y5 := y3.later kC
    have o5 := o3.later kC
    have b5 := b3.trans (kC.mono b3.size)
    clear o4 k4 y3 o3 b3 hdx
    go_upto_region 5 with fail
    generalize w4.alloc (.cells #[.slice x1 x.sec.length j1, .slice x2 x.cache.length j2] 27) = w5 at yX rX y5 o5 b5 ⊢
    clear kB kC
    obtain ⟨tx, fx, hrt⟩ := rdT_form x z
    have HRT := Lib.hid hrt
    clear hrt
    have m0 := yX.cell 0 (.slice x1 x.sec.length j1) rfl
    have m1 := yX.cell 1 (.slice x2 x.cache.length j2) rfl
    go_wp2_with fail
    refine (implReadSector_any x _ z _ rX hsmX htsX htuX).mono ?_
    rintro e w6 ⟨rfl, k6⟩
    rw [HRT.out]
    have y6X := yX.later k6
    have r6X := rX.later k6
    have y6 := y5.later k6
    have o6 := o5.later k6
    have b6 := b5.trans (k6.mono b5.size)
    clear m0 m1 yX rX y5 o5 b5 k6
    have m0 := y6X.cell 0 (.slice x1 x.sec.length j1) rfl
    have m1 := y6X.cell 1 (.slice x2 x.cache.length j2) rfl
    go_wp2_with fail
    refine (specReadSector_any x _ z _ r6X hsmX).mono ?_
    rintro e w7 ⟨rfl, k7⟩
    rw [HRT.out]
    have y7 := y6.later k7
    have o7 := o6.later k7
    have b7 := b6.trans (k7.mono b6.size)
    clear m0 m1 y6X r6X y6 o6 b6 k7 HRT hsmX htsX htuX
    go_wp2_with fail
    refine (drawText_any a len cap _ (HCO.out _ b7) hbig).mono ?_
    rintro e w8 ⟨y, v8, f, n, hdy, hfin, rfl, o8, k8⟩
    have HFI := Lib.hid hfin
    clear hfin
    obtain ⟨hsmY, htsY, htuY⟩ := Dk.drawn_small hdy
    obtain ⟨u1, u2, l1, l2, rfl⟩ := o8.form
    have kB : Below w8.heap.size w8 (w8.alloc (.cells #[.slice u1 y.sec.length l1, .slice u2 y.cache.length l2] 27)) := belAlloc _ _
    have kC := k8.trans (kB.mono k8.size)
    have yY := Box.new w8 #[.slice u1 y.sec.length l1, .slice u2 y.cache.length l2] 27
    have rY := (o8.later kB).rd
    have y9 := y7.later kC
    have o9 := o7.later kC
    have b9 := b7.trans (kC.mono b7.size)
    clear o8 k8 y7 o7 b7 hdy
    go_upto_region 8 with fail
    generalize w8.alloc (.cells #[.slice u1 y.sec.length l1, .slice u2 y.cache.length l2] 27) = w9 at yY rY y9 o9 b9 ⊢
    clear kB kC
    obtain ⟨ty, fy, hst⟩ := stT_form y f n
    have HST := Lib.hid hst
    clear hst
    have m0 := yY.cell 0 (.slice u1 y.sec.length l1) rfl
    have m1 := yY.cell 1 (.slice u2 y.cache.length l2) rfl
    go_wp2_with fail
    refine (implSectorText_any y _ f n _ rY hsmY htsY htuY HFI.out).mono ?_
    rintro e wA ⟨rfl, kA⟩
    rw [HST.out]
    have yAY := yY.later kA
    have rAY := rY.later kA
    have yA := y9.later kA
    have oA := o9.later kA
    have bA := b9.trans (kA.mono b9.size)
    clear m0 m1 yY rY y9 o9 b9 kA
    have m0 := yAY.cell 0 (.slice u1 y.sec.length l1) rfl
    have m1 := yAY.cell 1 (.slice u2 y.cache.length l2) rfl
    go_wp2_with fail
    refine (specSectorText_any y _ f n _ rAY hsmY htsY htuY).mono ?_
    rintro e wB ⟨rfl, kB⟩
    rw [HST.out]
    have yB := yA.later kB
    have oB := oA.later kB
    have bB := bA.trans (kB.mono bA.size)
    clear m0 m1 yAY rAY yA oA bA kB HST HFI hsmY htsY htuY
    go_wp2_with fail
    refine (implDiskNew_any 3 _).mono ?_
    rintro e wC ⟨vC, rfl, oC, kC⟩
    rw [show decide ((1 : Int) ≤ 3 ∧ (3 : Int) ≤ 100) = true from rfl]
    have hnl : (newD 3).sec.length = 3 := rfl
    generalize newD 3 = N at oC hnl
    obtain ⟨n1, n2, p1, p2, rfl⟩ := oC.form
    have kD : Below wC.heap.size wC (wC.alloc (.cells #[.slice n1 N.sec.length p1, .slice n2 N.cache.length p2] 27)) := belAlloc _ _
    have kE := kC.trans (kD.mono kC.size)
    have yND := Box.new wC #[.slice n1 N.sec.length p1, .slice n2 N.cache.length p2] 27
    have yD := yB.later kE
    have oD := oB.later kE
    have bD := bB.trans (kE.mono bB.size)
    have HNL := Lib.hid hnl
    clear oC kC yB oB bB hnl
    go_upto_region 11 with fail
    generalize wC.alloc (.cells #[.slice n1 N.sec.length p1, .slice n2 N.cache.length p2] 27) = wD at yND yD oD bD ⊢
    clear kD kE
    go_wp2_with fail
    refine (implDiskNew_any 0 _).mono ?_
    rintro e wE ⟨vE, rfl, oE, kE⟩
    rw [show decide ((1 : Int) ≤ 0 ∧ (0 : Int) ≤ 100) = false from rfl]
    generalize newD 0 = M at oE
    obtain ⟨g1, g2, i1, i2, rfl⟩ := oE.form
    have kF : Below wE.heap.size wE (wE.alloc (.cells #[.slice g1 M.sec.length i1, .slice g2 M.cache.length i2] 27)) := belAlloc _ _
    have kG := kE.trans (kF.mono kE.size)
    have yNG := yND.later kG
    have yG := yD.later kG
    have oG := oD.later kG
    have bG := bD.trans (kG.mono bD.size)
    clear oE kE yND yD oD bD
    go_upto_region 12 with fail
    generalize wE.alloc (.cells #[.slice g1 M.sec.length i1, .slice g2 M.cache.length i2] 27) = wG at yNG yG oG bG ⊢
    clear kF kG
    have hsmF := flD_few hsm
    obtain ⟨F, hF⟩ : ∃ F, flD d = F := ⟨_, rfl⟩
    rw [hF] at hsmF
    have HF := Lib.hid hF
    obtain ⟨bo, hbo⟩ : ∃ bo : Bool, decide d.ok = bo := ⟨_, rfl⟩
    have HBO := Lib.hid hbo
    have hN3 : ((N.sec.length : Int) == 3) = true := by rw [HNL.out]; rfl
    have q0 : (bo == bo) = true := by simp
    have q1 : (fx == fx) = true := by simp
    have q2 : (tx.toList == tx.toList) = true := by simp
    have q3 : (fy == fy) = true := by simp
    have q4 : (ty.toList == ty.toList) = true := by simp
    have HY : Hid (∀ Y, Below wG.heap.size wG Y → (Y.cell? ⟨w2.heap.size, 0, none⟩ = some (.slice s1 d.sec.length c1) ∧ Y.cell? ⟨w2.heap.size, 1, none⟩ = some (.slice s2 d.cache.length c2) ∧ Y.cell? ⟨wC.heap.size, 0, none⟩ = some (.slice n1 N.sec.length p1)) ∧ DOwn w.heap.size w2.heap.size Y (.agg #[.slice s1 d.sec.length c1, .slice s2 d.cache.length c2]) d ∧ Below w.heap.size w Y) := fun Y hY =>
      ⟨⟨(yG.later hY).cell 0 _ rfl, (yG.later hY).cell 1 _ rfl, (yNG.later hY).cell 0 _ rfl⟩, oG.later hY, bG.trans (hY.mono bG.size)⟩
    have kk : Below wG.heap.size wG wG.drew := (Below.refl _ _).drew
    obtain ⟨m0, m1, m2⟩ := (HY.out _ kk).1
    clear yG yNG oG bG hF hbo HNL HCO
    go_region_held3 (fun Y => Y.cell? ⟨w2.heap.size, 0, none⟩ = some (.slice s1 d.sec.length c1) ∧ Y.cell? ⟨w2.heap.size, 1, none⟩ = some (.slice s2 d.cache.length c2) ∧ Y.cell? ⟨wC.heap.size, 0, none⟩ = some (.slice n1 N.sec.length p1))
      (first | exact (HY.out _ kk).1)
      (first
        | (go_at_call 13; obtain ⟨_, o1, _⟩ := HY.out _ kk; refine (implDiskOk_any d _ _ o1.rd hsm).mono ?_; rintro e wX ⟨rfl, kX⟩; rw [HBO.out]; have kk := kk.trans (kX.mono kk.size); clear o1 kX)
        | (go_at_call 14; obtain ⟨_, o1, _⟩ := HY.out _ kk; refine (specDiskOk_any d _ _ o1.rd hsm hts htu).mono ?_; rintro e wX ⟨rfl, kX⟩; rw [HBO.out]; have kk := kk.trans (kX.mono kk.size); clear o1 kX)
        | (go_at_call 16; obtain ⟨_, o1, _⟩ := HY.out _ kk; refine (implFlushDisk_any d _ _ _ _ o1 hsm hdc hts htu).mono ?_; rintro e wX ⟨vF, rfl, oF, kX⟩; rw [HF.out] at oF; have kk := kk.trans (kX.mono kk.size); have rF := Lib.hid oF.rd; clear o1 kX oF)
        | (go_at_call 17; obtain ⟨_, o1, _⟩ := HY.out _ kk; refine (specFlushDisk_any d _ _ _ _ o1 hsm hts htu).mono ?_; rintro e wX ⟨vS, rfl, oS, kX⟩; rw [HF.out] at oS; have rF := Lib.hid (rF.out.later kX); have kk := kk.trans (kX.mono kk.size); have rS := Lib.hid oS.rd; clear o1 kX oS)
        | (go_at_call 15; have r1 := rF.out; have r2 := rS.out; refine (sameDisk_same F _ _ _ r1 r2 hsmF).mono ?_; rintro e wX ⟨rfl, kX⟩; have kk := kk.trans (kX.mono kk.size); clear r1 r2 kX))
    all_goals
      have bE := (HY.out _ kk).2.2
      go_wp2
      go_ret
      exact ⟨rfl, bE⟩
  · have hb0 : decide ((1048576 : Int) < (len : Int)) = true := decide_eq_true (by omega)
    go_enter Try.func3, Try.ntmps3
    go_wp2_with fail
    refine (big_any a len cap _).mono ?_
    rintro e w0 ⟨rfl, rfl⟩
    rw [hb0]
    go_wp2
    go_ret
    exact ⟨rfl, Below.refl _ _⟩

theorem FnDisksTold_own : ownKnob Try.prog.godebug = none := by kernel_rfl

set_option maxRecDepth 100000 in
theorem FnDisksTold_lifted (os : Os) (started : os.Started) (H : Type) (enc : TypeId × Value → H) :
    ReturnsInHanded {} Try.checked os 3 .any (Rows.fnDisksToldSpec.pre6 enc Try.prog Try.f3 Rows.fnDisksToldRow.domain false) (Rows.fnDisksToldSpec.post enc Try.prog Try.f3 false true false false) := by
  refine returnsInHanded_of_change (C := Try.checked) FnDisksTold_own started (by kernel_rfl) Try.func3
    (ChangeSpec.witness6 (enc := enc) (C := Try.checked) false ⟨#[], #[.slice none 0 0], []⟩ 8 (by kernel_rfl) (by kernel_rfl) (by kernel_rfl) (by kernel_rfl)) ?_
  intro W base args ds gs before hval0 hW hcnd _
  have hval : ∀ (j : Nat) t v, Try.f3.params[j]? = some t → args[j]? = some v → Value.okWide Try.prog W .any base t v := hval0
  have hW' := hW
  obtain ⟨p, q, hA0, hV, rfl, hfz, hnd⟩ := hW
  have hA : DataW.TrodAll enc Try.prog W 0 (fun _ => true) true Try.f3.params.toList args.toList ds p := hA0
  rw [Try.params3] at hA hval
  obtain ⟨v0, vs0, d0, ds0, p0, q0, hargs, rfl, rfl, h0, r0⟩ := trodAll_cons hA
  obtain ⟨rfl, rfl, rfl⟩ := trodAll_nil r0
  obtain rfl : args = #[v0] := by cases args; simp_all
  obtain ⟨rfl, rfl⟩ := trodVars_none hV
  obtain ⟨a0, len0, cap0, rfl⟩ := okWide_slice Try.underlying22 (hval 0 22 v0 rfl rfl)
  have k0 := h0
  have lt0 : ∀ x ∈ p0, x.block < W.heap.size := by obtain ⟨m, hm⟩ := k0; exact DataW.trod_lt m _ _ _ hm
  have w0 : CodeIn W a0 len0 := by
    obtain ⟨fuel, hf⟩ := h0
    rcases open_ints Try.underlying22 Try.underlying5 (by kernel_rfl) hf with ⟨hcs, _⟩ | ⟨x, l, c, zs, hcs, _, hl, hm, hz, _, hcell, hwz⟩
    · simp [Value.cells] at hcs
      obtain ⟨rfl, rfl, rfl⟩ := hcs
      intro i hi; omega
    · simp [Value.cells] at hcs
      obtain ⟨rfl, rfl, rfl⟩ := hcs
      exact codeIn_of_row hl (by simpa using hz) hcell hwz
  clear hA0 hval0
  simp only [List.append_nil] at hW'
  refine (walk_FnDisksTold a0 len0 cap0 w0 (w := W)).mono fun e W' ⟨he, bel⟩ => ?_
  subst he
  exact ⟨_, rfl, _, _, _, [], _, [], hW', trodAll_mk1 (shut_bool Try.underlying4 _), (trodAll_cons_mk (Below.trod (show laidOutB Try.prog = true by kernel_rfl) (by kernel_rfl) (of_decide_eq_true (by kernel_rfl)) k0 bel lt0) trodAll_mk0), rfl, bel.frame _, fun h => by cases h⟩

/-- The given statement. -/
theorem fnDisksTold_holds : Rows.FnDisksToldSaid :=
  OpenClaim.holds_of_wide 3 Try.f3 rfl rfl rfl rfl rfl rfl rfl ⟨rfl, rfl, rfl, rfl, rfl⟩ rfl rfl rfl rfl rfl (by kernel_rfl) Try.func3 (by kernel_rfl)
    (of_decide_eq_true (by kernel_rfl)) (by unfold Func.isWrapper; first | (rw [if_pos (by decide +kernel)]; kernel_rfl) | (rw [if_neg (by decide +kernel)]; exact ⟨rfl, rfl⟩))
    (fun os started H enc _ => FnDisksTold_lifted os started H enc)
#print axioms fnDisksTold_holds

end Go.Proofs.Ytmmgnpjhlmiafab
