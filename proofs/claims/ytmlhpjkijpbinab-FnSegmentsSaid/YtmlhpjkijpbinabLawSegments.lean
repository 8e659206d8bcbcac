/- For every code: what is written in a segment of a drawn disk stands there, and every other segment stays as it is; what goes beyond the segment is refused; SegsOf answers as its model, SegFirst tells the segment's first sector. No condition. -/
import Derived.Test.YtmlhpjkijpbinabJb
import Derived.Test.YtmlhpjkijpbinabJc
import Derived.Test.YtmlhpjkijpbinabJh
import Derived.Test.YtmlhpjkijpbinabJk
import Derived.ProofKit
import Derived.OpenShut
import Derived.ShutString
import Derived.ChangeOld
import Derived.Below
namespace Go.Proofs.Ytmlhpjkijpbinab
open Go.ChangeShapes Go.WideShapes Go.ChangeAt Go.RowKit
open Go.ChangeMaps (open_string shut_string)
set_option linter.unusedVariables false

theorem bel_drewN {B : Nat} {w x : World} (h : Below B w x) (n : Nat) : Below B w (x.drewN n) := ⟨h.os, h.tape, h.output, h.size, h.block⟩

/-- The text that is written. -/
def wrt : ByteArray := ⟨#[119, 114, 105, 116, 116, 101, 110]⟩

set_option maxRecDepth 100000 in
set_option maxHeartbeats 4000000 in
theorem walk_FnSegments (a : Option Addr) (len cap : Nat) (w : World) (hcode : CodeIn w a len) :
    Calls Try.prog 4 #[.slice a len cap] w fun e w' => e = .returned (.bool true) ∧ Below w.heap.size w w' := by
  by_cases hbig : len ≤ 1048576
  · have hb0 : decide ((1048576 : Int) < (len : Int)) = false := decide_eq_false (by omega)
    have HCO : Hid (∀ w', Below w.heap.size w w' → CodeIn w' a len) := fun w' hb => hcode.later hb
    go_enter Try.func4, Try.ntmps4
    go_wp2_with fail
    refine (big_any a len cap _).mono ?_
    rintro e w0 ⟨rfl, rfl⟩
    rw [hb0]
    go_wp2_with fail
    refine (drawSegDisk_any a len cap _ hcode hbig).mono ?_
    rintro e w2 ⟨d, hsg, v2, rfl, o2, b2⟩
    obtain ⟨hok, hnil, nx, hnx, hnl⟩ := hsg
    obtain ⟨hsm, hts, htu⟩ := Dk.ok_small hok
    obtain ⟨nn, hnn⟩ : ∃ nn : Nat, nn = 5 + nx := ⟨_, rfl⟩
    have HLN : Hid (d.sec.length = 8 + 8 * nn ∧ d.cache.length = 0) := ⟨by omega, by rw [hnil]; rfl⟩
    have hnN : Hid (sgN d = (nn : Int)) := show sgN d = (nn : Int) from by
      have e1 : ((d.sec.length : Int) - 8).tdiv 8 = (nn : Int) := by
        rw [Int.tdiv_eq_ediv_of_nonneg (by omega)]; omega
      unfold sgN
      rw [e1, if_pos ⟨by omega, by omega⟩]
    have hn5 : 5 ≤ nn ∧ nn ≤ 7 := by omega
    obtain ⟨s1, s2, c1, c2, rfl⟩ := o2.form
    clear hnil hnl hnx hnn
    have kA : Below w2.heap.size w2 (w2.alloc (.cells #[.slice s1 d.sec.length c1, .slice s2 d.cache.length c2] 27)) := belAlloc _ _
    have y3 := Box.new w2 #[.slice s1 d.sec.length c1, .slice s2 d.cache.length c2] 27
    have o3 := o2.later kA
    have b3 := b2.trans (kA.mono b2.size)
    go_upto_region 4 with fail
    generalize w2.alloc (.cells #[.slice s1 d.sec.length c1, .slice s2 d.cache.length c2] 27) = w3 at y3 o3 b3 ⊢
    clear o2 kA hcode
    go_wp2_with fail
    refine (drawPlaces_any a len cap _ (HCO.out _ b3) hbig).mono ?_
    rintro e w4 ⟨l, v4, hl12, hlz, rfl, hib⟩
    have k4 := hib.bel
    obtain ⟨gp, cp, z0, z1, rfl, hcp, hgp, hz0, hz1⟩ := places2 hl12 hlz hib
    have y4 := y3.later k4
    have o4 := o3.later k4
    have b4 := b3.trans (k4.mono b3.size)
    clear hib hl12 hlz y3 o3 b3
    have m0 := y4.cell 0 (.slice s1 d.sec.length c1) rfl
    have m1 := y4.cell 1 (.slice s2 d.cache.length c2) rfl
    go_wp2_with fail
    refine (implSegsOf_any d _ _ o4.rd hsm).mono ?_
    rintro e w5 ⟨rfl, k5⟩
    rw [hnN.out]
    have p0 : w5.cell? ⟨gp, 0, none⟩ = some (.int .i64 (z0 : Int)) := (k5.cell (p := ⟨gp, 0, none⟩) hgp).trans hz0
    have p1 : w5.cell? ⟨gp, 1, none⟩ = some (.int .i64 (z1 : Int)) := (k5.cell (p := ⟨gp, 1, none⟩) hgp).trans hz1
    have y5 := y4.later k5
    have o5 := o4.later k5
    have b5 := b4.trans (k5.mono b4.size)
    obtain ⟨s, hs0⟩ : ∃ s : Nat, (z0 : Int) % (nn : Int) = (s : Int) := Int.eq_ofNat_of_zero_le (Int.emod_nonneg _ (by omega))
    have hsn : s < nn := by have := Int.emod_lt_of_pos (z0 : Int) (show (0 : Int) < (nn : Int) by omega); omega
    obtain ⟨A, hA0⟩ : ∃ A : Nat, (z1 : Int) % 200 = (A : Int) := Int.eq_ofNat_of_zero_le (by omega)
    have hA200 : A < 200 := by omega
    have hst : (z0 : Int).tmod (nn : Int) = (s : Int) := by rw [Int.tmod_eq_emod_of_nonneg (by omega)]; exact hs0
    have hAt : (z1 : Int).tmod 200 = (A : Int) := by rw [Int.tmod_eq_emod_of_nonneg (by omega)]; exact hA0
    have hnz : ¬ nn = 0 := by omega
    clear m0 m1 y4 o4 b4 hz0 hz1 k5 k4
    have m0 := y5.cell 0 (.slice s1 d.sec.length c1) rfl
    have m1 := y5.cell 1 (.slice s2 d.cache.length c2) rfl
    have hwz : wrt.size = 7 := rfl
    have hwl : wrt.data.toList.length = 7 := rfl
    have htell := wbL_tells 7 wrt.data.toList (by rw [hwl]; omega) d (8 + 8 * s + A / 32) (A % 32) hok (by omega) (by rw [hwl, HLN.out.1]; omega) (by rw [hwl, HLN.out.2]; omega)
    obtain ⟨d', hw1, hok', hsec, hcl', hbt⟩ := htell
    have HW1 := Lib.hid hw1
    have HSEC := Lib.hid hsec
    have HBT : Hid (∀ i : Nat, i < nn → sgT d' (i : Int) = if i = s then (sgT d (i : Int)).extract 0 A ++ wrt ++ (sgT d (i : Int)).extract (A + wrt.size) (sgT d (i : Int)).size else sgT d (i : Int)) := by
      intro i hi
      refine seg_wrote hok hok' hsec (by rw [hwz]; omega) (fun P => ?_) (by omega) (by rw [HLN.out.1]; omega)
      rw [hbt P, hwl, show 32 * (8 + 8 * s + A / 32) + A % 32 = 32 * (8 + 8 * s) + A by omega]
    obtain ⟨hsm', hts', htu'⟩ := Dk.ok_small hok'
    have HSZ : Hid (∀ i : Nat, i < nn → (sgT d (i : Int)).size = 256) := fun i hi => seg_size hok (by omega) (by rw [HLN.out.1]; omega)
    clear hw1 hsec hbt hcl'
    go_upto_region 9 with fail
    rw [show (⟨#[119, 114, 105, 116, 116, 101, 110]⟩ : ByteArray) = wrt from rfl]
    have hcl0 : d.cache.length < 1073741824 := by rw [HLN.out.2]; omega
    have hsl : 8 + 8 * s < d.sec.length := by rw [HLN.out.1]; omega
    clear hst hAt hs0 hA0 p0 p1 hwl
    have HWZ := Lib.hid hwz
    clear hwz
    go_wp2_with fail
    refine (implSegWrite_in d _ s A wrt _ _ _ o5 hsm hts htu hcl0 (by omega) hsl (by omega) (by rw [HWZ.out]; omega)).mono ?_
    intro e w6 hres
    rw [HW1.out] at hres
    simp only [Option.getD_some, Option.isSome_some] at hres
    obtain ⟨v6, rfl, o6, k6⟩ := hres
    obtain ⟨u1, u2, r1, r2, rfl⟩ := o6.form
    have kB : Below w6.heap.size w6 (w6.alloc (.cells #[.slice u1 d'.sec.length r1, .slice u2 d'.cache.length r2] 27)) := belAlloc _ _
    have kC := k6.trans (kB.mono k6.size)
    have yW := Box.new w6 #[.slice u1 d'.sec.length r1, .slice u2 d'.cache.length r2] 27
    have oW := o6.later kB
    have y7 := y5.later kC
    have o7 := o5.later kC
    have b7 := b5.trans (kC.mono b5.size)
    clear o6 k6 y5 o5 b5 m0 m1
    go_upto_region 10 with fail
    generalize w6.alloc (.cells #[.slice u1 d'.sec.length r1, .slice u2 d'.cache.length r2] 27) = w7 at yW oW y7 o7 b7 ⊢
    clear kB kC
    have m0 := y7.cell 0 (.slice s1 d.sec.length c1) rfl
    have m1 := y7.cell 1 (.slice s2 d.cache.length c2) rfl
    go_wp2_with fail
    refine (implSegWrite_far d _ s 253 wrt _ _ _ o7 hsm hts htu (by omega) (by omega) (by rw [HWZ.out]; omega) (by rw [HWZ.out]; omega)).mono ?_
    rintro e w8 ⟨v8, rfl, o8, k8⟩
    obtain ⟨n1, n2, n3, n4, rfl⟩ := o8.form
    have kB : Below w8.heap.size w8 (w8.alloc (.cells #[.slice n1 d.sec.length n3, .slice n2 d.cache.length n4] 27)) := belAlloc _ _
    have kC := k8.trans (kB.mono k8.size)
    have yW9 := yW.later kC
    have oW9 := oW.later kC
    have y9 := y7.later kC
    have o9 := o7.later kC
    have b9 := b7.trans (kC.mono b7.size)
    clear o8 k8 y7 o7 b7 m0 m1 yW oW
    go_upto_region 11 with fail
    generalize w8.alloc (.cells #[.slice n1 d.sec.length n3, .slice n2 d.cache.length n4] 27) = w9 at yW9 oW9 y9 o9 b9 ⊢
    clear kB kC
    have HY : Hid (∀ Y, Below w9.heap.size w9 Y → ((Y.cell? ⟨w2.heap.size, 0, none⟩ = some (.slice s1 d.sec.length c1) ∧ Y.cell? ⟨w2.heap.size, 1, none⟩ = some (.slice s2 d.cache.length c2)) ∧ (Y.cell? ⟨w6.heap.size, 0, none⟩ = some (.slice u1 d'.sec.length r1) ∧ Y.cell? ⟨w6.heap.size, 1, none⟩ = some (.slice u2 d'.cache.length r2))) ∧
        (DRd Y (.agg #[.slice s1 d.sec.length c1, .slice s2 d.cache.length c2]) d ∧ DRd Y (.agg #[.slice u1 d'.sec.length r1, .slice u2 d'.cache.length r2]) d') ∧ Below w.heap.size w Y) := by
      intro Y hY
      exact ⟨⟨⟨(y9.later hY).cell 0 _ rfl, (y9.later hY).cell 1 _ rfl⟩, (yW9.later hY).cell 0 _ rfl, (yW9.later hY).cell 1 _ rfl⟩, ⟨(o9.later hY).rd, (oW9.later hY).rd⟩, b9.trans (hY.mono b9.size)⟩
    clear y9 o9 b9 yW9 oW9 hcl0 hsl
    go_wp2
    go_loopw [13] (fun iv wr => ∃ i : Nat, i ≤ nn ∧ iv = .int .i64 (i : Int) ∧ Below w9.heap.size w9 wr) (fun iv _ => nn - (intOf iv).toNat)
    case atStart => exact ⟨0, by omega, rfl, Below.refl _ _⟩
    case round =>
      obtain ⟨i, hi, rfl, hbr⟩ := hrel
      by_cases hlt : i < nn
      · have hlt' : (i : Int) < (nn : Int) := by omega
        have hti := HBT.out i hlt
        have hsi := HSZ.out i hlt
        obtain ⟨ta, hta⟩ : ∃ ta, sgT d (i : Int) = ta := ⟨_, rfl⟩
        rw [hta] at hti hsi
        have HTA := Lib.hid hta
        clear hta
        obtain ⟨tb, htb⟩ : ∃ tb, sgT d' (i : Int) = tb := ⟨_, rfl⟩
        rw [htb] at hti
        have HTB := Lib.hid htb
        clear htb
        have HTI := Lib.hid hti
        clear hti
        obtain ⟨⟨⟨m0, m1⟩, _⟩, ⟨q1, _⟩, _⟩ := HY.out _ hbr
        go_wp2_with fail
        refine (specSegText_any d _ (i : Int) _ q1 hsm hts htu).mono ?_
        rintro e wA ⟨rfl, kA⟩
        rw [HTA.out]
        have bA := hbr.trans (kA.mono hbr.size)
        clear m0 m1 q1
        obtain ⟨⟨_, ⟨m0, m1⟩⟩, ⟨_, q1⟩, _⟩ := HY.out _ bA
        go_wp2_with fail
        refine (implSegText_any d' _ (i : Int) _ q1 hsm' hts' htu').mono ?_
        rintro e wB ⟨rfl, kB⟩
        rw [HTB.out]
        have bB := Lib.hid (bA.trans (kB.mono bA.size))
        clear m0 m1 q1 kA kB bA hbr
        by_cases his : i = s
        · have e1 := HTI.out
          rw [if_pos his] at e1
          have hq1 : ((i : Int) != (s : Int)) = false := by rw [his]; simp
          have hq2 : ((i : Int) == (s : Int)) = true := by rw [his]; simp
          have hwz7 := HWZ.out
          have sl1 : ∀ wx, (Instr.slice 9 (.string ta) none (some (.int .i64 (A : Int))) none).run Try.prog wx = .ok (.string (ta.extract 0 A)) wx := fun wx => by
            have := run_slice_string_to_if (P := Try.prog) (w := wx) 9 ta .i64 (A : Int) Try.underlying9
            rw [this]; simp; omega
          have sl2 : ∀ wx, (Instr.slice 9 (.string ta) (some (.int .i64 ((A : Int) + 7))) none none).run Try.prog wx = .ok (.string (ta.extract (A + wrt.size) ta.size)) wx := fun wx => by
            have := run_slice_string_from_if (P := Try.prog) (w := wx) 9 ta .i64 ((A : Int) + 7) Try.underlying9
            rw [this, if_pos ⟨by omega, by omega⟩, hwz7]
            congr 3
          have z1 : (ta.extract 0 A).size = A := by rw [ByteArray.size_extract]; omega
          have z3 : (ta.extract (A + wrt.size) ta.size).size = 256 - (A + 7) := by rw [ByteArray.size_extract, hwz7]; omega
          generalize ta.extract 0 A = A1 at sl1 z1 e1
          generalize ta.extract (A + wrt.size) ta.size = A3 at sl2 z3 e1
          have ad1 := fun (wx : World) => run_string_add_sum (P := Try.prog) (w := wx) A1 wrt (by omega)
          have ad2 := fun (wx : World) => run_string_add_sum (P := Try.prog) (w := wx) (A1 ++ wrt) A3 (by rw [ByteArray.size_append]; omega)
          rw [← e1] at ad2
          clear e1
          have hw7 : IntKind.i64.wrap ((A : Int) + 7) = (A : Int) + 7 := IntWalk.i64_in _ ⟨by omega, by omega⟩
          have hqt : (tb.toList == tb.toList) = true := by simp
          have hwc : (wrt.size : Int) = 7 := by rw [hwz7]; rfl
          clear hwz7 his
          go_upto_region 16 with fail
          go_quiet (fail)
          go_wp2
          go_roundw
          case rel => exact ⟨i + 1, by omega, by go_num, bel_drewN bB.out nq⟩
          case measure => simp [intOf]; omega
        · have e1 := HTI.out
          rw [if_neg his] at e1
          subst e1
          have hq1 : ((i : Int) != (s : Int)) = true := by simp; omega
          have hq2 : ((i : Int) == (s : Int)) = false := by simp; omega
          have hqt : (tb.toList == tb.toList) = true := by simp
          clear his
          go_upto_region 16 with fail
          go_quiet (fail)
          go_wp2
          go_roundw
          case rel => exact ⟨i + 1, by omega, by go_num, bel_drewN bB.out nq⟩
          case measure => simp [intOf]; omega
      · have hge : ¬ (i : Int) < (nn : Int) := by omega
        obtain ⟨⟨⟨m0, m1⟩, _⟩, ⟨q1, _⟩, _⟩ := HY.out _ hbr
        have hsf : Hid (sgF (s : Int) = 8 + 8 * (s : Int)) := sgF_yes ⟨by omega, by omega⟩
        go_wp2_with (first
          | (go_at_call 25; refine (specSegsOf_any d _ _ q1 hsm).mono ?_; rintro e wX ⟨rfl, kX⟩; rw [hnN.out]; have bE := (HY.out _ (hbr.trans (kX.mono hbr.size))).2.2)
          | (go_at_call 26; refine (implSegFirst_any _ _).mono ?_; rintro e wX ⟨rfl, rfl⟩; rw [hsf.out]))
        go_ret
        exact ⟨rfl, bE⟩
  · have hb0 : decide ((1048576 : Int) < (len : Int)) = true := decide_eq_true (by omega)
    go_enter Try.func4, Try.ntmps4
    go_wp2_with fail
    refine (big_any a len cap _).mono ?_
    rintro e w0 ⟨rfl, rfl⟩
    rw [hb0]
    go_wp2
    go_ret
    exact ⟨rfl, Below.refl _ _⟩

theorem FnSegments_own : ownKnob Try.prog.godebug = none := by kernel_rfl

set_option maxRecDepth 100000 in
theorem FnSegments_lifted (os : Os) (started : os.Started) (H : Type) (enc : TypeId × Value → H) :
    ReturnsInHanded {} Try.checked os 4 .any (Rows.fnSegmentsSpec.pre6 enc Try.prog Try.f4 Rows.fnSegmentsRow.domain false) (Rows.fnSegmentsSpec.post enc Try.prog Try.f4 false true false false) := by
  refine returnsInHanded_of_change (C := Try.checked) FnSegments_own started (by kernel_rfl) Try.func4
    (ChangeSpec.witness6 (enc := enc) (C := Try.checked) false ⟨#[], #[.slice none 0 0], []⟩ 8 (by kernel_rfl) (by kernel_rfl) (by kernel_rfl) (by kernel_rfl)) ?_
  intro W base args ds gs before hval0 hW hcnd _
  have hval : ∀ (j : Nat) t v, Try.f4.params[j]? = some t → args[j]? = some v → Value.okWide Try.prog W .any base t v := hval0
  have hW' := hW
  obtain ⟨p, q, hA0, hV, rfl, hfz, hnd⟩ := hW
  have hA : DataW.TrodAll enc Try.prog W 0 (fun _ => true) true Try.f4.params.toList args.toList ds p := hA0
  rw [Try.params4] at hA hval
  obtain ⟨v0, vs0, d0, ds0, p0, q0, hargs, rfl, rfl, h0, r0⟩ := trodAll_cons hA
  obtain ⟨rfl, rfl, rfl⟩ := trodAll_nil r0
  obtain rfl : args = #[v0] := by cases args; simp_all
  obtain ⟨rfl, rfl⟩ := trodVars_none hV
  obtain ⟨a0, len0, cap0, rfl⟩ := okWide_slice Try.underlying22 (hval 0 22 v0 rfl rfl)
  have k0 := h0
  have lt0 : ∀ x ∈ p0, x.block < W.heap.size := by obtain ⟨m, hm⟩ := k0; exact DataW.trod_lt m _ _ _ hm
  have w0 : CodeIn W a0 len0 := by
    obtain ⟨fuel, hf⟩ := h0
    rcases open_ints Try.underlying22 Try.underlying5 (by kernel_rfl) hf with ⟨hcs, _⟩ | ⟨x, l, c, zs, hcs, _, hl, hm, hz, _, hcell, hwz⟩
    · simp [Value.cells] at hcs
      obtain ⟨rfl, rfl, rfl⟩ := hcs
      intro i hi; omega
    · simp [Value.cells] at hcs
      obtain ⟨rfl, rfl, rfl⟩ := hcs
      exact codeIn_of_row hl (by simpa using hz) hcell hwz
  clear hA0 hval0
  simp only [List.append_nil] at hW'
  refine (walk_FnSegments a0 len0 cap0 w0 (w := W)).mono fun e W' ⟨he, bel⟩ => ?_
  subst he
  exact ⟨_, rfl, _, _, _, [], _, [], hW', trodAll_mk1 (shut_bool Try.underlying4 _), (trodAll_cons_mk (Below.trod (show laidOutB Try.prog = true by kernel_rfl) (by kernel_rfl) (of_decide_eq_true (by kernel_rfl)) k0 bel lt0) trodAll_mk0), rfl, bel.frame _, fun h => by cases h⟩

/-- The given statement. -/
theorem fnSegments_holds : Rows.FnSegmentsSaid :=
  OpenClaim.holds_of_wide 4 Try.f4 rfl rfl rfl rfl rfl rfl rfl ⟨rfl, rfl, rfl, rfl, rfl⟩ rfl rfl rfl rfl rfl (by kernel_rfl) Try.func4 (by kernel_rfl)
    (of_decide_eq_true (by kernel_rfl)) (by unfold Func.isWrapper; first | (rw [if_pos (by decide +kernel)]; kernel_rfl) | (rw [if_neg (by decide +kernel)]; exact ⟨rfl, rfl⟩))
    (fun os started H enc _ => FnSegments_lifted os started H enc)
#print axioms fnSegments_holds

end Go.Proofs.Ytmlhpjkijpbinab
