/- For every code: what is told of a segment of a drawn disk, right or not, is what the model tells; where the table of sixteen words holds what the program's text lays there (the card ties that to the text). -/
import Derived.Test.YtmlhpjkijpbinabDoorJb
import Derived.Test.YtmlhpjkijpbinabDoorJg
import Derived.Test.YtmlhpjkijpbinabDoorJh
import Derived.Test.YtmlhpjkijpbinabDoorJl
import Derived.Test.YtmlhpjkijpbinabDoorTie
import Derived.Test.YtmlhpjkijpbinabDoorCards
import Derived.ProofKit
import Derived.LaidMore
import Derived.OpenShut
import Derived.OpenVars
import Derived.Stop.Joined
import Derived.SevenTiedAt
import Derived.Below
namespace Go.Proofs.YtmlhpjkijpbinabDoor
open Go.ChangeShapes Go.WideShapes Go.ChangeAt Go.RowKit
open Go.ChangeMaps (open_string shut_string)
set_option linter.unusedVariables false

theorem Dk.drawn_small2 {d : Dk} (h : d.drawn) : d.small ∧ ((∀ s ∈ d.sec, s.size ≤ 1099511627776) ∧ ∀ x ∈ d.cache, x.text.size ≤ 1099511627776) ∧ (∀ s ∈ d.sec, s.size ≤ 137438953472) ∧ ∀ x ∈ d.cache, x.text.size ≤ 137438953472 := by
  obtain ⟨h1, h2, h3, h4⟩ := h
  exact ⟨⟨by omega, by omega⟩, ⟨fun s hs => by have := h3 s hs; omega, fun x hx => by have := h4 x hx; omega⟩, fun s hs => by have := h3 s hs; omega, fun x hx => by have := h4 x hx; omega⟩

set_option maxRecDepth 100000 in
set_option maxHeartbeats 4000000 in
theorem walk_FnSegmentsTold (a : Option Addr) (len cap : Nat) (w : World) (hcode : CodeIn w a len) (htab : SumTab w) :
    Calls Tryd.prog 5 #[.slice a len cap] w fun e w' => e = .returned (.bool true) ∧ Below w.heap.size w w' := by
  by_cases hbig : len ≤ 1048576
  · have hb0 : decide ((1048576 : Int) < (len : Int)) = false := decide_eq_false (by omega)
    have HCO : Hid (∀ w', Below w.heap.size w w' → CodeIn w' a len ∧ SumTab w') := fun w' hb => ⟨hcode.later hb, htab.later hb⟩
    clear htab
    go_enter Tryd.func5, Tryd.ntmps5
    go_wp2_with fail
    refine (big_any a len cap _).mono ?_
    rintro e w0 ⟨rfl, rfl⟩
    rw [hb0]
    go_wp2_with fail
    refine (drawSegFrames_any a len cap _ hcode hbig).mono ?_
    rintro e w2 ⟨d, v2, z, hdr, rfl, o2, b2⟩
    obtain ⟨hsm, hts, htu⟩ := Dk.drawn_small2 hdr
    have HT := Lib.hid hts
    have HT2 := Lib.hid htu
    have hLn : (sfL (sgT d z)).length ≤ 800 := by
      have h1 := sfL_le (sgT d z)
      have h2 := sgT_size (M := 100) (fun s hs => hdr.2.2.1 s hs) (fun x hx => hdr.2.2.2 x hx) z
      omega
    obtain ⟨s1, s2, c1, c2, rfl⟩ := o2.form
    have kA : Below w2.heap.size w2 (w2.alloc (.cells #[.slice s1 d.sec.length c1, .slice s2 d.cache.length c2] 45)) := belAlloc _ _
    have y3 := Box.new w2 #[.slice s1 d.sec.length c1, .slice s2 d.cache.length c2] 45
    have o3 := o2.later kA
    have b3 := b2.trans (kA.mono b2.size)
    go_upto_region 4 with fail
    generalize w2.alloc (.cells #[.slice s1 d.sec.length c1, .slice s2 d.cache.length c2] 45) = w3 at y3 o3 b3 ⊢
    clear o2 kA hcode hdr hts htu
    obtain ⟨t, ht0⟩ : ∃ t, sgT d z = t := ⟨_, rfl⟩
    obtain ⟨L, hL⟩ : ∃ L, sfL t = L := ⟨_, rfl⟩
    obtain ⟨N, hN⟩ : ∃ N, sfE t = N := ⟨_, rfl⟩
    obtain ⟨G, hG⟩ : ∃ G, sgG t = G := ⟨_, rfl⟩
    rw [ht0, hL] at hLn
    have HT0 := Lib.hid ht0
    have HL := Lib.hid hL
    have HN := Lib.hid hN
    have HG := Lib.hid hG
    clear ht0 hL hN hG
    have m0 := y3.cell 0 (.slice s1 d.sec.length c1) rfl
    have m1 := y3.cell 1 (.slice s2 d.cache.length c2) rfl
    go_wp2_with fail
    refine (implSegFrames_any d _ z _ o3.rd hsm HT2.out.1 HT2.out.2 (HCO.out _ b3).2).mono ?_
    intro e w4 hres
    rw [HT0.out] at hres
    obtain ⟨v4, rfl, t4⟩ := hres
    rw [HL.out] at t4
    rw [HN.out]
    have k4 := t4.bel
    have R4 := t4.rows
    have y4 := y3.later k4
    have o4 := o3.later k4
    have b4 := b3.trans (k4.mono b3.size)
    clear m0 m1 y3 o3 b3 t4
    have m0 := y4.cell 0 (.slice s1 d.sec.length c1) rfl
    have m1 := y4.cell 1 (.slice s2 d.cache.length c2) rfl
    go_wp2_with fail
    refine (specSegFrames_any d _ z _ o4.rd hsm HT2.out.1 HT2.out.2).mono ?_
    intro e w5 hres
    rw [HT0.out] at hres
    obtain ⟨v5, rfl, r5⟩ := hres
    rw [HL.out] at r5
    rw [HN.out]
    have k5 := r5.bel
    have R5 := r5.rows
    have P4 := R4.later k5
    have y5 := y4.later k5
    have o5 := o4.later k5
    have b5 := b4.trans (k5.mono b4.size)
    clear m0 m1 y4 o4 b4 r5 R4 k4
    go_wp2_with fail
    refine (drawSegsOf_any a len cap _ (HCO.out _ b5).1 hbig).mono ?_
    rintro e w6 ⟨x, hdx, v6, rfl, o6, k6⟩
    obtain ⟨hsmX, _, _⟩ := Dk.drawn_small2 hdx
    obtain ⟨x1, x2, j1, j2, rfl⟩ := o6.form
    have kB : Below w6.heap.size w6 (w6.alloc (.cells #[.slice x1 x.sec.length j1, .slice x2 x.cache.length j2] 45)) := belAlloc _ _
    have kC := k6.trans (kB.mono k6.size)
    have yX := Box.new w6 #[.slice x1 x.sec.length j1, .slice x2 x.cache.length j2] 45
    have oX := o6.later kB
    have P7 := P4.later kC
    have Q7 := R5.later kC
    have y7 := y5.later kC
    have o7 := o5.later kC
    have b7 := b5.trans (kC.mono b5.size)
    clear o6 k6 y5 o5 b5 hdx P4 R5
    go_upto_region 7 with fail
    generalize w6.alloc (.cells #[.slice x1 x.sec.length j1, .slice x2 x.cache.length j2] 45) = w7 at yX oX P7 Q7 y7 o7 b7 ⊢
    clear kB kC
    go_wp2_with fail
    refine (drawSegDisk_any a len cap _ (HCO.out _ b7).1 hbig).mono ?_
    rintro e w8 ⟨y, hsg, v8, rfl, o8, k8⟩
    obtain ⟨hsmY, htsY, htuY⟩ := Dk.drawn_small2 (Dk.ok_drawn hsg.1)
    have HTY2 := Lib.hid htuY
    clear hsg htsY htuY
    obtain ⟨u1, u2, l1, l2, rfl⟩ := o8.form
    have kB : Below w8.heap.size w8 (w8.alloc (.cells #[.slice u1 y.sec.length l1, .slice u2 y.cache.length l2] 45)) := belAlloc _ _
    have kC := k8.trans (kB.mono k8.size)
    have yY := Box.new w8 #[.slice u1 y.sec.length l1, .slice u2 y.cache.length l2] 45
    have oY := o8.later kB
    have yX9 := yX.later kC
    have oX9 := oX.later kC
    have P9 := P7.later kC
    have Q9 := Q7.later kC
    have y9 := y7.later kC
    have o9 := o7.later kC
    have b9 := b7.trans (kC.mono b7.size)
    clear o8 k8 y7 o7 b7 P7 Q7 yX oX
    go_upto_region 8 with fail
    generalize w8.alloc (.cells #[.slice u1 y.sec.length l1, .slice u2 y.cache.length l2] 45) = w9 at yY oY yX9 oX9 P9 Q9 y9 o9 b9 ⊢
    clear kB kC
    have HY : Hid (∀ Y, Below w9.heap.size w9 Y → ((Y.cell? ⟨w2.heap.size, 0, none⟩ = some (.slice s1 d.sec.length c1) ∧ Y.cell? ⟨w2.heap.size, 1, none⟩ = some (.slice s2 d.cache.length c2)) ∧ (Y.cell? ⟨w6.heap.size, 0, none⟩ = some (.slice x1 x.sec.length j1) ∧ Y.cell? ⟨w6.heap.size, 1, none⟩ = some (.slice x2 x.cache.length j2)) ∧ (Y.cell? ⟨w8.heap.size, 0, none⟩ = some (.slice u1 y.sec.length l1) ∧ Y.cell? ⟨w8.heap.size, 1, none⟩ = some (.slice u2 y.cache.length l2))) ∧
        (DRd Y (.agg #[.slice s1 d.sec.length c1, .slice s2 d.cache.length c2]) d ∧ DRd Y (.agg #[.slice x1 x.sec.length j1, .slice x2 x.cache.length j2]) x ∧ DRd Y (.agg #[.slice u1 y.sec.length l1, .slice u2 y.cache.length l2]) y) ∧ (Rows' frE Y v4 L ∧ Rows' frE Y v5 L) ∧ Below w.heap.size w Y ∧ SumTab Y) := by
      intro Y hY
      have bY := b9.trans (hY.mono b9.size)
      exact ⟨⟨⟨(y9.later hY).cell 0 _ rfl, (y9.later hY).cell 1 _ rfl⟩, ⟨(yX9.later hY).cell 0 _ rfl, (yX9.later hY).cell 1 _ rfl⟩, (yY.later hY).cell 0 _ rfl, (yY.later hY).cell 1 _ rfl⟩, ⟨(o9.later hY).rd, (oX9.later hY).rd, (oY.later hY).rd⟩, ⟨P9.later hY, Q9.later hY⟩, bY, (HCO.out _ bY).2⟩
    clear y9 o9 b9 yX9 oX9 yY oY P9 Q9
    go_wp2
    go_loopw [11, 12] (fun sv iv wr => ∃ i : Nat, i ≤ 11 ∧ sv = .bool false ∧ iv = .int .i64 (i : Int) ∧ Below w9.heap.size w9 wr) (fun _ iv _ => 11 - (intOf iv).toNat)
    case atStart => exact ⟨0, by omega, rfl, rfl, Below.refl _ _⟩
    case round =>
      obtain ⟨i, hi, rfl, rfl, hbr⟩ := hrel
      by_cases hlt : i < 11
      · have hlt' : (i : Int) < 11 := by omega
        obtain ⟨gi, hgi⟩ : ∃ gi : Int, sgG (sgT y (i : Int)) = gi := ⟨_, rfl⟩
        have HGI := Lib.hid hgi
        clear hgi
        have q0 : (gi == gi) = true := by simp
        have q1 : (gi != gi) = false := by simp
        have kk : Below w9.heap.size w9 wr.drew := hbr.drew
        obtain ⟨⟨_, _, m0, m1⟩, _⟩ := HY.out _ kk
        go_upto_region 12 with fail
        go_region_held3 (fun Y => Y.cell? ⟨w8.heap.size, 0, none⟩ = some (.slice u1 y.sec.length l1) ∧ Y.cell? ⟨w8.heap.size, 1, none⟩ = some (.slice u2 y.cache.length l2))
          (first | exact (HY.out _ kk).1.2.2)
          (first
            | (go_at_call 26; obtain ⟨_, ⟨_, _, o1⟩, _, _, tb⟩ := HY.out _ kk; refine (implSegGen_any y _ (i : Int) _ o1 hsmY HTY2.out.1 HTY2.out.2 tb).mono ?_; rintro e wX ⟨rfl, kX⟩; rw [HGI.out]; have kk := kk.trans (kX.mono kk.size); clear o1 kX tb)
            | (go_at_call 27; obtain ⟨_, ⟨_, _, o1⟩, _, _, _⟩ := HY.out _ kk; refine (specSegGen_any y _ (i : Int) _ o1 hsmY HTY2.out.1 HTY2.out.2).mono ?_; rintro e wX ⟨rfl, kX⟩; rw [HGI.out]; have kk := kk.trans (kX.mono kk.size); clear o1 kX))
        all_goals
          go_wp2
          go_roundw
          case rel => exact ⟨i + 1, by omega, rfl, by go_num, kk⟩
          case measure => simp [intOf]; omega
      · have hge : ¬ (i : Int) < 11 := by omega
        have kk : Below w9.heap.size w9 wr.drew := hbr.drew
        obtain ⟨⟨⟨m0, m1⟩, ⟨m2, m3⟩, _⟩, _⟩ := HY.out _ kk
        obtain ⟨xn, hxn⟩ : ∃ xn : Int, sgN x = xn := ⟨_, rfl⟩
        have HXN := Lib.hid hxn
        clear hxn
        have q0 : (G == G) = true := by simp
        have q1 : (xn == xn) = true := by simp
        have q2 : (t.toList == t.toList) = true := by simp
        have q3 : ((N : Int) == (N : Int)) = true := by simp
        have q4 : sgF 1 = 16 := rfl
        have HQ4 := Lib.hid q4
        clear q4
        go_upto_region 13 with fail
        go_region_held3 (fun Y => Y.cell? ⟨w2.heap.size, 0, none⟩ = some (.slice s1 d.sec.length c1) ∧ Y.cell? ⟨w2.heap.size, 1, none⟩ = some (.slice s2 d.cache.length c2) ∧ Y.cell? ⟨w6.heap.size, 0, none⟩ = some (.slice x1 x.sec.length j1) ∧ Y.cell? ⟨w6.heap.size, 1, none⟩ = some (.slice x2 x.cache.length j2))
          (first | exact ⟨(HY.out _ kk).1.1.1, (HY.out _ kk).1.1.2, (HY.out _ kk).1.2.1.1, (HY.out _ kk).1.2.1.2⟩)
          (first
            | (go_at_call 11; obtain ⟨_, _, ⟨r1, r2⟩, _, _⟩ := HY.out _ kk; refine (sameFrames_same L _ _ _ r1 r2 (by omega)).mono ?_; rintro e wX ⟨rfl, kX⟩; have kk := kk.trans (kX.mono kk.size); clear r1 r2 kX)
            | (go_at_call 26; obtain ⟨_, ⟨o1, _, _⟩, _, _, tb⟩ := HY.out _ kk; refine (implSegGen_any d _ z _ o1 hsm HT2.out.1 HT2.out.2 tb).mono ?_; rintro e wX ⟨rfl, kX⟩; rw [HT0.out, HG.out]; have kk := kk.trans (kX.mono kk.size); clear o1 kX tb)
            | (go_at_call 27; obtain ⟨_, ⟨o1, _, _⟩, _, _, _⟩ := HY.out _ kk; refine (specSegGen_any d _ z _ o1 hsm HT2.out.1 HT2.out.2).mono ?_; rintro e wX ⟨rfl, kX⟩; rw [HT0.out, HG.out]; have kk := kk.trans (kX.mono kk.size); clear o1 kX)
            | (go_at_call 28; obtain ⟨_, ⟨o1, _, _⟩, _, _, _⟩ := HY.out _ kk; refine (implSegText_any d _ z _ o1 hsm HT.out.1 HT.out.2).mono ?_; rintro e wX ⟨rfl, kX⟩; rw [HT0.out]; have kk := kk.trans (kX.mono kk.size); clear o1 kX)
            | (go_at_call 29; obtain ⟨_, ⟨o1, _, _⟩, _, _, _⟩ := HY.out _ kk; refine (specSegText_any d _ z _ o1 hsm HT.out.1 HT.out.2).mono ?_; rintro e wX ⟨rfl, kX⟩; rw [HT0.out]; have kk := kk.trans (kX.mono kk.size); clear o1 kX)
            | (go_at_call 30; obtain ⟨_, ⟨_, o1, _⟩, _, _, _⟩ := HY.out _ kk; refine (implSegsOf_any x _ _ o1 hsmX).mono ?_; rintro e wX ⟨rfl, kX⟩; rw [HXN.out]; have kk := kk.trans (kX.mono kk.size); clear o1 kX)
            | (go_at_call 31; obtain ⟨_, ⟨_, o1, _⟩, _, _, _⟩ := HY.out _ kk; refine (specSegsOf_any x _ _ o1 hsmX).mono ?_; rintro e wX ⟨rfl, kX⟩; rw [HXN.out]; have kk := kk.trans (kX.mono kk.size); clear o1 kX)
            | (go_at_call 32; refine (implSegFirst_any 1 _).mono ?_; rintro e wX ⟨rfl, rfl⟩; rw [HQ4.out]))
        all_goals
          have bE := (HY.out _ kk).2.2.2.1
          go_wp2
          go_ret
          exact ⟨rfl, bE⟩
  · have hb0 : decide ((1048576 : Int) < (len : Int)) = true := decide_eq_true (by omega)
    go_enter Tryd.func5, Tryd.ntmps5
    go_wp2_with fail
    refine (big_any a len cap _).mono ?_
    rintro e w0 ⟨rfl, rfl⟩
    rw [hb0]
    go_wp2
    go_ret
    exact ⟨rfl, Below.refl _ _⟩

theorem FnSegmentsTold_of_laid {W : World} (h : laidMetH Tryd.prog Rows.fnSegmentsToldRow.laid W) : SumTab W := sumTab_of_laid h

theorem FnSegmentsTold_own : ownKnob Tryd.prog.godebug = none := by kernel_rfl
theorem FnSegmentsTold_door (os : Os) (args : Array Value) : laidMetH Tryd.prog Rows.fnSegmentsToldRow.laid ((World.doorLaid Tryd.prog 400 os).forCall (fun _ _ => 0) ⟨#[], args, []⟩).memory :=
  laidMetH_of_parts3 (fuel := 8) (laidMet_of_run' 8 (by kernel_rfl) (by kernel_rfl)) (by kernel_rfl) (by kernel_rfl)

set_option maxRecDepth 100000 in
theorem FnSegmentsTold_lifted (os : Os) (started : os.Started) (H : Type) (enc : TypeId × Value → H) :
    ReturnsInHanded {} Tryd.checked os 5 .any (fun w args => (Rows.fnSegmentsToldSpec.pre enc Tryd.prog Tryd.f5 [] false w args ∧ laidMetH Tryd.prog Rows.fnSegmentsToldRow.laid w) ∧ sizedMet enc Tryd.prog Tryd.f5 (OpenSpec.ofChange Rows.fnSegmentsToldSpec) false w args)
      (Rows.fnSegmentsToldSpec.post enc Tryd.prog Tryd.f5 false true false false) := by
  refine returnsInHanded_of_change_and (C := Tryd.checked) (X := fun w _ => laidMetH Tryd.prog Rows.fnSegmentsToldRow.laid w) (fun _ _ _ hh h => h.of_heap hh) FnSegmentsTold_own started (by kernel_rfl) Tryd.func5
    (ChangeSpec.witness_shaped (enc := enc) (C := Tryd.checked) (os := os) (X := fun w _ => laidMetH Tryd.prog Rows.fnSegmentsToldRow.laid w) false (World.doorLaid Tryd.prog 400 os) #[.slice none 0 0] 8 rfl (World.shaped_of_RefB (by kernel_rfl) (by kernel_rfl)) (by kernel_rfl) (by kernel_rfl) (by kernel_rfl) (FnSegmentsTold_door os _)) ?_
  intro W base args ds gs before hval0 hW _ _ hL _
  have hval : ∀ (j : Nat) t v, Tryd.f5.params[j]? = some t → args[j]? = some v → Value.okWide Tryd.prog W .any base t v := hval0
  have hW' := hW
  obtain ⟨p, q, hA0, hV, rfl, hfz, hnd⟩ := hW
  have hA : DataW.TrodAll enc Tryd.prog W 0 (fun _ => true) true Tryd.f5.params.toList args.toList ds p := hA0
  rw [Tryd.params5] at hA hval
  obtain ⟨v0, vs0, d0, ds0, p0, q0, hargs, rfl, rfl, h0, r0⟩ := trodAll_cons hA
  obtain ⟨rfl, rfl, rfl⟩ := trodAll_nil r0
  obtain rfl : args = #[v0] := by cases args; simp_all
  obtain ⟨e0, rfl⟩ : ∃ d, gs = [d] := by obtain ⟨_, _, _, _, d, _, e, _⟩ := trodVars_one hV; exact ⟨d, e⟩
  obtain ⟨a0, len0, cap0, rfl⟩ := okWide_slice Tryd.underlying22 (hval 0 22 v0 rfl rfl)
  have k0 := h0
  have lt0 : ∀ x ∈ p0, x.block < W.heap.size := by obtain ⟨m, hm⟩ := k0; exact DataW.trod_lt m _ _ _ hm
  have w0 : CodeIn W a0 len0 := by
    obtain ⟨fuel, hf⟩ := h0
    rcases open_ints Tryd.underlying22 Tryd.underlying5 (by kernel_rfl) hf with ⟨hcs, _⟩ | ⟨x, l, c, zs, hcs, _, hl, hm, hz, _, hcell, hwz⟩
    · simp [Value.cells] at hcs
      obtain ⟨rfl, rfl, rfl⟩ := hcs
      intro i hi; omega
    · simp [Value.cells] at hcs
      obtain ⟨rfl, rfl, rfl⟩ := hcs
      exact codeIn_of_row hl (by simpa using hz) hcell hwz
  clear hA0 hval0
  try simp only [List.append_nil] at hW'
  refine (walk_FnSegmentsTold a0 len0 cap0 w0 (w := W) (FnSegmentsTold_of_laid hL)).mono fun e W' ⟨he, bel⟩ => ?_
  subst he
  exact ⟨_, rfl, _, _, _, [], _, _, hW', trodAll_mk1 (shut_bool Tryd.underlying4 _), (trodAll_cons_mk (Below.trod (show laidOutB Tryd.prog = true by kernel_rfl) (by kernel_rfl) (of_decide_eq_true (by kernel_rfl)) k0 bel lt0) trodAll_mk0), Below.trodVars (show laidOutB Tryd.prog = true by kernel_rfl) bel (by kernel_rfl) hV, bel.frame _, fun h => by cases h⟩

theorem fnSegmentsTold_row : Rows.FnSegmentsToldSaid :=
  OpenClaim.holds_of_wide 5 Tryd.f5 rfl rfl rfl rfl rfl rfl rfl ⟨rfl, rfl, rfl, rfl, rfl⟩ rfl rfl rfl rfl rfl (by kernel_rfl) Tryd.func5 (by kernel_rfl)
    (of_decide_eq_true (by kernel_rfl)) (by unfold Func.isWrapper; first | (rw [if_pos (by decide +kernel)]; kernel_rfl) | (rw [if_neg (by decide +kernel)]; exact ⟨rfl, rfl⟩))
    (fun os started H enc _ => FnSegmentsTold_lifted os started H enc)

/-- The given statement. -/
theorem fnSegmentsTold_cardsaid : Rows.FnSegmentsToldCardSaid :=
  Claim7.holds_tied_plain_at .later [] [.data] true (true, "5c5e09174588bdee6e8d827df33d9e6f7371781a8e4f100caa54c773dc38fa11") false
    fnSegmentsTold_row (fun _ h => by cases h) (by kernel_rfl) (fun _ h => by cases h) fnSegmentsTold_row_tie rfl ⟨rfl, rfl⟩ (by kernel_rfl) rfl
    (fun f fn hf hfn => by
      obtain rfl : f = 5 := Option.some.inj ((show Tryd.prog.funcNamed "loop.example/g00287/laws.FnSegmentsTold" = some 5 by kernel_rfl).symm.trans hf) |>.symm
      obtain rfl : fn = Tryd.f5 := (Option.some.inj (Tryd.func5.symm.trans hfn)).symm
      exact ⟨by kernel_rfl, fun j t ht => by
        rw [Tryd.params5] at ht
        have hm : t ∈ [22] := by simpa using Array.mem_of_getElem? ht
        have hall : ([22].all fun u => !Tryd.prog.wantsStandIn u) = true := by kernel_rfl
        exact (show Tryd.prog.wantsStandIn t = false by simpa using List.all_eq_true.1 hall t hm)⟩)
    (by kernel_rfl)
#print axioms fnSegmentsTold_cardsaid

end Go.Proofs.YtmlhpjkijpbinabDoor
