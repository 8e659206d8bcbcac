/- For every code: the drawn right frame comes back from its text; what is read of a drawn text, and all frames of a Gen in a drawn text, are what the model tells; nothing that was there is changed; where the table of sixteen words holds what the program's text lays there (the card ties that to the text). -/
import Derived.Test.YtmmgnpjhlmiafabDoorSameFr
import Derived.Test.YtmmgnpjhlmiafabDoorScanI
import Derived.Test.YtmmgnpjhlmiafabDoorPlainFrames
import Derived.Test.YtmmgnpjhlmiafabDoorSumLaid
import Derived.Test.YtmmgnpjhlmiafabDoorTie
import Derived.Test.YtmmgnpjhlmiafabDoorCards
import Derived.ProofKit
import Derived.LaidMore
import Derived.OpenShut
import Derived.OpenVars
import Derived.Stop.Joined
import Derived.SevenTiedAt
namespace Go.Proofs.YtmmgnpjhlmiafabDoor
open Go.ChangeShapes Go.WideShapes Go.ChangeAt Go.RowKit
open Go.ChangeMaps (open_string shut_string)
set_option linter.unusedVariables false

theorem big_any (a : Option Addr) (len cap : Nat) (w : World) :
    Calls Tryd.prog 5 #[.slice a len cap] w fun e w' => e = .returned (.bool (decide ((1048576 : Int) < (len : Int)))) ∧ w = w' := by
  go_enter Tryd.func5, Tryd.ntmps5
  go_wp2
  go_ret
  exact ⟨rfl, rfl⟩

theorem rfT_form2 (s : ByteArray) (a : Int) : ∃ (f : Fr) (n : Nat) (b : Bool), rfT s a = .tuple #[f.v, .int .i64 (n : Int), .bool b] := by
  unfold rfT
  split
  · exact ⟨_, _, _, rfl⟩
  · exact ⟨zeroFr, 0, _, rfl⟩

/-- A right frame comes back from its text; of no text nothing does. -/
theorem turned_ways (f : Fr) : (f.ok ∧ ftT f = .tuple #[.string f.tx, .bool true] ∧ rfT f.tx 0 = .tuple #[f.v, .int .i64 (f.tx.size : Int), .bool true]) ∨ (¬ f.ok ∧ ftT f = .tuple #[.string ⟨#[]⟩, .bool false]) := by
  by_cases h : f.ok
  · refine .inl ⟨h, ftT_yes h, ?_⟩
    have h4 : ∀ x, (fourOf x).size = 4 := fun _ => rfl
    have hr := rf_back (s := f.tx) (k := 0) (e := f.tx.size) h4 h (Nat.zero_le _) (Nat.le_refl _) (by rw [extract_all]; rfl)
    exact rfT_some ((rfA_nat (Nat.zero_le _)).trans hr)
  · exact .inr ⟨h, ftT_no h⟩

set_option maxRecDepth 100000 in
set_option maxHeartbeats 4000000 in
theorem walk_FnFramesTurned (a : Option Addr) (len cap : Nat) (w : World) (hcode : CodeIn w a len) (htab : SumTab w) :
    Calls Tryd.prog 4 #[.slice a len cap] w fun e w' => e = .returned (.bool true) ∧ Below w.heap.size w w' := by
  by_cases hbig : len ≤ 1048576
  · have hb0 : decide ((1048576 : Int) < (len : Int)) = false := decide_eq_false (by omega)
    have HT : Hid (∀ w', Below w.heap.size w w' → SumTab w') := fun w' hb => htab.later hb
    have HCO : Hid (∀ w', Below w.heap.size w w' → CodeIn w' a len) := fun w' hb => hcode.later hb
    clear htab
    go_enter Tryd.func4, Tryd.ntmps4
    go_wp2_with fail
    refine (big_any a len cap _).mono ?_
    rintro e w0 ⟨rfl, rfl⟩
    rw [hb0]
    go_wp2_with fail
    refine (drawFrameText_any a len cap _ hcode hbig).mono ?_
    rintro e w1 ⟨f, hf, rfl, bw1⟩
    have hv : f.v = .agg #[.int .i64 f.gen, .int .i64 f.seq, .string f.body] := rfl
    rw [hv]
    have yf := Box.new w1 #[.int .i64 f.gen, .int .i64 f.seq, .string f.body] 30
    have kAw2 : Below w1.heap.size w1 (w1.alloc (.cells #[.int .i64 f.gen, .int .i64 f.seq, .string f.body] 30)) := (Below.refl _ _).alloc (Nat.le_refl _) _
    have bw2 := bw1.trans (kAw2.mono bw1.size)
    go_upto_region 4 with fail
    generalize w1.alloc (.cells #[.int .i64 f.gen, .int .i64 f.seq, .string f.body] 30) = w2 at yf kAw2 bw2 ⊢
    obtain ⟨c0, c1, c2, _, _, _⟩ := yf.three
    go_wp2_with fail
    rw [← hv]
    refine (implFrameText_any f _ (by omega) (HT.out _ bw2)).mono ?_
    rintro e w3 ⟨rfl, k3⟩
    clear c0 c1 c2
    have yf3 := yf.later k3
    have bw3 := bw2.trans (k3.mono bw2.size)
    -- the two ways: a right frame, or not
    obtain ⟨t, ok, hft, htx⟩ := ftT_form f
    obtain ⟨x, n, r, hrf⟩ := rfT_form2 t 0
    have hways : (ok = true ∧ f.ok ∧ x = f ∧ r = true ∧ (n : Int) = (t.size : Int)) ∨ (ok = false ∧ ¬ f.ok) := by
      rcases turned_ways f with ⟨h1, h2, h3⟩ | ⟨h1, h2⟩
      · rw [hft] at h2
        simp only [Value.tuple.injEq, Array.mk.injEq, List.cons.injEq, Value.string.injEq, Value.bool.injEq, and_true] at h2
        obtain ⟨rfl, rfl⟩ := h2
        rw [hrf] at h3
        simp only [Fr.v, Value.tuple.injEq, Value.agg.injEq, Array.mk.injEq, List.cons.injEq, Value.string.injEq, Value.int.injEq, Value.bool.injEq, and_true, true_and] at h3
        obtain ⟨⟨e1, e2, e3⟩, e4, e5⟩ := h3
        refine .inl ⟨rfl, h1, ?_, e5, e4⟩
        obtain ⟨x1, x2, x3⟩ := x
        obtain ⟨f1, f2, f3⟩ := f
        simp only at e1 e2 e3
        rw [e1, e2, e3]
      · rw [hft] at h2
        simp only [Value.tuple.injEq, Array.mk.injEq, List.cons.injEq, Value.string.injEq, Value.bool.injEq, and_true] at h2
        exact .inr ⟨h2.2, h1⟩
    have HW := Lib.hid hways
    have HR := Lib.hid hrf
    rw [hft]
    clear hways hrf hft
    go_wp2_with fail
    refine (implReadFrame_any t 0 _ (by omega) (HT.out _ bw3)).mono ?_
    rintro e w4 ⟨rfl, k4⟩
    rw [HR.out]
    have bw4 := bw3.trans (k4.mono bw3.size)
    have yf4 := yf3.later k4
    have hvx : x.v = .agg #[.int .i64 x.gen, .int .i64 x.seq, .string x.body] := rfl
    rw [hvx]
    have yx := Box.new w4 #[.int .i64 x.gen, .int .i64 x.seq, .string x.body] 30
    have kAw5 : Below w4.heap.size w4 (w4.alloc (.cells #[.int .i64 x.gen, .int .i64 x.seq, .string x.body] 30)) := (Below.refl _ _).alloc (Nat.le_refl _) _
    have bw5 := bw4.trans (kAw5.mono bw4.size)
    go_upto_region 6 with fail
    have yf5 := yf4.later kAw5
    generalize w4.alloc (.cells #[.int .i64 x.gen, .int .i64 x.seq, .string x.body] 30) = w5 at yx yf5 kAw5 bw5 ⊢
    go_wp2_with fail
    refine (drawReadFrame_any a len cap _ (HCO.out _ bw5) hbig).mono ?_
    rintro e w6 ⟨s, at', hs, rfl, k6⟩
    have bw6 := bw5.trans (k6.mono bw5.size)
    have yf6 := yf5.later k6
    have yx6 := yx.later k6
    obtain ⟨g, m, r', hrg⟩ := rfT_form2 s at'
    have HG := Lib.hid hrg
    clear hrg
    go_wp2_with fail
    refine (implReadFrame_any s at' _ (by omega) (HT.out _ bw6)).mono ?_
    rintro e w7 ⟨rfl, k7⟩
    rw [HG.out]
    have bw7 := bw6.trans (k7.mono bw6.size)
    have yf7 := yf6.later k7
    have yx7 := yx6.later k7
    have hvg : g.v = .agg #[.int .i64 g.gen, .int .i64 g.seq, .string g.body] := rfl
    rw [hvg]
    have ya := Box.new w7 #[.int .i64 g.gen, .int .i64 g.seq, .string g.body] 30
    have kAw8 : Below w7.heap.size w7 (w7.alloc (.cells #[.int .i64 g.gen, .int .i64 g.seq, .string g.body] 30)) := (Below.refl _ _).alloc (Nat.le_refl _) _
    have bw8 := bw7.trans (kAw8.mono bw7.size)
    go_upto_region 8 with fail
    have yf8 := yf7.later kAw8
    have yx8 := yx7.later kAw8
    generalize w7.alloc (.cells #[.int .i64 g.gen, .int .i64 g.seq, .string g.body] 30) = w8 at ya yf8 yx8 kAw8 bw8 ⊢
    go_wp2_with fail
    refine (specReadFrame_any s at' _ (by omega)).mono ?_
    rintro e w9 ⟨rfl, k9⟩
    rw [HG.out, hvg]
    have bw9 := bw8.trans (k9.mono bw8.size)
    have yf9 := yf8.later k9
    have yx9 := yx8.later k9
    have ya9 := ya.later k9
    have yc := Box.new w9 #[.int .i64 g.gen, .int .i64 g.seq, .string g.body] 30
    have kAwA : Below w9.heap.size w9 (w9.alloc (.cells #[.int .i64 g.gen, .int .i64 g.seq, .string g.body] 30)) := (Below.refl _ _).alloc (Nat.le_refl _) _
    have bwA := bw9.trans (kAwA.mono bw9.size)
    go_upto_region 9 with fail
    have yfA := yf9.later kAwA
    have yxA := yx9.later kAwA
    have yaA := ya9.later kAwA
    generalize w9.alloc (.cells #[.int .i64 g.gen, .int .i64 g.seq, .string g.body] 30) = wA at yc yfA yxA yaA kAwA bwA ⊢
    go_wp2_with fail
    refine (drawScanFrames_any a len cap _ (HCO.out _ bwA) hbig).mono ?_
    rintro e wB ⟨u, hu, rfl, kB⟩
    have bwB := bwA.trans (kB.mono bwA.size)
    obtain ⟨L, hL⟩ : ∃ L, scanL u 2 = L := ⟨_, rfl⟩
    obtain ⟨en, hn⟩ : ∃ n, scanE u 2 = n := ⟨_, rfl⟩
    have hl := scanL_le u 2
    rw [hL] at hl
    have HL := Lib.hid hL
    have HN := Lib.hid hn
    clear hL hn
    go_wp2_with fail
    refine (implScanFrames_any u 2 _ (by omega) (HT.out _ bwB)).mono ?_
    rintro e wC ⟨v1, rfl, q1⟩
    rw [HN.out]
    rw [HL.out] at q1
    have kC := q1.bel
    have bwC := bwB.trans (kC.mono bwB.size)
    go_wp2_with fail
    refine (specScanFrames_any u 2 _ (by omega)).mono ?_
    rintro e wD ⟨v2, rfl, q2⟩
    rw [HN.out]
    rw [HL.out] at q2
    have kD := q2.bel
    have bwD := bwC.trans (kD.mono bwC.size)
    have kAD := kB.trans ((kC.trans (kD.mono kC.size)).mono kB.size)
    have r1 := q1.rows.later kD
    have r2 := q2.rows
    have HY : Hid (∀ X, Below wD.heap.size wD X → Box X w1.heap.size #[.int .i64 f.gen, .int .i64 f.seq, .string f.body] 30 ∧ Box X w4.heap.size #[.int .i64 x.gen, .int .i64 x.seq, .string x.body] 30 ∧ Box X w7.heap.size #[.int .i64 g.gen, .int .i64 g.seq, .string g.body] 30 ∧ Box X w9.heap.size #[.int .i64 g.gen, .int .i64 g.seq, .string g.body] 30 ∧ Below w.heap.size w X ∧ Rows' frE X v1 L ∧ Rows' frE X v2 L) :=
      fun X hX => ⟨(yfA.later kAD).later hX, (yxA.later kAD).later hX, (yaA.later kAD).later hX, (yc.later kAD).later hX, bwD.trans (hX.mono bwD.size), r1.later hX, r2.later hX⟩
    obtain ⟨zf, zx, za, zc, _, _, _⟩ := HY.out wD (Below.refl _ _)
    obtain ⟨a0, a1, a2, _, _, _⟩ := zf.three
    clear yf yx ya yc yf3 yf4 yf5 yf6 yf7 yf8 yf9 yfA yx6 yx7 yx8 yx9 yxA ya9 yaA q1 q2 r1 r2 zf zx za zc kB kC kD kAD k3 k4 k6 k7 k9 kAw2 kAw5 kAw8 kAwA
    go_wp2_with fail
    rw [← hv]
    refine (specFrameOk_any f _ (by omega)).mono ?_
    rintro e wE ⟨rfl, kE⟩
    clear a0 a1 a2
    obtain ⟨zf, zx, za, zc, _, _, _⟩ := HY.out wE kE
    obtain ⟨a0, a1, a2, _, _, _⟩ := zf.three
    have hxx := run_frame_eql f
    have hgg := run_frame_eql g
    rcases HW.out with ⟨rfl, hok, rfl, rfl, hnn⟩ | ⟨rfl, hok⟩
    · rw [decide_eq_true hok]
      go_wp2_with fail
      rw [← hv]
      refine (implFrameOk_any x _ (by omega)).mono ?_
      rintro e wF ⟨rfl, kF⟩
      rw [decide_eq_true hok]
      clear a0 a1 a2 zf zx za zc
      have kF2 := kE.trans (kF.mono kE.size)
      obtain ⟨zf, zx, za, zc, bF, s1, s2⟩ := HY.out wF kF2
      obtain ⟨a0, a1, a2, _, _, _⟩ := zf.three
      obtain ⟨d0, d1, d2, _, _, _⟩ := zx.three
      obtain ⟨e0, e1, e2, _, _, _⟩ := za.three
      obtain ⟨g0, g1, g2, _, _, _⟩ := zc.three
      have hrr : (r' == r') = true := by cases r' <;> rfl
      go_wp2_with fail
      refine (sameFrames_same L _ _ _ s1 s2 (by omega)).mono ?_
      rintro e wG ⟨rfl, kG⟩
      go_wp2
      go_ret
      exact ⟨by simp, bF.trans (kG.mono bF.size)⟩
    · rw [decide_eq_false hok]
      go_wp2_with fail
      rw [← hv]
      refine (implFrameOk_any f _ (by omega)).mono ?_
      rintro e wF ⟨rfl, kF⟩
      rw [decide_eq_false hok]
      clear a0 a1 a2 zf zx za zc
      have kF2 := kE.trans (kF.mono kE.size)
      obtain ⟨zf, zx, za, zc, bF, s1, s2⟩ := HY.out wF kF2
      obtain ⟨e0, e1, e2, _, _, _⟩ := za.three
      obtain ⟨g0, g1, g2, _, _, _⟩ := zc.three
      have hrr : (r' == r') = true := by cases r' <;> rfl
      go_wp2_with fail
      refine (sameFrames_same L _ _ _ s1 s2 (by omega)).mono ?_
      rintro e wG ⟨rfl, kG⟩
      go_wp2
      go_ret
      exact ⟨by simp, bF.trans (kG.mono bF.size)⟩
  · have hb0 : decide ((1048576 : Int) < (len : Int)) = true := decide_eq_true (by omega)
    go_enter Tryd.func4, Tryd.ntmps4
    go_wp2_with fail
    refine (big_any a len cap _).mono ?_
    rintro e w0 ⟨rfl, rfl⟩
    rw [hb0]
    go_wp2
    go_ret
    exact ⟨rfl, Below.refl _ _⟩

theorem FnFramesTurned_of_laid {W : World} (h : laidMetH Tryd.prog Rows.fnFramesTurnedRow.laid W) : SumTab W := sumTab_of_laid h

theorem FnFramesTurned_own : ownKnob Tryd.prog.godebug = none := by kernel_rfl
theorem FnFramesTurned_door (os : Os) (args : Array Value) : laidMetH Tryd.prog Rows.fnFramesTurnedRow.laid ((World.doorLaid Tryd.prog 400 os).forCall (fun _ _ => 0) ⟨#[], args, []⟩).memory :=
  laidMetH_of_parts3 (fuel := 8) (laidMet_of_run' 8 (by kernel_rfl) (by kernel_rfl)) (by kernel_rfl) (by kernel_rfl)

set_option maxRecDepth 100000 in
theorem FnFramesTurned_lifted (os : Os) (started : os.Started) (H : Type) (enc : TypeId × Value → H) :
    ReturnsInHanded {} Tryd.checked os 4 .any (fun w args => (Rows.fnFramesTurnedSpec.pre enc Tryd.prog Tryd.f4 [] false w args ∧ laidMetH Tryd.prog Rows.fnFramesTurnedRow.laid w) ∧ sizedMet enc Tryd.prog Tryd.f4 (OpenSpec.ofChange Rows.fnFramesTurnedSpec) false w args)
      (Rows.fnFramesTurnedSpec.post enc Tryd.prog Tryd.f4 false true false false) := by
  refine returnsInHanded_of_change_and (C := Tryd.checked) (X := fun w _ => laidMetH Tryd.prog Rows.fnFramesTurnedRow.laid w) (fun _ _ _ hh h => h.of_heap hh) FnFramesTurned_own started (by kernel_rfl) Tryd.func4
    (ChangeSpec.witness_shaped (enc := enc) (C := Tryd.checked) (os := os) (X := fun w _ => laidMetH Tryd.prog Rows.fnFramesTurnedRow.laid w) false (World.doorLaid Tryd.prog 400 os) #[.slice none 0 0] 8 rfl (World.shaped_of_RefB (by kernel_rfl) (by kernel_rfl)) (by kernel_rfl) (by kernel_rfl) (by kernel_rfl) (FnFramesTurned_door os _)) ?_
  intro W base args ds gs before hval0 hW _ _ hL _
  have hval : ∀ (j : Nat) t v, Tryd.f4.params[j]? = some t → args[j]? = some v → Value.okWide Tryd.prog W .any base t v := hval0
  have hW' := hW
  obtain ⟨p, q, hA0, hV, rfl, hfz, hnd⟩ := hW
  have hA : DataW.TrodAll enc Tryd.prog W 0 (fun _ => true) true Tryd.f4.params.toList args.toList ds p := hA0
  rw [Tryd.params4] at hA hval
  obtain ⟨v0, vs0, d0, ds0, p0, q0, hargs, rfl, rfl, h0, r0⟩ := trodAll_cons hA
  obtain ⟨rfl, rfl, rfl⟩ := trodAll_nil r0
  obtain rfl : args = #[v0] := by cases args; simp_all
  obtain ⟨e0, rfl⟩ : ∃ d, gs = [d] := by obtain ⟨_, _, _, _, d, _, e, _⟩ := trodVars_one hV; exact ⟨d, e⟩
  obtain ⟨a0, len0, cap0, rfl⟩ := okWide_slice Tryd.underlying22 (hval 0 22 v0 rfl rfl)
  have k0 := h0
  have lt0 : ∀ x ∈ p0, x.block < W.heap.size := by obtain ⟨m, hm⟩ := k0; exact DataW.trod_lt m _ _ _ hm
  have w0 : CodeIn W a0 len0 := by
    obtain ⟨fuel, hf⟩ := h0
    rcases open_ints Tryd.underlying22 Tryd.underlying5 (by kernel_rfl) hf with ⟨hcs, _⟩ | ⟨x, l, c, zs, hcs, _, hl, hm, hz, _, hcell, hwz⟩
    · simp [Value.cells] at hcs
      obtain ⟨rfl, rfl, rfl⟩ := hcs
      intro i hi; omega
    · simp [Value.cells] at hcs
      obtain ⟨rfl, rfl, rfl⟩ := hcs
      exact codeIn_of_row hl (by simpa using hz) hcell hwz
  clear hA0 hval0
  try simp only [List.append_nil] at hW'
  refine (walk_FnFramesTurned a0 len0 cap0 w0 (w := W) (FnFramesTurned_of_laid hL)).mono fun e W' ⟨he, bel⟩ => ?_
  subst he
  exact ⟨_, rfl, _, _, _, [], _, _, hW', trodAll_mk1 (shut_bool Tryd.underlying4 _), (trodAll_cons_mk (Below.trod (show laidOutB Tryd.prog = true by kernel_rfl) (by kernel_rfl) (of_decide_eq_true (by kernel_rfl)) k0 bel lt0) trodAll_mk0), Below.trodVars (show laidOutB Tryd.prog = true by kernel_rfl) bel (by kernel_rfl) hV, bel.frame _, fun h => by cases h⟩

theorem fnFramesTurned_row : Rows.FnFramesTurnedSaid :=
  OpenClaim.holds_of_wide 4 Tryd.f4 rfl rfl rfl rfl rfl rfl rfl ⟨rfl, rfl, rfl, rfl, rfl⟩ rfl rfl rfl rfl rfl (by kernel_rfl) Tryd.func4 (by kernel_rfl)
    (of_decide_eq_true (by kernel_rfl)) (by unfold Func.isWrapper; first | (rw [if_pos (by decide +kernel)]; kernel_rfl) | (rw [if_neg (by decide +kernel)]; exact ⟨rfl, rfl⟩))
    (fun os started H enc _ => FnFramesTurned_lifted os started H enc)

/-- The given statement. -/
theorem fnFramesTurned_cardsaid : Rows.FnFramesTurnedCardSaid :=
  Claim7.holds_tied_plain_at .later [] [.data] true (true, "62b666b0cbedfae30448db5f11eff390a6151c0f169e4e2be5d876aa385d90bb") false
    fnFramesTurned_row (fun _ h => by cases h) (by kernel_rfl) (fun _ h => by cases h) fnFramesTurned_row_tie rfl ⟨rfl, rfl⟩ (by kernel_rfl) rfl
    (fun f fn hf hfn => by
      obtain rfl : f = 4 := Option.some.inj ((show Tryd.prog.funcNamed "loop.example/g00287/laws.FnFramesTurned" = some 4 by kernel_rfl).symm.trans hf) |>.symm
      obtain rfl : fn = Tryd.f4 := (Option.some.inj (Tryd.func4.symm.trans hfn)).symm
      exact ⟨by kernel_rfl, fun j t ht => by
        rw [Tryd.params4] at ht
        have hm : t ∈ [22] := by simpa using Array.mem_of_getElem? ht
        have hall : ([22].all fun u => !Tryd.prog.wantsStandIn u) = true := by kernel_rfl
        exact (show Tryd.prog.wantsStandIn t = false by simpa using List.all_eq_true.1 hall t hm)⟩)
    (by kernel_rfl)
#print axioms fnFramesTurned_cardsaid

end Go.Proofs.YtmmgnpjhlmiafabDoor
