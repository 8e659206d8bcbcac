/- For every code: the drawn record, right or not, is told right by both; a right one comes back from its text and from its frame; what is read of a drawn text is a record just where the model reads one, and then the text is the record's own; a drawn word is told by both alike; nothing that was there is changed. No condition. -/
import Derived.Test.YthlbokfajiahpaaItemI
import Derived.Test.YthlbokfajiahpaaDrawRec2
import Derived.ProofKit
import Derived.OpenShut
import Derived.ShutString
import Derived.ChangeOld
import Derived.Below
namespace Go.Proofs.Ythlbokfajiahpaa
open Go.ChangeShapes Go.WideShapes Go.ChangeAt Go.RowKit
open Go.ChangeMaps (open_string shut_string)
set_option linter.unusedVariables false

theorem big_any (a : Option Addr) (len cap : Nat) (w : World) :
    Calls Try.prog 9 #[.slice a len cap] w fun e w' => e = .returned (.bool (decide ((1048576 : Int) < (len : Int)))) ∧ w = w' := by
  go_enter Try.func9, Try.ntmps9
  go_wp2
  go_ret
  exact ⟨rfl, rfl⟩

/-- What is said of a record, its text, what is read of it, its frame and what is read of that. -/
theorem rec_told (r : Rc) : ∃ (t : ByteArray) (ok : Bool) (x : Rc) (right : Bool) (f : Fr) (s' : Int) (r' : Rc) (well : Bool),
    rtT r = .tuple #[.string t, .bool ok] ∧ decide r.ok = ok ∧ t.size ≤ 131 ∧ rrT t = .tuple #[x.v, .bool right] ∧ ifT 7 r 3 = .tuple #[f.v, .bool ok] ∧ f.body.size ≤ 131 ∧ fiT f = .tuple #[itV s' r', .bool well] ∧
    (ok = true → right = true ∧ x = r ∧ well = true ∧ s' = 7 ∧ r' = r ∧ f.gen = 3) := by
  by_cases h : r.ok
  · have hl := Rc.tx_le h
    have hf : (⟨3, 7, r.tx⟩ : Fr).ok := ⟨by simp only; omega, by simp only; omega, by simp only; omega⟩
    exact ⟨r.tx, true, r, true, ⟨3, 7, r.tx⟩, 7, r, true, rtT_yes h, decide_eq_true h, hl.1, rrT_some (rrO_back h), ifT_yes h hf, hl.1, fiT_some hf (rrO_back h), fun _ => ⟨rfl, rfl, rfl, rfl, rfl, rfl⟩⟩
  · exact ⟨⟨#[]⟩, false, Rc.nil, false, ⟨0, 0, ⟨#[]⟩⟩, 0, Rc.nil, false, rtT_no h, decide_eq_false h, by decide, rrT_none rrO_emp, ifT_no (fun c => h c.1), (by decide : (⟨#[]⟩ : ByteArray).size ≤ 131), fiT_none rrO_emp, fun c => by cases c⟩
/-- What is said of a text, what is read of it, and the text of that. -/
theorem text_told (u : ByteArray) : ∃ (y : Rc) (may : Bool) (ag : ByteArray) (q : Bool), rrT u = .tuple #[y.v, .bool may] ∧ rtT y = .tuple #[.string ag, .bool q] ∧ (may = true → ag = u) := by
  rcases h : rrO u with _ | y
  · by_cases hn : Rc.nil.ok
    · exact ⟨Rc.nil, false, _, _, rrT_none h, rtT_yes hn, fun c => by cases c⟩
    · exact ⟨Rc.nil, false, _, _, rrT_none h, rtT_no hn, fun c => by cases c⟩
  · obtain ⟨h1, h2⟩ := rrO_some h
    exact ⟨y, true, _, _, rrT_some h, rtT_yes h1, fun _ => h2⟩

set_option maxRecDepth 100000 in
set_option maxHeartbeats 4000000 in
theorem walk_FnRecords (a : Option Addr) (len cap : Nat) {w : World} (hcode : CodeIn w a len) :
    Calls Try.prog 3 #[.slice a len cap] w fun e w' => e = .returned (.bool true) ∧ Below w.heap.size w w' := by
  by_cases hbig : (1048576 : Int) < (len : Int)
  · go_enter Try.func3, Try.ntmps3
    go_wp2_with (go_at_call 9; refine (big_any a len cap _).mono ?_; rintro e w1 ⟨rfl, rfl⟩; rw [decide_eq_true hbig])
    go_ret
    exact ⟨rfl, Below.refl _ _⟩
  have hlen : len ≤ 1048576 := by omega
  have HCD := Lib.hid hcode
  clear hcode
  go_enter Try.func3, Try.ntmps3
  go_wp2_with fail
  refine (big_any a len cap _).mono ?_
  rintro e w1 ⟨rfl, rfl⟩
  rw [show decide ((1048576 : Int) < (len : Int)) = false from decide_eq_false (by omega)]
  clear hbig
  go_wp2_with fail
  refine (drawRecText_any a len cap _ HCD.out hlen).mono ?_
  rintro e w1 ⟨r, hsl, rfl, b1⟩
  have HSL := Lib.hid hsl
  clear hsl
  have x3 := Box.new w1 #[.int .i64 r.kind, .int .i64 r.valid, .int .i64 r.uid, .int .i64 r.next, .int .i64 r.flags, .string r.user, .string r.name, .string r.text] 25
  have b2 : Below w.heap.size w (w1.alloc (.cells #[.int .i64 r.kind, .int .i64 r.valid, .int .i64 r.uid, .int .i64 r.next, .int .i64 r.flags, .string r.user, .string r.name, .string r.text] 25)) := b1.alloc b1.size _
  obtain ⟨t, ok, x, right, f, s', r', well, hT, hD, htz, hRd, hIf, hfz, hFi, hok⟩ := rec_told r
  have HT := Lib.hid hT
  have HD := Lib.hid hD
  have HRd := Lib.hid hRd
  have HIf := Lib.hid hIf
  have HFi := Lib.hid hFi
  have HOK := Lib.hid hok
  clear hT hD hRd hIf hFi hok b1
  have hrv : r.v = .agg #[.int .i64 r.kind, .int .i64 r.valid, .int .i64 r.uid, .int .i64 r.next, .int .i64 r.flags, .string r.user, .string r.name, .string r.text] := rfl
  have hxv : x.v = .agg #[.int .i64 x.kind, .int .i64 x.valid, .int .i64 x.uid, .int .i64 x.next, .int .i64 x.flags, .string x.user, .string x.name, .string x.text] := rfl
  rw [hrv]
  go_upto_region 4 with fail
  generalize w1.alloc (.cells #[.int .i64 r.kind, .int .i64 r.valid, .int .i64 r.uid, .int .i64 r.next, .int .i64 r.flags, .string r.user, .string r.name, .string r.text] 25) = w2 at x3 b2 ⊢
  generalize w1.heap.size = B3 at x3 ⊢
  obtain ⟨c0, c1, c2, c3, c4, c5, c6, c7, _⟩ := x3.eight
  go_wp2_with fail
  rw [← hrv]
  refine (implRecText_any r _).mono ?_
  rintro e w3 ⟨rfl, k3⟩
  rw [HT.out]
  have b3 := b2.trans (k3.mono b2.size)
  have x3 := x3.later k3
  clear c0 c1 c2 c3 c4 c5 c6 c7 k3 b2
  go_wp2_with fail
  refine (implReadRec_any t _ (by omega)).mono ?_
  rintro e w4 ⟨rfl, k4⟩
  rw [HRd.out, hxv]
  have b4 := b3.trans (k4.mono b3.size)
  have x6 := Box.new w4 #[.int .i64 x.kind, .int .i64 x.valid, .int .i64 x.uid, .int .i64 x.next, .int .i64 x.flags, .string x.user, .string x.name, .string x.text] 25
  have k5 := belNew w4 (.cells #[.int .i64 x.kind, .int .i64 x.valid, .int .i64 x.uid, .int .i64 x.next, .int .i64 x.flags, .string x.user, .string x.name, .string x.text] 25)
  have b5 := b4.trans (k5.mono b4.size)
  have x3 := (x3.later k4).later k5
  clear k4 b4 k5 b3
  go_upto_region 6 with fail
  generalize w4.alloc (.cells #[.int .i64 x.kind, .int .i64 x.valid, .int .i64 x.uid, .int .i64 x.next, .int .i64 x.flags, .string x.user, .string x.name, .string x.text] 25) = w5 at x3 x6 b5 ⊢
  generalize w4.heap.size = B6 at x6 ⊢
  go_wp2_with fail
  refine (drawReadRec_any a len cap _ (HCD.out.later b5) hlen).mono ?_
  rintro e w6 ⟨u, hu, rfl, k6⟩
  have b6 := b5.trans (k6.mono b5.size)
  have x3 := x3.later k6
  have x6 := x6.later k6
  obtain ⟨y, may, ag, q, hU, hA, hM⟩ := text_told u
  have HU := Lib.hid hU
  have HA := Lib.hid hA
  have HM := Lib.hid hM
  have hyv : y.v = .agg #[.int .i64 y.kind, .int .i64 y.valid, .int .i64 y.uid, .int .i64 y.next, .int .i64 y.flags, .string y.user, .string y.name, .string y.text] := rfl
  clear k6 b5 hU hA hM
  go_wp2_with fail
  refine (implReadRec_any u _ (by omega)).mono ?_
  rintro e w7 ⟨rfl, k7⟩
  rw [HU.out, hyv]
  have b7 := b6.trans (k7.mono b6.size)
  have x9 := Box.new w7 #[.int .i64 y.kind, .int .i64 y.valid, .int .i64 y.uid, .int .i64 y.next, .int .i64 y.flags, .string y.user, .string y.name, .string y.text] 25
  have k8 := belNew w7 (.cells #[.int .i64 y.kind, .int .i64 y.valid, .int .i64 y.uid, .int .i64 y.next, .int .i64 y.flags, .string y.user, .string y.name, .string y.text] 25)
  have b8 := b7.trans (k8.mono b7.size)
  have x3 := (x3.later k7).later k8
  have x6 := (x6.later k7).later k8
  clear k7 b7 k8 b6
  go_upto_region 8 with fail
  generalize w7.alloc (.cells #[.int .i64 y.kind, .int .i64 y.valid, .int .i64 y.uid, .int .i64 y.next, .int .i64 y.flags, .string y.user, .string y.name, .string y.text] 25) = w8 at x3 x6 x9 b8 ⊢
  generalize w7.heap.size = B9 at x9 ⊢
  go_wp2_with fail
  refine (specReadRec_any u _ (by omega)).mono ?_
  rintro e w9 ⟨rfl, k9⟩
  rw [HU.out, hyv]
  have b9 := b8.trans (k9.mono b8.size)
  have kA := belNew w9 (.cells #[.int .i64 y.kind, .int .i64 y.valid, .int .i64 y.uid, .int .i64 y.next, .int .i64 y.flags, .string y.user, .string y.name, .string y.text] 25)
  have bA := b9.trans (kA.mono b9.size)
  have x3 := (x3.later k9).later kA
  have x6 := (x6.later k9).later kA
  have x9 := (x9.later k9).later kA
  clear k9 b9 kA b8
  go_upto_region 9 with fail
  generalize w9.alloc (.cells #[.int .i64 y.kind, .int .i64 y.valid, .int .i64 y.uid, .int .i64 y.next, .int .i64 y.flags, .string y.user, .string y.name, .string y.text] 25) = wA at x3 x6 x9 bA ⊢
  generalize w9.heap.size = B11
  obtain ⟨c0, c1, c2, c3, c4, c5, c6, c7, _⟩ := x9.eight
  go_wp2_with fail
  rw [← hyv]
  refine (implRecText_any y _).mono ?_
  rintro e wB ⟨rfl, kB⟩
  rw [HA.out]
  have bB := bA.trans (kB.mono bA.size)
  have x3 := x3.later kB
  have x6 := x6.later kB
  clear c0 c1 c2 c3 c4 c5 c6 c7 kB bA x9
  obtain ⟨c0, c1, c2, c3, c4, c5, c6, c7, _⟩ := x3.eight
  go_wp2_with fail
  rw [← hrv]
  refine (specRecOk_any r _ (by have := HSL.out.1; omega) (by have := HSL.out.2.1; omega) (by have := HSL.out.2.2; omega)).mono ?_
  rintro e wC ⟨rfl, kC⟩
  rw [HD.out]
  have bC := bB.trans (kC.mono bB.size)
  have x3 := x3.later kC
  have x6 := x6.later kC
  clear c0 c1 c2 c3 c4 c5 c6 c7 kC bB
  obtain ⟨c0, c1, c2, c3, c4, c5, c6, c7, _⟩ := x3.eight
  have hoo : (ok != ok) = false := by cases ok <;> rfl
  have hmm : (may != may) = false := by cases may <;> rfl
  go_wp2_with fail
  rw [← hrv]
  refine (implRecOk_any r _).mono ?_
  rintro e wD ⟨rfl, kD⟩
  rw [HD.out]
  have bD := bC.trans (kD.mono bC.size)
  have x3 := x3.later kD
  have x6 := x6.later kD
  clear c0 c1 c2 c3 c4 c5 c6 c7 kD bC
  cases ok with
  | false =>
    cases may with
    | false =>
      have hiv : itV 7 r = .agg #[.int .i64 7, .int .i64 r.kind, .int .i64 r.valid, .int .i64 r.uid, .int .i64 r.next, .int .i64 r.flags, .string r.user, .string r.name, .string r.text] := rfl
      have hfv : f.v = .agg #[.int .i64 f.gen, .int .i64 f.seq, .string f.body] := rfl
      have hbv : itV s' r' = .agg #[.int .i64 s', .int .i64 r'.kind, .int .i64 r'.valid, .int .i64 r'.uid, .int .i64 r'.next, .int .i64 r'.flags, .string r'.user, .string r'.name, .string r'.text] := rfl
      obtain ⟨c0, c1, c2, c3, c4, c5, c6, c7, _⟩ := x3.eight
      obtain ⟨e0, e1, e2, e3, e4, e5, e6, e7, _⟩ := x6.eight
      have x15 := Box.new wD #[.int .i64 7, .int .i64 r.kind, .int .i64 r.valid, .int .i64 r.uid, .int .i64 r.next, .int .i64 r.flags, .string r.user, .string r.name, .string r.text] 34
      have kE := belNew wD (.cells #[.int .i64 7, .int .i64 r.kind, .int .i64 r.valid, .int .i64 r.uid, .int .i64 r.next, .int .i64 r.flags, .string r.user, .string r.name, .string r.text] 34)
      have bE := bD.trans (kE.mono bD.size)
      go_upto_region 13 with fail
      clear c0 c1 c2 c3 c4 c5 c6 c7 e0 e1 e2 e3 e4 e5 e6 e7 x3 x6 kE bD
      generalize wD.alloc (.cells #[.int .i64 7, .int .i64 r.kind, .int .i64 r.valid, .int .i64 r.uid, .int .i64 r.next, .int .i64 r.flags, .string r.user, .string r.name, .string r.text] 34) = wE at x15 bE ⊢
      generalize wD.heap.size = B15 at x15 ⊢
      obtain ⟨c0, c1, c2, c3, c4, c5, c6, c7, c8, _⟩ := x15.nine
      go_wp2_with fail
      rw [← hiv]
      refine (implItemFrame_any 7 r 3 _).mono ?_
      rintro e wF ⟨rfl, kF⟩
      rw [HIf.out, hfv]
      have bF := bE.trans (kF.mono bE.size)
      have x16 := Box.new wF #[.int .i64 f.gen, .int .i64 f.seq, .string f.body] 36
      have kG := belNew wF (.cells #[.int .i64 f.gen, .int .i64 f.seq, .string f.body] 36)
      have bG := bF.trans (kG.mono bF.size)
      have x15 := (x15.later kF).later kG
      clear c0 c1 c2 c3 c4 c5 c6 c7 c8 kF kG bF bE
      go_upto_region 14 with fail
      generalize wF.alloc (.cells #[.int .i64 f.gen, .int .i64 f.seq, .string f.body] 36) = wG at x15 x16 bG ⊢
      generalize wF.heap.size = B16 at x16 ⊢
      obtain ⟨c0, c1, c2, _, _, _⟩ := x16.three
      go_wp2_with fail
      rw [← hfv]
      refine (implFrameItem_any f _ (by omega)).mono ?_
      rintro e wH ⟨rfl, kH⟩
      rw [HFi.out, hbv]
      have bH := bG.trans (kH.mono bG.size)
      have x18 := Box.new wH #[.int .i64 s', .int .i64 r'.kind, .int .i64 r'.valid, .int .i64 r'.uid, .int .i64 r'.next, .int .i64 r'.flags, .string r'.user, .string r'.name, .string r'.text] 34
      have kI := belNew wH (.cells #[.int .i64 s', .int .i64 r'.kind, .int .i64 r'.valid, .int .i64 r'.uid, .int .i64 r'.next, .int .i64 r'.flags, .string r'.user, .string r'.name, .string r'.text] 34)
      have bI := bH.trans (kI.mono bH.size)
      have x15 := (x15.later kH).later kI
      have x16 := (x16.later kH).later kI
      clear c0 c1 c2 kH kI bH bG
      go_upto_region 15 with fail
      generalize wH.alloc (.cells #[.int .i64 s', .int .i64 r'.kind, .int .i64 r'.valid, .int .i64 r'.uid, .int .i64 r'.next, .int .i64 r'.flags, .string r'.user, .string r'.name, .string r'.text] 34) = wI at x15 x16 x18 bI ⊢
      generalize wH.heap.size = B18 at x18 ⊢
      go_wp2_with fail
      refine (drawWordOk_any a len cap _ (HCD.out.later bI) hlen).mono ?_
      rintro e wJ ⟨wd, hwd, rfl, kJ⟩
      have bJ := bI.trans (kJ.mono bI.size)
      obtain ⟨c0, c1, c2, c3, c4, c5, c6, c7, c8, _⟩ := (x15.later kJ).nine
      obtain ⟨d0, d1, d2, d3, d4, d5, d6, d7, d8, _⟩ := (x18.later kJ).nine
      obtain ⟨e0, e1, e2, _, _, _⟩ := (x16.later kJ).three
      obtain ⟨wv, hwv⟩ : ∃ wv, decide (wdOk wd) = wv := ⟨_, rfl⟩
      have HWV := Lib.hid hwv
      clear kJ bI x15 x16 x18 hwv
      go_wp2_with fail
      refine (implWordOk_any wd _).mono ?_
      rintro e wK ⟨rfl, kK⟩
      rw [HWV.out]
      have bK := bJ.trans (kK.mono bJ.size)
      have hww : (wv == wv) = true := by cases wv <;> rfl
      go_wp2_with fail
      refine (specWordOk_any wd _ (by omega)).mono ?_
      rintro e wL ⟨rfl, rfl⟩
      rw [HWV.out]
      go_wp2
      go_ret
      exact ⟨rfl, bK⟩
    | true =>
      have hiv : itV 7 r = .agg #[.int .i64 7, .int .i64 r.kind, .int .i64 r.valid, .int .i64 r.uid, .int .i64 r.next, .int .i64 r.flags, .string r.user, .string r.name, .string r.text] := rfl
      have hfv : f.v = .agg #[.int .i64 f.gen, .int .i64 f.seq, .string f.body] := rfl
      have hbv : itV s' r' = .agg #[.int .i64 s', .int .i64 r'.kind, .int .i64 r'.valid, .int .i64 r'.uid, .int .i64 r'.next, .int .i64 r'.flags, .string r'.user, .string r'.name, .string r'.text] := rfl
      obtain rfl : ag = u := HM.out rfl
      obtain ⟨c0, c1, c2, c3, c4, c5, c6, c7, _⟩ := x3.eight
      obtain ⟨e0, e1, e2, e3, e4, e5, e6, e7, _⟩ := x6.eight
      have x15 := Box.new wD #[.int .i64 7, .int .i64 r.kind, .int .i64 r.valid, .int .i64 r.uid, .int .i64 r.next, .int .i64 r.flags, .string r.user, .string r.name, .string r.text] 34
      have kE := belNew wD (.cells #[.int .i64 7, .int .i64 r.kind, .int .i64 r.valid, .int .i64 r.uid, .int .i64 r.next, .int .i64 r.flags, .string r.user, .string r.name, .string r.text] 34)
      have bE := bD.trans (kE.mono bD.size)
      go_upto_region 13 with fail
      clear c0 c1 c2 c3 c4 c5 c6 c7 e0 e1 e2 e3 e4 e5 e6 e7 x3 x6 kE bD
      generalize wD.alloc (.cells #[.int .i64 7, .int .i64 r.kind, .int .i64 r.valid, .int .i64 r.uid, .int .i64 r.next, .int .i64 r.flags, .string r.user, .string r.name, .string r.text] 34) = wE at x15 bE ⊢
      generalize wD.heap.size = B15 at x15 ⊢
      obtain ⟨c0, c1, c2, c3, c4, c5, c6, c7, c8, _⟩ := x15.nine
      go_wp2_with fail
      rw [← hiv]
      refine (implItemFrame_any 7 r 3 _).mono ?_
      rintro e wF ⟨rfl, kF⟩
      rw [HIf.out, hfv]
      have bF := bE.trans (kF.mono bE.size)
      have x16 := Box.new wF #[.int .i64 f.gen, .int .i64 f.seq, .string f.body] 36
      have kG := belNew wF (.cells #[.int .i64 f.gen, .int .i64 f.seq, .string f.body] 36)
      have bG := bF.trans (kG.mono bF.size)
      have x15 := (x15.later kF).later kG
      clear c0 c1 c2 c3 c4 c5 c6 c7 c8 kF kG bF bE
      go_upto_region 14 with fail
      generalize wF.alloc (.cells #[.int .i64 f.gen, .int .i64 f.seq, .string f.body] 36) = wG at x15 x16 bG ⊢
      generalize wF.heap.size = B16 at x16 ⊢
      obtain ⟨c0, c1, c2, _, _, _⟩ := x16.three
      go_wp2_with fail
      rw [← hfv]
      refine (implFrameItem_any f _ (by omega)).mono ?_
      rintro e wH ⟨rfl, kH⟩
      rw [HFi.out, hbv]
      have bH := bG.trans (kH.mono bG.size)
      have x18 := Box.new wH #[.int .i64 s', .int .i64 r'.kind, .int .i64 r'.valid, .int .i64 r'.uid, .int .i64 r'.next, .int .i64 r'.flags, .string r'.user, .string r'.name, .string r'.text] 34
      have kI := belNew wH (.cells #[.int .i64 s', .int .i64 r'.kind, .int .i64 r'.valid, .int .i64 r'.uid, .int .i64 r'.next, .int .i64 r'.flags, .string r'.user, .string r'.name, .string r'.text] 34)
      have bI := bH.trans (kI.mono bH.size)
      have x15 := (x15.later kH).later kI
      have x16 := (x16.later kH).later kI
      clear c0 c1 c2 kH kI bH bG
      go_upto_region 15 with fail
      generalize wH.alloc (.cells #[.int .i64 s', .int .i64 r'.kind, .int .i64 r'.valid, .int .i64 r'.uid, .int .i64 r'.next, .int .i64 r'.flags, .string r'.user, .string r'.name, .string r'.text] 34) = wI at x15 x16 x18 bI ⊢
      generalize wH.heap.size = B18 at x18 ⊢
      go_wp2_with fail
      refine (drawWordOk_any a len cap _ (HCD.out.later bI) hlen).mono ?_
      rintro e wJ ⟨wd, hwd, rfl, kJ⟩
      have bJ := bI.trans (kJ.mono bI.size)
      obtain ⟨c0, c1, c2, c3, c4, c5, c6, c7, c8, _⟩ := (x15.later kJ).nine
      obtain ⟨d0, d1, d2, d3, d4, d5, d6, d7, d8, _⟩ := (x18.later kJ).nine
      obtain ⟨e0, e1, e2, _, _, _⟩ := (x16.later kJ).three
      obtain ⟨wv, hwv⟩ : ∃ wv, decide (wdOk wd) = wv := ⟨_, rfl⟩
      have HWV := Lib.hid hwv
      clear kJ bI x15 x16 x18 hwv
      go_wp2_with fail
      refine (implWordOk_any wd _).mono ?_
      rintro e wK ⟨rfl, kK⟩
      rw [HWV.out]
      have bK := bJ.trans (kK.mono bJ.size)
      have hww : (wv == wv) = true := by cases wv <;> rfl
      go_wp2_with fail
      refine (specWordOk_any wd _ (by omega)).mono ?_
      rintro e wL ⟨rfl, rfl⟩
      rw [HWV.out]
      go_wp2
      go_ret
      exact ⟨rfl, bK⟩
  | true =>
    obtain ⟨rfl, hx1, rfl, rfl, hr1, hg3⟩ := HOK.out rfl
    have hx2 := hx1.symm
    have hr2 := hr1.symm
    clear hx1 hr1
    subst hx2
    subst hr2
    cases may with
    | false =>
      have hgd : (f.gen == 3) = true := by rw [hg3]; rfl
      clear hg3
      have hiv : itV 7 r = .agg #[.int .i64 7, .int .i64 r.kind, .int .i64 r.valid, .int .i64 r.uid, .int .i64 r.next, .int .i64 r.flags, .string r.user, .string r.name, .string r.text] := rfl
      have hfv : f.v = .agg #[.int .i64 f.gen, .int .i64 f.seq, .string f.body] := rfl
      obtain ⟨c0, c1, c2, c3, c4, c5, c6, c7, _⟩ := x3.eight
      obtain ⟨e0, e1, e2, e3, e4, e5, e6, e7, _⟩ := x6.eight
      have x15 := Box.new wD #[.int .i64 7, .int .i64 r.kind, .int .i64 r.valid, .int .i64 r.uid, .int .i64 r.next, .int .i64 r.flags, .string r.user, .string r.name, .string r.text] 34
      have kE := belNew wD (.cells #[.int .i64 7, .int .i64 r.kind, .int .i64 r.valid, .int .i64 r.uid, .int .i64 r.next, .int .i64 r.flags, .string r.user, .string r.name, .string r.text] 34)
      have bE := bD.trans (kE.mono bD.size)
      go_upto_region 13 with fail
      clear c0 c1 c2 c3 c4 c5 c6 c7 e0 e1 e2 e3 e4 e5 e6 e7 x3 x6 kE bD
      generalize wD.alloc (.cells #[.int .i64 7, .int .i64 r.kind, .int .i64 r.valid, .int .i64 r.uid, .int .i64 r.next, .int .i64 r.flags, .string r.user, .string r.name, .string r.text] 34) = wE at x15 bE ⊢
      generalize wD.heap.size = B15 at x15 ⊢
      obtain ⟨c0, c1, c2, c3, c4, c5, c6, c7, c8, _⟩ := x15.nine
      go_wp2_with fail
      rw [← hiv]
      refine (implItemFrame_any 7 r 3 _).mono ?_
      rintro e wF ⟨rfl, kF⟩
      rw [HIf.out, hfv]
      have bF := bE.trans (kF.mono bE.size)
      have x16 := Box.new wF #[.int .i64 f.gen, .int .i64 f.seq, .string f.body] 36
      have kG := belNew wF (.cells #[.int .i64 f.gen, .int .i64 f.seq, .string f.body] 36)
      have bG := bF.trans (kG.mono bF.size)
      have x15 := (x15.later kF).later kG
      clear c0 c1 c2 c3 c4 c5 c6 c7 c8 kF kG bF bE
      go_upto_region 14 with fail
      generalize wF.alloc (.cells #[.int .i64 f.gen, .int .i64 f.seq, .string f.body] 36) = wG at x15 x16 bG ⊢
      generalize wF.heap.size = B16 at x16 ⊢
      obtain ⟨c0, c1, c2, _, _, _⟩ := x16.three
      go_wp2_with fail
      rw [← hfv]
      refine (implFrameItem_any f _ (by omega)).mono ?_
      rintro e wH ⟨rfl, kH⟩
      rw [HFi.out, hiv]
      have bH := bG.trans (kH.mono bG.size)
      have x18 := Box.new wH #[.int .i64 7, .int .i64 r.kind, .int .i64 r.valid, .int .i64 r.uid, .int .i64 r.next, .int .i64 r.flags, .string r.user, .string r.name, .string r.text] 34
      have kI := belNew wH (.cells #[.int .i64 7, .int .i64 r.kind, .int .i64 r.valid, .int .i64 r.uid, .int .i64 r.next, .int .i64 r.flags, .string r.user, .string r.name, .string r.text] 34)
      have bI := bH.trans (kI.mono bH.size)
      have x15 := (x15.later kH).later kI
      have x16 := (x16.later kH).later kI
      clear c0 c1 c2 kH kI bH bG
      go_upto_region 15 with fail
      generalize wH.alloc (.cells #[.int .i64 7, .int .i64 r.kind, .int .i64 r.valid, .int .i64 r.uid, .int .i64 r.next, .int .i64 r.flags, .string r.user, .string r.name, .string r.text] 34) = wI at x15 x16 x18 bI ⊢
      generalize wH.heap.size = B18 at x18 ⊢
      go_wp2_with fail
      refine (drawWordOk_any a len cap _ (HCD.out.later bI) hlen).mono ?_
      rintro e wJ ⟨wd, hwd, rfl, kJ⟩
      have bJ := bI.trans (kJ.mono bI.size)
      obtain ⟨c0, c1, c2, c3, c4, c5, c6, c7, c8, _⟩ := (x15.later kJ).nine
      obtain ⟨d0, d1, d2, d3, d4, d5, d6, d7, d8, _⟩ := (x18.later kJ).nine
      obtain ⟨e0, e1, e2, _, _, _⟩ := (x16.later kJ).three
      obtain ⟨wv, hwv⟩ : ∃ wv, decide (wdOk wd) = wv := ⟨_, rfl⟩
      have HWV := Lib.hid hwv
      clear kJ bI x15 x16 x18 hwv
      go_wp2_with fail
      refine (implWordOk_any wd _).mono ?_
      rintro e wK ⟨rfl, kK⟩
      rw [HWV.out]
      have bK := bJ.trans (kK.mono bJ.size)
      have hww : (wv == wv) = true := by cases wv <;> rfl
      go_wp2_with fail
      refine (specWordOk_any wd _ (by omega)).mono ?_
      rintro e wL ⟨rfl, rfl⟩
      rw [HWV.out]
      go_wp2
      go_ret
      exact ⟨rfl, bK⟩
    | true =>
      have hgd : (f.gen == 3) = true := by rw [hg3]; rfl
      clear hg3
      have hiv : itV 7 r = .agg #[.int .i64 7, .int .i64 r.kind, .int .i64 r.valid, .int .i64 r.uid, .int .i64 r.next, .int .i64 r.flags, .string r.user, .string r.name, .string r.text] := rfl
      have hfv : f.v = .agg #[.int .i64 f.gen, .int .i64 f.seq, .string f.body] := rfl
      obtain rfl : ag = u := HM.out rfl
      obtain ⟨c0, c1, c2, c3, c4, c5, c6, c7, _⟩ := x3.eight
      obtain ⟨e0, e1, e2, e3, e4, e5, e6, e7, _⟩ := x6.eight
      have x15 := Box.new wD #[.int .i64 7, .int .i64 r.kind, .int .i64 r.valid, .int .i64 r.uid, .int .i64 r.next, .int .i64 r.flags, .string r.user, .string r.name, .string r.text] 34
      have kE := belNew wD (.cells #[.int .i64 7, .int .i64 r.kind, .int .i64 r.valid, .int .i64 r.uid, .int .i64 r.next, .int .i64 r.flags, .string r.user, .string r.name, .string r.text] 34)
      have bE := bD.trans (kE.mono bD.size)
      go_upto_region 13 with fail
      clear c0 c1 c2 c3 c4 c5 c6 c7 e0 e1 e2 e3 e4 e5 e6 e7 x3 x6 kE bD
      generalize wD.alloc (.cells #[.int .i64 7, .int .i64 r.kind, .int .i64 r.valid, .int .i64 r.uid, .int .i64 r.next, .int .i64 r.flags, .string r.user, .string r.name, .string r.text] 34) = wE at x15 bE ⊢
      generalize wD.heap.size = B15 at x15 ⊢
      obtain ⟨c0, c1, c2, c3, c4, c5, c6, c7, c8, _⟩ := x15.nine
      go_wp2_with fail
      rw [← hiv]
      refine (implItemFrame_any 7 r 3 _).mono ?_
      rintro e wF ⟨rfl, kF⟩
      rw [HIf.out, hfv]
      have bF := bE.trans (kF.mono bE.size)
      have x16 := Box.new wF #[.int .i64 f.gen, .int .i64 f.seq, .string f.body] 36
      have kG := belNew wF (.cells #[.int .i64 f.gen, .int .i64 f.seq, .string f.body] 36)
      have bG := bF.trans (kG.mono bF.size)
      have x15 := (x15.later kF).later kG
      clear c0 c1 c2 c3 c4 c5 c6 c7 c8 kF kG bF bE
      go_upto_region 14 with fail
      generalize wF.alloc (.cells #[.int .i64 f.gen, .int .i64 f.seq, .string f.body] 36) = wG at x15 x16 bG ⊢
      generalize wF.heap.size = B16 at x16 ⊢
      obtain ⟨c0, c1, c2, _, _, _⟩ := x16.three
      go_wp2_with fail
      rw [← hfv]
      refine (implFrameItem_any f _ (by omega)).mono ?_
      rintro e wH ⟨rfl, kH⟩
      rw [HFi.out, hiv]
      have bH := bG.trans (kH.mono bG.size)
      have x18 := Box.new wH #[.int .i64 7, .int .i64 r.kind, .int .i64 r.valid, .int .i64 r.uid, .int .i64 r.next, .int .i64 r.flags, .string r.user, .string r.name, .string r.text] 34
      have kI := belNew wH (.cells #[.int .i64 7, .int .i64 r.kind, .int .i64 r.valid, .int .i64 r.uid, .int .i64 r.next, .int .i64 r.flags, .string r.user, .string r.name, .string r.text] 34)
      have bI := bH.trans (kI.mono bH.size)
      have x15 := (x15.later kH).later kI
      have x16 := (x16.later kH).later kI
      clear c0 c1 c2 kH kI bH bG
      go_upto_region 15 with fail
      generalize wH.alloc (.cells #[.int .i64 7, .int .i64 r.kind, .int .i64 r.valid, .int .i64 r.uid, .int .i64 r.next, .int .i64 r.flags, .string r.user, .string r.name, .string r.text] 34) = wI at x15 x16 x18 bI ⊢
      generalize wH.heap.size = B18 at x18 ⊢
      go_wp2_with fail
      refine (drawWordOk_any a len cap _ (HCD.out.later bI) hlen).mono ?_
      rintro e wJ ⟨wd, hwd, rfl, kJ⟩
      have bJ := bI.trans (kJ.mono bI.size)
      obtain ⟨c0, c1, c2, c3, c4, c5, c6, c7, c8, _⟩ := (x15.later kJ).nine
      obtain ⟨d0, d1, d2, d3, d4, d5, d6, d7, d8, _⟩ := (x18.later kJ).nine
      obtain ⟨e0, e1, e2, _, _, _⟩ := (x16.later kJ).three
      obtain ⟨wv, hwv⟩ : ∃ wv, decide (wdOk wd) = wv := ⟨_, rfl⟩
      have HWV := Lib.hid hwv
      clear kJ bI x15 x16 x18 hwv
      go_wp2_with fail
      refine (implWordOk_any wd _).mono ?_
      rintro e wK ⟨rfl, kK⟩
      rw [HWV.out]
      have bK := bJ.trans (kK.mono bJ.size)
      have hww : (wv == wv) = true := by cases wv <;> rfl
      go_wp2_with fail
      refine (specWordOk_any wd _ (by omega)).mono ?_
      rintro e wL ⟨rfl, rfl⟩
      rw [HWV.out]
      go_wp2
      go_ret
      exact ⟨rfl, bK⟩

theorem FnRecords_own : ownKnob Try.prog.godebug = none := by kernel_rfl

set_option maxRecDepth 100000 in
theorem FnRecords_lifted (os : Os) (started : os.Started) (H : Type) (enc : TypeId × Value → H) :
    ReturnsInHanded {} Try.checked os 3 .any (Rows.fnRecordsSpec.pre6 enc Try.prog Try.f3 Rows.fnRecordsRow.domain false) (Rows.fnRecordsSpec.post enc Try.prog Try.f3 false true false false) := by
  refine returnsInHanded_of_change (C := Try.checked) FnRecords_own started (by kernel_rfl) Try.func3
    (ChangeSpec.witness6 (enc := enc) (C := Try.checked) false ⟨#[], #[.slice none 0 0], []⟩ 8 (by kernel_rfl) (by kernel_rfl) (by kernel_rfl) (by kernel_rfl)) ?_
  intro W base args ds gs before hval0 hW hcnd _
  have hval : ∀ (j : Nat) t v, Try.f3.params[j]? = some t → args[j]? = some v → Value.okWide Try.prog W .any base t v := hval0
  have hW' := hW
  obtain ⟨p, q, hA0, hV, rfl, hfz, hnd⟩ := hW
  have hA : DataW.TrodAll enc Try.prog W 0 (fun _ => true) true Try.f3.params.toList args.toList ds p := hA0
  rw [Try.params3] at hA hval
  obtain ⟨v0, vs0, d0, ds0, p0, q0, hargs, rfl, rfl, h0, r0⟩ := trodAll_cons hA
  obtain ⟨rfl, rfl, rfl⟩ := trodAll_nil r0
  obtain rfl : args = #[v0] := by cases args; simp_all
  obtain ⟨rfl, rfl⟩ := trodVars_none hV
  obtain ⟨a0, len0, cap0, rfl⟩ := okWide_slice Try.underlying22 (hval 0 22 v0 rfl rfl)
  have k0 := h0
  have lt0 : ∀ x ∈ p0, x.block < W.heap.size := by obtain ⟨m, hm⟩ := k0; exact DataW.trod_lt m _ _ _ hm
  have w0 : CodeIn W a0 len0 := by
    obtain ⟨fuel, hf⟩ := h0
    rcases open_ints Try.underlying22 Try.underlying5 (by kernel_rfl) hf with ⟨hcs, _⟩ | ⟨x, l, c, zs, hcs, _, hl, hm, hz, _, hcell, hwz⟩
    · simp [Value.cells] at hcs
      obtain ⟨rfl, rfl, rfl⟩ := hcs
      intro i hi; omega
    · simp [Value.cells] at hcs
      obtain ⟨rfl, rfl, rfl⟩ := hcs
      exact codeIn_of_row hl (by simpa using hz) hcell hwz
  clear hA0 hval0
  simp only [List.append_nil] at hW'
  refine (walk_FnRecords a0 len0 cap0 w0 (w := W)).mono fun e W' ⟨he, bel⟩ => ?_
  subst he
  exact ⟨_, rfl, _, _, _, [], _, [], hW', trodAll_mk1 (shut_bool Try.underlying4 _), (trodAll_cons_mk (Below.trod (show laidOutB Try.prog = true by kernel_rfl) (by kernel_rfl) (of_decide_eq_true (by kernel_rfl)) k0 bel lt0) trodAll_mk0), rfl, bel.frame _, fun h => by cases h⟩

/-- The given statement. -/
theorem fnRecords_holds : Rows.FnRecordsSaid :=
  OpenClaim.holds_of_wide 3 Try.f3 rfl rfl rfl rfl rfl rfl rfl ⟨rfl, rfl, rfl, rfl, rfl⟩ rfl rfl rfl rfl rfl (by kernel_rfl) Try.func3 (by kernel_rfl)
    (of_decide_eq_true (by kernel_rfl)) (by unfold Func.isWrapper; first | (rw [if_pos (by decide +kernel)]; kernel_rfl) | (rw [if_neg (by decide +kernel)]; exact ⟨rfl, rfl⟩))
    (fun os started H enc _ => FnRecords_lifted os started H enc)
#print axioms fnRecords_holds

end Go.Proofs.Ythlbokfajiahpaa
