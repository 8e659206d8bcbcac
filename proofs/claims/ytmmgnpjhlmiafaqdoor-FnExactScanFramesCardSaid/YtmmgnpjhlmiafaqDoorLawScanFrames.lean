/- For every text and every Gen, ScanFrames answers as its model, every field; the list that it hands back is its own, behind another call too; nothing that was there is changed; where the table of sixteen words holds what the program's text lays there (the card ties that to the text). -/
import Derived.Test.YtmmgnpjhlmiafaqDoorScanI
import Derived.Test.YtmmgnpjhlmiafaqDoorMarksF
import Derived.Test.YtmmgnpjhlmiafaqDoorSumLaid
import Derived.Test.YtmmgnpjhlmiafaqDoorTie
import Derived.Test.YtmmgnpjhlmiafaqDoorCards
import Derived.ProofKit
import Derived.LaidMore
import Derived.OpenShut
import Derived.OpenVars
import Derived.Stop.Joined
import Derived.SevenTiedAt
namespace Go.Proofs.YtmmgnpjhlmiafaqDoor
open Go.ChangeShapes Go.WideShapes Go.ChangeAt Go.RowKit
open Go.ChangeMaps (open_string shut_string)
set_option linter.unusedVariables false

set_option maxRecDepth 100000 in
set_option maxHeartbeats 2000000 in
theorem walk_FnExactScanFrames (s : ByteArray) (a : Int) (_hs : s.size ≤ maxLen) (_hn : -9223372036854775808 ≤ a ∧ a ≤ 9223372036854775807) (w : World) (htab : SumTab w) :
    Calls Tryd.prog 3 #[.string s, .int .i64 a] w fun e w' => e = .returned (.bool true) ∧ Below w.heap.size w w' := by
  unfold maxLen at _hs
  by_cases h : s.size ≤ 1048576
  · have hl := scanL_le s a
    have HT : Hid (∀ x, Below w.heap.size w x → SumTab x) := fun x hb => htab.later hb
    obtain ⟨L, hL⟩ : ∃ L, scanL s a = L := ⟨_, rfl⟩
    obtain ⟨n, hn⟩ : ∃ n, scanE s a = n := ⟨_, rfl⟩
    have HL := Lib.hid hL
    have HN := Lib.hid hn
    rw [hL] at hl
    clear hL hn htab
    go_enter Tryd.func3, Tryd.ntmps3
    go_wp2_with fail
    refine (specScanFrames_any s a _ h).mono ?_
    rintro e w1 ⟨v1, rfl, hb1⟩
    rw [HN.out]
    rw [HL.out] at hb1
    go_wp2_with fail
    refine (implScanFrames_any s a _ h (HT.out _ hb1.bel)).mono ?_
    rintro e w2 ⟨v2, rfl, hb2⟩
    rw [HN.out]
    rw [HL.out] at hb2
    have hs1 : Rows' frE w2 v1 L := hb1.rows.later hb2.bel
    go_wp2_with fail
    refine (eqFrameS_same L _ _ _ hb2.rows hs1 (by omega)).mono ?_
    rintro e w3 ⟨rfl, hb3⟩
    go_wp2_with fail
    refine (markFrameS_any L _ 1 w1.heap.size w1 _ (hb2.later hb3) (by omega) (by omega)).mono ?_
    rintro e w4 ⟨rfl, hb4, _⟩
    go_wp2_with fail
    refine (heldFrameS_any L.length _ 1 _ hb4.rows (by omega) (by omega)).mono ?_
    rintro e w5 ⟨rfl, hb5⟩
    have b14 : Below w.heap.size w w4 := hb1.bel.trans (hb4.bel.mono hb1.bel.size)
    have b15 : Below w.heap.size w w5 := b14.trans (hb5.mono b14.size)
    go_wp2_with fail
    refine (implScanFrames_any s a _ h (HT.out _ b15)).mono ?_
    rintro e w6 ⟨v6, rfl, hb6⟩
    rw [HN.out]
    rw [HL.out] at hb6
    have hs6 : Rows' frE w6 v1 L := ((hb1.rows.later hb4.bel).later hb5).later hb6.bel
    go_wp2_with fail
    refine (eqFrameS_same L _ _ _ hb6.rows hs6 (by omega)).mono ?_
    rintro e w7 ⟨rfl, hb7⟩
    have hs7 : Rows' frE w7 v2 (marksF 1 L.length) := ((hb4.rows.later hb5).later hb6.bel).later hb7
    go_wp2_with fail
    refine (heldFrameS_any L.length _ 1 _ hs7 (by omega) (by omega)).mono ?_
    rintro e w8 ⟨rfl, hb8⟩
    go_wp2
    go_ret
    have b16 : Below w.heap.size w w6 := b15.trans (hb6.bel.mono b15.size)
    have b17 : Below w.heap.size w w7 := b16.trans (hb7.mono b16.size)
    exact ⟨rfl, b17.trans (hb8.mono b17.size)⟩
  · go_enter Tryd.func3, Tryd.ntmps3
    go_wp2
    go_ret
    exact ⟨rfl, Below.refl _ _⟩

theorem FnExactScanFrames_of_laid {W : World} (h : laidMetH Tryd.prog Rows.fnExactScanFramesRow.laid W) : SumTab W := sumTab_of_laid h

theorem FnExactScanFrames_own : ownKnob Tryd.prog.godebug = none := by kernel_rfl
theorem FnExactScanFrames_door (os : Os) (args : Array Value) : laidMetH Tryd.prog Rows.fnExactScanFramesRow.laid ((World.doorLaid Tryd.prog 400 os).forCall (fun _ _ => 0) ⟨#[], args, []⟩).memory :=
  laidMetH_of_parts3 (fuel := 8) (laidMet_of_run' 8 (by kernel_rfl) (by kernel_rfl)) (by kernel_rfl) (by kernel_rfl)

set_option maxRecDepth 100000 in
theorem FnExactScanFrames_lifted (os : Os) (started : os.Started) (H : Type) (enc : TypeId × Value → H) :
    ReturnsInHanded {} Tryd.checked os 3 .any (fun w args => (Rows.fnExactScanFramesSpec.pre enc Tryd.prog Tryd.f3 [] false w args ∧ laidMetH Tryd.prog Rows.fnExactScanFramesRow.laid w) ∧ sizedMet enc Tryd.prog Tryd.f3 (OpenSpec.ofChange Rows.fnExactScanFramesSpec) false w args)
      (Rows.fnExactScanFramesSpec.post enc Tryd.prog Tryd.f3 false true false false) := by
  refine returnsInHanded_of_change_and (C := Tryd.checked) (X := fun w _ => laidMetH Tryd.prog Rows.fnExactScanFramesRow.laid w) (fun _ _ _ hh h => h.of_heap hh) FnExactScanFrames_own started (by kernel_rfl) Tryd.func3
    (ChangeSpec.witness_shaped (enc := enc) (C := Tryd.checked) (os := os) (X := fun w _ => laidMetH Tryd.prog Rows.fnExactScanFramesRow.laid w) false (World.doorLaid Tryd.prog 400 os) #[.string ByteArray.empty, .int .i64 0] 8 rfl (World.shaped_of_RefB (by kernel_rfl) (by kernel_rfl)) (by kernel_rfl) (by kernel_rfl) (by kernel_rfl) (FnExactScanFrames_door os _)) ?_
  intro W base args ds gs before hval0 hW _ _ hL _
  have hval : ∀ (j : Nat) t v, Tryd.f3.params[j]? = some t → args[j]? = some v → Value.okWide Tryd.prog W .any base t v := hval0
  have hW' := hW
  obtain ⟨p, q, hA0, hV, rfl, hfz, hnd⟩ := hW
  have hA : DataW.TrodAll enc Tryd.prog W 0 (fun _ => true) true Tryd.f3.params.toList args.toList ds p := hA0
  rw [Tryd.params3] at hA hval
  obtain ⟨v0, vs0, d0, ds0, p0, q0, hargs, rfl, rfl, h0, r0⟩ := trodAll_cons hA
  obtain ⟨v1, vs1, d1, ds1, p1, q1, rfl, rfl, rfl, h1, r1⟩ := trodAll_cons r0
  obtain ⟨rfl, rfl, rfl⟩ := trodAll_nil r1
  obtain rfl : args = #[v0, v1] := by cases args; simp_all
  obtain ⟨e0, rfl⟩ : ∃ d, gs = [d] := by obtain ⟨_, _, _, _, d, _, e, _⟩ := trodVars_one hV; exact ⟨d, e⟩
  obtain ⟨a0, rfl, rfl, rfl, w0⟩ := open_string Tryd.underlying9 (hval 0 9 v0 rfl rfl) h0
  obtain ⟨a1, rfl, rfl, rfl, w1⟩ := open_int Tryd.underlying3 (hval 1 3 v1 rfl rfl) h1
  clear hA0 hval0
  try simp only [List.append_nil] at hW'
  refine (walk_FnExactScanFrames a0 a1 w0 (bounds_i64 w1) (w := W) (FnExactScanFrames_of_laid hL)).mono fun e W' ⟨he, bel⟩ => ?_
  subst he
  exact ⟨_, rfl, _, _, _, [], _, _, hW', trodAll_mk1 (shut_bool Tryd.underlying4 _), (trodAll_cons_mk (shut_string Tryd.underlying9 w0) (trodAll_cons_mk (shut_int Tryd.underlying3 w1) trodAll_mk0)), Below.trodVars (show laidOutB Tryd.prog = true by kernel_rfl) bel (by kernel_rfl) hV, bel.frame _, fun h => by cases h⟩

theorem fnExactScanFrames_row : Rows.FnExactScanFramesSaid :=
  OpenClaim.holds_of_wide 3 Tryd.f3 rfl rfl rfl rfl rfl rfl rfl ⟨rfl, rfl, rfl, rfl, rfl⟩ rfl rfl rfl rfl rfl (by kernel_rfl) Tryd.func3 (by kernel_rfl)
    (of_decide_eq_true (by kernel_rfl)) (by unfold Func.isWrapper; first | (rw [if_pos (by decide +kernel)]; kernel_rfl) | (rw [if_neg (by decide +kernel)]; exact ⟨rfl, rfl⟩))
    (fun os started H enc _ => FnExactScanFrames_lifted os started H enc)

/-- The given statement. -/
theorem fnExactScanFrames_cardsaid : Rows.FnExactScanFramesCardSaid :=
  Claim7.holds_tied_plain_at .later [] [.data] true (true, "a4b9618ebf8172b0af3ecb6a60578b6575d52db8c7774aa3fddf58da0ee27012") false
    fnExactScanFrames_row (fun _ h => by cases h) (by kernel_rfl) (fun _ h => by cases h) fnExactScanFrames_row_tie rfl ⟨rfl, rfl⟩ (by kernel_rfl) rfl
    (fun f fn hf hfn => by
      obtain rfl : f = 3 := Option.some.inj ((show Tryd.prog.funcNamed "loop.example/g00287/laws.FnExactScanFrames" = some 3 by kernel_rfl).symm.trans hf) |>.symm
      obtain rfl : fn = Tryd.f3 := (Option.some.inj (Tryd.func3.symm.trans hfn)).symm
      exact ⟨by kernel_rfl, fun j t ht => by
        rw [Tryd.params3] at ht
        have hm : t ∈ [9, 3] := by simpa using Array.mem_of_getElem? ht
        have hall : ([9, 3].all fun u => !Tryd.prog.wantsStandIn u) = true := by kernel_rfl
        exact (show Tryd.prog.wantsStandIn t = false by simpa using List.all_eq_true.1 hall t hm)⟩)
    (by kernel_rfl)
#print axioms fnExactScanFrames_cardsaid

end Go.Proofs.YtmmgnpjhlmiafaqDoor
