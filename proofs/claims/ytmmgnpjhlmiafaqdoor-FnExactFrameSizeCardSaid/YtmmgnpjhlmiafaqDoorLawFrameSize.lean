/- For every frame, FrameSize answers as its model, and nothing that was there is changed, where the table of sixteen words holds what the program's text lays there (the card ties that to the text). -/
import Derived.Test.YtmmgnpjhlmiafaqDoorFrameT
import Derived.Test.YtmmgnpjhlmiafaqDoorOpenFrame
import Derived.Test.YtmmgnpjhlmiafaqDoorSumLaid
import Derived.Test.YtmmgnpjhlmiafaqDoorTie
import Derived.Test.YtmmgnpjhlmiafaqDoorCards
import Derived.ProofKit
import Derived.LaidMore
import Derived.OpenShut
import Derived.OpenVars
import Derived.Stop.Joined
import Derived.SevenTiedAt
namespace Go.Proofs.YtmmgnpjhlmiafaqDoor
open Go.ChangeShapes Go.WideShapes Go.ChangeAt Go.RowKit
open Go.ChangeMaps (open_string shut_string)
set_option linter.unusedVariables false

set_option maxRecDepth 100000 in
set_option maxHeartbeats 1000000 in
theorem walk_FnExactFrameSize (v : Value) (f : Fr) (hd : FIn v f) (w : World) (htab : SumTab w) :
    Calls Tryd.prog 4 #[v] w fun e w' => e = .returned (.bool true) ∧ Below w.heap.size w w' := by
  obtain ⟨rfl, hs⟩ := hd
  have b0 : Below w.heap.size w (w.alloc (.cells #[.int .i64 f.gen, .int .i64 f.seq, .string f.body] 29)) := (Below.refl _ _).alloc (Nat.le_refl _) _
  have hx := Box.new w #[.int .i64 f.gen, .int .i64 f.seq, .string f.body] 29
  have HT : Hid (∀ x, Below w.heap.size w x → SumTab x) := fun x hb => htab.later hb
  obtain ⟨x, hx0⟩ : ∃ x : Nat, fsz f = x := ⟨_, rfl⟩
  have HX := Lib.hid hx0
  clear hx0
  have hv : f.v = .agg #[.int .i64 f.gen, .int .i64 f.seq, .string f.body] := rfl
  rw [hv]
  go_enter Tryd.func4, Tryd.ntmps4
  go_wp2_with fail
  rw [← hv]
  generalize w.alloc (.cells #[.int .i64 f.gen, .int .i64 f.seq, .string f.body] 29) = W at b0 hx ⊢
  refine (szFrame_any f 1048576 _ hs (by omega) (by omega)).mono ?_
  rintro e w1 ⟨⟨r, rfl, hr, hr1⟩, k1⟩
  have b1 := b0.trans (k1.mono b0.size)
  by_cases hneg : r < 0
  · go_wp2
    go_ret
    exact ⟨rfl, b1⟩
  have hsz : f.body.size ≤ 1048576 := by omega
  obtain ⟨c0, c1, c2, _, _, _⟩ := (hx.later k1).three
  go_wp2_with fail
  rw [← hv]
  refine (toFrame_any f _).mono ?_
  rintro e w2 ⟨rfl, k2⟩
  have j2 := k1.trans (k2.mono k1.size)
  clear c0 c1 c2
  go_wp2_with fail
  refine (specFrameSize_any f _ (by omega)).mono ?_
  rintro e w3 ⟨rfl, k3⟩
  rw [HX.out]
  have j3 := j2.trans (k3.mono j2.size)
  obtain ⟨c0, c1, c2, _, _, _⟩ := (hx.later j3).three
  go_wp2_with fail
  rw [← hv]
  refine (toFrame_any f _).mono ?_
  rintro e w4 ⟨rfl, k4⟩
  have j4 := j3.trans (k4.mono j3.size)
  have b4 := b0.trans (j4.mono b0.size)
  clear c0 c1 c2
  go_wp2_with fail
  refine (implFrameSize_any f _ (by omega) (HT.out _ b4)).mono ?_
  rintro e w5 ⟨rfl, k5⟩
  rw [HX.out]
  go_wp2
  go_ret
  exact ⟨rfl, b4.trans (k5.mono b4.size)⟩

theorem FnExactFrameSize_of_laid {W : World} (h : laidMetH Tryd.prog Rows.fnExactFrameSizeRow.laid W) : SumTab W := sumTab_of_laid h

theorem FnExactFrameSize_own : ownKnob Tryd.prog.godebug = none := by kernel_rfl
theorem FnExactFrameSize_door (os : Os) (args : Array Value) : laidMetH Tryd.prog Rows.fnExactFrameSizeRow.laid ((World.doorLaid Tryd.prog 400 os).forCall (fun _ _ => 0) ⟨#[], args, []⟩).memory :=
  laidMetH_of_parts3 (fuel := 8) (laidMet_of_run' 8 (by kernel_rfl) (by kernel_rfl)) (by kernel_rfl) (by kernel_rfl)

set_option maxRecDepth 100000 in
theorem FnExactFrameSize_lifted (os : Os) (started : os.Started) (H : Type) (enc : TypeId × Value → H) :
    ReturnsInHanded {} Tryd.checked os 4 .any (fun w args => (Rows.fnExactFrameSizeSpec.pre enc Tryd.prog Tryd.f4 [] false w args ∧ laidMetH Tryd.prog Rows.fnExactFrameSizeRow.laid w) ∧ sizedMet enc Tryd.prog Tryd.f4 (OpenSpec.ofChange Rows.fnExactFrameSizeSpec) false w args)
      (Rows.fnExactFrameSizeSpec.post enc Tryd.prog Tryd.f4 false true false false) := by
  refine returnsInHanded_of_change_and (C := Tryd.checked) (X := fun w _ => laidMetH Tryd.prog Rows.fnExactFrameSizeRow.laid w) (fun _ _ _ hh h => h.of_heap hh) FnExactFrameSize_own started (by kernel_rfl) Tryd.func4
    (ChangeSpec.witness_shaped (enc := enc) (C := Tryd.checked) (os := os) (X := fun w _ => laidMetH Tryd.prog Rows.fnExactFrameSizeRow.laid w) false (World.doorLaid Tryd.prog 400 os) #[.agg #[.int .i64 0, .int .i64 0, .string ByteArray.empty]] 8 rfl (World.shaped_of_RefB (by kernel_rfl) (by kernel_rfl)) (by kernel_rfl) (by kernel_rfl) (by kernel_rfl) (FnExactFrameSize_door os _)) ?_
  intro W base args ds gs before hval0 hW _ _ hL _
  have hval : ∀ (j : Nat) t v, Tryd.f4.params[j]? = some t → args[j]? = some v → Value.okWide Tryd.prog W .any base t v := hval0
  have hW' := hW
  obtain ⟨p, q, hA0, hV, rfl, hfz, hnd⟩ := hW
  have hA : DataW.TrodAll enc Tryd.prog W 0 (fun _ => true) true Tryd.f4.params.toList args.toList ds p := hA0
  rw [Tryd.params4] at hA hval
  obtain ⟨v0, vs0, d0, ds0, p0, q0, hargs, rfl, rfl, h0, r0⟩ := trodAll_cons hA
  obtain ⟨rfl, rfl, rfl⟩ := trodAll_nil r0
  obtain rfl : args = #[v0] := by cases args; simp_all
  obtain ⟨e0, rfl⟩ : ∃ d, gs = [d] := by obtain ⟨_, _, _, _, d, _, e, _⟩ := trodVars_one hV; exact ⟨d, e⟩
  have k0 := h0
  have lt0 : ∀ x ∈ p0, x.block < W.heap.size := by obtain ⟨m, hm⟩ := k0; exact DataW.trod_lt m _ _ _ hm
  obtain ⟨D0, w0⟩ := open_Frame (hval 0 29 v0 rfl rfl) h0
  clear hA0 hval0
  try simp only [List.append_nil] at hW'
  refine (walk_FnExactFrameSize v0 D0 w0 (w := W) (FnExactFrameSize_of_laid hL)).mono fun e W' ⟨he, bel⟩ => ?_
  subst he
  exact ⟨_, rfl, _, _, _, [], _, _, hW', trodAll_mk1 (shut_bool Tryd.underlying4 _), (trodAll_cons_mk (Below.trod (show laidOutB Tryd.prog = true by kernel_rfl) (by kernel_rfl) (of_decide_eq_true (by kernel_rfl)) k0 bel lt0) trodAll_mk0), Below.trodVars (show laidOutB Tryd.prog = true by kernel_rfl) bel (by kernel_rfl) hV, bel.frame _, fun h => by cases h⟩

theorem fnExactFrameSize_row : Rows.FnExactFrameSizeSaid :=
  OpenClaim.holds_of_wide 4 Tryd.f4 rfl rfl rfl rfl rfl rfl rfl ⟨rfl, rfl, rfl, rfl, rfl⟩ rfl rfl rfl rfl rfl (by kernel_rfl) Tryd.func4 (by kernel_rfl)
    (of_decide_eq_true (by kernel_rfl)) (by unfold Func.isWrapper; first | (rw [if_pos (by decide +kernel)]; kernel_rfl) | (rw [if_neg (by decide +kernel)]; exact ⟨rfl, rfl⟩))
    (fun os started H enc _ => FnExactFrameSize_lifted os started H enc)

/-- The given statement. -/
theorem fnExactFrameSize_cardsaid : Rows.FnExactFrameSizeCardSaid :=
  Claim7.holds_tied_plain_at .later [] [.data] true (true, "a4b9618ebf8172b0af3ecb6a60578b6575d52db8c7774aa3fddf58da0ee27012") false
    fnExactFrameSize_row (fun _ h => by cases h) (by kernel_rfl) (fun _ h => by cases h) fnExactFrameSize_row_tie rfl ⟨rfl, rfl⟩ (by kernel_rfl) rfl
    (fun f fn hf hfn => by
      obtain rfl : f = 4 := Option.some.inj ((show Tryd.prog.funcNamed "loop.example/g00287/laws.FnExactFrameSize" = some 4 by kernel_rfl).symm.trans hf) |>.symm
      obtain rfl : fn = Tryd.f4 := (Option.some.inj (Tryd.func4.symm.trans hfn)).symm
      exact ⟨by kernel_rfl, fun j t ht => by
        rw [Tryd.params4] at ht
        have hm : t ∈ [29] := by simpa using Array.mem_of_getElem? ht
        have hall : ([29].all fun u => !Tryd.prog.wantsStandIn u) = true := by kernel_rfl
        exact (show Tryd.prog.wantsStandIn t = false by simpa using List.all_eq_true.1 hall t hm)⟩)
    (by kernel_rfl)
#print axioms fnExactFrameSize_cardsaid

end Go.Proofs.YtmmgnpjhlmiafaqDoor
