/- For every text and every place, ReadFrame answers as its model, every field, and nothing that was there is changed, where the table of sixteen words holds what the program's text lays there (the card ties that to the text). -/
import Derived.Test.YtmmgnpjhlmiafapDoorReadFrameS
import Derived.Test.YtmmgnpjhlmiafapDoorOpenFrame
import Derived.Test.YtmmgnpjhlmiafapDoorSumLaid
import Derived.Test.YtmmgnpjhlmiafapDoorTie
import Derived.Test.YtmmgnpjhlmiafapDoorCards
import Derived.ProofKit
import Derived.LaidMore
import Derived.OpenShut
import Derived.OpenVars
import Derived.Stop.Joined
import Derived.SevenTiedAt
namespace Go.Proofs.YtmmgnpjhlmiafapDoor
open Go.ChangeShapes Go.WideShapes Go.ChangeAt Go.RowKit
open Go.ChangeMaps (open_string shut_string)
set_option linter.unusedVariables false

theorem rfT_form (s : ByteArray) (a : Int) : ∃ (f : Fr) (n : Nat) (b : Bool), rfT s a = .tuple #[f.v, .int .i64 (n : Int), .bool b] := by
  unfold rfT
  split
  · exact ⟨_, _, _, rfl⟩
  · exact ⟨zeroFr, 0, _, rfl⟩

set_option maxRecDepth 100000 in
set_option maxHeartbeats 1000000 in
theorem walk_FnExactReadFrame (s : ByteArray) (a : Int) (_hs : s.size ≤ maxLen) (_hn : -9223372036854775808 ≤ a ∧ a ≤ 9223372036854775807) (w : World) (htab : SumTab w) :
    Calls Tryd.prog 4 #[.string s, .int .i64 a] w fun e w' => e = .returned (.bool true) ∧ Below w.heap.size w w' := by
  unfold maxLen at _hs
  by_cases h : s.size ≤ 1048576
  · obtain ⟨f, n, b, hx0⟩ := rfT_form s a
    have HX := Lib.hid hx0
    clear hx0
    have HT : Hid (∀ x, Below w.heap.size w x → SumTab x) := fun x hb => htab.later hb
    have hv : f.v = .agg #[.int .i64 f.gen, .int .i64 f.seq, .string f.body] := rfl
    go_enter Tryd.func4, Tryd.ntmps4
    go_wp2_with fail
    refine (specReadFrame_any s a _ (by omega)).mono ?_
    rintro e w1 ⟨rfl, k1⟩
    rw [HX.out, hv]
    have y2 := Box.new w1 #[.int .i64 f.gen, .int .i64 f.seq, .string f.body] 27
    have b2 : Below w.heap.size w (w1.alloc (.cells #[.int .i64 f.gen, .int .i64 f.seq, .string f.body] 27)) := k1.alloc k1.size _
    go_upto_region 4 with fail
    generalize w1.alloc (.cells #[.int .i64 f.gen, .int .i64 f.seq, .string f.body] 27) = w2 at y2 b2 ⊢
    go_wp2_with fail
    refine (implReadFrame_any s a _ (by omega) (HT.out _ b2)).mono ?_
    rintro e w3 ⟨rfl, k3⟩
    rw [HX.out, hv]
    have y4 := Box.new w3 #[.int .i64 f.gen, .int .i64 f.seq, .string f.body] 27
    have k4 : Below w2.heap.size w2 (w3.alloc (.cells #[.int .i64 f.gen, .int .i64 f.seq, .string f.body] 27)) := k3.alloc k3.size _
    have x4 := y2.later k4
    have b4 := b2.trans (k4.mono b2.size)
    go_upto_region 5 with fail
    generalize w3.alloc (.cells #[.int .i64 f.gen, .int .i64 f.seq, .string f.body] 27) = w4 at y4 x4 b4 ⊢
    obtain ⟨c0, c1, c2, _, _, _⟩ := y4.three
    obtain ⟨d0, d1, d2, _, _, _⟩ := x4.three
    have hb0 : (b != b) = false := by cases b <;> rfl
    go_wp2_with fail
    rw [← hv]
    refine (eqFrame_same f _).mono ?_
    rintro e w5 ⟨rfl, k5⟩
    go_wp2
    go_ret
    exact ⟨rfl, b4.trans (k5.mono b4.size)⟩
  · go_enter Tryd.func4, Tryd.ntmps4
    go_wp2
    go_ret
    exact ⟨rfl, Below.refl _ _⟩

theorem FnExactReadFrame_of_laid {W : World} (h : laidMetH Tryd.prog Rows.fnExactReadFrameRow.laid W) : SumTab W := sumTab_of_laid h

theorem FnExactReadFrame_own : ownKnob Tryd.prog.godebug = none := by kernel_rfl
theorem FnExactReadFrame_door (os : Os) (args : Array Value) : laidMetH Tryd.prog Rows.fnExactReadFrameRow.laid ((World.doorLaid Tryd.prog 400 os).forCall (fun _ _ => 0) ⟨#[], args, []⟩).memory :=
  laidMetH_of_parts3 (fuel := 8) (laidMet_of_run' 8 (by kernel_rfl) (by kernel_rfl)) (by kernel_rfl) (by kernel_rfl)

set_option maxRecDepth 100000 in
theorem FnExactReadFrame_lifted (os : Os) (started : os.Started) (H : Type) (enc : TypeId × Value → H) :
    ReturnsInHanded {} Tryd.checked os 4 .any (fun w args => (Rows.fnExactReadFrameSpec.pre enc Tryd.prog Tryd.f4 [] false w args ∧ laidMetH Tryd.prog Rows.fnExactReadFrameRow.laid w) ∧ sizedMet enc Tryd.prog Tryd.f4 (OpenSpec.ofChange Rows.fnExactReadFrameSpec) false w args)
      (Rows.fnExactReadFrameSpec.post enc Tryd.prog Tryd.f4 false true false false) := by
  refine returnsInHanded_of_change_and (C := Tryd.checked) (X := fun w _ => laidMetH Tryd.prog Rows.fnExactReadFrameRow.laid w) (fun _ _ _ hh h => h.of_heap hh) FnExactReadFrame_own started (by kernel_rfl) Tryd.func4
    (ChangeSpec.witness_shaped (enc := enc) (C := Tryd.checked) (os := os) (X := fun w _ => laidMetH Tryd.prog Rows.fnExactReadFrameRow.laid w) false (World.doorLaid Tryd.prog 400 os) #[.string ByteArray.empty, .int .i64 0] 8 rfl (World.shaped_of_RefB (by kernel_rfl) (by kernel_rfl)) (by kernel_rfl) (by kernel_rfl) (by kernel_rfl) (FnExactReadFrame_door os _)) ?_
  intro W base args ds gs before hval0 hW _ _ hL _
  have hval : ∀ (j : Nat) t v, Tryd.f4.params[j]? = some t → args[j]? = some v → Value.okWide Tryd.prog W .any base t v := hval0
  have hW' := hW
  obtain ⟨p, q, hA0, hV, rfl, hfz, hnd⟩ := hW
  have hA : DataW.TrodAll enc Tryd.prog W 0 (fun _ => true) true Tryd.f4.params.toList args.toList ds p := hA0
  rw [Tryd.params4] at hA hval
  obtain ⟨v0, vs0, d0, ds0, p0, q0, hargs, rfl, rfl, h0, r0⟩ := trodAll_cons hA
  obtain ⟨v1, vs1, d1, ds1, p1, q1, rfl, rfl, rfl, h1, r1⟩ := trodAll_cons r0
  obtain ⟨rfl, rfl, rfl⟩ := trodAll_nil r1
  obtain rfl : args = #[v0, v1] := by cases args; simp_all
  obtain ⟨e0, rfl⟩ : ∃ d, gs = [d] := by obtain ⟨_, _, _, _, d, _, e, _⟩ := trodVars_one hV; exact ⟨d, e⟩
  obtain ⟨a0, rfl, rfl, rfl, w0⟩ := open_string Tryd.underlying9 (hval 0 9 v0 rfl rfl) h0
  obtain ⟨a1, rfl, rfl, rfl, w1⟩ := open_int Tryd.underlying3 (hval 1 3 v1 rfl rfl) h1
  clear hA0 hval0
  try simp only [List.append_nil] at hW'
  refine (walk_FnExactReadFrame a0 a1 w0 (bounds_i64 w1) (w := W) (FnExactReadFrame_of_laid hL)).mono fun e W' ⟨he, bel⟩ => ?_
  subst he
  exact ⟨_, rfl, _, _, _, [], _, _, hW', trodAll_mk1 (shut_bool Tryd.underlying4 _), (trodAll_cons_mk (shut_string Tryd.underlying9 w0) (trodAll_cons_mk (shut_int Tryd.underlying3 w1) trodAll_mk0)), Below.trodVars (show laidOutB Tryd.prog = true by kernel_rfl) bel (by kernel_rfl) hV, bel.frame _, fun h => by cases h⟩

theorem fnExactReadFrame_row : Rows.FnExactReadFrameSaid :=
  OpenClaim.holds_of_wide 4 Tryd.f4 rfl rfl rfl rfl rfl rfl rfl ⟨rfl, rfl, rfl, rfl, rfl⟩ rfl rfl rfl rfl rfl (by kernel_rfl) Tryd.func4 (by kernel_rfl)
    (of_decide_eq_true (by kernel_rfl)) (by unfold Func.isWrapper; first | (rw [if_pos (by decide +kernel)]; kernel_rfl) | (rw [if_neg (by decide +kernel)]; exact ⟨rfl, rfl⟩))
    (fun os started H enc _ => FnExactReadFrame_lifted os started H enc)

/-- The given statement. -/
theorem fnExactReadFrame_cardsaid : Rows.FnExactReadFrameCardSaid :=
  Claim7.holds_tied_plain_at .later [] [.data] true (true, "952b3483d2a3fb8d0503f56a768411d47a0a92c1a08d7dc344fd171cb1653bcb") false
    fnExactReadFrame_row (fun _ h => by cases h) (by kernel_rfl) (fun _ h => by cases h) fnExactReadFrame_row_tie rfl ⟨rfl, rfl⟩ (by kernel_rfl) rfl
    (fun f fn hf hfn => by
      obtain rfl : f = 4 := Option.some.inj ((show Tryd.prog.funcNamed "loop.example/g00287/laws.FnExactReadFrame" = some 4 by kernel_rfl).symm.trans hf) |>.symm
      obtain rfl : fn = Tryd.f4 := (Option.some.inj (Tryd.func4.symm.trans hfn)).symm
      exact ⟨by kernel_rfl, fun j t ht => by
        rw [Tryd.params4] at ht
        have hm : t ∈ [9, 3] := by simpa using Array.mem_of_getElem? ht
        have hall : ([9, 3].all fun u => !Tryd.prog.wantsStandIn u) = true := by kernel_rfl
        exact (show Tryd.prog.wantsStandIn t = false by simpa using List.all_eq_true.1 hall t hm)⟩)
    (by kernel_rfl)
#print axioms fnExactReadFrame_cardsaid

end Go.Proofs.YtmmgnpjhlmiafapDoor
