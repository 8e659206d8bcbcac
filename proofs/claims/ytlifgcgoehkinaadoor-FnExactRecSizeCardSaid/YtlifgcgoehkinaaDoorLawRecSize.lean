/- For every record, RecSize answers as its model, and nothing that was there is changed, where the table of sixteen words holds what the program's text lays there (the card ties that to the text). -/
import Derived.Test.YtlifgcgoehkinaaDoorRecSz
import Derived.Test.YtlifgcgoehkinaaDoorLawRecKit
import Derived.Test.YtlifgcgoehkinaaDoorOpenRec
import Derived.Test.YtlifgcgoehkinaaDoorSumLaid
import Derived.Test.YtlifgcgoehkinaaDoorTie
import Derived.Test.YtlifgcgoehkinaaDoorCards
import Derived.ProofKit
import Derived.LaidMore
import Derived.OpenShut
import Derived.OpenVars
import Derived.Stop.Joined
import Derived.SevenTiedAt
namespace Go.Proofs.YtlifgcgoehkinaaDoor
open Go.ChangeShapes Go.WideShapes Go.ChangeAt Go.RowKit
open Go.ChangeMaps (open_string shut_string)
set_option linter.unusedVariables false

set_option maxRecDepth 100000 in
set_option maxHeartbeats 1000000 in
theorem walk_FnExactRecSize (v : Value) (r : Rc) (hd : RIn v r) (w : World) (htab : SumTab w) :
    Calls Tryd.prog 3 #[v] w fun e w' => e = .returned (.bool true) ∧ Below w.heap.size w w' := by
  obtain ⟨rfl, hs1, hs2, hs3⟩ := hd
  have b0 : Below w.heap.size w (w.alloc (.cells #[.int .i64 r.kind, .int .i64 r.valid, .int .i64 r.uid, .int .i64 r.next, .int .i64 r.flags, .string r.user, .string r.name, .string r.text] 23)) := (Below.refl _ _).alloc (Nat.le_refl _) _
  have hx := Box.new w #[.int .i64 r.kind, .int .i64 r.valid, .int .i64 r.uid, .int .i64 r.next, .int .i64 r.flags, .string r.user, .string r.name, .string r.text] 23
  have HT : Hid (∀ x, Below w.heap.size w x → SumTab x) := fun x hb => htab.later hb
  obtain ⟨x, hx0⟩ : ∃ x : Nat, rzO r = x := ⟨_, rfl⟩
  have HX := Lib.hid hx0
  clear hx0 htab
  have hv : r.v = .agg #[.int .i64 r.kind, .int .i64 r.valid, .int .i64 r.uid, .int .i64 r.next, .int .i64 r.flags, .string r.user, .string r.name, .string r.text] := rfl
  rw [hv]
  go_enter Tryd.func3, Tryd.ntmps3
  go_wp2_with fail
  rw [← hv]
  generalize w.alloc (.cells #[.int .i64 r.kind, .int .i64 r.valid, .int .i64 r.uid, .int .i64 r.next, .int .i64 r.flags, .string r.user, .string r.name, .string r.text] 23) = W at b0 hx ⊢
  refine (szRec_any r 1048576 _ hs1 hs2 hs3 (by omega) (by omega)).mono ?_
  rintro e w1 ⟨⟨q, rfl, hr, _, _⟩, k1⟩
  have b1 := b0.trans (k1.mono b0.size)
  by_cases hneg : q < 0
  · go_wp2
    go_ret
    exact ⟨rfl, b1⟩
  have hz1 : r.user.size ≤ 1048576 := by omega
  have hz2 : r.name.size ≤ 1048576 := by omega
  have hz3 : r.text.size ≤ 1048576 := by omega
  obtain ⟨c0, c1, c2, c3, c4, c5, c6, c7, _⟩ := (hx.later k1).eight
  go_wp2_with fail
  rw [← hv]
  refine (toRec_any r _).mono ?_
  rintro e w2 ⟨rfl, k2⟩
  have j2 := k1.trans (k2.mono k1.size)
  clear c0 c1 c2 c3 c4 c5 c6 c7
  go_wp2_with fail
  refine (specRecSize_any r _ (by omega) (by omega) (by omega)).mono ?_
  rintro e w3 ⟨rfl, k3⟩
  rw [HX.out]
  have j3 := j2.trans (k3.mono j2.size)
  obtain ⟨c0, c1, c2, c3, c4, c5, c6, c7, _⟩ := (hx.later j3).eight
  go_wp2_with fail
  rw [← hv]
  refine (toRec_any r _).mono ?_
  rintro e w4 ⟨rfl, k4⟩
  have j4 := j3.trans (k4.mono j3.size)
  have b4 := b0.trans (j4.mono b0.size)
  clear c0 c1 c2 c3 c4 c5 c6 c7
  go_wp2_with fail
  refine (implRecSize_any r _ (HT.out _ b4)).mono ?_
  rintro e w5 ⟨rfl, k5⟩
  rw [HX.out]
  go_wp2
  go_ret
  exact ⟨rfl, b4.trans (k5.mono b4.size)⟩

theorem FnExactRecSize_of_laid {W : World} (h : laidMetH Tryd.prog Rows.fnExactRecSizeRow.laid W) : SumTab W := sumTab_of_laid h

theorem FnExactRecSize_own : ownKnob Tryd.prog.godebug = none := by kernel_rfl
theorem FnExactRecSize_door (os : Os) (args : Array Value) : laidMetH Tryd.prog Rows.fnExactRecSizeRow.laid ((World.doorLaid Tryd.prog 400 os).forCall (fun _ _ => 0) ⟨#[], args, []⟩).memory :=
  laidMetH_of_parts3 (fuel := 8) (laidMet_of_run' 8 (by kernel_rfl) (by kernel_rfl)) (by kernel_rfl) (by kernel_rfl)

set_option maxRecDepth 100000 in
theorem FnExactRecSize_lifted (os : Os) (started : os.Started) (H : Type) (enc : TypeId × Value → H) :
    ReturnsInHanded {} Tryd.checked os 3 .any (fun w args => (Rows.fnExactRecSizeSpec.pre enc Tryd.prog Tryd.f3 [] false w args ∧ laidMetH Tryd.prog Rows.fnExactRecSizeRow.laid w) ∧ sizedMet enc Tryd.prog Tryd.f3 (OpenSpec.ofChange Rows.fnExactRecSizeSpec) false w args)
      (Rows.fnExactRecSizeSpec.post enc Tryd.prog Tryd.f3 false true false false) := by
  refine returnsInHanded_of_change_and (C := Tryd.checked) (X := fun w _ => laidMetH Tryd.prog Rows.fnExactRecSizeRow.laid w) (fun _ _ _ hh h => h.of_heap hh) FnExactRecSize_own started (by kernel_rfl) Tryd.func3
    (ChangeSpec.witness_shaped (enc := enc) (C := Tryd.checked) (os := os) (X := fun w _ => laidMetH Tryd.prog Rows.fnExactRecSizeRow.laid w) false (World.doorLaid Tryd.prog 400 os) #[.agg #[.int .i64 0, .int .i64 0, .int .i64 0, .int .i64 0, .int .i64 0, .string ByteArray.empty, .string ByteArray.empty, .string ByteArray.empty]] 8 rfl (World.shaped_of_RefB (by kernel_rfl) (by kernel_rfl)) (by kernel_rfl) (by kernel_rfl) (by kernel_rfl) (FnExactRecSize_door os _)) ?_
  intro W base args ds gs before hval0 hW _ _ hL _
  have hval : ∀ (j : Nat) t v, Tryd.f3.params[j]? = some t → args[j]? = some v → Value.okWide Tryd.prog W .any base t v := hval0
  have hW' := hW
  obtain ⟨p, q, hA0, hV, rfl, hfz, hnd⟩ := hW
  have hA : DataW.TrodAll enc Tryd.prog W 0 (fun _ => true) true Tryd.f3.params.toList args.toList ds p := hA0
  rw [Tryd.params3] at hA hval
  obtain ⟨v0, vs0, d0, ds0, p0, q0, hargs, rfl, rfl, h0, r0⟩ := trodAll_cons hA
  obtain ⟨rfl, rfl, rfl⟩ := trodAll_nil r0
  obtain rfl : args = #[v0] := by cases args; simp_all
  obtain ⟨e0, rfl⟩ : ∃ d, gs = [d] := by obtain ⟨_, _, _, _, d, _, e, _⟩ := trodVars_one hV; exact ⟨d, e⟩
  have k0 := h0
  have lt0 : ∀ x ∈ p0, x.block < W.heap.size := by obtain ⟨m, hm⟩ := k0; exact DataW.trod_lt m _ _ _ hm
  obtain ⟨D0, w0⟩ := open_Rec (hval 0 23 v0 rfl rfl) h0
  clear hA0 hval0
  try simp only [List.append_nil] at hW'
  refine (walk_FnExactRecSize v0 D0 w0 (w := W) (FnExactRecSize_of_laid hL)).mono fun e W' ⟨he, bel⟩ => ?_
  subst he
  exact ⟨_, rfl, _, _, _, [], _, _, hW', trodAll_mk1 (shut_bool Tryd.underlying4 _), (trodAll_cons_mk (Below.trod (show laidOutB Tryd.prog = true by kernel_rfl) (by kernel_rfl) (of_decide_eq_true (by kernel_rfl)) k0 bel lt0) trodAll_mk0), Below.trodVars (show laidOutB Tryd.prog = true by kernel_rfl) bel (by kernel_rfl) hV, bel.frame _, fun h => by cases h⟩

theorem fnExactRecSize_row : Rows.FnExactRecSizeSaid :=
  OpenClaim.holds_of_wide 3 Tryd.f3 rfl rfl rfl rfl rfl rfl rfl ⟨rfl, rfl, rfl, rfl, rfl⟩ rfl rfl rfl rfl rfl (by kernel_rfl) Tryd.func3 (by kernel_rfl)
    (of_decide_eq_true (by kernel_rfl)) (by unfold Func.isWrapper; first | (rw [if_pos (by decide +kernel)]; kernel_rfl) | (rw [if_neg (by decide +kernel)]; exact ⟨rfl, rfl⟩))
    (fun os started H enc _ => FnExactRecSize_lifted os started H enc)

/-- The given statement. -/
theorem fnExactRecSize_cardsaid : Rows.FnExactRecSizeCardSaid :=
  Claim7.holds_tied_plain_at .later [] [.data] true (true, "dd541f0440d6e817b2d68575a75fbc7441f3361d30b2652471ebce66566cabc4") true
    fnExactRecSize_row (fun _ h => by cases h) (by kernel_rfl) (fun _ h => by cases h) fnExactRecSize_row_tie rfl ⟨rfl, rfl⟩ (by kernel_rfl) rfl
    (fun f fn hf hfn => by
      obtain rfl : f = 3 := Option.some.inj ((show Tryd.prog.funcNamed "loop.example/g00287/laws.FnExactRecSize" = some 3 by kernel_rfl).symm.trans hf) |>.symm
      obtain rfl : fn = Tryd.f3 := (Option.some.inj (Tryd.func3.symm.trans hfn)).symm
      exact ⟨by kernel_rfl, fun j t ht => by
        rw [Tryd.params3] at ht
        have hm : t ∈ [23] := by simpa using Array.mem_of_getElem? ht
        have hall : ([23].all fun u => !Tryd.prog.wantsStandIn u) = true := by kernel_rfl
        exact (show Tryd.prog.wantsStandIn t = false by simpa using List.all_eq_true.1 hall t hm)⟩)
    (by kernel_rfl)
#print axioms fnExactRecSize_cardsaid

end Go.Proofs.YtlifgcgoehkinaaDoor
