/- For every item and every number, ItemFrame answers as its model, every field, and nothing that was there is changed. No condition. -/
import Derived.Test.YthlbokfajiahpabItemI
import Derived.Test.YthlbokfajiahpabLawRecKit
import Derived.Test.YthlbokfajiahpabOpenRec
import Derived.Test.YthlbokfajiahpabOpenFrame
import Derived.ProofKit
import Derived.OpenShut
import Derived.ShutString
import Derived.ChangeOld
import Derived.Below
namespace Go.Proofs.Ythlbokfajiahpab
open Go.ChangeShapes Go.WideShapes Go.ChangeAt Go.RowKit
open Go.ChangeMaps (open_string shut_string)
set_option linter.unusedVariables false

theorem ifT_form (seq : Int) (r : Rc) (gen : Int) : ∃ (f : Fr) (b : Bool), ifT seq r gen = .tuple #[f.v, .bool b] := by
  unfold ifT
  split
  · exact ⟨_, _, rfl⟩
  · exact ⟨⟨0, 0, ⟨#[]⟩⟩, _, rfl⟩

set_option maxRecDepth 100000 in
set_option maxHeartbeats 1000000 in
theorem walk_FnExactItemFrame (v : Value) (seq : Int) (gen : Int) (hd : ∃ r, IIn v seq r) (_hn : -9223372036854775808 ≤ gen ∧ gen ≤ 9223372036854775807) (w : World) :
    Calls Try.prog 5 #[v, .int .i64 gen] w fun e w' => e = .returned (.bool true) ∧ Below w.heap.size w w' := by
  obtain ⟨r, rfl, hs1, hs2, hs3⟩ := hd
  have b0 : Below w.heap.size w (w.alloc (.cells #[.int .i64 seq, .int .i64 r.kind, .int .i64 r.valid, .int .i64 r.uid, .int .i64 r.next, .int .i64 r.flags, .string r.user, .string r.name, .string r.text] 35)) := (Below.refl _ _).alloc (Nat.le_refl _) _
  have hx := Box.new w #[.int .i64 seq, .int .i64 r.kind, .int .i64 r.valid, .int .i64 r.uid, .int .i64 r.next, .int .i64 r.flags, .string r.user, .string r.name, .string r.text] 35
  obtain ⟨f, b, hx0⟩ := ifT_form seq r gen
  have HX := Lib.hid hx0
  clear hx0
  have hv : itV seq r = .agg #[.int .i64 seq, .int .i64 r.kind, .int .i64 r.valid, .int .i64 r.uid, .int .i64 r.next, .int .i64 r.flags, .string r.user, .string r.name, .string r.text] := rfl
  have hfv : f.v = .agg #[.int .i64 f.gen, .int .i64 f.seq, .string f.body] := rfl
  rw [hv]
  go_enter Try.func5, Try.ntmps5
  go_wp2_with fail
  rw [← hv]
  generalize w.alloc (.cells #[.int .i64 seq, .int .i64 r.kind, .int .i64 r.valid, .int .i64 r.uid, .int .i64 r.next, .int .i64 r.flags, .string r.user, .string r.name, .string r.text] 35) = W at b0 hx ⊢
  refine (szItem_any seq r 1048576 _ hs1 hs2 hs3 (by omega) (by omega)).mono ?_
  rintro e w1 ⟨⟨q, rfl, hr, _, _⟩, k1⟩
  have b1 := b0.trans (k1.mono b0.size)
  by_cases hneg : q < 0
  · go_wp2
    go_ret
    exact ⟨rfl, b1⟩
  have hz1 : r.user.size ≤ 1048576 := by omega
  have hz2 : r.name.size ≤ 1048576 := by omega
  have hz3 : r.text.size ≤ 1048576 := by omega
  obtain ⟨c0, c1, c2, c3, c4, c5, c6, c7, c8, _⟩ := (hx.later k1).nine
  go_wp2_with fail
  rw [← hv]
  refine (toItem_any seq r _).mono ?_
  rintro e w2 ⟨rfl, k2⟩
  have j2 := k1.trans (k2.mono k1.size)
  clear c0 c1 c2 c3 c4 c5 c6 c7 c8
  go_wp2_with fail
  refine (specItemFrame_any seq r gen _ (by omega) (by omega) (by omega)).mono ?_
  rintro e w3 ⟨rfl, k3⟩
  rw [HX.out, hfv]
  have y3 := Box.new w3 #[.int .i64 f.gen, .int .i64 f.seq, .string f.body] 38
  have k3' : Below w2.heap.size w2 (w3.alloc (.cells #[.int .i64 f.gen, .int .i64 f.seq, .string f.body] 38)) := k3.alloc k3.size _
  have j3 := j2.trans (k3'.mono j2.size)
  go_upto_region 6 with fail
  generalize w3.alloc (.cells #[.int .i64 f.gen, .int .i64 f.seq, .string f.body] 38) = w4 at y3 j3 ⊢
  obtain ⟨c0, c1, c2, c3, c4, c5, c6, c7, c8, _⟩ := (hx.later j3).nine
  go_wp2_with fail
  rw [← hv]
  refine (toItem_any seq r _).mono ?_
  rintro e w5 ⟨rfl, k5⟩
  have j5 := j3.trans (k5.mono j3.size)
  clear c0 c1 c2 c3 c4 c5 c6 c7 c8
  go_wp2_with fail
  refine (implItemFrame_any seq r gen _).mono ?_
  rintro e w6 ⟨rfl, k6⟩
  rw [HX.out, hfv]
  have y6 := Box.new w6 #[.int .i64 f.gen, .int .i64 f.seq, .string f.body] 38
  have k6' : Below w5.heap.size w5 (w6.alloc (.cells #[.int .i64 f.gen, .int .i64 f.seq, .string f.body] 38)) := k6.alloc k6.size _
  have x6 := (y3.later k5).later k6'
  have j6 := j5.trans (k6'.mono j5.size)
  have b6 := b0.trans (j6.mono b0.size)
  go_upto_region 7 with fail
  generalize w6.alloc (.cells #[.int .i64 f.gen, .int .i64 f.seq, .string f.body] 38) = w7 at y6 x6 b6 ⊢
  obtain ⟨c0, c1, c2, _, _, _⟩ := y6.three
  obtain ⟨d0, d1, d2, _, _, _⟩ := x6.three
  have hb0 : (b != b) = false := by cases b <;> rfl
  go_wp2_with fail
  rw [← hfv]
  refine (eqFrame_same f _).mono ?_
  rintro e w8 ⟨rfl, k8⟩
  go_wp2
  go_ret
  exact ⟨rfl, b6.trans (k8.mono b6.size)⟩

theorem FnExactItemFrame_own : ownKnob Try.prog.godebug = none := by kernel_rfl

set_option maxRecDepth 100000 in
theorem FnExactItemFrame_lifted (os : Os) (started : os.Started) (H : Type) (enc : TypeId × Value → H) :
    ReturnsInHanded {} Try.checked os 5 .any (Rows.fnExactItemFrameSpec.pre6 enc Try.prog Try.f5 Rows.fnExactItemFrameRow.domain false) (Rows.fnExactItemFrameSpec.post enc Try.prog Try.f5 false true false false) := by
  refine returnsInHanded_of_change (C := Try.checked) FnExactItemFrame_own started (by kernel_rfl) Try.func5
    (ChangeSpec.witness6 (enc := enc) (C := Try.checked) false ⟨#[], #[.agg #[.int .i64 0, .int .i64 0, .int .i64 0, .int .i64 0, .int .i64 0, .int .i64 0, .string ByteArray.empty, .string ByteArray.empty, .string ByteArray.empty], .int .i64 0], []⟩ 8 (by kernel_rfl) (by kernel_rfl) (by kernel_rfl) (by kernel_rfl)) ?_
  intro W base args ds gs before hval0 hW hcnd _
  have hval : ∀ (j : Nat) t v, Try.f5.params[j]? = some t → args[j]? = some v → Value.okWide Try.prog W .any base t v := hval0
  have hW' := hW
  obtain ⟨p, q, hA0, hV, rfl, hfz, hnd⟩ := hW
  have hA : DataW.TrodAll enc Try.prog W 0 (fun _ => true) true Try.f5.params.toList args.toList ds p := hA0
  rw [Try.params5] at hA hval
  obtain ⟨v0, vs0, d0, ds0, p0, q0, hargs, rfl, rfl, h0, r0⟩ := trodAll_cons hA
  obtain ⟨v1, vs1, d1, ds1, p1, q1, rfl, rfl, rfl, h1, r1⟩ := trodAll_cons r0
  obtain ⟨rfl, rfl, rfl⟩ := trodAll_nil r1
  obtain rfl : args = #[v0, v1] := by cases args; simp_all
  obtain ⟨rfl, rfl⟩ := trodVars_none hV
  have k0 := h0
  have lt0 : ∀ x ∈ p0, x.block < W.heap.size := by obtain ⟨m, hm⟩ := k0; exact DataW.trod_lt m _ _ _ hm
  obtain ⟨D0, w0⟩ := open_Item (hval 0 35 v0 rfl rfl) h0
  obtain ⟨a1, rfl, rfl, rfl, w1⟩ := open_int Try.underlying3 (hval 1 3 v1 rfl rfl) h1
  clear hA0 hval0
  simp only [List.append_nil] at hW'
  refine (walk_FnExactItemFrame v0 D0 a1 w0 (bounds_i64 w1) (w := W)).mono fun e W' ⟨he, bel⟩ => ?_
  subst he
  exact ⟨_, rfl, _, _, _, [], _, [], hW', trodAll_mk1 (shut_bool Try.underlying4 _), (trodAll_cons_mk (Below.trod (show laidOutB Try.prog = true by kernel_rfl) (by kernel_rfl) (of_decide_eq_true (by kernel_rfl)) k0 bel lt0) (trodAll_cons_mk (shut_int Try.underlying3 w1) trodAll_mk0)), rfl, bel.frame _, fun h => by cases h⟩

/-- The given statement. -/
theorem fnExactItemFrame_holds : Rows.FnExactItemFrameSaid :=
  OpenClaim.holds_of_wide 5 Try.f5 rfl rfl rfl rfl rfl rfl rfl ⟨rfl, rfl, rfl, rfl, rfl⟩ rfl rfl rfl rfl rfl (by kernel_rfl) Try.func5 (by kernel_rfl)
    (of_decide_eq_true (by kernel_rfl)) (by unfold Func.isWrapper; first | (rw [if_pos (by decide +kernel)]; kernel_rfl) | (rw [if_neg (by decide +kernel)]; exact ⟨rfl, rfl⟩))
    (fun os started H enc _ => FnExactItemFrame_lifted os started H enc)
#print axioms fnExactItemFrame_holds

end Go.Proofs.Ythlbokfajiahpab
