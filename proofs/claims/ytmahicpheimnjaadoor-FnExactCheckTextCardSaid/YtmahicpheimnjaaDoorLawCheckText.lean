/- For every check, CheckText answers as its model; it writes into no argument, and nothing that was there is changed. Its conditions: the variable of the library that errors.As reads and the table of the sums hold what the program's text lays there. -/
import Derived.Test.YtmahicpheimnjaaDoorChkL
import Derived.Test.YtmahicpheimnjaaDoorCkTxS
import Derived.Test.YtmahicpheimnjaaDoorCkTxI
import Derived.Test.YtmahicpheimnjaaDoorSumLaid
import Derived.Test.YtmahicpheimnjaaDoorErrLaid
import Derived.Test.YtmahicpheimnjaaDoorTie
import Derived.Test.YtmahicpheimnjaaDoorCards
import Derived.ProofKit
import Derived.OpenShut
import Derived.LaidMore
import Derived.OpenVars
import Derived.Stop.Joined
import Derived.SevenTiedAt
import Derived.Below
import Derived.Deep.RegionHeld3
namespace Go.Proofs.YtmahicpheimnjaaDoor
open Go.ChangeShapes Go.WideShapes Go.ChangeAt Go.RowKit
open Go.ChangeMaps (open_string shut_string)
set_option linter.unusedVariables false

theorem ctT_form (c : Ck) : ∃ (t : ByteArray) (f : Bool), ctT c = .tuple #[.string t, .bool f] := by
  unfold ctT
  split
  · exact ⟨_, _, rfl⟩
  · exact ⟨_, _, rfl⟩

set_option maxRecDepth 100000 in
set_option maxHeartbeats 8000000 in
theorem walk_FnExactCheckText (v : Value) (c : Ck) {w : World} (h : CIn w v c) (hts : ErrTab w ∧ SumTab w) :
    Calls Tryd.prog 4 #[v] w fun e w' => e = .returned (.bool true) ∧ Below w.heap.size w w' := by
  obtain ⟨ht, hs⟩ := hts
  have HT : Hid (∀ x, Below w.heap.size w x → ErrTab x ∧ SumTab x) := fun x hx => ⟨(hx.cell (p := ⟨0, 0, none⟩) (World.block_lt_of_cell? _ _ ht)).trans ht, hs.later hx⟩
  obtain ⟨a, cap, rfl, hr, hl⟩ := h
  obtain ⟨st, ng, ns, nv, rs⟩ := c
  obtain ⟨T, A, hA⟩ := ctT_form ⟨st, ng, ns, nv, rs⟩
  have HA := Lib.hid hA
  simp only at hr hl
  have HTO := Lib.hid (fun (x : World) (hx : Rows' lrfE x (.slice a rs.length cap) rs) (hn : rs.length ≤ 1048576) => toCheck_any ⟨st, ng, ns, nv, rs⟩ a rs.length cap x hx hn)
  have HSP := Lib.hid (fun (x : World) (p : Option Addr) (q : Nat) (hx : Rows' rfE x (.slice p rs.length q) rs) (hn : rs.length ≤ 1048576) => specCheckText_any ⟨st, ng, ns, nv, rs⟩ p q x hx hn)
  have HIM := Lib.hid (fun (x : World) (p : Option Addr) (q : Nat) (hb : Below w.heap.size w x) (hx : Rows' rfE x (.slice p rs.length q) rs) (hn : rs.length ≤ 1048576) => implCheckText_any ⟨st, ng, ns, nv, rs⟩ p q x (HT.out x hb).1 (HT.out x hb).2 hx hn)
  have HEQ := Lib.hid (fun (x : World) (p p' : Option Addr) (q q' : Nat) (hx : Rows' rfE x (.slice p rs.length q) rs) (hx' : Rows' rfE x (.slice p' rs.length q') rs) (hn : rs.length ≤ 1048576) => eqCheck_same ⟨st, ng, ns, nv, rs⟩ p p' q q' x hx hx' (by show rs.length ≤ _; omega))
  have HSZ := Lib.hid (fun (x : World) => szCheck_any ⟨st, ng, ns, nv, rs⟩ a cap x hl)
  simp only at HTO HSP HIM HEQ HSZ
  rw [hA] at HSP HIM
  clear hA HA ht hs
  obtain ⟨n, hn⟩ : ∃ n, rs.length = n := ⟨_, rfl⟩
  rw [hn] at hr HTO HSP HIM HEQ HSZ ⊢
  have HN := Lib.hid hn
  clear hn hl
  have q0 := Box.new w #[.int .i64 st, .int .i64 ng, .int .i64 ns, .int .i64 nv, .slice a n cap] 24
  have b0 := belNew w (.cells #[.int .i64 st, .int .i64 ng, .int .i64 ns, .int .i64 nv, .slice a n cap] 24)
  have HC : Hid (∀ x, Below (w.alloc (.cells #[.int .i64 st, .int .i64 ng, .int .i64 ns, .int .i64 nv, .slice a n cap] 24)).heap.size (w.alloc (.cells #[.int .i64 st, .int .i64 ng, .int .i64 ns, .int .i64 nv, .slice a n cap] 24)) x → (x.cell? ⟨w.heap.size, 0, none⟩ = some (.int .i64 st) ∧ x.cell? ⟨w.heap.size, 1, none⟩ = some (.int .i64 ng) ∧ x.cell? ⟨w.heap.size, 2, none⟩ = some (.int .i64 ns) ∧ x.cell? ⟨w.heap.size, 3, none⟩ = some (.int .i64 nv) ∧ x.cell? ⟨w.heap.size, 4, none⟩ = some (.slice a n cap)) ∧ Rows' lrfE x (.slice a n cap) rs ∧ Below w.heap.size w x) := fun x hx => by
    have h' := b0.trans (hx.mono b0.size)
    exact ⟨(q0.later hx).fiveC', hr.later h', h'⟩
  clear q0 b0 hr
  go_enter Tryd.func4, Tryd.ntmps4
  go_wp2_with fail
  generalize w.alloc (.cells #[.int .i64 st, .int .i64 ng, .int .i64 ns, .int .i64 nv, .slice a n cap] 24) = W at HC ⊢
  obtain ⟨g, hg⟩ : ∃ g, w.heap.size = g := ⟨_, rfl⟩
  replace HC : Hid (∀ x, Below W.heap.size W x → (x.cell? ⟨g, 0, none⟩ = some (.int .i64 st) ∧ x.cell? ⟨g, 1, none⟩ = some (.int .i64 ng) ∧ x.cell? ⟨g, 2, none⟩ = some (.int .i64 ns) ∧ x.cell? ⟨g, 3, none⟩ = some (.int .i64 nv) ∧ x.cell? ⟨g, 4, none⟩ = some (.slice a n cap)) ∧ Rows' lrfE x (.slice a n cap) rs ∧ Below w.heap.size w x) := by rw [hg] at HC ⊢; exact HC
  simp only [hg]
  have HG := Lib.hid hg
  clear hg
  refine (HSZ.out _).mono ?_
  rintro e w2 ⟨⟨r, rfl, hr⟩, j2⟩
  by_cases hneg : r < 0
  · have b2 := (HC.out _ j2).2.2
    clear hr
    go_wp2
    go_ret
    exact ⟨rfl, by first | exact b2 | (rw [← HG.out]; exact b2)⟩
  have hnn : n ≤ 1048576 := hr (by omega)
  have HNN := Lib.hid hnn
  clear hr HSZ
  obtain ⟨⟨x0, x1, x2, x3, x4⟩, la, _⟩ := HC.out _ j2
  go_wp2_with fail
  clear x0 x1 x2 x3 x4
  refine (HTO.out _ la HNN.out).mono ?_
  rintro e w3 ⟨pA, kA, qA, rfl, RA, k3⟩
  obtain ⟨_, _, eA⟩ := RA.form
  rw [HN.out] at eA
  cases eA
  have j3 := j2.trans (k3.mono j2.size)
  clear la j2 k3
  go_wp2_with fail
  refine (HSP.out _ pA qA RA.rows HNN.out).mono ?_
  rintro e w4 ⟨rfl, k4⟩
  have j4 := j3.trans (k4.mono j3.size)
  clear RA k4 j3
  obtain ⟨⟨x0, x1, x2, x3, x4⟩, la, _⟩ := HC.out _ j4
  go_wp2_with fail
  clear x0 x1 x2 x3 x4
  refine (HTO.out _ la HNN.out).mono ?_
  rintro e w5 ⟨aX, kX, cX, rfl, RX, k5⟩
  obtain ⟨_, _, eX⟩ := RX.form
  rw [HN.out] at eX
  cases eX
  have j5 := j4.trans (k5.mono j4.size)
  have k6 := belNew w5 (.cells #[.int .i64 st, .int .i64 ng, .int .i64 ns, .int .i64 nv, .slice aX n cX] 29)
  have BX := Box.new w5 #[.int .i64 st, .int .i64 ng, .int .i64 ns, .int .i64 nv, .slice aX n cX] 29
  have x := BX.fiveC'
  obtain ⟨x0, x1, x2, x3, x4⟩ := x
  have j6 := j5.trans (k6.mono j5.size)
  have RX6 := RX.rows.later k6
  clear la j4 k5 j5 k6 RX
  go_wp2_with fail
  clear x0 x1 x2 x3 x4
  generalize w5.alloc (.cells #[.int .i64 st, .int .i64 ng, .int .i64 ns, .int .i64 nv, .slice aX n cX] 29) = w6 at BX j6 RX6 ⊢
  obtain ⟨g5, hg5⟩ : ∃ g5, w5.heap.size = g5 := ⟨_, rfl⟩
  rw [hg5] at BX ⊢
  clear hg5
  refine (HIM.out _ aX cX (HC.out _ j6).2.2 RX6 HNN.out).mono ?_
  rintro e w7 ⟨rfl, k7⟩
  have j7 := j6.trans (k7.mono j6.size)
  have RX7 := RX6.later k7
  have BX7 := BX.later k7
  clear j6 k7 RX6 BX
  have hAA : (A == A) = true := by simp
  have hTT : (T.toList == T.toList) = true := by simp
  go_upto_region 10 with fail
  have HS : Hid (∀ x, Below w7.drew.heap.size w7.drew x → ((x.cell? ⟨g, 0, none⟩ = some (.int .i64 st) ∧ x.cell? ⟨g, 1, none⟩ = some (.int .i64 ng) ∧ x.cell? ⟨g, 2, none⟩ = some (.int .i64 ns) ∧ x.cell? ⟨g, 3, none⟩ = some (.int .i64 nv) ∧ x.cell? ⟨g, 4, none⟩ = some (.slice a n cap)) ∧ (x.cell? ⟨g5, 0, none⟩ = some (.int .i64 st) ∧ x.cell? ⟨g5, 1, none⟩ = some (.int .i64 ng) ∧ x.cell? ⟨g5, 2, none⟩ = some (.int .i64 ns) ∧ x.cell? ⟨g5, 3, none⟩ = some (.int .i64 nv) ∧ x.cell? ⟨g5, 4, none⟩ = some (.slice aX n cX))) ∧ Rows' rfE x (.slice aX n cX) rs ∧ Rows' lrfE x (.slice a n cap) rs ∧ Below w7.heap.size w7 x) := by
    intro x hx
    have hx2 : Below w7.heap.size w7 x := ((Below.refl w7.heap.size w7).drew).trans hx
    obtain ⟨u, v, _⟩ := HC.out _ (j7.trans (hx2.mono j7.size))
    exact ⟨⟨u, (BX7.later hx2).fiveC'⟩, RX7.later hx2, v, hx2⟩
  go_cut [39] (fun c wx => c = .bool false ∧ Below w7.heap.size w7 wx)
  case first =>
    clear j7 RX7 BX7
    go_region_held3 (fun x => (x.cell? ⟨g, 0, none⟩ = some (.int .i64 st) ∧ x.cell? ⟨g, 1, none⟩ = some (.int .i64 ng) ∧ x.cell? ⟨g, 2, none⟩ = some (.int .i64 ns) ∧ x.cell? ⟨g, 3, none⟩ = some (.int .i64 nv) ∧ x.cell? ⟨g, 4, none⟩ = some (.slice a n cap)) ∧ (x.cell? ⟨g5, 0, none⟩ = some (.int .i64 st) ∧ x.cell? ⟨g5, 1, none⟩ = some (.int .i64 ng) ∧ x.cell? ⟨g5, 2, none⟩ = some (.int .i64 ns) ∧ x.cell? ⟨g5, 3, none⟩ = some (.int .i64 nv) ∧ x.cell? ⟨g5, 4, none⟩ = some (.slice aX n cX)))
      (first | exact (HS.out _ (Below.refl _ _)).1 | (exact (HS.out _ kX).1) | (exact (HS.out _ kY).1))
      (first
        | (go_at_call 7; refine (HTO.out _ (HS.out _ (Below.refl _ _)).2.2.1 HNN.out).mono ?_; rintro e wX ⟨pE, kE, qE, rfl, RE, kX⟩; obtain ⟨_, _, eE⟩ := RE.form; rw [HN.out] at eE; cases eE)
        | (go_at_call 9; refine (HEQ.out _ _ _ _ _ (HS.out _ kX).2.1 RE.rows HNN.out).mono ?_; rintro e wY ⟨rfl, kY'⟩; have kY := kX.trans (kY'.mono kX.size)))
    all_goals
      have bZ := (HS.out _ kY).2.2.2
      go_wp2_with fail
      go_meet
      exact ⟨rfl, bZ⟩
  case rest =>
    obtain ⟨rfl, k8⟩ := hcut
    have bZ := (HC.out _ (j7.trans (k8.mono j7.size))).2.2
    go_wp2
    go_ret
    exact ⟨rfl, by first | exact bZ | (rw [← HG.out]; exact bZ)⟩

theorem FnExactCheckText_of_laid {W : World} (h : laidMetH Tryd.prog Rows.fnExactCheckTextRow.laid W) : ErrTab W ∧ SumTab W := by
  have h' : laidMet Tryd.prog [("loop.example/g00287/impl.sumTable", Rows.laid_loop_example_g00287_impl_sumTable)] W ∧ handlesMet Tryd.prog [("errors.errorType", Rows.laid_errors_errorType)] W := h
  refine ⟨errTab_of_handles (List.mem_singleton.2 rfl) h'.2, sumTab_of_laid ?_⟩
  rw [MakeChecks.laidMetH_plain _ _ _ (by kernel_rfl)]
  exact h'.1

theorem FnExactCheckText_own : ownKnob Tryd.prog.godebug = none := by kernel_rfl
theorem FnExactCheckText_door (os : Os) (args : Array Value) : laidMetH Tryd.prog Rows.fnExactCheckTextRow.laid ((World.doorLaid Tryd.prog 400 os).forCall (fun _ _ => 0) ⟨#[], args, []⟩).memory :=
  laidMetH_of_parts3 (fuel := 8) (laidMet_of_run' 8 (by kernel_rfl) (by kernel_rfl)) (by kernel_rfl) (by kernel_rfl)

set_option maxRecDepth 100000 in
theorem FnExactCheckText_lifted (os : Os) (started : os.Started) (H : Type) (enc : TypeId × Value → H) :
    ReturnsInHanded {} Tryd.checked os 4 .any (fun w args => (Rows.fnExactCheckTextSpec.pre enc Tryd.prog Tryd.f4 [] false w args ∧ laidMetH Tryd.prog Rows.fnExactCheckTextRow.laid w) ∧ sizedMet enc Tryd.prog Tryd.f4 (OpenSpec.ofChange Rows.fnExactCheckTextSpec) false w args)
      (Rows.fnExactCheckTextSpec.post enc Tryd.prog Tryd.f4 false true false false) := by
  refine returnsInHanded_of_change_and (C := Tryd.checked) (X := fun w _ => laidMetH Tryd.prog Rows.fnExactCheckTextRow.laid w) (fun _ _ _ hh h => h.of_heap hh) FnExactCheckText_own started (by kernel_rfl) Tryd.func4
    (ChangeSpec.witness_shaped (enc := enc) (C := Tryd.checked) (os := os) (X := fun w _ => laidMetH Tryd.prog Rows.fnExactCheckTextRow.laid w) false (World.doorLaid Tryd.prog 400 os) #[.agg #[.int .i64 0, .int .i64 0, .int .i64 0, .int .i64 0, .slice none 0 0]] 8 rfl (World.shaped_of_RefB (by kernel_rfl) (by kernel_rfl)) (by kernel_rfl) (by kernel_rfl) (by kernel_rfl) (FnExactCheckText_door os _)) ?_
  intro W base args ds gs before hval0 hW _ _ hL _
  have hval : ∀ (j : Nat) t v, Tryd.f4.params[j]? = some t → args[j]? = some v → Value.okWide Tryd.prog W .any base t v := hval0
  have hW' := hW
  obtain ⟨p, q, hA0, hV, rfl, hfz, hnd⟩ := hW
  have hA : DataW.TrodAll enc Tryd.prog W 0 (fun _ => true) true Tryd.f4.params.toList args.toList ds p := hA0
  rw [Tryd.params4] at hA hval
  obtain ⟨v0, vs0, d0, ds0, p0, q0, hargs, rfl, rfl, h0, r0⟩ := trodAll_cons hA
  obtain ⟨rfl, rfl, rfl⟩ := trodAll_nil r0
  obtain rfl : args = #[v0] := by cases args; simp_all
  obtain ⟨e0, rfl⟩ : ∃ d, gs = [d] := by obtain ⟨_, _, _, _, d, _, e, _⟩ := trodVars_one hV; exact ⟨d, e⟩
  have k0 := h0
  have lt0 : ∀ x ∈ p0, x.block < W.heap.size := by obtain ⟨m, hm⟩ := k0; exact DataW.trod_lt m _ _ _ hm
  obtain ⟨D0, w0⟩ := open_Check (hval 0 24 v0 rfl rfl) h0
  clear hA0 hval0
  try simp only [List.append_nil] at hW'
  refine (walk_FnExactCheckText v0 D0 w0 (w := W) (FnExactCheckText_of_laid hL)).mono fun e W' ⟨he, bel⟩ => ?_
  subst he
  exact ⟨_, rfl, _, _, _, [], _, _, hW', trodAll_mk1 (shut_bool Tryd.underlying4 _), (trodAll_cons_mk (Below.trod (show laidOutB Tryd.prog = true by kernel_rfl) (by kernel_rfl) (of_decide_eq_true (by kernel_rfl)) k0 bel lt0) trodAll_mk0), Below.trodVars (show laidOutB Tryd.prog = true by kernel_rfl) bel (by kernel_rfl) hV, bel.frame _, fun h => by cases h⟩

theorem fnExactCheckText_row : Rows.FnExactCheckTextSaid :=
  OpenClaim.holds_of_wide 4 Tryd.f4 rfl rfl rfl rfl rfl rfl rfl ⟨rfl, rfl, rfl, rfl, rfl⟩ rfl rfl rfl rfl rfl (by kernel_rfl) Tryd.func4 (by kernel_rfl)
    (of_decide_eq_true (by kernel_rfl)) (by unfold Func.isWrapper; first | (rw [if_pos (by decide +kernel)]; kernel_rfl) | (rw [if_neg (by decide +kernel)]; exact ⟨rfl, rfl⟩))
    (fun os started H enc _ => FnExactCheckText_lifted os started H enc)

/-- The given statement. -/
theorem fnExactCheckText_cardsaid : Rows.FnExactCheckTextCardSaid :=
  Claim7.holds_tied_plain_at .later [] [.handle, .data] true (true, "1c5fdd23e04797ec1be1640f4e246da4e6b544c758d353c22fab93e46c38ad80") true
    fnExactCheckText_row (fun _ h => by cases h) (by kernel_rfl) (fun _ h => by cases h) fnExactCheckText_row_tie rfl ⟨rfl, rfl⟩ (by kernel_rfl) rfl
    (fun f fn hf hfn => by
      obtain rfl : f = 4 := Option.some.inj ((show Tryd.prog.funcNamed "loop.example/g00287/laws.FnExactCheckText" = some 4 by kernel_rfl).symm.trans hf) |>.symm
      obtain rfl : fn = Tryd.f4 := (Option.some.inj (Tryd.func4.symm.trans hfn)).symm
      exact ⟨by kernel_rfl, fun j t ht => by
        rw [Tryd.params4] at ht
        have hm : t ∈ [24] := by simpa using Array.mem_of_getElem? ht
        have hall : ([24].all fun u => !Tryd.prog.wantsStandIn u) = true := by kernel_rfl
        exact (show Tryd.prog.wantsStandIn t = false by simpa using List.all_eq_true.1 hall t hm)⟩)
    (by kernel_rfl)
#print axioms fnExactCheckText_cardsaid

end Go.Proofs.YtmahicpheimnjaaDoor
