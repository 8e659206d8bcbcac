/- For every text, ReadCheck answers as its model; its answer owns its memory, and nothing that was there is changed. Its conditions: the variable of the library that errors.As reads and the table of the sums hold what the program's text lays there. -/
import Derived.Test.YtlnpegknjhbdnaaDoorJi
import Derived.Test.YtlnpegknjhbdnaaDoorJh
import Derived.Test.YtlnpegknjhbdnaaDoorTie
import Derived.Test.YtlnpegknjhbdnaaDoorCards
import Derived.ProofKit
import Derived.OpenShut
import Derived.LaidMore
import Derived.OpenVars
import Derived.Stop.Joined
import Derived.SevenTiedAt
import Derived.Below
namespace Go.Proofs.YtlnpegknjhbdnaaDoor
open Go.ChangeShapes Go.WideShapes Go.ChangeAt Go.RowKit
open Go.ChangeMaps (open_string shut_string)
set_option linter.unusedVariables false

theorem rkC_len (t : ByteArray) : (rkC t).refs.length ≤ 11 := by
  unfold rkC
  rcases h : rkO t with _ | c
  · exact Nat.zero_le _
  · exact (rkO_ok h).2.1.2

set_option maxRecDepth 100000 in
set_option maxHeartbeats 8000000 in
theorem walk0_FnExactReadCheck (t : ByteArray) (_hs : t.size ≤ maxLen) (W : World) (hts : ErrTab W ∧ SumTab W) :
    Calls Tryd.prog 3 #[.string t] W fun e w' => e = .returned (.bool true) ∧ Below W.heap.size W w' := by
  unfold maxLen at _hs
  by_cases h : t.size ≤ 1048576
  rotate_left
  · go_enter Tryd.func3, Tryd.ntmps3
    go_wp2
    go_ret
    exact ⟨rfl, Below.refl _ _⟩
  obtain ⟨ht, hs⟩ := hts
  have HT : Hid (∀ x, Below W.heap.size W x → ErrTab x ∧ SumTab x) := fun x hx => ⟨(hx.cell (p := ⟨0, 0, none⟩) (World.block_lt_of_cell? _ _ ht)).trans ht, hs.later hx⟩
  clear ht hs
  have hln := rkC_len t
  have HSP := Lib.hid (fun (x : World) => specReadCheck_any t x (by omega))
  have HIM := Lib.hid (fun (x : World) (hb : Below W.heap.size W x) => implReadCheck_any t x (HT.out x hb).1 (HT.out x hb).2 (by omega))
  unfold RkR at HSP
  generalize rkC t = C at HSP HIM hln
  generalize rkB t = A at HSP HIM
  obtain ⟨st, ng, ns, nv, rs⟩ := C
  have HEQ := Lib.hid (fun (x : World) (p p' : Option Addr) (q q' : Nat) (hx : Rows' rfE x (.slice p rs.length q) rs) (hx' : Rows' rfE x (.slice p' rs.length q') rs) (hn : rs.length ≤ 11) => eqCheck_same ⟨st, ng, ns, nv, rs⟩ p p' q q' x hx hx' (by show rs.length ≤ _; omega))
  have HMK := Lib.hid (fun (a : Option Addr) (cap B : Nat) (w0 x : World) (hx : RBuf rfE B w0 x (.slice a rs.length cap) rs) (hn : rs.length ≤ 11) => markCheck_put ⟨st, ng, ns, nv, rs⟩ a cap 1 B w0 x hx (by show 1 + 2 * rs.length ≤ _; omega))
  simp only at HSP HIM HEQ HMK hln
  obtain ⟨n, hn⟩ : ∃ n, rs.length = n := ⟨_, rfl⟩
  rw [hn] at HSP HIM HEQ HMK hln
  have HHD := Lib.hid (fun (a : Option Addr) (cap : Nat) (x : World) (hx : Rows' rfE x (.slice a n cap) (marksF2 1 n)) => heldCheck_any st ng ns nv n a cap 1 x hx (by omega))
  have HN := Lib.hid hln
  have hts : (t.size : Int) ≤ 1048576 := by omega
  have hAA : (A == A) = true := by simp
  clear hn
  obtain ⟨kz, hkz⟩ : ∃ kz : Nat, 1 + 2 * n = kz := ⟨_, rfl⟩
  rw [hkz] at HMK HHD
  have hkq : ¬ ((kz : Int) < 0) := by omega
  have j2 := Below.refl W.heap.size W
  clear hkz hln
  go_enter Tryd.func3, Tryd.ntmps3
  go_wp2_with fail
  refine (HSP.out W).mono ?_
  rintro e w3 ⟨aS, cS, rfl, RS⟩
  have j3 := RS.bel
  have lS : ∀ k, (Value.slice aS n cS).ownBlock = some k → k < w3.heap.size := fun k hk => (RS.own.lt k hk).2
  have BS := Box.new w3 #[.int .i64 st, .int .i64 ng, .int .i64 ns, .int .i64 nv, .slice aS n cS] 24
  have k4 := belNew w3 (.cells #[.int .i64 st, .int .i64 ng, .int .i64 ns, .int .i64 nv, .slice aS n cS] 24)
  have j4 := j3.trans (k4.mono j3.size)
  replace RS := RS.hereU k4
  have z4 : w3.heap.size < (w3.alloc (.cells #[.int .i64 st, .int .i64 ng, .int .i64 ns, .int .i64 nv, .slice aS n cS] 24)).heap.size := by simp
  clear j2 j3 k4
  go_wp2_with fail
  generalize w3.alloc (.cells #[.int .i64 st, .int .i64 ng, .int .i64 ns, .int .i64 nv, .slice aS n cS] 24) = w4 at BS j4 RS z4 ⊢
  obtain ⟨gS, hgS⟩ : ∃ g, w3.heap.size = g := ⟨_, rfl⟩
  rw [hgS] at BS z4 lS ⊢
  clear hgS
  refine (HIM.out w4 j4).mono ?_
  rintro e w5 ⟨aG, cG, rfl, RG⟩
  have k5 := RG.bel
  have j5 := j4.trans (k5.mono j4.size)
  have lG : ∀ k, (Value.slice aG n cG).ownBlock = some k → w4.heap.size ≤ k ∧ k < w5.heap.size := fun k hk => RG.own.lt k hk
  have BG := Box.new w5 #[.int .i64 st, .int .i64 ng, .int .i64 ns, .int .i64 nv, .slice aG n cG] 24
  have k6 := belNew w5 (.cells #[.int .i64 st, .int .i64 ng, .int .i64 ns, .int .i64 nv, .slice aG n cG] 24)
  have k46 := k5.trans (k6.mono k5.size)
  have j6 := j5.trans (k6.mono j5.size)
  replace RS := RS.hereU k46
  replace BS := BS.later k46
  replace RG := RG.hereU k6
  have z6 : w5.heap.size < (w5.alloc (.cells #[.int .i64 st, .int .i64 ng, .int .i64 ns, .int .i64 nv, .slice aG n cG] 24)).heap.size := by simp
  have z46 := k46.size
  have z45 := k5.size
  have hjW := j4.size
  clear j4 k5 j5 k6 k46
  obtain ⟨f00, f01, f02, f03, f04, _⟩ := BG.fiveC
  obtain ⟨f10, f11, f12, f13, f14, _⟩ := BS.fiveC
  go_wp2_with fail
  clear f00 f01 f02 f03 f04 f10 f11 f12 f13 f14
  generalize w5.alloc (.cells #[.int .i64 st, .int .i64 ng, .int .i64 ns, .int .i64 nv, .slice aG n cG] 24) = w6 at BG BS j6 RS RG z6 z46 ⊢
  obtain ⟨gG, hgG⟩ : ∃ g, w5.heap.size = g := ⟨_, rfl⟩
  rw [hgG] at BG z6 lG z45 ⊢
  clear hgG
  refine (HEQ.out _ _ _ _ _ RG.rows RS.rows HN.out).mono ?_
  rintro e w7 ⟨rfl, k7⟩
  have j7 := j6.trans (k7.mono j6.size)
  replace RS := RS.hereU k7
  replace RG := RG.hereU k7
  replace BS := BS.later k7
  replace BG := BG.later k7
  have z7 := k7.size
  clear j6 k7
  obtain ⟨f00, f01, f02, f03, f04, _⟩ := BG.fiveC
  go_wp2_with fail
  clear f00 f01 f02 f03 f04
  refine (HMK.out aG cG _ _ _ RG HN.out).mono ?_
  rintro e w8 ⟨rfl, RH, gr⟩
  have j8 := j7.grown gr j7.size (fun k hk => by have := (lG k hk).1; omega)
  replace BS := BS.butU gr (fun k hk => by have := (lG k hk).1; omega)
  replace BG := BG.butU gr (fun k hk => by have := (lG k hk).2; omega)
  have RS8 := RS.shift gr (by
    cases hv : (Value.slice aS n cS).ownBlock with
    | none => exact .inl rfl
    | some k => exact .inr fun e => by have := lS k hv; have := (lG k e.symm).1; omega)
  have RH8 := RH.here
  clear j7 RG RS RH gr
  obtain ⟨f00, f01, f02, f03, f04, _⟩ := BG.fiveC
  go_wp2_with fail
  clear f00 f01 f02 f03 f04
  refine (HHD.out _ _ _ RH8.rows).mono ?_
  rintro e w9 ⟨rfl, k9⟩
  have j9 := j8.trans (k9.mono j8.size)
  replace RS8 := RS8.hereU k9
  replace RH8 := RH8.hereU k9
  replace BS := BS.later k9
  replace BG := BG.later k9
  clear j8 k9
  go_wp2_with fail
  refine (HIM.out w9 j9).mono ?_
  rintro e w10 ⟨aE, cE, rfl, RE⟩
  have k10 := RE.bel
  have BE := Box.new w10 #[.int .i64 st, .int .i64 ng, .int .i64 ns, .int .i64 nv, .slice aE n cE] 24
  have k11 := belNew w10 (.cells #[.int .i64 st, .int .i64 ng, .int .i64 ns, .int .i64 nv, .slice aE n cE] 24)
  have k911 := k10.trans (k11.mono k10.size)
  have j11 := j9.trans (k911.mono j9.size)
  replace RS8 := RS8.hereU k911
  replace RH8 := RH8.hereU k911
  replace BS := BS.later k911
  replace BG := BG.later k911
  replace RE := RE.hereU k11
  clear j9 k10 k11 k911
  obtain ⟨f00, f01, f02, f03, f04, _⟩ := BE.fiveC
  obtain ⟨f10, f11, f12, f13, f14, _⟩ := BS.fiveC
  go_wp2_with fail
  clear f00 f01 f02 f03 f04 f10 f11 f12 f13 f14
  generalize w10.alloc (.cells #[.int .i64 st, .int .i64 ng, .int .i64 ns, .int .i64 nv, .slice aE n cE] 24) = w11 at BE BS BG j11 RS8 RH8 RE ⊢
  refine (HEQ.out _ _ _ _ _ RE.rows RS8.rows HN.out).mono ?_
  rintro e w12 ⟨rfl, k12⟩
  have j12 := j11.trans (k12.mono j11.size)
  replace RH8 := RH8.hereU k12
  replace BG := BG.later k12
  clear j11 k12 RS8 BS BE RE
  obtain ⟨f00, f01, f02, f03, f04, _⟩ := BG.fiveC
  go_wp2_with fail
  clear f00 f01 f02 f03 f04
  refine (HHD.out _ _ _ RH8.rows).mono ?_
  rintro e w13 ⟨rfl, k13⟩
  have bZ := j12.trans (k13.mono j12.size)
  go_wp2
  go_ret
  exact ⟨rfl, bZ⟩

theorem walk_FnExactReadCheck (t : ByteArray) (ht : t.size ≤ maxLen) (w : World) (htab : ErrTab w ∧ SumTab w) :
    Calls Tryd.prog 3 #[.string t] w fun e w' => e = .returned (.bool true) ∧ Below w.heap.size w w' := walk0_FnExactReadCheck t ht w htab

theorem FnExactReadCheck_of_laid {W : World} (h : laidMetH Tryd.prog Rows.fnExactReadCheckRow.laid W) : ErrTab W ∧ SumTab W := by
  have h' : laidMet Tryd.prog [("loop.example/g00287/impl.sumTable", Rows.laid_loop_example_g00287_impl_sumTable)] W ∧ handlesMet Tryd.prog [("errors.errorType", Rows.laid_errors_errorType)] W := h
  refine ⟨errTab_of_handles (List.mem_singleton.2 rfl) h'.2, sumTab_of_laid ?_⟩
  rw [MakeChecks.laidMetH_plain _ _ _ (by kernel_rfl)]
  exact h'.1

theorem FnExactReadCheck_own : ownKnob Tryd.prog.godebug = none := by kernel_rfl
theorem FnExactReadCheck_door (os : Os) (args : Array Value) : laidMetH Tryd.prog Rows.fnExactReadCheckRow.laid ((World.doorLaid Tryd.prog 400 os).forCall (fun _ _ => 0) ⟨#[], args, []⟩).memory :=
  laidMetH_of_parts3 (fuel := 8) (laidMet_of_run' 8 (by kernel_rfl) (by kernel_rfl)) (by kernel_rfl) (by kernel_rfl)

set_option maxRecDepth 100000 in
theorem FnExactReadCheck_lifted (os : Os) (started : os.Started) (H : Type) (enc : TypeId × Value → H) :
    ReturnsInHanded {} Tryd.checked os 3 .any (fun w args => (Rows.fnExactReadCheckSpec.pre enc Tryd.prog Tryd.f3 [] false w args ∧ laidMetH Tryd.prog Rows.fnExactReadCheckRow.laid w) ∧ sizedMet enc Tryd.prog Tryd.f3 (OpenSpec.ofChange Rows.fnExactReadCheckSpec) false w args)
      (Rows.fnExactReadCheckSpec.post enc Tryd.prog Tryd.f3 false true false false) := by
  refine returnsInHanded_of_change_and (C := Tryd.checked) (X := fun w _ => laidMetH Tryd.prog Rows.fnExactReadCheckRow.laid w) (fun _ _ _ hh h => h.of_heap hh) FnExactReadCheck_own started (by kernel_rfl) Tryd.func3
    (ChangeSpec.witness_shaped (enc := enc) (C := Tryd.checked) (os := os) (X := fun w _ => laidMetH Tryd.prog Rows.fnExactReadCheckRow.laid w) false (World.doorLaid Tryd.prog 400 os) #[.string ByteArray.empty] 8 rfl (World.shaped_of_RefB (by kernel_rfl) (by kernel_rfl)) (by kernel_rfl) (by kernel_rfl) (by kernel_rfl) (FnExactReadCheck_door os _)) ?_
  intro W base args ds gs before hval0 hW _ _ hL _
  have hval : ∀ (j : Nat) t v, Tryd.f3.params[j]? = some t → args[j]? = some v → Value.okWide Tryd.prog W .any base t v := hval0
  have hW' := hW
  obtain ⟨p, q, hA0, hV, rfl, hfz, hnd⟩ := hW
  have hA : DataW.TrodAll enc Tryd.prog W 0 (fun _ => true) true Tryd.f3.params.toList args.toList ds p := hA0
  rw [Tryd.params3] at hA hval
  obtain ⟨v0, vs0, d0, ds0, p0, q0, hargs, rfl, rfl, h0, r0⟩ := trodAll_cons hA
  obtain ⟨rfl, rfl, rfl⟩ := trodAll_nil r0
  obtain rfl : args = #[v0] := by cases args; simp_all
  obtain ⟨e0, rfl⟩ : ∃ d, gs = [d] := by obtain ⟨_, _, _, _, d, _, e, _⟩ := trodVars_one hV; exact ⟨d, e⟩
  obtain ⟨a0, rfl, rfl, rfl, w0⟩ := open_string Tryd.underlying9 (hval 0 9 v0 rfl rfl) h0
  clear hA0 hval0
  try simp only [List.append_nil] at hW'
  refine (walk_FnExactReadCheck a0 w0 (w := W) (FnExactReadCheck_of_laid hL)).mono fun e W' ⟨he, bel⟩ => ?_
  subst he
  exact ⟨_, rfl, _, _, _, [], _, _, hW', trodAll_mk1 (shut_bool Tryd.underlying4 _), (trodAll_cons_mk (shut_string Tryd.underlying9 w0) trodAll_mk0), Below.trodVars (show laidOutB Tryd.prog = true by kernel_rfl) bel (by kernel_rfl) hV, bel.frame _, fun h => by cases h⟩

theorem fnExactReadCheck_row : Rows.FnExactReadCheckSaid :=
  OpenClaim.holds_of_wide 3 Tryd.f3 rfl rfl rfl rfl rfl rfl rfl ⟨rfl, rfl, rfl, rfl, rfl⟩ rfl rfl rfl rfl rfl (by kernel_rfl) Tryd.func3 (by kernel_rfl)
    (of_decide_eq_true (by kernel_rfl)) (by unfold Func.isWrapper; first | (rw [if_pos (by decide +kernel)]; kernel_rfl) | (rw [if_neg (by decide +kernel)]; exact ⟨rfl, rfl⟩))
    (fun os started H enc _ => FnExactReadCheck_lifted os started H enc)

/-- The given statement. -/
theorem fnExactReadCheck_cardsaid : Rows.FnExactReadCheckCardSaid :=
  Claim7.holds_tied_plain_at .later [] [.handle, .data] true (true, "f2eaa8b5490eb76e957f955bd878faa113c4887d9cb673bd1179941197d7d1df") true
    fnExactReadCheck_row (fun _ h => by cases h) (by kernel_rfl) (fun _ h => by cases h) fnExactReadCheck_row_tie rfl ⟨rfl, rfl⟩ (by kernel_rfl) rfl
    (fun f fn hf hfn => by
      obtain rfl : f = 3 := Option.some.inj ((show Tryd.prog.funcNamed "loop.example/g00287/laws.FnExactReadCheck" = some 3 by kernel_rfl).symm.trans hf) |>.symm
      obtain rfl : fn = Tryd.f3 := (Option.some.inj (Tryd.func3.symm.trans hfn)).symm
      exact ⟨by kernel_rfl, fun j t ht => by
        rw [Tryd.params3] at ht
        have hm : t ∈ [9] := by simpa using Array.mem_of_getElem? ht
        have hall : ([9].all fun u => !Tryd.prog.wantsStandIn u) = true := by kernel_rfl
        exact (show Tryd.prog.wantsStandIn t = false by simpa using List.all_eq_true.1 hall t hm)⟩)
    (by kernel_rfl)
#print axioms fnExactReadCheck_cardsaid

end Go.Proofs.YtlnpegknjhbdnaaDoor
