/- For every store, LiveBytes answers as its model; it writes into no argument, and nothing that was there is changed; where the table of sixteen words holds what the program's text lays there (the card ties that to the text). -/
import Derived.Test.YtlifgcgoehkinaaGreatDoorJh
import Derived.Test.YtlifgcgoehkinaaGreatDoorJqx
import Derived.Test.YtlifgcgoehkinaaGreatDoorJrx
import Derived.Test.YtlifgcgoehkinaaGreatDoorTie
import Derived.Test.YtlifgcgoehkinaaGreatDoorCards
import Derived.ProofKit
import Derived.OpenShut
import Derived.LaidMore
import Derived.OpenVars
import Derived.Stop.Joined
import Derived.SevenTiedAt
import Derived.Below
namespace Go.Proofs.YtlifgcgoehkinaaGreatDoor
open Go.ChangeShapes Go.WideShapes Go.ChangeAt Go.RowKit
open Go.ChangeMaps (open_string shut_string)
set_option linter.unusedVariables false

set_option maxRecDepth 100000 in
set_option maxHeartbeats 8000000 in
theorem walk_FnExactLiveBytes (v : Value) (S : So) {w : World} (h : SoIn w v S) (htab : SumTab w) :
    Calls Tryz.prog 3 #[v] w fun e w' => e = .returned (.bool true) ∧ Below w.heap.size w w' := by
  obtain ⟨va, vb, vu, vf, rfl, _⟩ := id h
  have q0 := Box.new w #[va, vb, .int .i64 S.g.segs, vu, .int .i64 S.g.ng, .int .i64 S.g.ns, .int .i64 S.g.st, .int .i64 S.g.nv, vf] 31
  have b0 := belNew w (.cells #[va, vb, .int .i64 S.g.segs, vu, .int .i64 S.g.ng, .int .i64 S.g.ns, .int .i64 S.g.st, .int .i64 S.g.nv, vf] 31)
  have HC : Hid (∀ x, Below (w.alloc (.cells #[va, vb, .int .i64 S.g.segs, vu, .int .i64 S.g.ng, .int .i64 S.g.ns, .int .i64 S.g.st, .int .i64 S.g.nv, vf] 31)).heap.size (w.alloc (.cells #[va, vb, .int .i64 S.g.segs, vu, .int .i64 S.g.ng, .int .i64 S.g.ns, .int .i64 S.g.st, .int .i64 S.g.nv, vf] 31)) x → Box x w.heap.size #[va, vb, .int .i64 S.g.segs, vu, .int .i64 S.g.ng, .int .i64 S.g.ns, .int .i64 S.g.st, .int .i64 S.g.nv, vf] 31 ∧ SoIn x (.agg #[va, vb, .int .i64 S.g.segs, vu, .int .i64 S.g.ng, .int .i64 S.g.ns, .int .i64 S.g.st, .int .i64 S.g.nv, vf]) S ∧ Below w.heap.size w x) := fun x hx => by
    have h' := b0.trans (hx.mono b0.size)
    exact ⟨q0.later hx, h.later h', h'⟩
  have HTB : Hid (∀ x, Below w.heap.size w x → SumTab x) := fun x hx => htab.later hx
  have HSZ := Lib.hid (szStore_any S _ 1048576 _ (h.later b0) (by omega) (by omega))
  have ZW0 : Hid (w.heap.size < (w.alloc (.cells #[va, vb, .int .i64 S.g.segs, vu, .int .i64 S.g.ng, .int .i64 S.g.ns, .int .i64 S.g.st, .int .i64 S.g.nv, vf] 31)).heap.size) := by show _ < _; simp
  clear q0 h b0 htab
  go_enter Tryz.func3, Tryz.ntmps3
  go_wp2_with fail
  generalize w.alloc (.cells #[va, vb, .int .i64 S.g.segs, vu, .int .i64 S.g.ng, .int .i64 S.g.ns, .int .i64 S.g.st, .int .i64 S.g.nv, vf] 31) = W at HC HSZ ZW0 ⊢
  refine HSZ.out.mono ?_
  rintro e w2 ⟨⟨r, rfl, _, hr⟩, j2⟩
  clear HSZ
  by_cases hneg : r < 0
  · have b2 := (HC.out _ j2).2.2
    clear hr
    go_wp2
    go_ret
    exact ⟨rfl, b2⟩
  have hL := Lib.hid (hr (by omega))
  clear hr
  obtain ⟨hsm, hun, hum, huk, hdc⟩ : S.g.d.small ∧ S.g.used.length ≤ 1048576 ∧ (∀ b ∈ S.g.used, b.items.length ≤ 1099511627776) ∧ S.g.kL 1 ≤ 40000000 ∧ S.g.d.count ≤ 4000000 := S.g.lean_small hL.out.1
  have hfl : S.fr.length ≤ 1048576 := hL.out.2
  have HUM := Lib.hid hum
  have ZW : Hid (W.heap.size ≤ w2.heap.size ∧ w.heap.size < W.heap.size) := ⟨j2.size, ZW0.out⟩
  clear hum ZW0 huk hdc
  obtain ⟨N, hN⟩ : ∃ N, lbO S = N := ⟨_, rfl⟩
  have HSP : Hid (∀ (va : Value) (x : World), SoRd x va S → Calls Tryz.prog 5 #[va] x fun e w' => e = .returned (.int .i64 N) ∧ Below x.heap.size x w') := by
    rw [← hN]
    exact fun va x hx => specLiveBytes_any S va x hx hL.out
  have HIM : Hid (∀ (va : Value) (x : World), SoRd x va S → SumTab x → Calls Tryz.prog 7 #[va] x fun e w' => e = .returned (.int .i64 N) ∧ Below x.heap.size x w') := by
    rw [← hN]
    exact fun va x hx ht => implLiveBytes_any S va x hx hL.out ht
  clear hN
  obtain ⟨xa, la, _⟩ := HC.out _ j2
  obtain ⟨⟨h0, h1, h2, h3, h4, h5, h6, h7, h8⟩, _⟩ := xa.nineL
  clear xa
  go_wp2_with fail
  clear h0 h1 h2 h3 h4 h5 h6 h7 h8
  refine (toStore_any S _ _ la hL.out).mono ?_
  rintro e w3 ⟨vA, rfl, A, k3⟩
  clear la
  have j3 := j2.trans (k3.mono j2.size)
  have Z3 : Hid (w2.heap.size ≤ w3.heap.size) := k3.size
  clear j2
  clear k3
  obtain ⟨aA1, aA2, aA3, aA4, cA1, cA2, cA3, cA4, rfl⟩ := A.form
  go_wp2_with fail
  refine (HSP.out _ _ A.rd).mono ?_
  rintro e w4 ⟨rfl, k4⟩
  have j4 := j3.trans (k4.mono j3.size)
  have Z4 : Hid (w3.heap.size ≤ w4.heap.size) := k4.size
  replace A := A.later k4
  clear j3
  clear k4
  clear A
  obtain ⟨xa, la, _⟩ := HC.out _ j4
  obtain ⟨⟨h0, h1, h2, h3, h4, h5, h6, h7, h8⟩, _⟩ := xa.nineL
  clear xa
  go_wp2_with fail
  clear h0 h1 h2 h3 h4 h5 h6 h7 h8
  refine (toStore_any S _ _ la hL.out).mono ?_
  rintro e w5 ⟨vX, rfl, X, k5⟩
  clear la
  have j5 := j4.trans (k5.mono j4.size)
  have Z5 : Hid (w4.heap.size ≤ w5.heap.size) := k5.size
  clear j4
  clear k5
  obtain ⟨aX1, aX2, aX3, aX4, cX1, cX2, cX3, cX4, rfl⟩ := X.form
  have k6 := belNew w5 (.cells #[.slice aX1 S.g.d.sec.length cX1, .slice aX2 S.g.d.cache.length cX2, .int .i64 S.g.segs, .slice aX3 S.g.used.length cX3, .int .i64 S.g.ng, .int .i64 S.g.ns, .int .i64 S.g.st, .int .i64 S.g.nv, .slice aX4 S.fr.length cX4] 41)
  have BX := Box.new w5 #[.slice aX1 S.g.d.sec.length cX1, .slice aX2 S.g.d.cache.length cX2, .int .i64 S.g.segs, .slice aX3 S.g.used.length cX3, .int .i64 S.g.ng, .int .i64 S.g.ns, .int .i64 S.g.st, .int .i64 S.g.nv, .slice aX4 S.fr.length cX4] 41
  obtain ⟨w6, hw6⟩ : ∃ x, w5.alloc (.cells #[.slice aX1 S.g.d.sec.length cX1, .slice aX2 S.g.d.cache.length cX2, .int .i64 S.g.segs, .slice aX3 S.g.used.length cX3, .int .i64 S.g.ng, .int .i64 S.g.ns, .int .i64 S.g.st, .int .i64 S.g.nv, .slice aX4 S.fr.length cX4] 41) = x := ⟨_, rfl⟩
  rw [hw6] at k6 BX
  have HW6 := Lib.hid hw6
  have ZB6 : Hid (w5.heap.size < w6.heap.size) := by show _ < _; rw [← hw6]; simp
  clear hw6
  have j6 := j5.trans (k6.mono j5.size)
  have Z6 : Hid (w5.heap.size ≤ w6.heap.size) := k6.size
  replace X := X.later k6
  clear j5
  clear k6
  go_upto_region 7 with fail
  rw [HW6.out]
  obtain ⟨⟨h0, h1, h2, h3, h4, h5, h6, h7, h8⟩, _⟩ := BX.nineL
  have hta := HTB.out _ (HC.out _ j6).2.2
  go_wp2_with fail
  clear h0 h1 h2 h3 h4 h5 h6 h7 h8
  refine (HIM.out _ _ X.rd hta).mono ?_
  rintro e w7 ⟨rfl, k7⟩
  have j7 := j6.trans (k7.mono j6.size)
  have Z7 : Hid (w6.heap.size ≤ w7.heap.size) := k7.size
  replace X := X.later k7
  replace BX := BX.later k7
  clear j6
  clear k7
  clear hta
  have HS : Hid (∀ x, Below w7.drew.heap.size w7.drew x → ((x.cell? ⟨w.heap.size, 0, none⟩ = some (va) ∧ x.cell? ⟨w.heap.size, 1, none⟩ = some (vb) ∧ x.cell? ⟨w.heap.size, 2, none⟩ = some (.int .i64 S.g.segs) ∧ x.cell? ⟨w.heap.size, 3, none⟩ = some (vu) ∧ x.cell? ⟨w.heap.size, 4, none⟩ = some (.int .i64 S.g.ng) ∧ x.cell? ⟨w.heap.size, 5, none⟩ = some (.int .i64 S.g.ns) ∧ x.cell? ⟨w.heap.size, 6, none⟩ = some (.int .i64 S.g.st) ∧ x.cell? ⟨w.heap.size, 7, none⟩ = some (.int .i64 S.g.nv) ∧ x.cell? ⟨w.heap.size, 8, none⟩ = some (vf)) ∧ (x.cell? ⟨w5.heap.size, 0, none⟩ = some (.slice aX1 S.g.d.sec.length cX1) ∧ x.cell? ⟨w5.heap.size, 1, none⟩ = some (.slice aX2 S.g.d.cache.length cX2) ∧ x.cell? ⟨w5.heap.size, 2, none⟩ = some (.int .i64 S.g.segs) ∧ x.cell? ⟨w5.heap.size, 3, none⟩ = some (.slice aX3 S.g.used.length cX3) ∧ x.cell? ⟨w5.heap.size, 4, none⟩ = some (.int .i64 S.g.ng) ∧ x.cell? ⟨w5.heap.size, 5, none⟩ = some (.int .i64 S.g.ns) ∧ x.cell? ⟨w5.heap.size, 6, none⟩ = some (.int .i64 S.g.st) ∧ x.cell? ⟨w5.heap.size, 7, none⟩ = some (.int .i64 S.g.nv) ∧ x.cell? ⟨w5.heap.size, 8, none⟩ = some (.slice aX4 S.fr.length cX4))) ∧ SoO w4.heap.size w5.heap.size x (.agg #[.slice aX1 S.g.d.sec.length cX1, .slice aX2 S.g.d.cache.length cX2, .int .i64 S.g.segs, .slice aX3 S.g.used.length cX3, .int .i64 S.g.ng, .int .i64 S.g.ns, .int .i64 S.g.st, .int .i64 S.g.nv, .slice aX4 S.fr.length cX4]) S ∧ Below w7.heap.size w7 x) := by
    intro x hx
    have hx2 : Below w7.heap.size w7 x := ((Below.refl w7.heap.size w7).drew).trans hx
    obtain ⟨⟨u0, u1, u2, u3, u4, u5, u6, u7, u8⟩, _⟩ := (HC.out _ (j7.trans (hx2.mono j7.size))).1.nineL
    obtain ⟨⟨t0, t1, t2, t3, t4, t5, t6, t7, t8⟩, _⟩ := (BX.later hx2).nineL
    exact ⟨⟨⟨u0, u1, u2, u3, u4, u5, u6, u7, u8⟩, ⟨t0, t1, t2, t3, t4, t5, t6, t7, t8⟩⟩, X.later hx2, hx2⟩
  have la := (HC.out _ (j7.drew)).2.1
  go_upto_region 10 with fail
  go_cut [26] (fun c wx => c = .bool false ∧ ∃ y, y = wx ∧ Below w7.heap.size w7 y)
  case first =>
    clear j7 X BX
    go_region_held3 (fun x => (x.cell? ⟨w.heap.size, 0, none⟩ = some (va) ∧ x.cell? ⟨w.heap.size, 1, none⟩ = some (vb) ∧ x.cell? ⟨w.heap.size, 2, none⟩ = some (.int .i64 S.g.segs) ∧ x.cell? ⟨w.heap.size, 3, none⟩ = some (vu) ∧ x.cell? ⟨w.heap.size, 4, none⟩ = some (.int .i64 S.g.ng) ∧ x.cell? ⟨w.heap.size, 5, none⟩ = some (.int .i64 S.g.ns) ∧ x.cell? ⟨w.heap.size, 6, none⟩ = some (.int .i64 S.g.st) ∧ x.cell? ⟨w.heap.size, 7, none⟩ = some (.int .i64 S.g.nv) ∧ x.cell? ⟨w.heap.size, 8, none⟩ = some (vf)) ∧ (x.cell? ⟨w5.heap.size, 0, none⟩ = some (.slice aX1 S.g.d.sec.length cX1) ∧ x.cell? ⟨w5.heap.size, 1, none⟩ = some (.slice aX2 S.g.d.cache.length cX2) ∧ x.cell? ⟨w5.heap.size, 2, none⟩ = some (.int .i64 S.g.segs) ∧ x.cell? ⟨w5.heap.size, 3, none⟩ = some (.slice aX3 S.g.used.length cX3) ∧ x.cell? ⟨w5.heap.size, 4, none⟩ = some (.int .i64 S.g.ng) ∧ x.cell? ⟨w5.heap.size, 5, none⟩ = some (.int .i64 S.g.ns) ∧ x.cell? ⟨w5.heap.size, 6, none⟩ = some (.int .i64 S.g.st) ∧ x.cell? ⟨w5.heap.size, 7, none⟩ = some (.int .i64 S.g.nv) ∧ x.cell? ⟨w5.heap.size, 8, none⟩ = some (.slice aX4 S.fr.length cX4)))
      (first | exact (HS.out _ (Below.refl _ _)).1 | (exact (HS.out _ kX).1) | (exact (HS.out _ kY).1))
      (first
        | (go_at_call 6; refine (toStore_any S _ _ la hL.out).mono ?_; rintro e wX ⟨v9, rfl, o9, kX⟩)
        | (go_at_call 8; refine (eqStore_same S _ _ _ (HS.out _ kX).2.1.rd o9.rd hsm (by omega) HUM.out (by omega)).mono ?_; rintro e wY ⟨rfl, kY'⟩; have kY := kX.trans (kY'.mono kX.size)))
    all_goals
      have bZ := (HS.out _ kY).2.2
      go_wp2_with fail
      go_meet
      exact ⟨rfl, _, rfl, bZ⟩
  case rest =>
  obtain ⟨rfl, w8, hwr, k8⟩ := hcut
  clear HS la
  subst hwr
  have j8 := j7.trans (k8.mono j7.size)
  have Z8 : Hid (w7.heap.size ≤ w8.heap.size) := k8.size
  replace X := X.later k8
  replace BX := BX.later k8
  clear j7
  clear k8
  have bZ := (HC.out _ j8).2.2
  go_wp2
  go_ret
  exact ⟨rfl, bZ⟩

theorem FnExactLiveBytes_of_laid {W : World} (h : laidMetH Tryz.prog Rows.fnExactLiveBytesRow.laid W) : SumTab W := sumTab_of_laid h

theorem FnExactLiveBytes_own : ownKnob Tryz.prog.godebug = none := by kernel_rfl
theorem FnExactLiveBytes_door (os : Os) (args : Array Value) : laidMetH Tryz.prog Rows.fnExactLiveBytesRow.laid ((World.doorLaid Tryz.prog 400 os).forCall (fun _ _ => 0) ⟨#[], args, []⟩).memory :=
  laidMetH_of_parts3 (fuel := 8) (laidMet_of_run' 8 (by kernel_rfl) (by kernel_rfl)) (by kernel_rfl) (by kernel_rfl)

set_option maxRecDepth 100000 in
theorem FnExactLiveBytes_lifted (os : Os) (started : os.Started) (H : Type) (enc : TypeId × Value → H) :
    ReturnsInHanded {} Tryz.checked os 3 .any (fun w args => (Rows.fnExactLiveBytesSpec.pre enc Tryz.prog Tryz.f3 [] false w args ∧ laidMetH Tryz.prog Rows.fnExactLiveBytesRow.laid w) ∧ sizedMet enc Tryz.prog Tryz.f3 (OpenSpec.ofChange Rows.fnExactLiveBytesSpec) false w args)
      (Rows.fnExactLiveBytesSpec.post enc Tryz.prog Tryz.f3 false true false false) := by
  refine returnsInHanded_of_change_and (C := Tryz.checked) (X := fun w _ => laidMetH Tryz.prog Rows.fnExactLiveBytesRow.laid w) (fun _ _ _ hh h => h.of_heap hh) FnExactLiveBytes_own started (by kernel_rfl) Tryz.func3
    (ChangeSpec.witness_shaped (enc := enc) (C := Tryz.checked) (os := os) (X := fun w _ => laidMetH Tryz.prog Rows.fnExactLiveBytesRow.laid w) false (World.doorLaid Tryz.prog 400 os) #[.agg #[.slice none 0 0, .slice none 0 0, .int .i64 0, .slice none 0 0, .int .i64 0, .int .i64 0, .int .i64 0, .int .i64 0, .slice none 0 0]] 8 rfl (World.shaped_of_RefB (by kernel_rfl) (by kernel_rfl)) (by kernel_rfl) (by kernel_rfl) (by kernel_rfl) (FnExactLiveBytes_door os _)) ?_
  intro W base args ds gs before hval0 hW _ _ hL _
  have hval : ∀ (j : Nat) t v, Tryz.f3.params[j]? = some t → args[j]? = some v → Value.okWide Tryz.prog W .any base t v := hval0
  have hW' := hW
  obtain ⟨p, q, hA0, hV, rfl, hfz, hnd⟩ := hW
  have hA : DataW.TrodAll enc Tryz.prog W 0 (fun _ => true) true Tryz.f3.params.toList args.toList ds p := hA0
  rw [Tryz.params3] at hA hval
  obtain ⟨v0, vs0, d0, ds0, p0, q0, hargs, rfl, rfl, h0, r0⟩ := trodAll_cons hA
  obtain ⟨rfl, rfl, rfl⟩ := trodAll_nil r0
  obtain rfl : args = #[v0] := by cases args; simp_all
  obtain ⟨e0, rfl⟩ : ∃ d, gs = [d] := by obtain ⟨_, _, _, _, d, _, e, _⟩ := trodVars_one hV; exact ⟨d, e⟩
  have k0 := h0
  have lt0 : ∀ x ∈ p0, x.block < W.heap.size := by obtain ⟨m, hm⟩ := k0; exact DataW.trod_lt m _ _ _ hm
  obtain ⟨D0, w0⟩ := open_Store (hval 0 31 v0 rfl rfl) h0
  clear hA0 hval0
  try simp only [List.append_nil] at hW'
  refine (walk_FnExactLiveBytes v0 D0 w0 (w := W) (FnExactLiveBytes_of_laid hL)).mono fun e W' ⟨he, bel⟩ => ?_
  subst he
  exact ⟨_, rfl, _, _, _, [], _, _, hW', trodAll_mk1 (shut_bool Tryz.underlying4 _), (trodAll_cons_mk (Below.trod (show laidOutB Tryz.prog = true by kernel_rfl) (by kernel_rfl) (of_decide_eq_true (by kernel_rfl)) k0 bel lt0) trodAll_mk0), Below.trodVars (show laidOutB Tryz.prog = true by kernel_rfl) bel (by kernel_rfl) hV, bel.frame _, fun h => by cases h⟩

theorem fnExactLiveBytes_row : Rows.FnExactLiveBytesSaid :=
  OpenClaim.holds_of_wide 3 Tryz.f3 rfl rfl rfl rfl rfl rfl rfl ⟨rfl, rfl, rfl, rfl, rfl⟩ rfl rfl rfl rfl rfl (by kernel_rfl) Tryz.func3 (by kernel_rfl)
    (of_decide_eq_true (by kernel_rfl)) (by unfold Func.isWrapper; first | (rw [if_pos (by decide +kernel)]; kernel_rfl) | (rw [if_neg (by decide +kernel)]; exact ⟨rfl, rfl⟩))
    (fun os started H enc _ => FnExactLiveBytes_lifted os started H enc)

/-- The given statement. -/
theorem fnExactLiveBytes_cardsaid : Rows.FnExactLiveBytesCardSaid :=
  Claim7.holds_tied_plain_at .later [] [.data] true (true, "f471d72aac90195d314615a92a161117ff3dd3ab17b4edc2bb4baffd50ff6861") true
    fnExactLiveBytes_row (fun _ h => by cases h) (by kernel_rfl) (fun _ h => by cases h) fnExactLiveBytes_row_tie rfl ⟨rfl, rfl⟩ (by kernel_rfl) rfl
    (fun f fn hf hfn => by
      obtain rfl : f = 3 := Option.some.inj ((show Tryz.prog.funcNamed "loop.example/g00287/laws.FnExactLiveBytes" = some 3 by kernel_rfl).symm.trans hf) |>.symm
      obtain rfl : fn = Tryz.f3 := (Option.some.inj (Tryz.func3.symm.trans hfn)).symm
      exact ⟨by kernel_rfl, fun j t ht => by
        rw [Tryz.params3] at ht
        have hm : t ∈ [31] := by simpa using Array.mem_of_getElem? ht
        have hall : ([31].all fun u => !Tryz.prog.wantsStandIn u) = true := by kernel_rfl
        exact (show Tryz.prog.wantsStandIn t = false by simpa using List.all_eq_true.1 hall t hm)⟩)
    (by kernel_rfl)
#print axioms fnExactLiveBytes_cardsaid

end Go.Proofs.YtlifgcgoehkinaaGreatDoor
