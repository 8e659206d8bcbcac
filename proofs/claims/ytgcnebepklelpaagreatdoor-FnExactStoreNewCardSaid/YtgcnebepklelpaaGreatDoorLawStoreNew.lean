/- For every number, StoreNew answers as its model, every field; its answer owns its memory, and nothing that was there is changed. Its conditions: the variable of the library that errors.As reads and the table of the sums hold what the program's text lays there (the card ties both to the text). -/
import Derived.Test.YtgcnebepklelpaaGreatDoorJs
import Derived.Test.YtgcnebepklelpaaGreatDoorJt
import Derived.Test.YtgcnebepklelpaaGreatDoorTie
import Derived.Test.YtgcnebepklelpaaGreatDoorCards
import Derived.ProofKit
import Derived.OpenShut
import Derived.LaidMore
import Derived.OpenVars
import Derived.Stop.Joined
import Derived.SevenTiedAt
import Derived.Below
namespace Go.Proofs.YtgcnebepklelpaaGreatDoor
open Go.ChangeShapes Go.WideShapes Go.ChangeAt Go.RowKit
open Go.ChangeMaps (open_string shut_string)
set_option linter.unusedVariables false

theorem Box.nineO {w : World} {b : Nat} {u0 u1 u2 u3 u4 u5 u6 u7 u8 : Value} {t : TypeId} (h : Box w b #[u0, u1, u2, u3, u4, u5, u6, u7, u8] t) : w.cell? ⟨b, 0, none⟩ = some u0 ∧ w.cell? ⟨b, 1, none⟩ = some u1 ∧ w.cell? ⟨b, 2, none⟩ = some u2 ∧ w.cell? ⟨b, 3, none⟩ = some u3 ∧ w.cell? ⟨b, 4, none⟩ = some u4 ∧ w.cell? ⟨b, 5, none⟩ = some u5 ∧ w.cell? ⟨b, 6, none⟩ = some u6 ∧ w.cell? ⟨b, 7, none⟩ = some u7 ∧ w.cell? ⟨b, 8, none⟩ = some u8 := h.nineL.1

set_option maxRecDepth 100000 in
set_option maxHeartbeats 8000000 in
theorem walk_FnExactStoreNew (a : Int) (ha : -9223372036854775808 ≤ a ∧ a ≤ 9223372036854775807) (w : World) (hts : ErrTab w ∧ SumTab w) :
    Calls Tryz.prog 3 #[.int .i64 a] w fun e w' => e = .returned (.bool true) ∧ Below w.heap.size w w' := by
  have HT : Hid (∀ x, Below w.heap.size w x → ErrTab x ∧ SumTab x) := fun x hx => ⟨(hx.cell (p := ⟨0, 0, none⟩) (World.block_lt_of_cell? _ _ hts.1)).trans hts.1, hts.2.later hx⟩
  obtain ⟨h1, h2, h3, h4⟩ := fmO_small a
  have HSP := Lib.hid (fun x => specStoreNew_any a x ha)
  have HIM := Lib.hid (fun x hx => implStoreNew_any a x ha (HT.out x hx).2 (HT.out x hx).1)
  obtain ⟨O, hO⟩ : ∃ O, fmO a = O := ⟨_, rfl⟩
  rw [hO] at h1 h2 h3 h4 HSP HIM
  clear hO hts
  obtain ⟨L, hL⟩ : ∃ L, O.getD lg0 = L := ⟨_, rfl⟩
  obtain ⟨F, hF⟩ : ∃ F, O.isSome = F := ⟨_, rfl⟩
  unfold SnR at HSP HIM
  rw [hL] at h1 h2 h3 h4 HSP HIM
  rw [hF] at HSP HIM
  clear hL hF
  have hFF : (F != F) = false := by cases F <;> rfl
  have hk0 : (So.mk L []).kS 1 = L.kL 1 := rfl
  have HEQ := Lib.hid (fun v1 v2 x p q => eqStore_same ⟨L, []⟩ v1 v2 x p q h1 h2 h3 (by simp))
  have HMK := Lib.hid (fun v B T x p => markStore_any ⟨L, []⟩ v 1 B T x p (by omega) (by omega) h2)
  have HHD := Lib.hid (fun v x p => heldStore_any ⟨L, []⟩ v 1 x p (by omega) (by omega) h2)
  rw [hk0] at HMK HHD
  obtain ⟨kl, hkl⟩ : ∃ kl : Nat, L.kL 1 = kl := ⟨_, rfl⟩
  rw [hkl] at HMK HHD h4
  have hkn : ¬ ((kl : Int) < 0) := by omega
  clear hkl h1 h2 h3 hk0
  go_enter Tryz.func3, Tryz.ntmps3
  go_wp2_with fail
  refine (HSP.out _).mono ?_
  rintro e w1 ⟨v1, f1, rfl, o1, hf1, k1⟩
  subst hf1
  obtain ⟨a1, a2, a3, a4, c1, c2, c3, c4, rfl⟩ := o1.form
  have k2 := belNew w1 (.cells #[.slice a1 L.d.sec.length c1, .slice a2 L.d.cache.length c2, .int .i64 L.segs, .slice a3 L.used.length c3, .int .i64 L.ng, .int .i64 L.ns, .int .i64 L.st, .int .i64 L.nv, .slice a4 0 c4] 31)
  have SB1 := Box.new w1 #[.slice a1 L.d.sec.length c1, .slice a2 L.d.cache.length c2, .int .i64 L.segs, .slice a3 L.used.length c3, .int .i64 L.ng, .int .i64 L.ns, .int .i64 L.st, .int .i64 L.nv, .slice a4 0 c4] 31
  have j2 := k1.trans (k2.mono k1.size)
  have OS := o1.later k2
  have hz1 : Hid (w.heap.size ≤ w1.heap.size ∧ w1.heap.size < (w1.alloc (.cells #[.slice a1 L.d.sec.length c1, .slice a2 L.d.cache.length c2, .int .i64 L.segs, .slice a3 L.used.length c3, .int .i64 L.ng, .int .i64 L.ns, .int .i64 L.st, .int .i64 L.nv, .slice a4 0 c4] 31)).heap.size) := ⟨k1.size, by simp⟩
  clear k1 k2 o1 HSP
  go_upto_region 2 with fail
  generalize w1.alloc (.cells #[.slice a1 L.d.sec.length c1, .slice a2 L.d.cache.length c2, .int .i64 L.segs, .slice a3 L.used.length c3, .int .i64 L.ng, .int .i64 L.ns, .int .i64 L.st, .int .i64 L.nv, .slice a4 0 c4] 31) = w2 at SB1 j2 OS hz1 ⊢
  generalize w1.heap.size = g1 at SB1 hz1 OS ⊢
  go_wp2_with fail
  refine (HIM.out _ j2).mono ?_
  rintro e w3 ⟨v3, f3, rfl, o3, hf3, k3⟩
  subst hf3
  obtain ⟨b1, b2, b3, b4, d1, d2, d3, d4, rfl⟩ := o3.form
  have k4 := belNew w3 (.cells #[.slice b1 L.d.sec.length d1, .slice b2 L.d.cache.length d2, .int .i64 L.segs, .slice b3 L.used.length d3, .int .i64 L.ng, .int .i64 L.ns, .int .i64 L.st, .int .i64 L.nv, .slice b4 0 d4] 31)
  have GB := Box.new w3 #[.slice b1 L.d.sec.length d1, .slice b2 L.d.cache.length d2, .int .i64 L.segs, .slice b3 L.used.length d3, .int .i64 L.ng, .int .i64 L.ns, .int .i64 L.st, .int .i64 L.nv, .slice b4 0 d4] 31
  have k34 := k3.trans (k4.mono k3.size)
  have j4 := j2.trans (k34.mono j2.size)
  have OG := o3.later k4
  replace OS := OS.later k34
  replace SB1 := SB1.later k34
  have hz3 : Hid (w2.heap.size ≤ w3.heap.size) := k3.size
  clear k3 k4 k34 o3 j2
  obtain ⟨s0, s1, s2, s3, s4, s5, s6, s7, s8⟩ := SB1.nineO
  obtain ⟨t0, t1, t2, t3, t4, t5, t6, t7, t8⟩ := GB.nineO
  go_upto_region 3 with fail
  generalize w3.alloc (.cells #[.slice b1 L.d.sec.length d1, .slice b2 L.d.cache.length d2, .int .i64 L.segs, .slice b3 L.used.length d3, .int .i64 L.ng, .int .i64 L.ns, .int .i64 L.st, .int .i64 L.nv, .slice b4 0 d4] 31) = w4 at SB1 GB j4 OS OG s0 s1 s2 s3 s4 s5 s6 s7 s8 t0 t1 t2 t3 t4 t5 t6 t7 t8 ⊢
  generalize w3.heap.size = g3 at GB OG hz3 t0 t1 t2 t3 t4 t5 t6 t7 t8 ⊢
  go_wp2_with fail
  clear s0 s1 s2 s3 s4 s5 s6 s7 s8 t0 t1 t2 t3 t4 t5 t6 t7 t8
  refine (HEQ.out _ _ _ OG.rd OS.rd).mono ?_
  rintro e w5 ⟨rfl, k5⟩
  have j5 := j4.trans (k5.mono j4.size)
  replace OS := OS.later k5
  replace SB1 := SB1.later k5
  replace OG := OG.later k5
  replace GB := GB.later k5
  obtain ⟨t0, t1, t2, t3, t4, t5, t6, t7, t8⟩ := GB.nineO
  clear k5 j4
  go_wp2_with fail
  clear t0 t1 t2 t3 t4 t5 t6 t7 t8
  refine (HMK.out _ _ _ _ OG).mono ?_
  rintro e w6 ⟨rfl, OM, k6⟩
  have j6 := k6.below j5 (by have := hz1.out; omega) j5.size
  replace OS := OS.kept k6 (by have := hz1.out; omega)
  replace SB1 := SB1.kept k6 (by have := hz1.out; omega)
  replace GB := GB.kept k6 (by have := hz3.out; omega)
  obtain ⟨t0, t1, t2, t3, t4, t5, t6, t7, t8⟩ := GB.nineO
  clear k6 j5 OG HMK
  go_wp2_with fail
  clear t0 t1 t2 t3 t4 t5 t6 t7 t8
  refine (HHD.out _ _ OM.rd).mono ?_
  rintro e w7 ⟨rfl, k7⟩
  have j7 := j6.trans (k7.mono j6.size)
  replace OS := OS.later k7
  replace SB1 := SB1.later k7
  replace OM := OM.later k7
  replace GB := GB.later k7
  clear k7 j6
  go_wp2_with fail
  refine (HIM.out _ j7).mono ?_
  rintro e w8 ⟨v8, f8, rfl, o8, hf8, k8⟩
  subst hf8
  obtain ⟨p1, p2, p3, p4, q1, q2, q3, q4, rfl⟩ := o8.form
  have k9 := belNew w8 (.cells #[.slice p1 L.d.sec.length q1, .slice p2 L.d.cache.length q2, .int .i64 L.segs, .slice p3 L.used.length q3, .int .i64 L.ng, .int .i64 L.ns, .int .i64 L.st, .int .i64 L.nv, .slice p4 0 q4] 31)
  have HBX := Box.new w8 #[.slice p1 L.d.sec.length q1, .slice p2 L.d.cache.length q2, .int .i64 L.segs, .slice p3 L.used.length q3, .int .i64 L.ng, .int .i64 L.ns, .int .i64 L.st, .int .i64 L.nv, .slice p4 0 q4] 31
  have k89 := k8.trans (k9.mono k8.size)
  have j9 := j7.trans (k89.mono j7.size)
  have OH := o8.later k9
  replace OS := OS.later k89
  replace SB1 := SB1.later k89
  replace OM := OM.later k89
  replace GB := GB.later k89
  clear k8 k9 k89 o8 j7
  obtain ⟨s0, s1, s2, s3, s4, s5, s6, s7, s8⟩ := SB1.nineO
  obtain ⟨t0, t1, t2, t3, t4, t5, t6, t7, t8⟩ := HBX.nineO
  go_upto_region 14 with fail
  generalize w8.alloc (.cells #[.slice p1 L.d.sec.length q1, .slice p2 L.d.cache.length q2, .int .i64 L.segs, .slice p3 L.used.length q3, .int .i64 L.ng, .int .i64 L.ns, .int .i64 L.st, .int .i64 L.nv, .slice p4 0 q4] 31) = w9 at SB1 GB HBX j9 OS OM OH s0 s1 s2 s3 s4 s5 s6 s7 s8 t0 t1 t2 t3 t4 t5 t6 t7 t8 ⊢
  generalize w8.heap.size = g8 at HBX OH t0 t1 t2 t3 t4 t5 t6 t7 t8 ⊢
  go_wp2_with fail
  clear s0 s1 s2 s3 s4 s5 s6 s7 s8 t0 t1 t2 t3 t4 t5 t6 t7 t8
  refine (HEQ.out _ _ _ OH.rd OS.rd).mono ?_
  rintro e w10 ⟨rfl, k10⟩
  have j10 := j9.trans (k10.mono j9.size)
  replace OM := OM.later k10
  replace GB := GB.later k10
  obtain ⟨t0, t1, t2, t3, t4, t5, t6, t7, t8⟩ := GB.nineO
  clear k10 j9 OS SB1 HBX OH
  go_wp2_with fail
  clear t0 t1 t2 t3 t4 t5 t6 t7 t8
  refine (HHD.out _ _ OM.rd).mono ?_
  rintro e w11 ⟨rfl, k11⟩
  have j11 := j10.trans (k11.mono j10.size)
  clear OM GB k11 j10
  go_wp2
  go_ret
  exact ⟨rfl, j11⟩

theorem FnExactStoreNew_of_laid {W : World} (h : laidMetH Tryz.prog Rows.fnExactStoreNewRow.laid W) : ErrTab W ∧ SumTab W := by
  have h' : laidMet Tryz.prog [("loop.example/g00287/impl.sumTable", Rows.laid_loop_example_g00287_impl_sumTable)] W ∧ handlesMet Tryz.prog [("errors.errorType", Rows.laid_errors_errorType)] W := h
  refine ⟨errTab_of_handles (List.mem_singleton.2 rfl) h'.2, sumTab_of_laid ?_⟩
  rw [MakeChecks.laidMetH_plain _ _ _ (by kernel_rfl)]
  exact h'.1

theorem FnExactStoreNew_own : ownKnob Tryz.prog.godebug = none := by kernel_rfl
theorem FnExactStoreNew_door (os : Os) (args : Array Value) : laidMetH Tryz.prog Rows.fnExactStoreNewRow.laid ((World.doorLaid Tryz.prog 400 os).forCall (fun _ _ => 0) ⟨#[], args, []⟩).memory :=
  laidMetH_of_parts3 (fuel := 8) (laidMet_of_run' 8 (by kernel_rfl) (by kernel_rfl)) (by kernel_rfl) (by kernel_rfl)

set_option maxRecDepth 100000 in
theorem FnExactStoreNew_lifted (os : Os) (started : os.Started) (H : Type) (enc : TypeId × Value → H) :
    ReturnsInHanded {} Tryz.checked os 3 .any (fun w args => (Rows.fnExactStoreNewSpec.pre enc Tryz.prog Tryz.f3 [] false w args ∧ laidMetH Tryz.prog Rows.fnExactStoreNewRow.laid w) ∧ sizedMet enc Tryz.prog Tryz.f3 (OpenSpec.ofChange Rows.fnExactStoreNewSpec) false w args)
      (Rows.fnExactStoreNewSpec.post enc Tryz.prog Tryz.f3 false true false false) := by
  refine returnsInHanded_of_change_and (C := Tryz.checked) (X := fun w _ => laidMetH Tryz.prog Rows.fnExactStoreNewRow.laid w) (fun _ _ _ hh h => h.of_heap hh) FnExactStoreNew_own started (by kernel_rfl) Tryz.func3
    (ChangeSpec.witness_shaped (enc := enc) (C := Tryz.checked) (os := os) (X := fun w _ => laidMetH Tryz.prog Rows.fnExactStoreNewRow.laid w) false (World.doorLaid Tryz.prog 400 os) #[.int .i64 0] 8 rfl (World.shaped_of_RefB (by kernel_rfl) (by kernel_rfl)) (by kernel_rfl) (by kernel_rfl) (by kernel_rfl) (FnExactStoreNew_door os _)) ?_
  intro W base args ds gs before hval0 hW _ _ hL _
  have hval : ∀ (j : Nat) t v, Tryz.f3.params[j]? = some t → args[j]? = some v → Value.okWide Tryz.prog W .any base t v := hval0
  have hW' := hW
  obtain ⟨p, q, hA0, hV, rfl, hfz, hnd⟩ := hW
  have hA : DataW.TrodAll enc Tryz.prog W 0 (fun _ => true) true Tryz.f3.params.toList args.toList ds p := hA0
  rw [Tryz.params3] at hA hval
  obtain ⟨v0, vs0, d0, ds0, p0, q0, hargs, rfl, rfl, h0, r0⟩ := trodAll_cons hA
  obtain ⟨rfl, rfl, rfl⟩ := trodAll_nil r0
  obtain rfl : args = #[v0] := by cases args; simp_all
  obtain ⟨e0, rfl⟩ : ∃ d, gs = [d] := by obtain ⟨_, _, _, _, d, _, e, _⟩ := trodVars_one hV; exact ⟨d, e⟩
  obtain ⟨a0, rfl, rfl, rfl, w0⟩ := open_int Tryz.underlying3 (hval 0 3 v0 rfl rfl) h0
  clear hA0 hval0
  try simp only [List.append_nil] at hW'
  refine (walk_FnExactStoreNew a0 (bounds_i64 w0) (w := W) (FnExactStoreNew_of_laid hL)).mono fun e W' ⟨he, bel⟩ => ?_
  subst he
  exact ⟨_, rfl, _, _, _, [], _, _, hW', trodAll_mk1 (shut_bool Tryz.underlying4 _), (trodAll_cons_mk (shut_int Tryz.underlying3 w0) trodAll_mk0), Below.trodVars (show laidOutB Tryz.prog = true by kernel_rfl) bel (by kernel_rfl) hV, bel.frame _, fun h => by cases h⟩

theorem fnExactStoreNew_row : Rows.FnExactStoreNewSaid :=
  OpenClaim.holds_of_wide 3 Tryz.f3 rfl rfl rfl rfl rfl rfl rfl ⟨rfl, rfl, rfl, rfl, rfl⟩ rfl rfl rfl rfl rfl (by kernel_rfl) Tryz.func3 (by kernel_rfl)
    (of_decide_eq_true (by kernel_rfl)) (by unfold Func.isWrapper; first | (rw [if_pos (by decide +kernel)]; kernel_rfl) | (rw [if_neg (by decide +kernel)]; exact ⟨rfl, rfl⟩))
    (fun os started H enc _ => FnExactStoreNew_lifted os started H enc)

/-- The given statement. -/
theorem fnExactStoreNew_cardsaid : Rows.FnExactStoreNewCardSaid :=
  Claim7.holds_tied_plain_at .later [] [.handle, .data] true (true, "751ef3a269710a9f134d9a6febd3c47a24d124de60acf399786ed894af175fae") true
    fnExactStoreNew_row (fun _ h => by cases h) (by kernel_rfl) (fun _ h => by cases h) fnExactStoreNew_row_tie rfl ⟨rfl, rfl⟩ (by kernel_rfl) rfl
    (fun f fn hf hfn => by
      obtain rfl : f = 3 := Option.some.inj ((show Tryz.prog.funcNamed "loop.example/g00287/laws.FnExactStoreNew" = some 3 by kernel_rfl).symm.trans hf) |>.symm
      obtain rfl : fn = Tryz.f3 := (Option.some.inj (Tryz.func3.symm.trans hfn)).symm
      exact ⟨by kernel_rfl, fun j t ht => by
        rw [Tryz.params3] at ht
        have hm : t ∈ [3] := by simpa using Array.mem_of_getElem? ht
        have hall : ([3].all fun u => !Tryz.prog.wantsStandIn u) = true := by kernel_rfl
        exact (show Tryz.prog.wantsStandIn t = false by simpa using List.all_eq_true.1 hall t hm)⟩)
    (by kernel_rfl)
#print axioms fnExactStoreNew_cardsaid

end Go.Proofs.YtgcnebepklelpaaGreatDoor
