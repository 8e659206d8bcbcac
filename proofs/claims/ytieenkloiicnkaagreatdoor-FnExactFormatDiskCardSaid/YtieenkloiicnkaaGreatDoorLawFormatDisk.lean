/- For every number, FormatDisk answers as its model, every field; its answer owns its memory, and nothing that was there is changed. Its conditions: the variable of the library that errors.As reads and the table of the sums hold what the program's text lays there (the card ties both to the text). -/
import Derived.Test.YtieenkloiicnkaaGreatDoorJgx
import Derived.Test.YtieenkloiicnkaaGreatDoorJtx
import Derived.Test.YtieenkloiicnkaaGreatDoorJux
import Derived.Test.YtieenkloiicnkaaGreatDoorJvx
import Derived.Test.YtieenkloiicnkaaGreatDoorTie
import Derived.Test.YtieenkloiicnkaaGreatDoorCards
import Derived.ProofKit
import Derived.OpenShut
import Derived.LaidMore
import Derived.OpenVars
import Derived.Stop.Joined
import Derived.SevenTiedAt
import Derived.Below
namespace Go.Proofs.YtieenkloiicnkaaGreatDoor
open Go.ChangeShapes Go.WideShapes Go.ChangeAt Go.RowKit
open Go.ChangeMaps (open_string shut_string)
set_option linter.unusedVariables false

theorem opO_used {L L' : Lg} {keep : Int} (ho : opO L keep = some L') : ∃ b : Sg, L'.used = L.used ++ [b] ∧ b.items = [] := by
  unfold opO at ho
  split at ho
  case isFalse => cases ho
  case isTrue hc =>
    cases hw : sgW L.d (opN L) 0 (hdT L.ng) with
    | none => rw [hw] at ho; cases ho
    | some d => rw [hw] at ho; cases ho; exact ⟨_, rfl, rfl⟩
theorem fmO_small (segs : Int) : ((fmO segs).getD lg0).d.small ∧ ((fmO segs).getD lg0).used.length ≤ 1099511627776 ∧ (∀ b ∈ ((fmO segs).getD lg0).used, b.items.length ≤ 1099511627776) ∧ ((fmO segs).getD lg0).kL 1 ≤ 40000000 := by
  have hz : lg0.d.small ∧ lg0.used.length ≤ 1099511627776 ∧ (∀ b ∈ lg0.used, b.items.length ≤ 1099511627776) ∧ lg0.kL 1 ≤ 40000000 := by
    refine ⟨⟨by decide, by decide⟩, by decide, (fun b hb => by cases hb), ?_⟩
    unfold Lg.kL
    rw [kF_gIts]
    decide
  by_cases h : 5 ≤ segs ∧ segs ≤ 11
  · cases ho : opO (fm0 segs) 0 with
    | none => rw [fmO_no ho]; exact hz
    | some L =>
      cases hw : wcO L.d (ckOf L) with
      | none => rw [fmO_none ho hw]; exact hz
      | some E =>
        rw [fmO_some h ho hw]
        obtain ⟨b, hu, hb⟩ := opO_used ho
        have hu' : L.used = [b] := hu
        obtain ⟨e1, _⟩ := wcO_ok hw
        show E.small ∧ L.used.length ≤ _ ∧ (∀ b ∈ L.used, b.items.length ≤ _) ∧ kF (1 + E.count) L.used ≤ _
        rw [hu']
        refine ⟨(Dk.ok_small e1).1, by simp, fun c hc => ?_, ?_⟩
        · have := List.mem_singleton.1 hc
          subst this
          rw [hb]; simp
        · rw [kF_gIts]
          have h1 := e1.2.1
          have h2 := e1.2.2.1
          have h3 : gIts [b] = 0 := by simp [gIts, hb]
          rw [h3]
          unfold Dk.count
          simp
          omega
  · rw [fmO_out h]; exact hz

set_option maxRecDepth 100000 in
set_option maxHeartbeats 8000000 in
theorem walk_FnExactFormatDisk (a : Int) (ha : -9223372036854775808 ≤ a ∧ a ≤ 9223372036854775807) (w : World) (hts : ErrTab w ∧ SumTab w) :
    Calls Tryz.prog 5 #[.int .i64 a] w fun e w' => e = .returned (.bool true) ∧ Below w.heap.size w w' := by
  have HT : Hid (∀ x, Below w.heap.size w x → ErrTab x ∧ SumTab x) := fun x hx => ⟨(hx.cell (p := ⟨0, 0, none⟩) (World.block_lt_of_cell? _ _ hts.1)).trans hts.1, hts.2.later hx⟩
  obtain ⟨h1, h2, h3, h4⟩ := fmO_small a
  have HSP := Lib.hid (fun x => specFormatDisk_any a x ha)
  have HIM := Lib.hid (fun x hx => implFormatDisk_any a x ha (HT.out x hx).2 (HT.out x hx).1)
  obtain ⟨O, hO⟩ : ∃ O, fmO a = O := ⟨_, rfl⟩
  rw [hO] at h1 h2 h3 h4 HSP HIM
  clear hO hts
  obtain ⟨L, hL⟩ : ∃ L, O.getD lg0 = L := ⟨_, rfl⟩
  obtain ⟨F, hF⟩ : ∃ F, O.isSome = F := ⟨_, rfl⟩
  unfold FmR at HSP HIM
  rw [hL] at h1 h2 h3 h4 HSP HIM
  rw [hF] at HSP HIM
  clear hL hF
  have hFF : (F != F) = false := by cases F <;> rfl
  have HEQ := Lib.hid (fun v1 v2 x p q => eqLog_same L v1 v2 x p q h1 h2 h3)
  have HMK := Lib.hid (fun v B T x p => markLog_any L v 1 B T x p (by omega) (by omega) h2)
  have HHD := Lib.hid (fun v x p => heldLog_any L v 1 x p (by omega) (by omega) h2)
  obtain ⟨kl, hkl⟩ : ∃ kl : Nat, L.kL 1 = kl := ⟨_, rfl⟩
  rw [hkl] at HMK HHD h4
  have hkn : ¬ ((kl : Int) < 0) := by omega
  clear hkl h1 h2 h3
  go_enter Tryz.func5, Tryz.ntmps5
  go_wp2_with fail
  refine (HSP.out _).mono ?_
  rintro e w1 ⟨v1, f1, rfl, o1, hf1, k1⟩
  subst hf1
  obtain ⟨a1, a2, a3, c1, c2, c3, rfl⟩ := o1.form
  have k2 := belNew w1 (.cells #[.slice a1 L.d.sec.length c1, .slice a2 L.d.cache.length c2, .int .i64 L.segs, .slice a3 L.used.length c3, .int .i64 L.ng, .int .i64 L.ns, .int .i64 L.st, .int .i64 L.nv] 55)
  have SB1 := Box.new w1 #[.slice a1 L.d.sec.length c1, .slice a2 L.d.cache.length c2, .int .i64 L.segs, .slice a3 L.used.length c3, .int .i64 L.ng, .int .i64 L.ns, .int .i64 L.st, .int .i64 L.nv] 55
  have j2 := k1.trans (k2.mono k1.size)
  have OS := o1.later k2
  have hz1 : Hid (w.heap.size ≤ w1.heap.size ∧ w1.heap.size < (w1.alloc (.cells #[.slice a1 L.d.sec.length c1, .slice a2 L.d.cache.length c2, .int .i64 L.segs, .slice a3 L.used.length c3, .int .i64 L.ng, .int .i64 L.ns, .int .i64 L.st, .int .i64 L.nv] 55)).heap.size) := ⟨k1.size, by simp⟩
  clear k1 k2 o1 HSP
  go_upto_region 2 with fail
  generalize w1.alloc (.cells #[.slice a1 L.d.sec.length c1, .slice a2 L.d.cache.length c2, .int .i64 L.segs, .slice a3 L.used.length c3, .int .i64 L.ng, .int .i64 L.ns, .int .i64 L.st, .int .i64 L.nv] 55) = w2 at SB1 j2 OS hz1 ⊢
  generalize w1.heap.size = g1 at SB1 hz1 OS ⊢
  go_wp2_with fail
  refine (HIM.out _ j2).mono ?_
  rintro e w3 ⟨v3, f3, rfl, o3, hf3, k3⟩
  subst hf3
  obtain ⟨b1, b2, b3, d1, d2, d3, rfl⟩ := o3.form
  have k4 := belNew w3 (.cells #[.slice b1 L.d.sec.length d1, .slice b2 L.d.cache.length d2, .int .i64 L.segs, .slice b3 L.used.length d3, .int .i64 L.ng, .int .i64 L.ns, .int .i64 L.st, .int .i64 L.nv] 55)
  have GB := Box.new w3 #[.slice b1 L.d.sec.length d1, .slice b2 L.d.cache.length d2, .int .i64 L.segs, .slice b3 L.used.length d3, .int .i64 L.ng, .int .i64 L.ns, .int .i64 L.st, .int .i64 L.nv] 55
  have k34 := k3.trans (k4.mono k3.size)
  have j4 := j2.trans (k34.mono j2.size)
  have OG := o3.later k4
  replace OS := OS.later k34
  replace SB1 := SB1.later k34
  have hz3 : Hid (w2.heap.size ≤ w3.heap.size) := k3.size
  clear k3 k4 k34 o3 j2
  obtain ⟨s0, s1, s2, s3, s4, s5, s6, s7⟩ := SB1.eightO
  obtain ⟨t0, t1, t2, t3, t4, t5, t6, t7⟩ := GB.eightO
  go_upto_region 3 with fail
  generalize w3.alloc (.cells #[.slice b1 L.d.sec.length d1, .slice b2 L.d.cache.length d2, .int .i64 L.segs, .slice b3 L.used.length d3, .int .i64 L.ng, .int .i64 L.ns, .int .i64 L.st, .int .i64 L.nv] 55) = w4 at SB1 GB j4 OS OG s0 s1 s2 s3 s4 s5 s6 s7 t0 t1 t2 t3 t4 t5 t6 t7 ⊢
  generalize w3.heap.size = g3 at GB OG hz3 t0 t1 t2 t3 t4 t5 t6 t7 ⊢
  go_wp2_with fail
  clear s0 s1 s2 s3 s4 s5 s6 s7 t0 t1 t2 t3 t4 t5 t6 t7
  refine (HEQ.out _ _ _ OG.rd OS.rd).mono ?_
  rintro e w5 ⟨rfl, k5⟩
  have j5 := j4.trans (k5.mono j4.size)
  replace OS := OS.later k5
  replace SB1 := SB1.later k5
  replace OG := OG.later k5
  replace GB := GB.later k5
  obtain ⟨t0, t1, t2, t3, t4, t5, t6, t7⟩ := GB.eightO
  clear k5 j4
  go_wp2_with fail
  clear t0 t1 t2 t3 t4 t5 t6 t7
  refine (HMK.out _ _ _ _ OG).mono ?_
  rintro e w6 ⟨rfl, OM, k6⟩
  have j6 := k6.below j5 (by have := hz1.out; omega) j5.size
  replace OS := OS.kept k6 (by have := hz1.out; omega)
  replace SB1 := SB1.kept k6 (by have := hz1.out; omega)
  replace GB := GB.kept k6 (by have := hz3.out; omega)
  obtain ⟨t0, t1, t2, t3, t4, t5, t6, t7⟩ := GB.eightO
  clear k6 j5 OG HMK
  go_wp2_with fail
  clear t0 t1 t2 t3 t4 t5 t6 t7
  refine (HHD.out _ _ OM.rd).mono ?_
  rintro e w7 ⟨rfl, k7⟩
  have j7 := j6.trans (k7.mono j6.size)
  replace OS := OS.later k7
  replace SB1 := SB1.later k7
  replace OM := OM.later k7
  replace GB := GB.later k7
  clear k7 j6
  go_wp2_with fail
  refine (HIM.out _ j7).mono ?_
  rintro e w8 ⟨v8, f8, rfl, o8, hf8, k8⟩
  subst hf8
  obtain ⟨p1, p2, p3, q1, q2, q3, rfl⟩ := o8.form
  have k9 := belNew w8 (.cells #[.slice p1 L.d.sec.length q1, .slice p2 L.d.cache.length q2, .int .i64 L.segs, .slice p3 L.used.length q3, .int .i64 L.ng, .int .i64 L.ns, .int .i64 L.st, .int .i64 L.nv] 55)
  have HBX := Box.new w8 #[.slice p1 L.d.sec.length q1, .slice p2 L.d.cache.length q2, .int .i64 L.segs, .slice p3 L.used.length q3, .int .i64 L.ng, .int .i64 L.ns, .int .i64 L.st, .int .i64 L.nv] 55
  have k89 := k8.trans (k9.mono k8.size)
  have j9 := j7.trans (k89.mono j7.size)
  have OH := o8.later k9
  replace OS := OS.later k89
  replace SB1 := SB1.later k89
  replace OM := OM.later k89
  replace GB := GB.later k89
  clear k8 k9 k89 o8 j7
  obtain ⟨s0, s1, s2, s3, s4, s5, s6, s7⟩ := SB1.eightO
  obtain ⟨t0, t1, t2, t3, t4, t5, t6, t7⟩ := HBX.eightO
  go_upto_region 14 with fail
  generalize w8.alloc (.cells #[.slice p1 L.d.sec.length q1, .slice p2 L.d.cache.length q2, .int .i64 L.segs, .slice p3 L.used.length q3, .int .i64 L.ng, .int .i64 L.ns, .int .i64 L.st, .int .i64 L.nv] 55) = w9 at SB1 GB HBX j9 OS OM OH s0 s1 s2 s3 s4 s5 s6 s7 t0 t1 t2 t3 t4 t5 t6 t7 ⊢
  generalize w8.heap.size = g8 at HBX OH t0 t1 t2 t3 t4 t5 t6 t7 ⊢
  go_wp2_with fail
  clear s0 s1 s2 s3 s4 s5 s6 s7 t0 t1 t2 t3 t4 t5 t6 t7
  refine (HEQ.out _ _ _ OH.rd OS.rd).mono ?_
  rintro e w10 ⟨rfl, k10⟩
  have j10 := j9.trans (k10.mono j9.size)
  replace OM := OM.later k10
  replace GB := GB.later k10
  obtain ⟨t0, t1, t2, t3, t4, t5, t6, t7⟩ := GB.eightO
  clear k10 j9 OS SB1 HBX OH
  go_wp2_with fail
  clear t0 t1 t2 t3 t4 t5 t6 t7
  refine (HHD.out _ _ OM.rd).mono ?_
  rintro e w11 ⟨rfl, k11⟩
  have j11 := j10.trans (k11.mono j10.size)
  clear OM GB k11 j10
  go_wp2
  go_ret
  exact ⟨rfl, j11⟩

theorem FnExactFormatDisk_of_laid {W : World} (h : laidMetH Tryz.prog Rows.fnExactFormatDiskRow.laid W) : ErrTab W ∧ SumTab W := by
  have h' : laidMet Tryz.prog [("loop.example/g00287/impl.sumTable", Rows.laid_loop_example_g00287_impl_sumTable)] W ∧ handlesMet Tryz.prog [("errors.errorType", Rows.laid_errors_errorType)] W := h
  refine ⟨errTab_of_handles (List.mem_singleton.2 rfl) h'.2, sumTab_of_laid ?_⟩
  rw [MakeChecks.laidMetH_plain _ _ _ (by kernel_rfl)]
  exact h'.1

theorem FnExactFormatDisk_own : ownKnob Tryz.prog.godebug = none := by kernel_rfl
theorem FnExactFormatDisk_door (os : Os) (args : Array Value) : laidMetH Tryz.prog Rows.fnExactFormatDiskRow.laid ((World.doorLaid Tryz.prog 400 os).forCall (fun _ _ => 0) ⟨#[], args, []⟩).memory :=
  laidMetH_of_parts3 (fuel := 8) (laidMet_of_run' 8 (by kernel_rfl) (by kernel_rfl)) (by kernel_rfl) (by kernel_rfl)

set_option maxRecDepth 100000 in
theorem FnExactFormatDisk_lifted (os : Os) (started : os.Started) (H : Type) (enc : TypeId × Value → H) :
    ReturnsInHanded {} Tryz.checked os 5 .any (fun w args => (Rows.fnExactFormatDiskSpec.pre enc Tryz.prog Tryz.f5 [] false w args ∧ laidMetH Tryz.prog Rows.fnExactFormatDiskRow.laid w) ∧ sizedMet enc Tryz.prog Tryz.f5 (OpenSpec.ofChange Rows.fnExactFormatDiskSpec) false w args)
      (Rows.fnExactFormatDiskSpec.post enc Tryz.prog Tryz.f5 false true false false) := by
  refine returnsInHanded_of_change_and (C := Tryz.checked) (X := fun w _ => laidMetH Tryz.prog Rows.fnExactFormatDiskRow.laid w) (fun _ _ _ hh h => h.of_heap hh) FnExactFormatDisk_own started (by kernel_rfl) Tryz.func5
    (ChangeSpec.witness_shaped (enc := enc) (C := Tryz.checked) (os := os) (X := fun w _ => laidMetH Tryz.prog Rows.fnExactFormatDiskRow.laid w) false (World.doorLaid Tryz.prog 400 os) #[.int .i64 0] 8 rfl (World.shaped_of_RefB (by kernel_rfl) (by kernel_rfl)) (by kernel_rfl) (by kernel_rfl) (by kernel_rfl) (FnExactFormatDisk_door os _)) ?_
  intro W base args ds gs before hval0 hW _ _ hL _
  have hval : ∀ (j : Nat) t v, Tryz.f5.params[j]? = some t → args[j]? = some v → Value.okWide Tryz.prog W .any base t v := hval0
  have hW' := hW
  obtain ⟨p, q, hA0, hV, rfl, hfz, hnd⟩ := hW
  have hA : DataW.TrodAll enc Tryz.prog W 0 (fun _ => true) true Tryz.f5.params.toList args.toList ds p := hA0
  rw [Tryz.params5] at hA hval
  obtain ⟨v0, vs0, d0, ds0, p0, q0, hargs, rfl, rfl, h0, r0⟩ := trodAll_cons hA
  obtain ⟨rfl, rfl, rfl⟩ := trodAll_nil r0
  obtain rfl : args = #[v0] := by cases args; simp_all
  obtain ⟨e0, rfl⟩ : ∃ d, gs = [d] := by obtain ⟨_, _, _, _, d, _, e, _⟩ := trodVars_one hV; exact ⟨d, e⟩
  obtain ⟨a0, rfl, rfl, rfl, w0⟩ := open_int Tryz.underlying3 (hval 0 3 v0 rfl rfl) h0
  clear hA0 hval0
  try simp only [List.append_nil] at hW'
  refine (walk_FnExactFormatDisk a0 (bounds_i64 w0) (w := W) (FnExactFormatDisk_of_laid hL)).mono fun e W' ⟨he, bel⟩ => ?_
  subst he
  exact ⟨_, rfl, _, _, _, [], _, _, hW', trodAll_mk1 (shut_bool Tryz.underlying4 _), (trodAll_cons_mk (shut_int Tryz.underlying3 w0) trodAll_mk0), Below.trodVars (show laidOutB Tryz.prog = true by kernel_rfl) bel (by kernel_rfl) hV, bel.frame _, fun h => by cases h⟩

theorem fnExactFormatDisk_row : Rows.FnExactFormatDiskSaid :=
  OpenClaim.holds_of_wide 5 Tryz.f5 rfl rfl rfl rfl rfl rfl rfl ⟨rfl, rfl, rfl, rfl, rfl⟩ rfl rfl rfl rfl rfl (by kernel_rfl) Tryz.func5 (by kernel_rfl)
    (of_decide_eq_true (by kernel_rfl)) (by unfold Func.isWrapper; first | (rw [if_pos (by decide +kernel)]; kernel_rfl) | (rw [if_neg (by decide +kernel)]; exact ⟨rfl, rfl⟩))
    (fun os started H enc _ => FnExactFormatDisk_lifted os started H enc)

/-- The given statement. -/
theorem fnExactFormatDisk_cardsaid : Rows.FnExactFormatDiskCardSaid :=
  Claim7.holds_tied_plain_at .later [] [.handle, .data] true (true, "86b249c541a9206e1da35a22826e517713138d78ec26604ff10e59483b28f276") true
    fnExactFormatDisk_row (fun _ h => by cases h) (by kernel_rfl) (fun _ h => by cases h) fnExactFormatDisk_row_tie rfl ⟨rfl, rfl⟩ (by kernel_rfl) rfl
    (fun f fn hf hfn => by
      obtain rfl : f = 5 := Option.some.inj ((show Tryz.prog.funcNamed "loop.example/g00287/laws.FnExactFormatDisk" = some 5 by kernel_rfl).symm.trans hf) |>.symm
      obtain rfl : fn = Tryz.f5 := (Option.some.inj (Tryz.func5.symm.trans hfn)).symm
      exact ⟨by kernel_rfl, fun j t ht => by
        rw [Tryz.params5] at ht
        have hm : t ∈ [3] := by simpa using Array.mem_of_getElem? ht
        have hall : ([3].all fun u => !Tryz.prog.wantsStandIn u) = true := by kernel_rfl
        exact (show Tryz.prog.wantsStandIn t = false by simpa using List.all_eq_true.1 hall t hm)⟩)
    (by kernel_rfl)
#print axioms fnExactFormatDisk_cardsaid

end Go.Proofs.YtieenkloiicnkaaGreatDoor
