/- For every disk and every number, SegGen answers as its model; it writes into no argument, and nothing that was there is changed; where the table of sixteen words holds what the program's text lays there (the card ties that to the text). -/
import Derived.Test.YtmlhpjkijpbinaqDoorJb
import Derived.Test.YtmlhpjkijpbinaqDoorJg
import Derived.Test.YtmlhpjkijpbinaqDoorTie
import Derived.Test.YtmlhpjkijpbinaqDoorCards
import Derived.ProofKit
import Derived.OpenShut
import Derived.LaidMore
import Derived.OpenVars
import Derived.Stop.Joined
import Derived.SevenTiedAt
import Derived.Below
namespace Go.Proofs.YtmlhpjkijpbinaqDoor
open Go.ChangeShapes Go.WideShapes Go.ChangeAt Go.RowKit
open Go.ChangeMaps (open_string shut_string)
set_option linter.unusedVariables false

set_option maxRecDepth 100000 in
set_option maxHeartbeats 1000000 in
theorem walk_FnExactSegGen (v : Value) (d : Dk) (a : Int) (w : World) (hd : DIn w v d) (_ha : -9223372036854775808 ≤ a ∧ a ≤ 9223372036854775807) (htab : SumTab w) :
    Calls Tryd.prog 5 #[v, .int .i64 a] w fun e w' => e = .returned (.bool true) ∧ Below w.heap.size w w' := by
  obtain ⟨va, vb, rfl, _⟩ := id hd
  have HTB : Hid (∀ x, Below w.heap.size w x → SumTab x) := fun x hb => htab.later hb
  clear htab
  have hx := Box.new w #[va, vb] 38
  have b0 : Below w.heap.size w (w.alloc (.cells #[va, vb] 38)) := (Below.refl _ _).alloc (Nat.le_refl _) _
  have HC : Hid (∀ w', Below (w.alloc (.cells #[va, vb] 38)).heap.size (w.alloc (.cells #[va, vb] 38)) w' → w'.cell? ⟨w.heap.size, 0, none⟩ = some va ∧ w'.cell? ⟨w.heap.size, 1, none⟩ = some vb ∧ DIn w' (.agg #[va, vb]) d ∧ Below w.heap.size w w') := by
    intro w' h
    have h' := b0.trans (h.mono b0.size)
    exact ⟨(hx.later h).cell 0 va rfl, (hx.later h).cell 1 vb rfl, hd.later h', h'⟩
  have hd0 := hd.later b0
  clear hx hd
  go_enter Tryd.func5, Tryd.ntmps5
  go_wp2_with fail
  generalize w.alloc (.cells #[va, vb] 38) = W at HC b0 hd0 ⊢
  refine (szDisk_any d _ 1048576 _ hd0 (by omega) (by omega)).mono ?_
  rintro e w2 ⟨r, rfl, k2, hr1, hr2, hr3⟩
  by_cases hneg : r < 0
  · have HR := Lib.hid hr3
    clear hr3
    obtain ⟨_, _, _, b2⟩ := HC.out _ k2
    go_wp2
    go_ret
    exact ⟨rfl, b2⟩
  · obtain ⟨ls, lc, ht, hu⟩ := hr3 (by omega)
    have hsm : d.small := ⟨by omega, by omega⟩
    have HT : Hid ((∀ s ∈ d.sec, s.size ≤ 1099511627776) ∧ ∀ x ∈ d.cache, x.text.size ≤ 1099511627776) := ⟨fun s hs => by have := ht s hs; omega, fun x hx => by have := hu x hx; omega⟩
    have HT2 : Hid ((∀ s ∈ d.sec, s.size ≤ 137438953472) ∧ ∀ x ∈ d.cache, x.text.size ≤ 137438953472) := ⟨fun s hs => by have := ht s hs; omega, fun x hx => by have := hu x hx; omega⟩
    clear hr3 ht hu
    obtain ⟨t, ht0⟩ : ∃ t : Int, sgG (sgT d a) = t := ⟨_, rfl⟩
    have HF := Lib.hid ht0
    clear ht0
    obtain ⟨c0, c1, d2, b2⟩ := HC.out _ k2
    go_wp2_with fail
    refine (toDisk_any d _ _ d2 (by omega) (by omega)).mono ?_
    rintro e w3 ⟨v1, rfl, o1, k3⟩
    have j3 := k2.trans (k3.mono k2.size)
    clear c0 c1 d2
    go_wp2_with fail
    refine (specSegGen_any d _ a _ o1.rd hsm HT2.out.1 HT2.out.2).mono ?_
    rintro e w4 ⟨rfl, k4⟩
    have j4 := j3.trans (k4.mono j3.size)
    obtain ⟨c0, c1, d4, b4⟩ := HC.out _ j4
    clear o1 k3 k4
    rw [HF.out]
    go_wp2_with fail
    refine (toDisk_any d _ _ d4 (by omega) (by omega)).mono ?_
    rintro e w5 ⟨v2, rfl, o2, k5⟩
    have j5 := j4.trans (k5.mono j4.size)
    obtain ⟨a1, a2, q1, q2, rfl⟩ := o2.form
    clear c0 c1 d4
    have b6 : Below w5.heap.size w5 (w5.alloc (.cells #[.slice a1 d.sec.length q1, .slice a2 d.cache.length q2] 43)) := (Below.refl _ _).alloc (Nat.le_refl _) _
    have x6 := Box.new w5 #[.slice a1 d.sec.length q1, .slice a2 d.cache.length q2] 43
    have o6 := o2.later b6
    have j6 := j5.trans (b6.mono j5.size)
    go_wp2_with fail
    generalize w5.alloc (.cells #[.slice a1 d.sec.length q1, .slice a2 d.cache.length q2] 43) = w6 at x6 o6 j6 ⊢
    have b6w := (HC.out _ j6).2.2.2
    refine (implSegGen_any d _ a _ o6.rd hsm HT2.out.1 HT2.out.2 (HTB.out _ b6w)).mono ?_
    rintro e w7 ⟨rfl, k7⟩
    rw [HF.out]
    have j7 := j6.trans (k7.mono j6.size)
    obtain ⟨c0, c1, d7, b7⟩ := HC.out _ j7
    have x7 := x6.later k7
    have e0 := x7.cell 0 (.slice a1 d.sec.length q1) rfl
    have e1 := x7.cell 1 (.slice a2 d.cache.length q2) rfl
    have HS : Hid (∀ w', Below w7.drew.heap.size w7.drew w' → w'.cell? ⟨w.heap.size, 0, none⟩ = some va ∧ w'.cell? ⟨w.heap.size, 1, none⟩ = some vb ∧ w'.cell? ⟨w5.heap.size, 0, none⟩ = some (.slice a1 d.sec.length q1) ∧ w'.cell? ⟨w5.heap.size, 1, none⟩ = some (.slice a2 d.cache.length q2) ∧ DOwn w4.heap.size w5.heap.size w' (.agg #[.slice a1 d.sec.length q1, .slice a2 d.cache.length q2]) d ∧ Below w.heap.size w w') := by
      intro w' hw
      have hw2 : Below w7.heap.size w7 w' := ((Below.refl w7.heap.size w7).drew).trans hw
      obtain ⟨u0, u1, _, u3⟩ := HC.out _ (j7.trans (hw2.mono j7.size))
      exact ⟨u0, u1, (x7.later hw2).cell 0 _ rfl, (x7.later hw2).cell 1 _ rfl, (o6.later k7).later hw2, u3⟩
    have d8 := d7.later ((Below.refl w7.heap.size w7).drew)
    clear o2 o6 x6 x7 d7
    go_wp2
    go_region_held3 (fun w' => w'.cell? ⟨w.heap.size, 0, none⟩ = some va ∧ w'.cell? ⟨w.heap.size, 1, none⟩ = some vb ∧ w'.cell? ⟨w5.heap.size, 0, none⟩ = some (.slice a1 d.sec.length q1) ∧ w'.cell? ⟨w5.heap.size, 1, none⟩ = some (.slice a2 d.cache.length q2))
      (first | go_keep | (obtain ⟨u0, u1, u2, u3, _⟩ := HS.out _ kX; exact ⟨u0, u1, u2, u3⟩) | (obtain ⟨u0, u1, u2, u3, _⟩ := HS.out _ kY; exact ⟨u0, u1, u2, u3⟩))
      (first
        | (go_at_call 18; refine (toDisk_any d _ _ d8 (by omega) (by omega)).mono ?_; rintro e w9 ⟨v3, rfl, o9, kX⟩; obtain ⟨_, _, _, _, o9', _⟩ := HS.out _ kX)
        | (go_at_call 20; refine (eqDisk_same d _ _ _ o9'.rd o9.rd hsm).mono ?_; rintro e wA ⟨rfl, kA⟩; have kY := kX.trans (kA.mono kX.size)))
    all_goals
      obtain ⟨_, _, _, _, _, bZ⟩ := HS.out _ kY
      go_wp2
      go_ret
      exact ⟨rfl, bZ⟩

theorem FnExactSegGen_of_laid {W : World} (h : laidMetH Tryd.prog Rows.fnExactSegGenRow.laid W) : SumTab W := sumTab_of_laid h

theorem FnExactSegGen_own : ownKnob Tryd.prog.godebug = none := by kernel_rfl
theorem FnExactSegGen_door (os : Os) (args : Array Value) : laidMetH Tryd.prog Rows.fnExactSegGenRow.laid ((World.doorLaid Tryd.prog 400 os).forCall (fun _ _ => 0) ⟨#[], args, []⟩).memory :=
  laidMetH_of_parts3 (fuel := 8) (laidMet_of_run' 8 (by kernel_rfl) (by kernel_rfl)) (by kernel_rfl) (by kernel_rfl)

set_option maxRecDepth 100000 in
theorem FnExactSegGen_lifted (os : Os) (started : os.Started) (H : Type) (enc : TypeId × Value → H) :
    ReturnsInHanded {} Tryd.checked os 5 .any (fun w args => (Rows.fnExactSegGenSpec.pre enc Tryd.prog Tryd.f5 [] false w args ∧ laidMetH Tryd.prog Rows.fnExactSegGenRow.laid w) ∧ sizedMet enc Tryd.prog Tryd.f5 (OpenSpec.ofChange Rows.fnExactSegGenSpec) false w args)
      (Rows.fnExactSegGenSpec.post enc Tryd.prog Tryd.f5 false true false false) := by
  refine returnsInHanded_of_change_and (C := Tryd.checked) (X := fun w _ => laidMetH Tryd.prog Rows.fnExactSegGenRow.laid w) (fun _ _ _ hh h => h.of_heap hh) FnExactSegGen_own started (by kernel_rfl) Tryd.func5
    (ChangeSpec.witness_shaped (enc := enc) (C := Tryd.checked) (os := os) (X := fun w _ => laidMetH Tryd.prog Rows.fnExactSegGenRow.laid w) false (World.doorLaid Tryd.prog 400 os) #[.agg #[.slice none 0 0, .slice none 0 0], .int .i64 0] 8 rfl (World.shaped_of_RefB (by kernel_rfl) (by kernel_rfl)) (by kernel_rfl) (by kernel_rfl) (by kernel_rfl) (FnExactSegGen_door os _)) ?_
  intro W base args ds gs before hval0 hW _ _ hL _
  have hval : ∀ (j : Nat) t v, Tryd.f5.params[j]? = some t → args[j]? = some v → Value.okWide Tryd.prog W .any base t v := hval0
  have hW' := hW
  obtain ⟨p, q, hA0, hV, rfl, hfz, hnd⟩ := hW
  have hA : DataW.TrodAll enc Tryd.prog W 0 (fun _ => true) true Tryd.f5.params.toList args.toList ds p := hA0
  rw [Tryd.params5] at hA hval
  obtain ⟨v0, vs0, d0, ds0, p0, q0, hargs, rfl, rfl, h0, r0⟩ := trodAll_cons hA
  obtain ⟨v1, vs1, d1, ds1, p1, q1, rfl, rfl, rfl, h1, r1⟩ := trodAll_cons r0
  obtain ⟨rfl, rfl, rfl⟩ := trodAll_nil r1
  obtain rfl : args = #[v0, v1] := by cases args; simp_all
  obtain ⟨e0, rfl⟩ : ∃ d, gs = [d] := by obtain ⟨_, _, _, _, d, _, e, _⟩ := trodVars_one hV; exact ⟨d, e⟩
  have k0 := h0
  have lt0 : ∀ x ∈ p0, x.block < W.heap.size := by obtain ⟨m, hm⟩ := k0; exact DataW.trod_lt m _ _ _ hm
  obtain ⟨D0, w0⟩ := open_Disk (hval 0 38 v0 rfl rfl) h0
  obtain ⟨a1, rfl, rfl, rfl, w1⟩ := open_int Tryd.underlying3 (hval 1 3 v1 rfl rfl) h1
  clear hA0 hval0
  try simp only [List.append_nil] at hW'
  refine (walk_FnExactSegGen v0 D0 a1 w0 (bounds_i64 w1) (w := W) (FnExactSegGen_of_laid hL)).mono fun e W' ⟨he, bel⟩ => ?_
  subst he
  exact ⟨_, rfl, _, _, _, [], _, _, hW', trodAll_mk1 (shut_bool Tryd.underlying4 _), (trodAll_cons_mk (Below.trod (show laidOutB Tryd.prog = true by kernel_rfl) (by kernel_rfl) (of_decide_eq_true (by kernel_rfl)) k0 bel lt0) (trodAll_cons_mk (shut_int Tryd.underlying3 w1) trodAll_mk0)), Below.trodVars (show laidOutB Tryd.prog = true by kernel_rfl) bel (by kernel_rfl) hV, bel.frame _, fun h => by cases h⟩

theorem fnExactSegGen_row : Rows.FnExactSegGenSaid :=
  OpenClaim.holds_of_wide 5 Tryd.f5 rfl rfl rfl rfl rfl rfl rfl ⟨rfl, rfl, rfl, rfl, rfl⟩ rfl rfl rfl rfl rfl (by kernel_rfl) Tryd.func5 (by kernel_rfl)
    (of_decide_eq_true (by kernel_rfl)) (by unfold Func.isWrapper; first | (rw [if_pos (by decide +kernel)]; kernel_rfl) | (rw [if_neg (by decide +kernel)]; exact ⟨rfl, rfl⟩))
    (fun os started H enc _ => FnExactSegGen_lifted os started H enc)

/-- The given statement. -/
theorem fnExactSegGen_cardsaid : Rows.FnExactSegGenCardSaid :=
  Claim7.holds_tied_plain_at .later [] [.data] true (true, "67e5dfc5e4d47bb11e06d8081b9590947b34807de968be18581759f560173b8c") false
    fnExactSegGen_row (fun _ h => by cases h) (by kernel_rfl) (fun _ h => by cases h) fnExactSegGen_row_tie rfl ⟨rfl, rfl⟩ (by kernel_rfl) rfl
    (fun f fn hf hfn => by
      obtain rfl : f = 5 := Option.some.inj ((show Tryd.prog.funcNamed "loop.example/g00287/laws.FnExactSegGen" = some 5 by kernel_rfl).symm.trans hf) |>.symm
      obtain rfl : fn = Tryd.f5 := (Option.some.inj (Tryd.func5.symm.trans hfn)).symm
      exact ⟨by kernel_rfl, fun j t ht => by
        rw [Tryd.params5] at ht
        have hm : t ∈ [38, 3] := by simpa using Array.mem_of_getElem? ht
        have hall : ([38, 3].all fun u => !Tryd.prog.wantsStandIn u) = true := by kernel_rfl
        exact (show Tryd.prog.wantsStandIn t = false by simpa using List.all_eq_true.1 hall t hm)⟩)
    (by kernel_rfl)
#print axioms fnExactSegGen_cardsaid

end Go.Proofs.YtmlhpjkijpbinaqDoor
