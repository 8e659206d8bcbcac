/- For every disk, SegsOf answers as its model; it writes into no argument, and nothing that was there is changed. No condition. -/
import Derived.Test.YtmlhpjkijpbinarOpenDisk
import Derived.Test.YtmlhpjkijpbinarSegN
import Derived.ProofKit
import Derived.OpenShut
import Derived.ShutString
import Derived.ChangeOld
import Derived.Below
namespace Go.Proofs.Ytmlhpjkijpbinar
open Go.ChangeShapes Go.WideShapes Go.ChangeAt Go.RowKit
open Go.ChangeMaps (open_string shut_string)
set_option linter.unusedVariables false

set_option maxRecDepth 100000 in
set_option maxHeartbeats 1000000 in
theorem walk_FnExactSegsOf (v : Value) (d : Dk) (w : World) (hd : DIn w v d) :
    Calls Try.prog 3 #[v] w fun e w' => e = .returned (.bool true) ∧ Below w.heap.size w w' := by
  obtain ⟨va, vb, rfl, _⟩ := id hd
  have hx := Box.new w #[va, vb] 25
  have b0 : Below w.heap.size w (w.alloc (.cells #[va, vb] 25)) := (Below.refl _ _).alloc (Nat.le_refl _) _
  have HC : Hid (∀ w', Below (w.alloc (.cells #[va, vb] 25)).heap.size (w.alloc (.cells #[va, vb] 25)) w' → w'.cell? ⟨w.heap.size, 0, none⟩ = some va ∧ w'.cell? ⟨w.heap.size, 1, none⟩ = some vb ∧ DIn w' (.agg #[va, vb]) d ∧ Below w.heap.size w w') := by
    intro w' h
    have h' := b0.trans (h.mono b0.size)
    exact ⟨(hx.later h).cell 0 va rfl, (hx.later h).cell 1 vb rfl, hd.later h', h'⟩
  have hd0 := hd.later b0
  clear hx hd
  go_enter Try.func3, Try.ntmps3
  go_wp2_with fail
  generalize w.alloc (.cells #[va, vb] 25) = W at HC b0 hd0 ⊢
  refine (szDisk_any d _ 1048576 _ hd0 (by omega) (by omega)).mono ?_
  rintro e w2 ⟨r, rfl, k2, hr1, hr2, hr3⟩
  by_cases hneg : r < 0
  · have HR := Lib.hid hr3
    clear hr3
    obtain ⟨_, _, _, b2⟩ := HC.out _ k2
    go_wp2
    go_ret
    exact ⟨rfl, b2⟩
  · obtain ⟨ls, lc, ht, hu⟩ := hr3 (by omega)
    have hsm : d.small := ⟨by omega, by omega⟩
    have HT : Hid ((∀ s ∈ d.sec, s.size ≤ 1099511627776) ∧ ∀ x ∈ d.cache, x.text.size ≤ 1099511627776) := ⟨fun s hs => by have := ht s hs; omega, fun x hx => by have := hu x hx; omega⟩
    have HT2 : Hid ((∀ s ∈ d.sec, s.size ≤ 137438953472) ∧ ∀ x ∈ d.cache, x.text.size ≤ 137438953472) := ⟨fun s hs => by have := ht s hs; omega, fun x hx => by have := hu x hx; omega⟩
    clear hr3 ht hu
    obtain ⟨t, ht0⟩ : ∃ t : Int, sgN d = t := ⟨_, rfl⟩
    have HF := Lib.hid ht0
    clear ht0
    obtain ⟨c0, c1, d2, b2⟩ := HC.out _ k2
    go_wp2_with fail
    refine (toDisk_any d _ _ d2 (by omega) (by omega)).mono ?_
    rintro e w3 ⟨v1, rfl, o1, k3⟩
    have j3 := k2.trans (k3.mono k2.size)
    clear c0 c1 d2
    go_wp2_with fail
    refine (specSegsOf_any d _ _ o1.rd hsm).mono ?_
    rintro e w4 ⟨rfl, k4⟩
    have j4 := j3.trans (k4.mono j3.size)
    obtain ⟨c0, c1, d4, b4⟩ := HC.out _ j4
    clear o1 k3 k4
    rw [HF.out]
    go_wp2_with fail
    refine (toDisk_any d _ _ d4 (by omega) (by omega)).mono ?_
    rintro e w5 ⟨v2, rfl, o2, k5⟩
    have j5 := j4.trans (k5.mono j4.size)
    obtain ⟨a1, a2, q1, q2, rfl⟩ := o2.form
    clear c0 c1 d4
    have b6 : Below w5.heap.size w5 (w5.alloc (.cells #[.slice a1 d.sec.length q1, .slice a2 d.cache.length q2] 30)) := (Below.refl _ _).alloc (Nat.le_refl _) _
    have x6 := Box.new w5 #[.slice a1 d.sec.length q1, .slice a2 d.cache.length q2] 30
    have o6 := o2.later b6
    have j6 := j5.trans (b6.mono j5.size)
    go_wp2_with fail
    generalize w5.alloc (.cells #[.slice a1 d.sec.length q1, .slice a2 d.cache.length q2] 30) = w6 at x6 o6 j6 ⊢
    refine (implSegsOf_any d _ _ o6.rd hsm).mono ?_
    rintro e w7 ⟨rfl, k7⟩
    rw [HF.out]
    have j7 := j6.trans (k7.mono j6.size)
    obtain ⟨c0, c1, d7, b7⟩ := HC.out _ j7
    have x7 := x6.later k7
    have e0 := x7.cell 0 (.slice a1 d.sec.length q1) rfl
    have e1 := x7.cell 1 (.slice a2 d.cache.length q2) rfl
    have HS : Hid (∀ w', Below w7.drew.heap.size w7.drew w' → w'.cell? ⟨w.heap.size, 0, none⟩ = some va ∧ w'.cell? ⟨w.heap.size, 1, none⟩ = some vb ∧ w'.cell? ⟨w5.heap.size, 0, none⟩ = some (.slice a1 d.sec.length q1) ∧ w'.cell? ⟨w5.heap.size, 1, none⟩ = some (.slice a2 d.cache.length q2) ∧ DOwn w4.heap.size w5.heap.size w' (.agg #[.slice a1 d.sec.length q1, .slice a2 d.cache.length q2]) d ∧ Below w.heap.size w w') := by
      intro w' hw
      have hw2 : Below w7.heap.size w7 w' := ((Below.refl w7.heap.size w7).drew).trans hw
      obtain ⟨u0, u1, _, u3⟩ := HC.out _ (j7.trans (hw2.mono j7.size))
      exact ⟨u0, u1, (x7.later hw2).cell 0 _ rfl, (x7.later hw2).cell 1 _ rfl, (o6.later k7).later hw2, u3⟩
    have d8 := d7.later ((Below.refl w7.heap.size w7).drew)
    clear o2 o6 x6 x7 d7
    go_wp2
    go_region_held3 (fun w' => w'.cell? ⟨w.heap.size, 0, none⟩ = some va ∧ w'.cell? ⟨w.heap.size, 1, none⟩ = some vb ∧ w'.cell? ⟨w5.heap.size, 0, none⟩ = some (.slice a1 d.sec.length q1) ∧ w'.cell? ⟨w5.heap.size, 1, none⟩ = some (.slice a2 d.cache.length q2))
      (first | go_keep | (obtain ⟨u0, u1, u2, u3, _⟩ := HS.out _ kX; exact ⟨u0, u1, u2, u3⟩) | (obtain ⟨u0, u1, u2, u3, _⟩ := HS.out _ kY; exact ⟨u0, u1, u2, u3⟩))
      (first
        | (go_at_call 9; refine (toDisk_any d _ _ d8 (by omega) (by omega)).mono ?_; rintro e w9 ⟨v3, rfl, o9, kX⟩; obtain ⟨_, _, _, _, o9', _⟩ := HS.out _ kX)
        | (go_at_call 11; refine (eqDisk_same d _ _ _ o9'.rd o9.rd hsm).mono ?_; rintro e wA ⟨rfl, kA⟩; have kY := kX.trans (kA.mono kX.size)))
    all_goals
      obtain ⟨_, _, _, _, _, bZ⟩ := HS.out _ kY
      go_wp2
      go_ret
      exact ⟨rfl, bZ⟩

theorem FnExactSegsOf_own : ownKnob Try.prog.godebug = none := by kernel_rfl

set_option maxRecDepth 100000 in
theorem FnExactSegsOf_lifted (os : Os) (started : os.Started) (H : Type) (enc : TypeId × Value → H) :
    ReturnsInHanded {} Try.checked os 3 .any (Rows.fnExactSegsOfSpec.pre6 enc Try.prog Try.f3 Rows.fnExactSegsOfRow.domain false) (Rows.fnExactSegsOfSpec.post enc Try.prog Try.f3 false true false false) := by
  refine returnsInHanded_of_change (C := Try.checked) FnExactSegsOf_own started (by kernel_rfl) Try.func3
    (ChangeSpec.witness6 (enc := enc) (C := Try.checked) false ⟨#[], #[.agg #[.slice none 0 0, .slice none 0 0]], []⟩ 8 (by kernel_rfl) (by kernel_rfl) (by kernel_rfl) (by kernel_rfl)) ?_
  intro W base args ds gs before hval0 hW hcnd _
  have hval : ∀ (j : Nat) t v, Try.f3.params[j]? = some t → args[j]? = some v → Value.okWide Try.prog W .any base t v := hval0
  have hW' := hW
  obtain ⟨p, q, hA0, hV, rfl, hfz, hnd⟩ := hW
  have hA : DataW.TrodAll enc Try.prog W 0 (fun _ => true) true Try.f3.params.toList args.toList ds p := hA0
  rw [Try.params3] at hA hval
  obtain ⟨v0, vs0, d0, ds0, p0, q0, hargs, rfl, rfl, h0, r0⟩ := trodAll_cons hA
  obtain ⟨rfl, rfl, rfl⟩ := trodAll_nil r0
  obtain rfl : args = #[v0] := by cases args; simp_all
  obtain ⟨rfl, rfl⟩ := trodVars_none hV
  have k0 := h0
  have lt0 : ∀ x ∈ p0, x.block < W.heap.size := by obtain ⟨m, hm⟩ := k0; exact DataW.trod_lt m _ _ _ hm
  obtain ⟨D0, w0⟩ := open_Disk (hval 0 25 v0 rfl rfl) h0
  clear hA0 hval0
  simp only [List.append_nil] at hW'
  refine (walk_FnExactSegsOf v0 D0 w0 (w := W)).mono fun e W' ⟨he, bel⟩ => ?_
  subst he
  exact ⟨_, rfl, _, _, _, [], _, [], hW', trodAll_mk1 (shut_bool Try.underlying4 _), (trodAll_cons_mk (Below.trod (show laidOutB Try.prog = true by kernel_rfl) (by kernel_rfl) (of_decide_eq_true (by kernel_rfl)) k0 bel lt0) trodAll_mk0), rfl, bel.frame _, fun h => by cases h⟩

/-- The given statement. -/
theorem fnExactSegsOf_holds : Rows.FnExactSegsOfSaid :=
  OpenClaim.holds_of_wide 3 Try.f3 rfl rfl rfl rfl rfl rfl rfl ⟨rfl, rfl, rfl, rfl, rfl⟩ rfl rfl rfl rfl rfl (by kernel_rfl) Try.func3 (by kernel_rfl)
    (of_decide_eq_true (by kernel_rfl)) (by unfold Func.isWrapper; first | (rw [if_pos (by decide +kernel)]; kernel_rfl) | (rw [if_neg (by decide +kernel)]; exact ⟨rfl, rfl⟩))
    (fun os started H enc _ => FnExactSegsOf_lifted os started H enc)
#print axioms fnExactSegsOf_holds

end Go.Proofs.Ytmlhpjkijpbinar
