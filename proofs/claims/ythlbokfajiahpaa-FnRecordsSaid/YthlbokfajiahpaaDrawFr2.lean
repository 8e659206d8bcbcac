/- What is drawn for the chapter on frames: texts of frames, spoilt or not, and lists of frames. -/
import Derived.Test.YthlbokfajiahpaaDrawFr
import Derived.Test.YthlbokfajiahpaaFrameT
import Derived.Test.YthlbokfajiahpaaEncF
namespace Go.Proofs.Ythlbokfajiahpaa
open Go.RowKit

/-- A drawn text made of another. -/
def SpR (s : ByteArray) (pc : Nat) (a : Option Addr) (len cap : Nat) (w : World) (e : Ending) (w' : World) : Prop :=
  ∃ t : ByteArray, t.size ≤ s.size + 1 ∧ e = .returned (.string t) ∧ Cur w' pc a len cap ∧ w.grownBy w' (some pc)

set_option maxRecDepth 100000 in
set_option maxHeartbeats 1000000 in
theorem spoilt_any (s : ByteArray) (pc : Nat) (a : Option Addr) (len cap : Nat) (w : World) (hc : Cur w pc a len cap) (hs : s.size ≤ 1000000) :
    Calls Try.prog 53 #[.pointer (some ⟨pc, 0, none⟩), .string s] w fun e w' => SpR s pc a len cap w e w' := by
  go_enter Try.func53, Try.ntmps53
  go_wp2_with fail
  refine (below_any 12 pc a len cap _ hc (by omega)).mono ?_
  rintro e w1 ⟨x, _, _, rfl, hc1, hg1⟩
  rcases (show x = 0 ∨ x = 1 ∨ (x = 2 ∨ x = 3) ∨ (x ≠ 0 ∧ x ≠ 1 ∧ x ≠ 2 ∧ x ≠ 3) by omega) with rfl | rfl | h23 | ⟨n0, n1, n2, n3⟩
  · go_wp2_with fail
    refine (dtext_any 1 pc a len cap _ hc1 (by omega)).mono ?_
    rintro e w2 ⟨t, t1, t2, rfl, hc2, hg2⟩
    have hadd := fun wx => run_string_add_sum (P := Try.prog) (w := wx) s t (by omega)
    go_wp2
    go_ret
    exact ⟨s ++ t, by rw [ByteArray.size_append]; omega, rfl, hc2, hg1.trans hg2⟩
  · go_wp2_with fail
    refine (below_any _ pc a len cap _ hc1 (by omega)).mono ?_
    rintro e w2 ⟨y, hy, _, rfl, hc2, hg2⟩
    have hy2 := hy (by omega)
    have hy3 : (y : Int) ≤ (s.size : Int) := by omega
    clear hy
    go_wp2
    go_ret
    exact ⟨s.extract 0 y, by rw [ByteArray.size_extract]; omega, rfl, hc2, hg1.trans hg2⟩
  · by_cases h0 : 0 < s.size
    · have hb0 : ((x : Int) == 0) = false := beq_eq_false_iff_ne.2 (by omega)
      have hb1 : ((x : Int) == 1) = false := beq_eq_false_iff_ne.2 (by omega)
      have hsz : (0 : Int) < (s.size : Int) := by omega
      obtain ⟨b2, hb2⟩ : ∃ b : Bool, ((x : Int) == 2) = b := ⟨_, rfl⟩
      have hb3 : b2 = false → ((x : Int) == 3) = true := by
        intro h
        rw [h] at hb2
        have := beq_eq_false_iff_ne.1 hb2
        rcases h23 with rfl | rfl
        · exact absurd rfl this
        · rfl
      cases b2 with
      | true =>
        clear hb3 h23
        go_wp2_with fail
        refine (below_any _ pc a len cap _ hc1 (by omega)).mono ?_
        rintro e w2 ⟨y, hy, _, rfl, hc2, hg2⟩
        have hy2 := hy (by omega)
        have hcd : Cur w2.drew pc a len cap := hc2.below ((Below.refl _ _).drew) hc2.lt hc2.codeLt
        have hgd : w2.grownBy w2.drew (some pc) := ⟨rfl, rfl, rfl, Nat.le_refl _, fun _ _ _ => rfl⟩
        have hw1 : IntKind.i64.wrap ((y : Int) + 1) = (y : Int) + 1 := IntWalk.i64_in _ ⟨by omega, by omega⟩
        have sl1 : ∀ wx, (Instr.slice 9 (.string s) none (some (.int .i64 (y : Int))) none).run Try.prog wx = .ok (.string (s.extract 0 y)) wx := fun wx => by
          have := run_slice_string_to_if (P := Try.prog) (w := wx) 9 s .i64 (y : Int) Try.underlying9
          rw [this]; simp; omega
        have sl2 : ∀ wx, (Instr.slice 9 (.string s) (some (.int .i64 ((y : Int) + 1))) none none).run Try.prog wx = .ok (.string (s.extract (y + 1) s.size)) wx := fun wx => by
          have := run_slice_string_from_if (P := Try.prog) (w := wx) 9 s .i64 ((y : Int) + 1) Try.underlying9
          rw [this]; simp; omega
        have z1 : (s.extract 0 y).size = y := by rw [ByteArray.size_extract]; omega
        have z2 : (s.extract (y + 1) s.size).size = s.size - (y + 1) := by rw [ByteArray.size_extract]; omega
        generalize s.extract 0 y = A1 at sl1 z1
        generalize s.extract (y + 1) s.size = A2 at sl2 z2
        have ad1 := fun (t : ByteArray) (ht : t.size ≤ 5000) (wx : World) => run_string_add_sum (P := Try.prog) (w := wx) A1 t (by omega)
        have ad2 := fun (t : ByteArray) (ht : t.size ≤ 5000) (wx : World) => run_string_add_sum (P := Try.prog) (w := wx) (A1 ++ t) A2 (by rw [ByteArray.size_append]; omega)
        clear hy
        go_wp2_with fail
        go_region_held3 (fun _ => True) (trivial) (first | (go_at_call 90; refine (dtext_any 1 pc a len cap _ hcd (by omega)).mono ?_; rintro e w3 ⟨t, t1, t2, rfl, hc3, hg3⟩))
        all_goals
          go_wp2
          go_ret
          exact ⟨_, by simp only [ByteArray.size_append]; omega, rfl, hc3, (hg1.trans hg2).trans (hgd.trans hg3)⟩
      | false =>
        have hb3' := hb3 rfl
        clear hb3 h23
        go_wp2_with fail
        refine (below_any _ pc a len cap _ hc1 (by omega)).mono ?_
        rintro e w2 ⟨y, hy, _, rfl, hc2, hg2⟩
        have hy2 := hy (by omega)
        have hcd : Cur w2.drew pc a len cap := hc2.below ((Below.refl _ _).drew) hc2.lt hc2.codeLt
        have hgd : w2.grownBy w2.drew (some pc) := ⟨rfl, rfl, rfl, Nat.le_refl _, fun _ _ _ => rfl⟩
        have hw1 : IntKind.i64.wrap ((y : Int) + 1) = (y : Int) + 1 := IntWalk.i64_in _ ⟨by omega, by omega⟩
        have sl1 : ∀ wx, (Instr.slice 9 (.string s) none (some (.int .i64 (y : Int))) none).run Try.prog wx = .ok (.string (s.extract 0 y)) wx := fun wx => by
          have := run_slice_string_to_if (P := Try.prog) (w := wx) 9 s .i64 (y : Int) Try.underlying9
          rw [this]; simp; omega
        have sl2 : ∀ wx, (Instr.slice 9 (.string s) (some (.int .i64 ((y : Int) + 1))) none none).run Try.prog wx = .ok (.string (s.extract (y + 1) s.size)) wx := fun wx => by
          have := run_slice_string_from_if (P := Try.prog) (w := wx) 9 s .i64 ((y : Int) + 1) Try.underlying9
          rw [this]; simp; omega
        have z1 : (s.extract 0 y).size = y := by rw [ByteArray.size_extract]; omega
        have z2 : (s.extract (y + 1) s.size).size = s.size - (y + 1) := by rw [ByteArray.size_extract]; omega
        generalize s.extract 0 y = A1 at sl1 z1
        generalize s.extract (y + 1) s.size = A2 at sl2 z2
        have ad1 := fun (t : ByteArray) (ht : t.size ≤ 5000) (wx : World) => run_string_add_sum (P := Try.prog) (w := wx) A1 t (by omega)
        have ad2 := fun (t : ByteArray) (ht : t.size ≤ 5000) (wx : World) => run_string_add_sum (P := Try.prog) (w := wx) (A1 ++ t) A2 (by rw [ByteArray.size_append]; omega)
        clear hy
        go_wp2_with fail
        go_region_held3 (fun _ => True) (trivial) (first | (go_at_call 90; refine (dtext_any 1 pc a len cap _ hcd (by omega)).mono ?_; rintro e w3 ⟨t, t1, t2, rfl, hc3, hg3⟩))
        all_goals
          go_wp2
          go_ret
          exact ⟨_, by simp only [ByteArray.size_append]; omega, rfl, hc3, (hg1.trans hg2).trans (hgd.trans hg3)⟩
    · have hb0 : ((x : Int) == 0) = false := beq_eq_false_iff_ne.2 (by omega)
      have hb1 : ((x : Int) == 1) = false := beq_eq_false_iff_ne.2 (by omega)
      have hsz : ¬ (0 : Int) < (s.size : Int) := by omega
      rcases h23 with rfl | rfl
      · go_wp2
        go_ret
        exact ⟨s, by omega, rfl, hc1, hg1⟩
      · go_wp2
        go_ret
        exact ⟨s, by omega, rfl, hc1, hg1⟩
  · have hb0 : ((x : Int) == 0) = false := beq_eq_false_iff_ne.2 (by omega)
    have hb1 : ((x : Int) == 1) = false := beq_eq_false_iff_ne.2 (by omega)
    have hb2 : ((x : Int) == 2) = false := beq_eq_false_iff_ne.2 (by omega)
    have hb3 : ((x : Int) == 3) = false := beq_eq_false_iff_ne.2 (by omega)
    clear n0 n1 n2 n3
    go_wp2
    go_ret
    exact ⟨s, by omega, rfl, hc1, hg1⟩

end Go.Proofs.Ythlbokfajiahpaa
