/- Frames: what FrameOk hands back, of the model and of the program. -/
import Derived.Test.YtlifgcgoehkinaaDoorPlainFrame
import Derived.Test.YtlifgcgoehkinaaDoorVar
import Derived.Lib.Hide
import Derived.Deep.RegionHeld3
import Derived.Deep.QuietTactic
import Derived.BigQuiet
namespace Go.Proofs.YtlifgcgoehkinaaDoor
open Go.RowKit

/-- A frame as a value. -/
def Fr.v (f : Fr) : Value := .agg #[.int .i64 f.gen, .int .i64 f.seq, .string f.body]
def Fr.numOk (n : Int) : Prop := 1 ≤ n ∧ n ≤ 1000000000
instance (n : Int) : Decidable (Fr.numOk n) := by unfold Fr.numOk; infer_instance

theorem numberOk_any (n : Int) (w : World) : Calls Tryd.prog 26 #[.int .i64 n] w fun e w' => e = .returned (.bool (decide (Fr.numOk n))) ∧ w = w' := by
  by_cases h1 : 1 ≤ n
  · by_cases h2 : n ≤ 1000000000
    all_goals
      have e : decide (Fr.numOk n) = decide (n ≤ 1000000000) := by simp [Fr.numOk, h1]
      rw [e]
      go_enter Tryd.func26, Tryd.ntmps26
      go_wp2
      go_ret
      simp [h2]
  · have e : decide (Fr.numOk n) = false := by simp [Fr.numOk, h1]
    rw [e]
    go_enter Tryd.func26, Tryd.ntmps26
    go_wp2
    go_ret
    simp

theorem box3_cells (w : World) (f : Fr) : (w.alloc (.cells #[.int .i64 f.gen, .int .i64 f.seq, .string f.body] 30)).cell? ⟨w.heap.size, 0, none⟩ = some (.int .i64 f.gen) ∧
    (w.alloc (.cells #[.int .i64 f.gen, .int .i64 f.seq, .string f.body] 30)).cell? ⟨w.heap.size, 1, none⟩ = some (.int .i64 f.seq) ∧
    (w.alloc (.cells #[.int .i64 f.gen, .int .i64 f.seq, .string f.body] 30)).cell? ⟨w.heap.size, 2, none⟩ = some (.string f.body) := by
  refine ⟨?_, ?_, ?_⟩ <;> simp [go_sem]

set_option maxRecDepth 100000 in
set_option maxHeartbeats 1000000 in
theorem implFrameOk_any (f : Fr) (w : World) (hs : f.body.size ≤ 1099511627776) :
    Calls Tryd.prog 16 #[f.v] w fun e w' => e = .returned (.bool (decide f.ok)) ∧ Below w.heap.size w w' := by
  obtain ⟨c0, c1, c2⟩ := box3_cells w f
  have b0 : Below w.heap.size w (w.alloc (.cells #[.int .i64 f.gen, .int .i64 f.seq, .string f.body] 30)) := (Below.refl _ _).alloc (Nat.le_refl _) _
  unfold Fr.v
  by_cases hg : Fr.numOk f.gen
  · by_cases hq : Fr.numOk f.seq
    · have e : decide f.ok = (decide (1 ≤ f.body.size) && decide (f.body.size ≤ 180)) := by
        have h1 := hg; have h2 := hq
        unfold Fr.numOk at h1 h2
        simp [Fr.ok, h1, h2]
      rw [e]
      by_cases h1 : 1 ≤ f.body.size
      · by_cases h2 : f.body.size ≤ 180
        all_goals
          have HG := Lib.hid hg; have HQ := Lib.hid hq
          clear hg hq e
          go_enter Tryd.func16, Tryd.ntmps16
          go_wp2_with (first
            | (go_at_call 26; refine (numberOk_any _ _).mono ?_; rintro e w1 ⟨rfl, rfl⟩; first | rw [decide_eq_true HG.out] | rw [decide_eq_true HQ.out]))
          go_ret
          exact ⟨by simp [h1, h2]; try omega, b0⟩
      · have HG := Lib.hid hg; have HQ := Lib.hid hq
        clear hg hq e
        go_enter Tryd.func16, Tryd.ntmps16
        go_wp2_with (first
          | (go_at_call 26; refine (numberOk_any _ _).mono ?_; rintro e w1 ⟨rfl, rfl⟩; first | rw [decide_eq_true HG.out] | rw [decide_eq_true HQ.out]))
        go_ret
        exact ⟨by simp, b0⟩
    · have e : decide f.ok = false := by
        apply decide_eq_false
        intro h
        exact hq h.2.1
      rw [e]
      have HG := Lib.hid hg; have HQ := Lib.hid hq
      clear hg hq e
      go_enter Tryd.func16, Tryd.ntmps16
      go_wp2_with (first
        | (go_at_call 26; refine (numberOk_any _ _).mono ?_; rintro e w1 ⟨rfl, rfl⟩; first | rw [decide_eq_true HG.out] | rw [decide_eq_false HQ.out]))
      go_ret
      exact ⟨rfl, b0⟩
  · have e : decide f.ok = false := by
      apply decide_eq_false
      intro h
      exact hg h.1
    rw [e]
    have HG := Lib.hid hg
    clear hg e
    go_enter Tryd.func16, Tryd.ntmps16
    go_wp2_with (first
      | (go_at_call 26; refine (numberOk_any _ _).mono ?_; rintro e w1 ⟨rfl, rfl⟩; rw [decide_eq_false HG.out]))
    go_ret
    exact ⟨rfl, b0⟩

theorem in_any (x a b : Int) (w : World) :
    Calls Tryd.prog 21 #[.int .i64 x, .int .i64 a, .int .i64 b] w fun e w' => e = .returned (.bool (decide (a ≤ x ∧ x ≤ b))) ∧ w = w' := by
  refine (l01In_any x a b w).mono ?_
  rintro e w' ⟨rfl, rfl⟩
  exact ⟨by simp, rfl⟩

set_option maxRecDepth 100000 in
set_option maxHeartbeats 1000000 in
theorem specFrameOk_any (f : Fr) (w : World) (hs : f.body.size ≤ 1099511627776) :
    Calls Tryd.prog 13 #[f.v] w fun e w' => e = .returned (.bool (decide f.ok)) ∧ Below w.heap.size w w' := by
  obtain ⟨c0, c1, c2⟩ := box3_cells w f
  have b0 : Below w.heap.size w (w.alloc (.cells #[.int .i64 f.gen, .int .i64 f.seq, .string f.body] 30)) := (Below.refl _ _).alloc (Nat.le_refl _) _
  unfold Fr.v
  by_cases hg : 1 ≤ f.gen ∧ f.gen ≤ 1000000000
  · by_cases hq : 1 ≤ f.seq ∧ f.seq ≤ 1000000000
    · have e : decide f.ok = decide ((1 : Int) ≤ (f.body.size : Int) ∧ (f.body.size : Int) ≤ 180) := by
        apply decide_eq_decide.2
        unfold Fr.ok
        constructor
        · intro h; omega
        · intro h; exact ⟨hg, hq, by omega⟩
      rw [e]
      have HG := Lib.hid hg; have HQ := Lib.hid hq
      clear hg hq e
      go_enter Tryd.func13, Tryd.ntmps13
      go_wp2_with (first
        | (go_at_call 21; refine (in_any _ _ _ _).mono ?_; rintro e w1 ⟨rfl, rfl⟩; first | rw [decide_eq_true HG.out] | rw [decide_eq_true HQ.out] | skip))
      go_ret
      exact ⟨by simp, b0⟩
    · have e : decide f.ok = false := by
        apply decide_eq_false
        intro h
        exact hq h.2.1
      rw [e]
      have HG := Lib.hid hg; have HQ := Lib.hid hq
      clear hg hq e
      go_enter Tryd.func13, Tryd.ntmps13
      go_wp2_with (first
        | (go_at_call 21; refine (in_any _ _ _ _).mono ?_; rintro e w1 ⟨rfl, rfl⟩; first | rw [decide_eq_true HG.out] | rw [decide_eq_false HQ.out]))
      go_ret
      exact ⟨rfl, b0⟩
  · have e : decide f.ok = false := by
      apply decide_eq_false
      intro h
      exact hg h.1
    rw [e]
    have HG := Lib.hid hg
    clear hg e
    go_enter Tryd.func13, Tryd.ntmps13
    go_wp2_with (first
      | (go_at_call 21; refine (in_any _ _ _ _).mono ?_; rintro e w1 ⟨rfl, rfl⟩; rw [decide_eq_false HG.out]))
    go_ret
    exact ⟨rfl, b0⟩

end Go.Proofs.YtlifgcgoehkinaaDoor
