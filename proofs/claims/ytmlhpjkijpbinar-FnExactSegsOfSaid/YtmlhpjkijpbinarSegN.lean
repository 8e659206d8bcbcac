/- How many segments there are: SegsOf, the model's and the program's. -/
import Derived.Test.YtmlhpjkijpbinarSpecDisk
namespace Go.Proofs.Ytmlhpjkijpbinar
open Go.RowKit

/-- How many whole segments there are. -/
def sgN (d : Dk) : Int := if 5 ≤ ((d.sec.length : Int) - 8).tdiv 8 ∧ ((d.sec.length : Int) - 8).tdiv 8 ≤ 11 then ((d.sec.length : Int) - 8).tdiv 8 else 0

theorem tdiv8 {n : Nat} (h : n ≤ 1073741824) : -1 ≤ ((n : Int) - 8).tdiv 8 ∧ ((n : Int) - 8).tdiv 8 ≤ 1073741824 := by
  by_cases h8 : 8 ≤ n
  · rw [Int.tdiv_eq_ediv_of_nonneg (by omega)]; omega
  · rw [show (n : Int) - 8 = -((8 - n : Nat) : Int) by omega, Int.neg_tdiv, Int.tdiv_eq_ediv_of_nonneg (by omega)]; omega

set_option maxRecDepth 100000 in
theorem implSegsOf_any (d : Dk) (v : Value) (w : World) (h : DRd w v d) (hs : d.small) :
    Calls Try.prog 10 #[v] w fun e w' => e = .returned (.int .i64 (sgN d)) ∧ Below w.heap.size w w' := by
  obtain ⟨aa, ab, ca, cb, rfl, _, _⟩ := h.form
  have hx := Box.new w #[.slice aa d.sec.length ca, .slice ab d.cache.length cb] 30
  have b0 : Below w.heap.size w (w.alloc (.cells #[.slice aa d.sec.length ca, .slice ab d.cache.length cb] 30)) := (Below.refl _ _).alloc (Nat.le_refl _) _
  have c0 := hx.cell 0 (.slice aa d.sec.length ca) rfl
  have hs1 := hs.1
  clear h
  obtain ⟨q, hq⟩ : ∃ q : Int, ((d.sec.length : Int) - 8).tdiv 8 = q := ⟨_, rfl⟩
  have hqb : -1 ≤ q ∧ q ≤ 1073741824 := by rw [← hq]; exact tdiv8 hs1
  unfold sgN
  rw [hq]
  by_cases hin : 5 ≤ q ∧ q ≤ 11
  · rw [if_pos hin]
    go_enter Try.func10, Try.ntmps10
    go_wp2
    all_goals
      go_ret
      exact ⟨rfl, b0⟩
  · rw [if_neg hin]
    go_enter Try.func10, Try.ntmps10
    go_wp2
    all_goals
      go_ret
      exact ⟨rfl, b0⟩

set_option maxRecDepth 100000 in
theorem specSegsOf_any (d : Dk) (v : Value) (w : World) (h : DRd w v d) (hs : d.small) :
    Calls Try.prog 8 #[v] w fun e w' => e = .returned (.int .i64 (sgN d)) ∧ Below w.heap.size w w' := by
  obtain ⟨aa, ab, ca, cb, rfl, _, _⟩ := h.form
  have hx := Box.new w #[.slice aa d.sec.length ca, .slice ab d.cache.length cb] 30
  have b0 : Below w.heap.size w (w.alloc (.cells #[.slice aa d.sec.length ca, .slice ab d.cache.length cb] 30)) := (Below.refl _ _).alloc (Nat.le_refl _) _
  have c0 := hx.cell 0 (.slice aa d.sec.length ca) rfl
  have hs1 := hs.1
  clear h
  obtain ⟨q, hq⟩ : ∃ q : Int, ((d.sec.length : Int) - 8).tdiv 8 = q := ⟨_, rfl⟩
  have hqb : -1 ≤ q ∧ q ≤ 1073741824 := by rw [← hq]; exact tdiv8 hs1
  unfold sgN
  rw [hq]
  by_cases hin : 5 ≤ q ∧ q ≤ 11
  · rw [if_pos hin]
    go_enter Try.func8, Try.ntmps8
    go_wp2_with (go_at_call 23; refine (in_yes _ _ _ _ (by omega) (by omega)).mono ?_; rintro e w5 ⟨rfl, rfl⟩)
    go_ret
    exact ⟨rfl, b0⟩
  · rw [if_neg hin]
    go_enter Try.func8, Try.ntmps8
    go_wp2_with (go_at_call 23; refine (in_no _ _ _ _ (by omega)).mono ?_; rintro e w5 ⟨rfl, rfl⟩)
    go_ret
    exact ⟨rfl, b0⟩

end Go.Proofs.Ytmlhpjkijpbinar
