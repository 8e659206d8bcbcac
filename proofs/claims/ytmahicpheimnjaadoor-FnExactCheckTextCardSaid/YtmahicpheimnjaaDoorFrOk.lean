/- Frames: what FrameOk hands back, of the model and of the program. -/
import Derived.Test.YtmahicpheimnjaaDoorPlainFrame
import Derived.Test.YtmahicpheimnjaaDoorVar
import Derived.Lib.Hide
import Derived.Deep.RegionHeld3
import Derived.Deep.QuietTactic
import Derived.BigQuiet
namespace Go.Proofs.YtmahicpheimnjaaDoor
open Go.RowKit

/-- A frame as a value. -/
def Fr.v (f : Fr) : Value := .agg #[.int .i64 f.gen, .int .i64 f.seq, .string f.body]
def Fr.numOk (n : Int) : Prop := 1 ≤ n ∧ n ≤ 1000000000
instance (n : Int) : Decidable (Fr.numOk n) := by unfold Fr.numOk; infer_instance

theorem numberOk_any (n : Int) (w : World) : Calls Tryd.prog 24 #[.int .i64 n] w fun e w' => e = .returned (.bool (decide (Fr.numOk n))) ∧ w = w' := by
  by_cases h1 : 1 ≤ n
  · by_cases h2 : n ≤ 1000000000
    all_goals
      have e : decide (Fr.numOk n) = decide (n ≤ 1000000000) := by simp [Fr.numOk, h1]
      rw [e]
      go_enter Tryd.func24, Tryd.ntmps24
      go_wp2
      go_ret
      simp [h2]
  · have e : decide (Fr.numOk n) = false := by simp [Fr.numOk, h1]
    rw [e]
    go_enter Tryd.func24, Tryd.ntmps24
    go_wp2
    go_ret
    simp


theorem in_any (x a b : Int) (w : World) :
    Calls Tryd.prog 13 #[.int .i64 x, .int .i64 a, .int .i64 b] w fun e w' => e = .returned (.bool (decide (a ≤ x ∧ x ≤ b))) ∧ w = w' := by
  refine (l01In_any x a b w).mono ?_
  rintro e w' ⟨rfl, rfl⟩
  exact ⟨by simp, rfl⟩


end Go.Proofs.YtmahicpheimnjaaDoor
