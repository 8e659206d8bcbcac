/- Texts of our own, joined. -/
import Derived.Test.YtlifgcgoehkinaaGreatDoorJi
import Derived.Test.YtlifgcgoehkinaaGreatDoorJbx
import Derived.Lib.Small
import Derived.Lib.Hide
/- How the records of a box are gathered in memory; the latest of a mail. -/
namespace Go.Proofs.YtlifgcgoehkinaaGreatDoor
open Go.RowKit

def itmV (x : Itm) : Value := itV x.1 x.2
set_option maxRecDepth 100000 in
set_option maxHeartbeats 1000000 in
theorem isNaN_any (x : Int) (w : World) : Calls Tryz.prog 108 #[.int .i64 x] w fun e w' => e = .returned (.bool false) ∧ w = w' := by
  go_enter Tryz.func108, Tryz.ntmps108
  go_wp2
  go_ret
  exact ⟨by simp, rfl⟩
set_option maxRecDepth 100000 in
set_option maxHeartbeats 1000000 in
theorem compare_any (x y : Int) (w : World) : Calls Tryz.prog 103 #[.int .i64 x, .int .i64 y] w fun e w' => e = .returned (.int .i64 (Lib.compareInt x y)) ∧ w = w' := by
  have HX := Lib.hid (fun X => isNaN_any x X)
  have HY := Lib.hid (fun X => isNaN_any y X)
  obtain ⟨c, hc⟩ : ∃ c, Lib.compareInt x y = c := ⟨_, rfl⟩
  rw [hc]
  have HC := Lib.hid hc
  clear hc
  go_enter Tryz.func103, Tryz.ntmps103
  go_wp2_with fail
  refine (HX.out _).mono ?_
  rintro e w1 ⟨rfl, rfl⟩
  go_wp2_with fail
  refine (HY.out _).mono ?_
  rintro e w1 ⟨rfl, rfl⟩
  by_cases h1 : x < y
  · have HD : Hid (c = -1) := by show _ = _; rw [← HC.out]; unfold Lib.compareInt; rw [if_pos h1]
    clear HC HX HY
    go_wp2
    go_ret
    exact ⟨by rw [HD.out]; rfl, rfl⟩
  · by_cases h2 : x > y
    · have HD : Hid (c = 1) := by show _ = _; rw [← HC.out]; unfold Lib.compareInt; rw [if_neg h1, if_pos h2]
      clear HC HX HY
      go_wp2
      go_ret
      exact ⟨by rw [HD.out]; rfl, rfl⟩
    · have HD : Hid (c = 0) := by show _ = _; rw [← HC.out]; unfold Lib.compareInt; rw [if_neg h1, if_neg h2]
      clear HC HX HY
      go_wp2
      go_ret
      exact ⟨by rw [HD.out]; rfl, rfl⟩

set_option maxRecDepth 100000 in
set_option maxHeartbeats 1000000 in
theorem cmpOr_any (x y : Int) (g : Nat) (w : World) (h0 : w.cell? ⟨g, 0, none⟩ = some (.int .i64 x)) (h1 : w.cell? ⟨g, 1, none⟩ = some (.int .i64 y)) :
    Calls Tryz.prog 102 #[.slice (some ⟨g, 0, none⟩) 2 2] w fun e w' => e = .returned (.int .i64 (if x ≠ 0 then x else y)) ∧ w = w' := by
  obtain ⟨D, hD⟩ : ∃ D, (if x ≠ 0 then x else y) = D := ⟨_, rfl⟩
  have HD := Lib.hid hD
  rw [hD]
  clear hD
  go_enter Tryz.func102, Tryz.ntmps102
  go_wp2
  go_loopw [8] (fun iv wr => (iv = .int .i64 0 ∨ (iv = .int .i64 1 ∧ Hid (x = 0)) ∨ (iv = .int .i64 2 ∧ Hid (x = 0) ∧ Hid (y = 0))) ∧ w = wr) (fun iv _ => 2 - (intOf iv).toNat)
  case atStart => exact ⟨.inl rfl, rfl⟩
  case round =>
    obtain ⟨hc, rfl⟩ := hrel
    rcases hc with rfl | ⟨rfl, hx⟩ | ⟨rfl, hx, hy⟩
    · by_cases hx : x = 0
      · have HX := Lib.hid hx
        go_wp2
        exact ⟨⟨.inr (.inl ⟨by first | rfl | go_num, HX⟩), by trivial⟩, by simp [intOf]⟩
      · have HX := Lib.hid hx
        go_wp2
        go_ret
        exact ⟨by rw [← HD.out, if_pos HX.out]; rfl, rfl⟩
    · by_cases hy : y = 0
      · have HY := Lib.hid hy
        go_wp2
        exact ⟨⟨.inr (.inr ⟨by first | rfl | go_num, hx, HY⟩), by trivial⟩, by simp [intOf]⟩
      · go_wp2
        go_ret
        exact ⟨by rw [← HD.out, if_neg (fun c => c hx.out)]; rfl, rfl⟩
    · go_wp2
      go_ret
      exact ⟨by rw [← HD.out, if_neg (fun c => c hx.out), hy.out]; rfl, rfl⟩

end Go.Proofs.YtlifgcgoehkinaaGreatDoor
