/- Lines: TakeLine of the model. -/
import Derived.Test.YtnaaebbinmpjeaaLinP
namespace Go.Proofs.Ytnaaebbinmpjeaa
open Go.RowKit

set_option maxRecDepth 100000 in
set_option maxHeartbeats 4000000 in
theorem specTakeLine_any (s : ByteArray) (w : World) (hs : s.size ≤ 1099511627776) :
    Calls Try.prog 7 #[.string s] w fun e w' => (∃ a b c, e = .returned (.tuple #[.string a, .string b, .int .i64 c]) ∧ TkR s a b c) ∧ Below w.heap.size w w' := by
  go_enter Try.func7, Try.ntmps7
  go_wp2
  go_loop [5] (fun iv => ∃ i : Nat, i ≤ 81 ∧ iv = .int .i64 (i : Int) ∧ ∀ j, j < i → ¬ CrAt s j) (fun iv => 81 - (intOf iv).toNat)
  case atStart => exact ⟨0, by omega, rfl, fun j hj => by omega⟩
  case round =>
    obtain ⟨i, hi, rfl, hN⟩ := hrel
    have HN := Lib.hid hN
    clear hN
    have hw1 : IntKind.i64.wrap ((i : Int) + 1) = (i : Int) + 1 := IntWalk.i64_in _ ⟨by omega, by omega⟩
    have hw2 : IntKind.i64.wrap ((i : Int) + 2) = (i : Int) + 2 := IntWalk.i64_in _ ⟨by omega, by omega⟩
    by_cases h1 : i + 1 < s.size ∧ i ≤ 80
    · obtain ⟨h1, h2⟩ := h1
      have g1 : (i : Int) + 1 < (s.size : Int) := by omega
      have g2 : (i : Int) ≤ 80 := by omega
      have x1 := fun wx => index_atW s i (by omega) wx
      have x2 : ∀ wx, (Instr.index 9 (.string s) (.int .i64 ((i : Int) + 1))).run Try.prog wx = .ok (.int .u8 (s[i + 1].toNat : Int)) wx := fun wx => index_atW s (i + 1) h1 wx
      by_cases c1 : s[i].toNat = 13
      · have d1 : (s[i].toNat : Int) = 13 := by omega
        by_cases c2 : s[i + 1].toNat = 10
        · have d2 : (s[i + 1].toNat : Int) = 10 := by omega
          have HT : Hid (TkR s (s.extract 0 i) (s.extract (i + 2) s.size) 0) := .inl ⟨i, h2, ⟨h1, c1, c2⟩, HN.out, rfl, rfl, rfl⟩
          clear c1 c2
          rw [d1] at x1
          rw [d2] at x2
          go_wp2
          go_region
          go_wp2
          go_ret3
          exact ⟨⟨_, _, _, rfl, HT.out⟩, (Below.refl _ _).drew⟩
        · have d2 : ¬ ((s[i + 1].toNat : Int) = 10) := by omega
          have HK : Hid (¬ CrAt s i) := fun ⟨_, _, h⟩ => c2 h
          clear c1 c2
          rw [d1] at x1
          generalize (s[i + 1].toNat : Int) = y at *
          go_wp2
          go_round
          case rel => exact ⟨i + 1, by omega, by go_num, fun j hj => by
            by_cases c : j = i
            · subst c; exact HK.out
            · exact HN.out j (by omega)⟩
          case measure => simp [intOf]; omega
      · have d1 : ¬ ((s[i].toNat : Int) = 13) := by omega
        have HK : Hid (¬ CrAt s i) := fun ⟨_, h, _⟩ => c1 h
        clear c1 x2
        generalize (s[i].toNat : Int) = y at *
        go_wp2
        go_round
        case rel => exact ⟨i + 1, by omega, by go_num, fun j hj => by
          by_cases c : j = i
          · subst c; exact HK.out
          · exact HN.out j (by omega)⟩
        case measure => simp [intOf]; omega
    · have HA : Hid (∀ j, j ≤ 80 → ¬ CrAt s j) := fun j hj ⟨h, c⟩ => by
        by_cases q : j < i
        · exact HN.out j q ⟨h, c⟩
        · exact h1 ⟨by omega, by omega⟩
      by_cases e1 : i + 1 < s.size
      · have e1i : (i : Int) + 1 < (s.size : Int) := by omega
        have e2 : ¬ ((i : Int) ≤ 80) := by omega
        have h3 : 80 < s.size := by omega
        have h4 : ¬ s.size = 81 := by omega
        have g3 : (80 : Int) < (s.size : Int) := by omega
        have g4 : ¬ ((s.size : Int) = 81) := by omega
        have HT : Hid (TkR s emp (s.extract 80 s.size) 2) := .inr ⟨HA.out, rfl, .inl ⟨⟨h3, fun h => h4 h.1⟩, rfl, rfl⟩⟩
        clear h1 e1 h4
        go_wp2
        go_region
        go_wp2
        go_ret3
        exact ⟨⟨_, _, _, rfl, HT.out⟩, (Below.refl _ _).drew⟩
      · have e1i : ¬ ((i : Int) + 1 < (s.size : Int)) := by omega
        clear h1 e1
        by_cases h3 : 80 < s.size
        · have g3 : (80 : Int) < (s.size : Int) := by omega
          by_cases h4 : s.size = 81
          · have g4 : (s.size : Int) = 81 := by omega
            have x1 : ∀ wx, (Instr.index 9 (.string s) (.int .i64 (80 : Int))).run Try.prog wx = .ok (.int .u8 (s[80].toNat : Int)) wx := fun wx => index_atW s 80 h3 wx
            by_cases h5 : s[80].toNat = 13
            · have d5 : (s[80].toNat : Int) = 13 := by omega
              have HT : Hid (TkR s emp s 1) := .inr ⟨HA.out, rfl, .inr ⟨fun h => h.2 ⟨h4, fun _ => h5⟩, rfl, rfl⟩⟩
              rw [d5] at x1
              clear h5 h4
              go_wp2
              go_ret3
              exact ⟨⟨_, _, _, rfl, HT.out⟩, Below.refl _ _⟩
            · have d5 : ¬ ((s[80].toNat : Int) = 13) := by omega
              have HT : Hid (TkR s emp (s.extract 80 s.size) 2) := .inr ⟨HA.out, rfl, .inl ⟨⟨h3, fun h => h5 (h.2 h3)⟩, rfl, rfl⟩⟩
              clear h5 h4
              generalize (s[80].toNat : Int) = y at *
              go_wp2
              go_region
              go_wp2
              go_ret3
              exact ⟨⟨_, _, _, rfl, HT.out⟩, (Below.refl _ _).drew⟩
          · have g4 : ¬ ((s.size : Int) = 81) := by omega
            have HT : Hid (TkR s emp (s.extract 80 s.size) 2) := .inr ⟨HA.out, rfl, .inl ⟨⟨h3, fun h => h4 h.1⟩, rfl, rfl⟩⟩
            clear h4
            go_wp2
            go_region
            go_wp2
            go_ret3
            exact ⟨⟨_, _, _, rfl, HT.out⟩, (Below.refl _ _).drew⟩
        · have g3 : ¬ ((80 : Int) < (s.size : Int)) := by omega
          have HT : Hid (TkR s emp s 1) := .inr ⟨HA.out, rfl, .inr ⟨fun h => h3 h.1, rfl, rfl⟩⟩
          go_wp2
          go_ret3
          exact ⟨⟨_, _, _, rfl, HT.out⟩, Below.refl _ _⟩

end Go.Proofs.Ytnaaebbinmpjeaa
