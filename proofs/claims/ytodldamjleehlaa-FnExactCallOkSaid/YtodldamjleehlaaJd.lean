/- Texts of our own, joined. -/
import Derived.Test.YtodldamjleehlaaJb
import Derived.Deep.RegionLaw
/- CallOk of the program: what a Kind uses. -/
namespace Go.Proofs.Ytodldamjleehlaa
open Go.RowKit

def lastU (l : List Int) : Nat → Int
  | 0 => 0
  | i + 1 => (l[i]?).getD 0

set_option maxRecDepth 100000 in
set_option maxHeartbeats 2000000 in
theorem uidsOk_any (l : List Int) (v : Value) (w : World) (h : Rows' intE w v l) (hl : l.length ≤ 1048576) :
    Calls Try.prog 19 #[v] w fun e w' => e = .returned (.bool (sameP (uidsP l))) ∧ w' = w := by
  obtain ⟨ad, cap, rfl, hrow⟩ := h.intsD
  have HA := Lib.hid (hrow w (Below.refl _ _))
  clear h hrow
  obtain ⟨D, hD⟩ : ∃ D, sameP (uidsP l) = D := ⟨_, rfl⟩
  have HD := Lib.hid hD
  rw [hD]
  clear hD
  obtain ⟨n, hn⟩ : ∃ n, l.length = n := ⟨_, rfl⟩
  have HN := Lib.hid hn
  rw [hn] at hl ⊢
  clear hn
  go_enter Try.func19, Try.ntmps19
  go_wp2
  go_loopw [3, 8] (fun lv iv wr => ∃ i : Nat, i ≤ n ∧ iv = .int .i64 (i : Int) ∧ lv = .int .i64 (lastU l i) ∧ (∀ j, j < i → UidAt l j) ∧ wr = w) (fun _ iv _ => n - (intOf iv).toNat)
  case atStart => exact ⟨0, by omega, rfl, rfl, fun j hj => by omega, rfl⟩
  case round =>
    obtain ⟨i, hi, rfl, rfl, hU, rfl⟩ := hrel
    have HU := Lib.hid hU
    clear hU
    by_cases hlt : i < n
    · obtain ⟨x, hgx⟩ : ∃ x, l[i]? = some x := ⟨_, List.getElem?_eq_getElem (by rw [HN.out]; exact hlt)⟩
      obtain ⟨ga, oa, rfl, p0⟩ := HA.out i _ hgx
      have HX := Lib.hid hgx
      clear hgx
      have hi0 : (0 : Int) ≤ (i : Int) := by omega
      have hi1 : (i : Int) < (n : Int) := by omega
      have hls : Hid (lastU l (i + 1) = x) := by show (l[i]?).getD 0 = x; rw [HX.out]; rfl
      have hat : Hid (UidAt l i ↔ (1 ≤ x ∧ x ≤ 9999) ∧ ¬ (x ≤ lastU l i)) := by
        show UidAt l i ↔ _
        constructor
        · intro h
          obtain ⟨h1, h2⟩ := h x HX.out
          refine ⟨h1, ?_⟩
          cases i with
          | zero => simp only [lastU]; omega
          | succ j =>
            have hj : j < l.length := by have := HN.out; omega
            have hg := List.getElem?_eq_getElem hj
            have := h2 l[j] (by omega) hg
            simp only [lastU, hg, Option.getD_some]; omega
        · rintro ⟨h1, h2⟩ x' hx'
          rw [HX.out] at hx'
          cases hx'
          refine ⟨h1, fun y hy0 hy => ?_⟩
          cases i with
          | zero => omega
          | succ j =>
            simp only [Nat.add_sub_cancel] at hy
            simp only [lastU, hy, Option.getD_some] at h2
            omega
      generalize lastU l i = la at *
      by_cases h1 : x ≤ la
      · have HE : Hid (D = false) := by
          show D = false
          rw [← HD.out]
          exact sameP_no (fun e => (hat.out.1 (e.1 i)).2 h1)
        clear hat hls
        go_wp2
        go_ret
        exact ⟨by rw [HE.out]; rfl, rfl⟩
      by_cases h2 : 1 ≤ x ∧ x ≤ 9999
      · have HK : Hid (UidAt l i) := hat.out.2 ⟨h2, h1⟩
        clear hat
        go_wp2_with (go_at_call 18; refine (validOk_yes _ _ h2.1 h2.2).mono ?_; rintro e w5 ⟨rfl, rfl⟩)
        go_roundw
        case rel => exact ⟨i + 1, by omega, by go_num, by rw [hls.out], fun j hj => by
          by_cases c : j = i
          · subst c; exact HK.out
          · exact HU.out j (by omega), trivial⟩
        case measure => simp [intOf]; omega
      · have HE : Hid (D = false) := by
          show D = false
          rw [← HD.out]
          exact sameP_no (fun e => h2 (hat.out.1 (e.1 i)).1)
        clear hat hls
        go_wp2_with (go_at_call 18; refine (validOk_no _ _ h2).mono ?_; rintro e w5 ⟨rfl, rfl⟩)
        go_ret
        exact ⟨by rw [HE.out]; rfl, rfl⟩
    · have HE : Hid (D = decide ((n : Int) ≤ 8)) := by
        show D = decide ((n : Int) ≤ 8)
        rw [← HD.out]
        by_cases h8 : n ≤ 8
        · have hall : uidsP l := by
            refine ⟨fun j => ?_, by rw [HN.out]; exact h8⟩
            by_cases hj : j < i
            · exact HU.out j hj
            · intro x hx
              have := (List.getElem?_eq_some_iff.1 hx).1
              have := HN.out
              omega
          rw [sameP_yes hall]
          exact (decide_eq_true (by omega)).symm
        · rw [sameP_no (fun e => h8 (by have := e.2; have := HN.out; omega)), decide_eq_false (by omega)]
      go_wp2
      go_ret
      exact ⟨by rw [HE.out]; rfl, rfl⟩

end Go.Proofs.Ytodldamjleehlaa
