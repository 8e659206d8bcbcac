/- Texts of our own, joined. -/
import Derived.Test.YtleaahdnpjnmlaaGreatDoorJq
import Derived.Test.YtleaahdnpjnmlaaGreatDoorJs
import Derived.Test.YtleaahdnpjnmlaaGreatDoorJox
/- LiveOf, GainOf and VictimOf of the model; LiveOf and GainOf of the program. -/
namespace Go.Proofs.YtleaahdnpjnmlaaGreatDoor
open Go.RowKit

theorem Rows'.intAt {w : World} {a : Option Addr} {n c : Nat} {l : List Int} (h : Rows' intE w (.slice a n c) l) (hn : l.length = n) {i : Nat} {x : Int} (hx : l[i]? = some x) :
    ∃ g off : Nat, a = some ⟨g, off, none⟩ ∧ ∀ X, Below w.heap.size w X → X.cell? ⟨g, off + i, none⟩ = some (.int .i64 x) := by
  subst hn
  have hi : i < l.length := (List.getElem?_eq_some_iff.1 hx).1
  obtain ⟨g, off, rfl, hcl⟩ := h.at i hi
  refine ⟨g, off, rfl, fun X hX => ?_⟩
  have hcs := hcl X hX 0 _ rfl
  rw [show intE.sz = 1 from rfl, Nat.mul_one, Nat.add_zero, show l[i] = x from Option.some.inj ((List.getElem?_eq_getElem hi).symm.trans hx)] at hcs
  exact hcs

def nmA (l : List Int) (i : Int) : Int := if 0 ≤ i ∧ i < (l.length : Int) then l.getD i.toNat 0 else 0
set_option maxRecDepth 100000 in
set_option maxHeartbeats 2000000 in
theorem numberAt_any (l : List Int) (v : Value) (i : Int) (w : World) (h : Rows' intE w v l) :
    Calls Tryz.prog 21 #[v, .int .i64 i] w fun e w' => e = .returned (.int .i64 (nmA l i)) ∧ w' = w := by
  obtain ⟨a, cap, rfl⟩ : ∃ (a : Option Addr) (cap : Nat), v = .slice a l.length cap := by
    rcases h with ⟨e, a, c, rfl⟩ | ⟨g, off, c, rfl, _⟩
    · exact ⟨a, c, by rw [e]; rfl⟩
    · exact ⟨_, c, rfl⟩
  obtain ⟨N, hN⟩ : ∃ N, nmA l i = N := ⟨_, rfl⟩
  rw [hN]
  have HV := Lib.hid hN
  clear hN
  obtain ⟨m, hm⟩ : ∃ m, l.length = m := ⟨_, rfl⟩
  rw [hm] at h ⊢
  have HM := Lib.hid hm
  clear hm
  by_cases h0 : i < 0
  · go_enter Tryz.func21, Tryz.ntmps21
    go_wp2
    go_ret
    exact ⟨by rw [← HV.out]; unfold nmA; rw [if_neg (by omega)]; first | done | rfl | simp, rfl⟩
  · by_cases h1 : (m : Int) ≤ i
    · go_enter Tryz.func21, Tryz.ntmps21
      go_wp2
      go_ret
      exact ⟨by rw [← HV.out]; unfold nmA; rw [if_neg (by rw [HM.out]; omega)]; first | done | rfl | simp, rfl⟩
    · obtain ⟨k, rfl⟩ : ∃ k : Nat, i = (k : Int) := ⟨i.toNat, by omega⟩
      obtain ⟨x, hx⟩ : ∃ x, l[k]? = some x := ⟨_, List.getElem?_eq_getElem (by rw [HM.out]; omega)⟩
      obtain ⟨g, off, rfl, hc⟩ := h.intAt HM.out hx
      have hc1 := hc w (Below.refl _ _)
      have HX : Hid (N = x) := by
        show _ = _
        rw [← HV.out]; unfold nmA; rw [if_pos (by rw [HM.out]; omega), Int.toNat_natCast, List.getD_eq_getElem?_getD, hx]; rfl
      have hi0 : (0 : Int) ≤ (k : Int) := by omega
      have hi1 : (k : Int) < (m : Int) := by omega
      clear hx hc HV h
      go_enter Tryz.func21, Tryz.ntmps21
      go_wp2
      go_ret
      exact ⟨by rw [HX.out]; first | done | rfl | simp, rfl⟩

end Go.Proofs.YtleaahdnpjnmlaaGreatDoor
