/- The figures of a number below 0: what spec.Decimal hands back of every number. -/
import Derived.Test.YtpknmloeaiieaanDoorDecimal
namespace Go.Proofs.YtpknmloeaiieaanDoor
open Go.RowKit

/-- The figures of every number. -/
def decI (n : Int) : List UInt8 := if n < 0 then 45 :: digs n.natAbs else dec n.toNat

set_option maxRecDepth 100000 in
set_option maxHeartbeats 1000000 in
theorem specDecimal_neg (n : Nat) (w : World) (h1 : 1 ≤ n) (hn : n ≤ 9223372036854775808) :
    Calls Tryd.prog 7 #[.int .i64 (-(n : Int))] w fun e w' => e = .returned (.string ⟨(45 :: digs n).toArray⟩) ∧ Below w.heap.size w w' := by
  have hz : ((-(n : Int)) == 0) = false := beq_eq_false_iff_ne.2 (by omega)
  have hneg : -(n : Int) < 0 := by omega
  have hdl := digs_len_half2 n
  go_enter Tryd.func7, Tryd.ntmps7
  go_wp2
  go_loopw [0, 4] (fun nv sv wr => ∃ (m : Nat) (acc : List UInt8), m ≤ n ∧ nv = .int .i64 (-(m : Int)) ∧ sv = .string ⟨acc.toArray⟩ ∧ digs m ++ acc = digs n ∧ Below w.heap.size w wr) (fun nv _ _ => (-(intOf nv)).toNat)
  case atStart => exact ⟨n, [], Nat.le_refl _, rfl, rfl, by simp, Below.refl _ _⟩
  case round =>
    obtain ⟨m, acc, hm, rfl, rfl, he0, hbel⟩ := hrel
    have he : Hid (digs m ++ acc = digs n) := he0
    have hal : acc.length ≤ (digs n).length := by have h1 := congrArg List.length he0; simp at h1; omega
    clear he0
    by_cases hm0 : m = 0
    · subst hm0
      have hsp := string_push 45 acc (by omega)
      go_wp2
      go_ret
      refine ⟨?_, hbel⟩
      have := he.out
      rw [digs_zero, List.nil_append] at this
      rw [← this]
      rfl
    · have hnz : ((-(m : Int)) != 0) = true := by rw [bne_iff_ne]; omega
      obtain ⟨b, hb0⟩ : ∃ b : UInt8, fig (m % 10) = b := ⟨_, rfl⟩
      have hb1 : Hid (b = figD (m % 10)) := by rw [← hb0]; exact fig_figD (by omega)
      have hcv := one_string wr (b.toNat : Int) b rfl
      have hsp := string_push b acc (by omega)
      have hfig : Hid (fig (m % 10) = b) := hb0
      have ht1 : (-(m : Int)).tmod 10 = -((m : Int) % 10) := by rw [Int.neg_tmod, Int.tmod_eq_emod_of_nonneg (by omega)]
      have ht2 : (-(m : Int)).tdiv 10 = -((m : Int) / 10) := by rw [Int.neg_tdiv, Int.tdiv_eq_ediv_of_nonneg (by omega)]
      clear hb0
      by_cases hmod : m % 10 = 0
      · go_wp2_with (go_at_call 15; refine (figure_at_nat _ (m % 10) _ (by omega) (by omega)).mono ?_; rintro e w1 ⟨rfl, rfl⟩; rw [hfig.out])
        go_roundw
        case rel => exact ⟨m / 10, b :: acc, by omega, by go_num, rfl, by rw [hb1.out]; exact digs_push he.out hm0, hbel.alloc hbel.size _⟩
        case measure => simp [intOf]; omega
      · go_wp2_with (go_at_call 15; refine (figure_at_nat _ (m % 10) _ (by omega) (by omega)).mono ?_; rintro e w1 ⟨rfl, rfl⟩; rw [hfig.out])
        go_roundw
        case rel => exact ⟨m / 10, b :: acc, by omega, by go_num, rfl, by rw [hb1.out]; exact digs_push he.out hm0, hbel.alloc hbel.size _⟩
        case measure => simp [intOf]; omega

theorem specDecimal_all (n : Int) (w : World) (h1 : -9223372036854775808 ≤ n) (h2 : n ≤ 9223372036854775807) :
    Calls Tryd.prog 7 #[.int .i64 n] w fun e w' => e = .returned (.string ⟨(decI n).toArray⟩) ∧ Below w.heap.size w w' := by
  by_cases h : n < 0
  · have := specDecimal_neg n.natAbs w (by omega) (by omega)
    rw [show (-((n.natAbs : Nat) : Int)) = n by omega] at this
    rw [decI, if_pos h]
    exact this
  · have := specDecimal_nat n.toNat w (by omega)
    rw [show ((n.toNat : Nat) : Int) = n by omega] at this
    rw [decI, if_neg h]
    exact this

end Go.Proofs.YtpknmloeaiieaanDoor
