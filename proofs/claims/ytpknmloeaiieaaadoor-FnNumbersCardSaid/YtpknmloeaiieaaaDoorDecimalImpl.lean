/- The figures of every number, by the standard library: what impl.Decimal hands back where its table holds what it should. -/
import Derived.Test.YtpknmloeaiieaaaDoorDecimalAll
import Derived.Test.YtpknmloeaiieaaaDoorItoa
import Derived.Lib.LaidTab
import Derived.Lib.AppendIntMem
namespace Go.Proofs.YtpknmloeaiieaaaDoor
open Go.RowKit

theorem decDigits_eq : ∀ (n u : Nat), u ≤ n → Lib.decDigits u = dec u := by
  intro n
  induction n with
  | zero =>
    intro u h
    obtain rfl : u = 0 := by omega
    rw [Lib.decDigits]
    rfl
  | succ n ih =>
    intro u h
    rw [Lib.decDigits]
    by_cases h10 : u < 10
    · rw [dif_pos h10]
      by_cases h0 : u = 0
      · subst h0; rfl
      · rw [dec, if_neg h0, digs_step h0, show u / 10 = 0 by omega, digs_zero, show u % 10 = u by omega]
        rfl
    · rw [dif_neg h10, ih (u / 10) (by omega), dec, if_neg (by omega), dec, if_neg (by omega), digs_step (n := u) (by omega)]
      rfl

theorem itoa_eq (n : Int) : Lib.itoa n = decI n := by
  unfold Lib.itoa decI
  split
  · rename_i h
    rw [decDigits_eq _ _ (Nat.le_refl _), dec, if_neg (by omega)]
  · rw [decDigits_eq _ _ (Nat.le_refl _)]

theorem implDecimal_any (n : Int) (w : World) (h1 : -9223372036854775808 ≤ n) (h2 : n ≤ 9223372036854775807) (htab : Lib.TabIs Tryd.prog w "internal/strconv.uint64pow10" .u64 Lib.pow10Tab) :
    Calls Tryd.prog 10 #[.int .i64 n] w fun e w' => e = .returned (.string ⟨(decI n).toArray⟩) ∧ Below w.heap.size w w' := by
  have hT : Hid (Lib.TabIs Tryd.prog w "internal/strconv.uint64pow10" .u64 Lib.pow10Tab) := htab
  clear htab
  go_enter Tryd.func10, Tryd.ntmps10
  go_wp2_with (go_at_call 26; refine (Tryd.strconv_Itoa n h1 h2 _ hT.out).mono ?_; rintro e w1 ⟨rfl, k, os, rfl⟩; rw [itoa_eq])
  go_ret
  exact ⟨rfl, Lib.below_grow _ _ (Nat.le_refl _) _ _⟩

end Go.Proofs.YtpknmloeaiieaaaDoor
