/- One figure: what spec.l01Figure hands back. -/
import Derived.Test.YtichbcpidkkblaaPlainHex
import Derived.Test.YtichbcpidkkblaaKit2
namespace Go.Proofs.Ytichbcpidkkblaa
open Go.RowKit

theorem figure_any (x : Int) (w : World) (h0 : 0 ≤ x) (h1 : x < 16) :
    Calls Try.prog 50 #[.int .i64 x] w fun e w' => e = .returned (.int .u8 ((fig x.toNat).toNat : Int)) ∧ w = w' := by
  have hf : Hid ((fig x.toNat).toNat = _) := fig_toNat (x := x.toNat) (by omega)
  by_cases h : x < 10
  · go_enter Try.func50, Try.ntmps50
    go_wp2
    go_ret
    exact ⟨by rw [hf.out, if_pos (by omega)]; go_num, rfl⟩
  · go_enter Try.func50, Try.ntmps50
    go_wp2
    go_ret
    exact ⟨by rw [hf.out, if_neg (by omega)]; go_num, rfl⟩

theorem figure_at_nat (X : Int) (x : Nat) (w : World) (hX : X = (x : Int)) (h1 : x < 16) :
    Calls Try.prog 50 #[.int .i64 X] w fun e w' => e = .returned (.int .u8 ((fig x).toNat : Int)) ∧ w = w' := by
  subst hX
  have := figure_any (x : Int) w (by omega) (by omega)
  rw [Int.toNat_natCast] at this
  exact this

end Go.Proofs.Ytichbcpidkkblaa
