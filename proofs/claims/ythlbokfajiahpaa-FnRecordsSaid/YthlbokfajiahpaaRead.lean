/- Reading a number: what impl.readGroups, impl.ReadVar and spec.ReadVar hand back. -/
import Derived.Test.YthlbokfajiahpaaPlainRead
import Derived.Test.YthlbokfajiahpaaPlainBits
import Derived.Test.YthlbokfajiahpaaVar
namespace Go.Proofs.Ythlbokfajiahpaa
open Go.RowKit

/-- What readGroups hands back. -/
def grT (s : ByteArray) (k : Nat) : Value :=
  match rg 5 (s.data.toList.drop k) 0 0 with
  | some (n, c) => .tuple #[.int .i64 n, .int .i64 ((k : Int) + c), .bool true]
  | none => .tuple #[.int .i64 0, .int .i64 0, .bool false]

theorem grT_some {s : ByteArray} {k n c : Nat} (h : rg 5 (s.data.toList.drop k) 0 0 = some (n, c)) : grT s k = .tuple #[.int .i64 n, .int .i64 ((k : Int) + c), .bool true] := by rw [grT, h]
theorem grT_none {s : ByteArray} {k : Nat} (h : rg 5 (s.data.toList.drop k) 0 0 = none) : grT s k = .tuple #[.int .i64 0, .int .i64 0, .bool false] := by rw [grT, h]

theorem ret_iib {a b a' b' : Int} {c c' : Bool} (h1 : a = a') (h2 : b = b') (h3 : c = c') : Ending.returned (.tuple #[.int .i64 a, .int .i64 b, .bool c]) = .returned (.tuple #[.int .i64 a', .int .i64 b', .bool c']) := by rw [h1, h2, h3]

theorem next_lt {n c i : Nat} (hn : n < 128 ^ i) : n + c % 128 * 128 ^ i < 128 ^ (i + 1) := by
  have hb : c % 128 * 128 ^ i ≤ 127 * 128 ^ i := Nat.mul_le_mul_right _ (by omega)
  have hp : 128 ^ (i + 1) = 128 * 128 ^ i := by rw [Nat.pow_succ, Nat.mul_comm]
  omega

set_option maxRecDepth 100000 in
set_option maxHeartbeats 1000000 in
theorem readGroups_any (s : ByteArray) (k : Nat) (w : World) (hk : k ≤ s.size) (hs : s.size ≤ 1099511627776) :
    Calls Try.prog 107 #[.string s, .int .i64 k] w fun e w' => e = .returned (grT s k) ∧ w' = w := by
  obtain ⟨R, hR0⟩ : ∃ R, rg 5 (s.data.toList.drop k) 0 0 = R := ⟨_, rfl⟩
  have hR : Hid (rg 5 (s.data.toList.drop k) 0 0 = R) := hR0
  clear hR0
  go_enter Try.func107, Try.ntmps107
  go_wp2
  go_loop [7, 8] (fun nv iv => ∃ i n : Nat, i ≤ 5 ∧ iv = .int .i64 i ∧ nv = .int .i64 n ∧ n < 128 ^ i ∧ rg (5 - i) (s.data.toList.drop (k + i)) i n = R) (fun _ iv => 5 - (intOf iv).toNat)
  case atStart => exact ⟨0, 0, by omega, rfl, rfl, by omega, hR.out⟩
  case round =>
    obtain ⟨i, n, hi, rfl, rfl, hn, hr0⟩ := hrel
    have hr : Hid (rg (5 - i) (s.data.toList.drop (k + i)) i n = R) := hr0
    clear hr0
    by_cases hlt : i < 5 ∧ k + i < s.size
    · obtain ⟨h1, h2⟩ := hlt
      have hl : k + i < s.data.toList.length := by simpa using h2
      have hb : s[k + i].toNat < 256 := UInt8.toNat_lt _
      by_cases hc : s[k + i].toNat < 128
      · go_wp2
        go_ret3
        refine ⟨?_, rfl⟩
        rw [grT_some (hR.out.trans (hr.out.symm.trans (rg_lo (l := s.data.toList) h1 hl hc)))]
        exact ret_iib (group_or _ _ _ hn h1 hb) (by omega) rfl
      · go_wp2
        go_round
        case rel => exact ⟨i + 1, n + s[k + i].toNat % 128 * 128 ^ i, by omega, by go_num, by rw [group_or _ _ _ hn h1 hb], next_lt hn, (rg_hi (l := s.data.toList) h1 hl hc).symm.trans hr.out⟩
        case measure => simp [intOf]; omega
    · have hz := grT_none (hR.out.trans (hr.out.symm.trans (rg_out (l := s.data.toList) (by simpa using hlt))))
      have hZ : Hid (grT s k = .tuple #[.int .i64 0, .int .i64 0, .bool false]) := hz
      clear hz
      by_cases h1 : i < 5
      · have h2 : ¬ k + i < s.size := fun h => hlt ⟨h1, h⟩
        go_wp2
        go_ret3
        refine ⟨?_, rfl⟩
        rw [hZ.out]
        exact ret_iib rfl rfl rfl
      · go_wp2
        go_ret3
        refine ⟨?_, rfl⟩
        rw [hZ.out]
        exact ret_iib rfl rfl rfl

end Go.Proofs.Ythlbokfajiahpaa
