/- Reading a number: what impl.readGroups, impl.ReadVar and spec.ReadVar hand back. -/
import Derived.Test.YtlifgcgoehkinaaDoorPlainRead
import Derived.Test.YtlifgcgoehkinaaDoorPlainBits
import Derived.Test.YtlifgcgoehkinaaDoorVar
namespace Go.Proofs.YtlifgcgoehkinaaDoor
open Go.RowKit

/-- What readGroups hands back. -/
def grT (s : ByteArray) (k : Nat) : Value :=
  match rg 5 (s.data.toList.drop k) 0 0 with
  | some (n, c) => .tuple #[.int .i64 n, .int .i64 ((k : Int) + c), .bool true]
  | none => .tuple #[.int .i64 0, .int .i64 0, .bool false]

theorem grT_some {s : ByteArray} {k n c : Nat} (h : rg 5 (s.data.toList.drop k) 0 0 = some (n, c)) : grT s k = .tuple #[.int .i64 n, .int .i64 ((k : Int) + c), .bool true] := by rw [grT, h]
theorem grT_none {s : ByteArray} {k : Nat} (h : rg 5 (s.data.toList.drop k) 0 0 = none) : grT s k = .tuple #[.int .i64 0, .int .i64 0, .bool false] := by rw [grT, h]

theorem ret_iib {a b a' b' : Int} {c c' : Bool} (h1 : a = a') (h2 : b = b') (h3 : c = c') : Ending.returned (.tuple #[.int .i64 a, .int .i64 b, .bool c]) = .returned (.tuple #[.int .i64 a', .int .i64 b', .bool c']) := by rw [h1, h2, h3]

theorem next_lt {n c i : Nat} (hn : n < 128 ^ i) : n + c % 128 * 128 ^ i < 128 ^ (i + 1) := by
  have hb : c % 128 * 128 ^ i ≤ 127 * 128 ^ i := Nat.mul_le_mul_right _ (by omega)
  have hp : 128 ^ (i + 1) = 128 * 128 ^ i := by rw [Nat.pow_succ, Nat.mul_comm]
  omega


end Go.Proofs.YtlifgcgoehkinaaDoor
