/- Two figures for each byte: what spec.Hex and impl.Hex hand back. -/
import Derived.Test.YtpknmloeaiieaaaDoorFigure
import Derived.Test.YtpknmloeaiieaaaDoorKit2
import Derived.WalkSpells
import Derived.WalkSmall
import Derived.Deep.RegionHeld3
namespace Go.Proofs.YtpknmloeaiieaaaDoor
open Go.RowKit

theorem index_at (s : ByteArray) (k : Nat) (h : k < s.size) (wx : World) :
    (Instr.index 9 (.string s) (.int .i64 (k : Int))).run Tryd.prog wx = .ok (.int .u8 (s[k].toNat : Int)) wx := by
  have hu := Tryd.underlying9
  simp [Instr.index, run_underlying hu, go_sem, h]

/-- What Hex hands back. -/
def hexT (s : ByteArray) : Value :=
  if s.size ≤ 20000 then .tuple #[.string ⟨(hexOf s.data.toList).toArray⟩, .bool true] else .tuple #[.string ⟨#[]⟩, .bool false]
theorem hexT_yes {s : ByteArray} (h : s.size ≤ 20000) : hexT s = .tuple #[.string ⟨(hexOf s.data.toList).toArray⟩, .bool true] := by rw [hexT, if_pos h]
theorem hexT_no {s : ByteArray} (h : ¬ s.size ≤ 20000) : hexT s = .tuple #[.string ⟨#[]⟩, .bool false] := by rw [hexT, if_neg h]

theorem hexOf_all {s : ByteArray} {k : Nat} (h : ¬ k < s.size) : hexOf (s.data.toList.take k) = hexOf s.data.toList := by
  rw [List.take_of_length_le (by simp; omega)]


end Go.Proofs.YtpknmloeaiieaaaDoor
