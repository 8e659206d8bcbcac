/- Sealed texts: what Sealed and Unsealed hand back. -/
import Derived.Test.YthlbokfajiahpaaSum
import Derived.Laws.Concat
import Derived.Deep.RegionHeld3
namespace Go.Proofs.Ythlbokfajiahpaa
open Go.RowKit

/-- The four bytes of the sum of a text. -/
def fourOf (s : ByteArray) : ByteArray := ⟨(four (sumL 4294967295 s.data.toList)).toArray⟩
theorem fourOf_size (s : ByteArray) : (fourOf s).size = 4 := rfl

/-- What Sealed hands back. -/
def seT (s : ByteArray) : Value :=
  if s.size ≤ 20000 then .tuple #[.string (s ++ fourOf s), .bool true] else .tuple #[.string ⟨#[]⟩, .bool false]
theorem seT_yes {s : ByteArray} (h : s.size ≤ 20000) : seT s = .tuple #[.string (s ++ fourOf s), .bool true] := by rw [seT, if_pos h]
theorem seT_no {s : ByteArray} (h : ¬ s.size ≤ 20000) : seT s = .tuple #[.string ⟨#[]⟩, .bool false] := by rw [seT, if_neg h]

theorem seT_form (s : ByteArray) : ∃ (t : ByteArray) (f : Bool), seT s = .tuple #[.string t, .bool f] := by
  unfold seT
  split
  · exact ⟨_, _, rfl⟩
  · exact ⟨_, _, rfl⟩



end Go.Proofs.Ythlbokfajiahpaa
