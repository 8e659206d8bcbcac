/- The text whose figures a text is: what spec.Unhex hands back. -/
import Derived.Test.YtpknmloeaiieaaaDoorPlainFig
import Derived.Test.YtpknmloeaiieaaaDoorKit2
import Derived.WalkSpells
import Derived.WalkSmall
namespace Go.Proofs.YtpknmloeaiieaaaDoor
open Go.RowKit


/-- What Unhex hands back. -/
def uhT (s : ByteArray) : Value :=
  if isHex s.data.toList then .tuple #[.string ⟨(pairsOf (valsOf true s.data.toList)).toArray⟩, .bool true] else .tuple #[.string ⟨#[]⟩, .bool false]
theorem uhT_yes {s : ByteArray} (h : isHex s.data.toList) : uhT s = .tuple #[.string ⟨(pairsOf (valsOf true s.data.toList)).toArray⟩, .bool true] := by rw [uhT, if_pos h]
theorem uhT_no {s : ByteArray} (h : ¬ isHex s.data.toList) : uhT s = .tuple #[.string ⟨#[]⟩, .bool false] := by rw [uhT, if_neg h]


end Go.Proofs.YtpknmloeaiieaaaDoor
