/- Texts of our own, joined. -/
import Derived.Test.YtlifgcgoehkinaaGreatDoorJq
import Derived.Test.YtlifgcgoehkinaaGreatDoorJd
import Derived.RangeFuncNested
import Derived.RangeFuncBound
import Derived.RangeFuncCalls
import Derived.RangeFuncLeaves
import Derived.RangeFuncBox
import Derived.Shelf.Abstract
import Derived.Shelf.RegionOpen
import Derived.WalkKit
import Derived.OwnWalkIn
import Derived.TacticsInMore
import Derived.LoopNIn
import Derived.LoopIn
import Derived.Shelf.Strings.Builder1
import Derived.Shelf.Lays
import Derived.Test.YtlifgcgoehkinaaGreatDoorJa
import Derived.Laws.CopyOwn
import Derived.Laws.Rows
import Derived.Laws.Tables
import Derived.Deep.MidRow
import Derived.Deep.RegionHeld3
import Derived.Laws.StructEq
import Derived.Lib.Hide
import Derived.Deep.Cut
import Derived.Test.YtlifgcgoehkinaaGreatDoorJo
import Derived.Lib.SmallJoins
import Derived.Test.YtlifgcgoehkinaaGreatDoorJb
import Derived.Maps.OwnIn
import Derived.Sort.QuietIn
import Derived.Sort.CutIn
/- What the program's ReadSector hands back: a range over slices.Backward. -/
namespace Go.Proofs.YtlifgcgoehkinaaGreatDoor
open Go.RowKit Go.Shelf

attribute [local go_sem] Oper.semAt_some

end Go.Proofs.YtlifgcgoehkinaaGreatDoor

/- strings.Builder: what WriteString and String hand back: String out of the library's own theorem, at the numbers of this program; copyCheck and WriteString walked. -/
namespace Go.Proofs.YtlifgcgoehkinaaGreatDoor
open Go.Shelf Go.RowKit


end Go.Proofs.YtlifgcgoehkinaaGreatDoor

/- Sectors as arrays of bytes: sectorOf, text, sectorOk. -/
namespace Go.Proofs.YtlifgcgoehkinaaGreatDoor
open Go.RowKit

theorem bytesV_one (l : List UInt8) : ∀ v ∈ bytesV l, v.oneCell' = true := by
  intro v hv
  simp only [bytesV, List.mem_map] at hv
  obtain ⟨b, _, rfl⟩ := hv
  rfl

abbrev Sec := { l : List UInt8 // l.length = 32 }
def Sec.v (s : Sec) : Value := .agg (bytesV s.1).toArray

theorem Sec.size (s : Sec) : (bytesV s.1).toArray.size = 32 := by simp [bytesV_length, s.2]
theorem Sec.one (s : Sec) : (bytesV s.1).toArray.all (·.oneCell') = true := all_oneCell_toArray (bytesV_one _)



/- What SectorText hands back, the model's and the program's. -/
namespace Go.Proofs.YtlifgcgoehkinaaGreatDoor
open Go.RowKit

end Go.Proofs.YtlifgcgoehkinaaGreatDoor

/- Segments: where they lie, and their texts: SegFirst, SegText, the model's and the program's. -/
namespace Go.Proofs.YtlifgcgoehkinaaGreatDoor
open Go.RowKit

end Go.Proofs.YtlifgcgoehkinaaGreatDoor

/- Frames: what ReadFrame hands back, of the model and of the program. -/
namespace Go.Proofs.YtlifgcgoehkinaaGreatDoor
open Go.RowKit

end Go.Proofs.YtlifgcgoehkinaaGreatDoor

/- Frames: what the model's ReadFrame hands back. -/
namespace Go.Proofs.YtlifgcgoehkinaaGreatDoor
open Go.RowKit


end Go.Proofs.YtlifgcgoehkinaaGreatDoor

/- How frames lie in memory. -/
namespace Go.Proofs.YtlifgcgoehkinaaGreatDoor
open Go.RowKit


end Go.Proofs.YtlifgcgoehkinaaGreatDoor

/- Frames: what the model's ScanFrames hands back. -/
namespace Go.Proofs.YtlifgcgoehkinaaGreatDoor
open Go.RowKit

end Go.Proofs.YtlifgcgoehkinaaGreatDoor

/- A range over a function that keeps a variable of its own in memory, at the wide fence: what the caller holds to, round by round, while the variable's block is turned by the function alone. -/
namespace Go.Proofs.YtlifgcgoehkinaaGreatDoor
open Go.RowKit

end Go.Proofs.YtlifgcgoehkinaaGreatDoor

/- Frames: what the program's ScanFrames hands back: a range over a reader that is handed a yield. -/
namespace Go.Proofs.YtlifgcgoehkinaaGreatDoor
open Go.RowKit Go.Shelf

attribute [local go_sem] Oper.semAt_some

end Go.Proofs.YtlifgcgoehkinaaGreatDoor

/- Segments: whether one is in use, and its frames: SegGen, the model's and the program's. -/
namespace Go.Proofs.YtlifgcgoehkinaaGreatDoor
open Go.RowKit

end Go.Proofs.YtlifgcgoehkinaaGreatDoor

/- Segments: their frames: SegFrames, the model's and the program's; the program's list stands behind the first frame, in a row of the call's own. -/
namespace Go.Proofs.YtlifgcgoehkinaaGreatDoor
open Go.RowKit

end Go.Proofs.YtlifgcgoehkinaaGreatDoor
