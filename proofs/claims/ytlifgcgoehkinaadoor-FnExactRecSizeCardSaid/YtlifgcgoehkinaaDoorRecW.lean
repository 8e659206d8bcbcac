/- Records: what the program's ReadRec hands back. -/
import Derived.Test.YtlifgcgoehkinaaDoorRecV
namespace Go.Proofs.YtlifgcgoehkinaaDoor
open Go.RowKit


end Go.Proofs.YtlifgcgoehkinaaDoor
