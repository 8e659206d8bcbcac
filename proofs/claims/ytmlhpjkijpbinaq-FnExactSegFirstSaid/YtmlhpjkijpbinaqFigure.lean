/- One figure: what spec.l01Figure hands back. -/
import Derived.Test.YtmlhpjkijpbinaqPlainHex
import Derived.Test.YtmlhpjkijpbinaqKit2
namespace Go.Proofs.Ytmlhpjkijpbinaq
open Go.RowKit



end Go.Proofs.Ytmlhpjkijpbinaq
