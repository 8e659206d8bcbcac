/- One figure: what spec.l01Figure hands back. -/
import Derived.Test.YtmlhpjkijpbinarPlainHex
import Derived.Test.YtmlhpjkijpbinarKit2
namespace Go.Proofs.Ytmlhpjkijpbinar
open Go.RowKit



end Go.Proofs.Ytmlhpjkijpbinar
