/- One figure: what spec.l01Figure hands back. -/
import Derived.Test.YtmmgnpjhlmiafaaPlainHex
import Derived.Test.YtmmgnpjhlmiafaaKit2
namespace Go.Proofs.Ytmmgnpjhlmiafaa
open Go.RowKit



end Go.Proofs.Ytmmgnpjhlmiafaa
