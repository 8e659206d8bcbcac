/- One figure: what spec.l01Figure hands back. -/
import Derived.Test.YtmmgnpjhlmiafabPlainHex
import Derived.Test.YtmmgnpjhlmiafabKit2
namespace Go.Proofs.Ytmmgnpjhlmiafab
open Go.RowKit



end Go.Proofs.Ytmmgnpjhlmiafab
