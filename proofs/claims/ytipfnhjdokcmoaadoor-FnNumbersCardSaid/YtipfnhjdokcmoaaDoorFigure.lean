/- One figure: what spec.l01Figure hands back. -/
import Derived.Test.YtipfnhjdokcmoaaDoorPlainHex
import Derived.Test.YtipfnhjdokcmoaaDoorKit2
namespace Go.Proofs.YtipfnhjdokcmoaaDoor
open Go.RowKit



end Go.Proofs.YtipfnhjdokcmoaaDoor
