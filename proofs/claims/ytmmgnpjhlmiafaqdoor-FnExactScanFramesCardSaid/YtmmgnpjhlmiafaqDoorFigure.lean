/- One figure: what spec.l01Figure hands back. -/
import Derived.Test.YtmmgnpjhlmiafaqDoorPlainHex
import Derived.Test.YtmmgnpjhlmiafaqDoorKit2
namespace Go.Proofs.YtmmgnpjhlmiafaqDoor
open Go.RowKit



end Go.Proofs.YtmmgnpjhlmiafaqDoor
