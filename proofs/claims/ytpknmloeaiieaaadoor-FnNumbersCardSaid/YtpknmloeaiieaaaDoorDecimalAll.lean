/- The figures of a number below 0: what spec.Decimal hands back of every number. -/
import Derived.Test.YtpknmloeaiieaaaDoorDecimal
namespace Go.Proofs.YtpknmloeaiieaaaDoor
open Go.RowKit

/-- The figures of every number. -/
def decI (n : Int) : List UInt8 := if n < 0 then 45 :: digs n.natAbs else dec n.toNat



end Go.Proofs.YtpknmloeaiieaaaDoor
