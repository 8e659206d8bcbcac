/- One figure: what spec.l01Figure hands back. -/
import Derived.Test.YtegjkcooebmkoapPlainHex
import Derived.Test.YtegjkcooebmkoapKit2
namespace Go.Proofs.Ytegjkcooebmkoap
open Go.RowKit



end Go.Proofs.Ytegjkcooebmkoap
