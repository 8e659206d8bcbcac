/- One figure: what spec.l01Figure hands back. -/
import Derived.Test.YtegjkcooebmkoaoPlainHex
import Derived.Test.YtegjkcooebmkoaoKit2
namespace Go.Proofs.Ytegjkcooebmkoao
open Go.RowKit



end Go.Proofs.Ytegjkcooebmkoao
