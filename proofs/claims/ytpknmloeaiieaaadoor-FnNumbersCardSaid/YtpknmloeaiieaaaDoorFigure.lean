/- One figure: what spec.l01Figure hands back. -/
import Derived.Test.YtpknmloeaiieaaaDoorPlainHex
import Derived.Test.YtpknmloeaiieaaaDoorKit2
namespace Go.Proofs.YtpknmloeaiieaaaDoor
open Go.RowKit



end Go.Proofs.YtpknmloeaiieaaaDoor
