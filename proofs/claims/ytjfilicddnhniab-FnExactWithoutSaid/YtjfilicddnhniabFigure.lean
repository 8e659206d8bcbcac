/- One figure: what spec.l01Figure hands back. -/
import Derived.Test.YtjfilicddnhniabPlainHex
import Derived.Test.YtjfilicddnhniabKit2
namespace Go.Proofs.Ytjfilicddnhniab
open Go.RowKit



end Go.Proofs.Ytjfilicddnhniab
