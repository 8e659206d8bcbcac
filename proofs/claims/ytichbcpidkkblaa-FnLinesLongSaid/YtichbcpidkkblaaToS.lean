/- Lists that come in: how great they are (szStringS, szWriteS), and copies of them in memory of the call's own (toStringS, toWriteS, toIntS). -/
import Derived.Test.YtichbcpidkkblaaMarksW
import Derived.Test.YtichbcpidkkblaaKitO
import Derived.Test.YtichbcpidkkblaaCopyTo
namespace Go.Proofs.Ytichbcpidkkblaa
open Go.RowKit

/-- What a size function leaves over: less than nothing, or something, and then each part is small. -/
def SzR {α : Type} (size : α → Nat) (left : Int) (l : List α) (w : World) (e : Ending) (w' : World) : Prop :=
  ∃ r : Int, e = .returned (.int .i64 r) ∧ Below w.heap.size w w' ∧ r ≤ left ∧ -1 ≤ r ∧ (0 ≤ r → (l.length : Int) ≤ left ∧ ∀ x ∈ l, (size x : Int) ≤ left)




end Go.Proofs.Ytichbcpidkkblaa
