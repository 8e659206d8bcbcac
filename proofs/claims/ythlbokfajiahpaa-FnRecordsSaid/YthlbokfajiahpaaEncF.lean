/- How frames lie in memory. -/
import Derived.Test.YthlbokfajiahpaaKitR2
import Derived.Test.YthlbokfajiahpaaFrOk
import Derived.Test.YthlbokfajiahpaaBox
namespace Go.Proofs.Ythlbokfajiahpaa
open Go.RowKit


/-- The cells of one element in a new row, as an append asks for them. -/
theorem row_new {α : Type} (E : Enc α) (w : World) (x : α) : ∀ j u, (E.row [x])[j]? = some u → (w.alloc (.cells (E.f x).toArray E.ty)).cell? ((⟨w.heap.size, 0, none⟩ : Addr).add j) = some u := by
  intro j u hj
  rw [E.row_one] at hj
  rw [Addr.add_lit, Nat.zero_add]
  exact (Box.new w (E.f x).toArray E.ty).cell j u (by simpa using hj)

end Go.Proofs.Ythlbokfajiahpaa
