/- How frames lie in memory. -/
import Derived.Test.YtmmgnpjhlmiafabDoorKitR2
import Derived.Test.YtmmgnpjhlmiafabDoorFrOk
import Derived.Test.YtmmgnpjhlmiafabDoorBox
namespace Go.Proofs.YtmmgnpjhlmiafabDoor
open Go.RowKit

def frE : Enc Fr where
  ty := 30
  sty := 24
  sz := 3
  bytes := 32
  zero := .agg #[.int .i64 0, .int .i64 0, .string ⟨#[]⟩]
  f := fun x => [.int .i64 x.gen, .int .i64 x.seq, .string x.body]
  len := fun _ => rfl
  pos := by decide
  one := fun _ u hu => by simp at hu; rcases hu with rfl | rfl | rfl <;> rfl
  und := Tryd.underlying24
  info := by kernel_rfl
  zc := rfl
  z0 := ⟨0, 0, ⟨#[]⟩⟩
  zf := rfl

/-- The cells of one element in a new row, as an append asks for them. -/
theorem row_new {α : Type} (E : Enc α) (w : World) (x : α) : ∀ j u, (E.row [x])[j]? = some u → (w.alloc (.cells (E.f x).toArray E.ty)).cell? ((⟨w.heap.size, 0, none⟩ : Addr).add j) = some u := by
  intro j u hj
  rw [E.row_one] at hj
  rw [Addr.add_lit, Nat.zero_add]
  exact (Box.new w (E.f x).toArray E.ty).cell j u (by simpa using hj)

end Go.Proofs.YtmmgnpjhlmiafabDoor
