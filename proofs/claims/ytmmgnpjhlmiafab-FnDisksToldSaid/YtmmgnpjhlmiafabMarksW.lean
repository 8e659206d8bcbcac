/- The helpers of the exact laws over lists of writes: two alike are alike; each is marked, and the marks are held. -/
import Derived.Test.YtmmgnpjhlmiafabMarksS
import Derived.Test.YtmmgnpjhlmiafabEncs
import Derived.Test.YtmmgnpjhlmiafabPuts
import Derived.Lib.Hide
namespace Go.Proofs.Ytmmgnpjhlmiafab
open Go.RowKit

/-- The two cells of a write. -/
theorem wr_cells {E : Enc Wr} (hf : E.f = wrE.f) (hz : E.sz = 2) {w w' : World} {g off : Nat} {l : List Wr} (hc : ∀ j x, l[j]? = some x → ∀ k u, (E.f x)[k]? = some u → w.cell? ⟨g, off + j * E.sz + k, none⟩ = some u)
    (hg : g < w.heap.size) (hb : Below w.heap.size w w') (i : Nat) (x : Wr) (hi : l[i]? = some x) :
    w'.cell? ⟨g, off + i * 2, none⟩ = some (.int .i64 x.at_) ∧ w'.cell? ⟨g, off + i * 2 + 1, none⟩ = some (.string x.text) := by
  have h0 := hc i x hi 0 (.int .i64 x.at_) (by rw [hf]; rfl)
  have h1 := hc i x hi 1 (.string x.text) (by rw [hf]; rfl)
  rw [hz] at h0 h1
  exact ⟨(hb.cell (p := ⟨g, off + i * 2, none⟩) hg).trans h0, (hb.cell (p := ⟨g, off + i * 2 + 1, none⟩) hg).trans h1⟩

/-- The marks of a list of writes. -/
def markW (k : Nat) (j : Nat) : Wr := ⟨((k + 2 * j : Nat) : Int), mark (k + 2 * j + 1)⟩
def marksW (k n : Nat) : List Wr := (List.range n).map (markW k)
theorem marksW_length (k n : Nat) : (marksW k n).length = n := by simp [marksW]
theorem marksW_at {k n i : Nat} (h : i < n) : (marksW k n)[i]? = some (markW k i) := by simp [marksW, h]

/-! Lists of texts as rows. -/

theorem strE_row (l : List ByteArray) : strE.row l = strV l := by
  induction l with
  | nil => rfl
  | cons x l ih =>
    have : strE.row (x :: l) = .string x :: strE.row l := rfl
    rw [this, ih]; rfl

theorem RBuf.toS {B : Nat} {w0 w : World} {v : Value} {l : List ByteArray} (h : RBuf strE B w0 w v l) : SBuf B w0 w v l :=
  ⟨by have := h.own; rw [strE_row] at this; exact this, h.bel, h.le⟩
theorem SBuf.toR {B : Nat} {w0 w : World} {v : Value} {l : List ByteArray} (h : SBuf B w0 w v l) : RBuf strE B w0 w v l :=
  ⟨by rw [strE_row]; exact h.own, h.bel, h.le⟩

end Go.Proofs.Ytmmgnpjhlmiafab
