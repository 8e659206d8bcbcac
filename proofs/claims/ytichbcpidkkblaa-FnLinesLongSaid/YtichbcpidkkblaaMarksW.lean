/- The helpers of the exact laws over lists of writes: two alike are alike; each is marked, and the marks are held. -/
import Derived.Test.YtichbcpidkkblaaMarksS
import Derived.Test.YtichbcpidkkblaaEncs
import Derived.Test.YtichbcpidkkblaaPuts
import Derived.Lib.Hide
namespace Go.Proofs.Ytichbcpidkkblaa
open Go.RowKit

/-- The marks of a list of writes. -/
def markW (k : Nat) (j : Nat) : Wr := ⟨((k + 2 * j : Nat) : Int), mark (k + 2 * j + 1)⟩
def marksW (k n : Nat) : List Wr := (List.range n).map (markW k)
theorem marksW_length (k n : Nat) : (marksW k n).length = n := by simp [marksW]
theorem marksW_at {k n i : Nat} (h : i < n) : (marksW k n)[i]? = some (markW k i) := by simp [marksW, h]

/-! Lists of texts as rows. -/

theorem strE_row (l : List ByteArray) : strE.row l = strV l := by
  induction l with
  | nil => rfl
  | cons x l ih =>
    have : strE.row (x :: l) = .string x :: strE.row l := rfl
    rw [this, ih]; rfl

theorem RBuf.toS {B : Nat} {w0 w : World} {v : Value} {l : List ByteArray} (h : RBuf strE B w0 w v l) : SBuf B w0 w v l :=
  ⟨by have := h.own; rw [strE_row] at this; exact this, h.bel, h.le⟩
theorem SBuf.toR {B : Nat} {w0 w : World} {v : Value} {l : List ByteArray} (h : SBuf B w0 w v l) : RBuf strE B w0 w v l :=
  ⟨by rw [strE_row]; exact h.own, h.bel, h.le⟩

end Go.Proofs.Ytichbcpidkkblaa
