/- Frames: their texts. -/
import Derived.Test.YtlifgcgoehkinaaDoorFrOk
import Derived.Test.YtlifgcgoehkinaaDoorSeal
import Derived.Test.YtlifgcgoehkinaaDoorShort
namespace Go.Proofs.YtlifgcgoehkinaaDoor
open Go.RowKit

/-- A frame's text. -/
def Fr.tx (f : Fr) : ByteArray := f.text fourOf
theorem Fr.tx_size (f : Fr) : f.tx.size = f.raw.size + 4 := by simp [Fr.tx, Fr.text, ByteArray.size_append, fourOf_size]
theorem Fr.tx_le {f : Fr} (h : f.ok) : f.tx.size ≤ 196 := by have := f.tx_size; have := Fr.raw_size h; omega

/-- What FrameText hands back. -/
def ftT (f : Fr) : Value := if f.ok then .tuple #[.string f.tx, .bool true] else .tuple #[.string ⟨#[]⟩, .bool false]
theorem ftT_yes {f : Fr} (h : f.ok) : ftT f = .tuple #[.string f.tx, .bool true] := by rw [ftT, if_pos h]
theorem ftT_no {f : Fr} (h : ¬ f.ok) : ftT f = .tuple #[.string ⟨#[]⟩, .bool false] := by rw [ftT, if_neg h]
theorem ftT_form (f : Fr) : ∃ (t : ByteArray) (b : Bool), ftT f = .tuple #[.string t, .bool b] ∧ t.size ≤ 196 := by
  unfold ftT
  split
  · rename_i h; exact ⟨_, _, rfl, Fr.tx_le h⟩
  · exact ⟨_, _, rfl, by decide⟩

end Go.Proofs.YtlifgcgoehkinaaDoor
