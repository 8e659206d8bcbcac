/- A list of texts marked and looked at again: what laws.markStringS and laws.heldStringS hand back. -/
import Derived.Test.YtichbcpidkkblaaMarks
namespace Go.Proofs.Ytichbcpidkkblaa
open Go.RowKit

/-- The first i texts of l marked, from the k-th mark on. -/
def markTo (k : Nat) (l : List ByteArray) (i : Nat) : List ByteArray := (List.range i).map (fun j => mark (k + j)) ++ l.drop i

theorem markTo_length {k i : Nat} {l : List ByteArray} (h : i ≤ l.length) : (markTo k l i).length = l.length := by
  simp [markTo]; omega

theorem markTo_set {k i : Nat} {l : List ByteArray} (h : i < l.length) : (markTo k l i).set i (mark (k + i)) = markTo k l (i + 1) := by
  unfold markTo
  rw [List.set_append_right _ _ (by simp)]
  simp only [List.length_map, List.length_range, Nat.sub_self]
  rw [List.drop_eq_getElem_cons h, List.set_cons_zero, List.range_succ, List.map_append, List.append_assoc]
  rfl

theorem markTo_zero (k : Nat) (l : List ByteArray) : markTo k l 0 = l := by simp [markTo]

/-- All marked. -/
def marksOf (k n : Nat) : List ByteArray := (List.range n).map (fun j => mark (k + j))
theorem markTo_all (k : Nat) (l : List ByteArray) : markTo k l l.length = marksOf k l.length := by simp [markTo, marksOf]
theorem marksOf_length (k n : Nat) : (marksOf k n).length = n := by simp [marksOf]
theorem marksOf_at {k n i : Nat} (h : i < n) : (marksOf k n)[i]? = some (mark (k + i)) := by simp [marksOf, h]

end Go.Proofs.Ytichbcpidkkblaa
