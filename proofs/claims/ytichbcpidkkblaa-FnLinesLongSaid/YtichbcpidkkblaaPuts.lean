/- Lists that can be read, and lists put anew element by element. -/
import Derived.Test.YtichbcpidkkblaaKitR
namespace Go.Proofs.Ytichbcpidkkblaa
open Go.RowKit

theorem Rows'.ways {α : Type} {E : Enc α} {w : World} {v : Value} {l : List α} (h : Rows' E w v l) : (l = [] ∧ ∃ (a : Option Addr) (cap : Nat), v = .slice a 0 cap) ∨
    (l ≠ [] ∧ ∃ g off cap : Nat, v = .slice (some ⟨g, off, none⟩) l.length cap ∧ l.length ≤ cap ∧ g < w.heap.size ∧ ∀ j x, l[j]? = some x → ∀ k u, (E.f x)[k]? = some u → w.cell? ⟨g, off + j * E.sz + k, none⟩ = some u) := by
  by_cases hl : l = []
  · subst hl
    rcases h with h | ⟨g, off, cap, hv, _⟩
    · exact .inl h
    · exact .inl ⟨rfl, _, _, hv⟩
  · rcases h with ⟨h, _⟩ | h
    · exact absurd h hl
    · exact .inr ⟨hl, h⟩

theorem grownBy_of_below {w w' : World} (hb : Below w.heap.size w w') (r : Option Nat) : w.grownBy w' r := ⟨hb.os, hb.tape, hb.output, hb.size, fun k hk _ => hb.block k hk⟩

theorem grownBy_store (w : World) (g i : Nat) (v : Value) : w.grownBy (w.setCell ⟨g, i, none⟩ v) (some g) :=
  have b := (Below.refl 0 w).setCell (p := ⟨g, i, none⟩) (Nat.zero_le _) v
  ⟨b.os, b.tape, b.output, b.size, fun k _ hne => Below.heap_setCell w _ _ _ (fun e => hne (by rw [e]))⟩

/-- The first i elements of l put anew. -/
def putTo {α : Type} (m : Nat → α) (l : List α) (i : Nat) : List α := (List.range i).map m ++ l.drop i
theorem putTo_length {α : Type} {m : Nat → α} {i : Nat} {l : List α} (h : i ≤ l.length) : (putTo m l i).length = l.length := by simp [putTo]; omega
theorem putTo_set {α : Type} {m : Nat → α} {i : Nat} {l : List α} (h : i < l.length) : (putTo m l i).set i (m i) = putTo m l (i + 1) := by
  unfold putTo
  rw [List.set_append_right _ _ (by simp)]
  simp only [List.length_map, List.length_range, Nat.sub_self]
  rw [List.drop_eq_getElem_cons h, List.set_cons_zero, List.range_succ, List.map_append, List.append_assoc]
  rfl
theorem putTo_zero {α : Type} (m : Nat → α) (l : List α) : putTo m l 0 = l := by simp [putTo]
theorem putTo_all {α : Type} (m : Nat → α) (l : List α) : putTo m l l.length = (List.range l.length).map m := by simp [putTo]
theorem putTo_at {α : Type} {m : Nat → α} {i : Nat} {l : List α} (h : i < l.length) : (putTo m l i)[i]? = some l[i] := by
  unfold putTo
  rw [List.getElem?_append_right (by simp)]
  simp [h]

end Go.Proofs.Ytichbcpidkkblaa
