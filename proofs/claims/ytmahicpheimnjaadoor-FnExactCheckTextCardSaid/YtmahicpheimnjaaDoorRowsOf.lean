/- Lists that came in: a row read cell by cell is a list. -/
import Derived.Test.YtmahicpheimnjaaDoorPuts
import Derived.Deep.Slices
import Derived.Lib.SmallJoins
import Derived.ProofKit
namespace Go.Proofs.YtmahicpheimnjaaDoor
open Go.RowKit Go.ChangeShapes Go.WideShapes Go.ChangeAt Go.Deep Go.Joins

section
variable {W : World}

theorem rows_of_cells {α : Type} [Inhabited α] (E : Enc α) {a : Addr} {len cap : Nat} (hl : len ≤ cap) (hp : ∀ i, i < len → ∃ x : α, ∀ k u, (E.f x)[k]? = some u → W.cell? (a.add (i * E.sz + k)) = some u) (Pr : α → Prop)
    (hpr : ∀ i, i < len → ∀ x : α, (∀ k u, (E.f x)[k]? = some u → W.cell? (a.add (i * E.sz + k)) = some u) → Pr x) :
    ∃ l : List α, l.length = len ∧ Rows' E W (.slice (some a) len cap) l ∧ ∀ x ∈ l, Pr x := by
  obtain ⟨f, hf⟩ := choose_lt hp
  refine ⟨(List.range len).map f, by simp, ?_, ?_⟩
  · by_cases h0 : len = 0
    · subst h0
      exact .inl ⟨rfl, _, _, rfl⟩
    · have hsp : a.spot = none := by
        have hne : (E.f (f 0))[0]? = some ((E.f (f 0))[0]'(by rw [E.len]; exact E.pos)) := List.getElem?_eq_getElem _
        have := hf 0 (by omega) 0 _ hne
        have h2 := World.cell?_spot this
        simpa [Addr.add] using h2
      obtain ⟨b, off, spot⟩ := a
      simp only at hsp
      subst hsp
      refine .inr ⟨b, off, cap, by simp, by simpa using hl, ?_, ?_⟩
      · have hne : (E.f (f 0))[0]? = some ((E.f (f 0))[0]'(by rw [E.len]; exact E.pos)) := List.getElem?_eq_getElem _
        have := hf 0 (by omega) 0 _ hne
        rw [Addr.add_lit] at this
        exact World.block_lt_of_cell? W _ this
      · intro j x hj k u hu
        have hjl : j < len := by have := (List.getElem?_eq_some_iff.1 hj).1; simpa using this
        have hx : f j = x := by simpa [hjl] using hj
        subst hx
        have := hf j hjl k u hu
        rw [Addr.add_lit] at this
        rw [Nat.add_assoc]
        exact this
  · intro x hx
    simp only [List.mem_map, List.mem_range] at hx
    obtain ⟨i, hi, rfl⟩ := hx
    exact hpr i hi _ (hf i hi)
end

end Go.Proofs.YtmahicpheimnjaaDoor
