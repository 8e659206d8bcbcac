/- Texts of our own, joined. -/
import Derived.Test.YtlifgcgoehkinaaGreatDoorJq
import Derived.Test.YtlifgcgoehkinaaGreatDoorJs
import Derived.Test.YtlifgcgoehkinaaGreatDoorJox
/- LiveOf, GainOf and VictimOf of the model; LiveOf and GainOf of the program. -/
namespace Go.Proofs.YtlifgcgoehkinaaGreatDoor
open Go.RowKit

theorem Rows'.intAt {w : World} {a : Option Addr} {n c : Nat} {l : List Int} (h : Rows' intE w (.slice a n c) l) (hn : l.length = n) {i : Nat} {x : Int} (hx : l[i]? = some x) :
    ∃ g off : Nat, a = some ⟨g, off, none⟩ ∧ ∀ X, Below w.heap.size w X → X.cell? ⟨g, off + i, none⟩ = some (.int .i64 x) := by
  subst hn
  have hi : i < l.length := (List.getElem?_eq_some_iff.1 hx).1
  obtain ⟨g, off, rfl, hcl⟩ := h.at i hi
  refine ⟨g, off, rfl, fun X hX => ?_⟩
  have hcs := hcl X hX 0 _ rfl
  rw [show intE.sz = 1 from rfl, Nat.mul_one, Nat.add_zero, show l[i] = x from Option.some.inj ((List.getElem?_eq_getElem hi).symm.trans hx)] at hcs
  exact hcs




end Go.Proofs.YtlifgcgoehkinaaGreatDoor
