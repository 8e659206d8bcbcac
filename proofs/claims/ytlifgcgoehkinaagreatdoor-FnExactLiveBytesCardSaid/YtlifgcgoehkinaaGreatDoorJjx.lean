/- Texts of our own, joined. -/
import Derived.Test.YtlifgcgoehkinaaGreatDoorJix
import Derived.Lib.Hide
import Derived.Test.YtlifgcgoehkinaaGreatDoorJf
import Derived.Test.YtlifgcgoehkinaaGreatDoorJa
import Derived.Test.YtlifgcgoehkinaaGreatDoorJd
import Derived.Test.YtlifgcgoehkinaaGreatDoorJc
import Derived.Laws.StructEq
import Derived.Test.YtlifgcgoehkinaaGreatDoorJi
import Derived.Test.YtlifgcgoehkinaaGreatDoorJhx
import Derived.Test.YtlifgcgoehkinaaGreatDoorJw
import Derived.WalkSmall
/- The helpers of the exact laws over boxes and states: two alike are alike. -/
namespace Go.Proofs.YtlifgcgoehkinaaGreatDoor
open Go.RowKit





end Go.Proofs.YtlifgcgoehkinaaGreatDoor

/- The helpers of the exact laws over boxes and states: each is marked, and the marks are held. -/
namespace Go.Proofs.YtlifgcgoehkinaaGreatDoor
open Go.RowKit

end Go.Proofs.YtlifgcgoehkinaaGreatDoor

/- States: what the law on StateOf asks, given what the program's StateOf hands back. -/
namespace Go.Proofs.YtlifgcgoehkinaaGreatDoor
open Go.RowKit

end Go.Proofs.YtlifgcgoehkinaaGreatDoor

/- What stays where its own block's cells stay, and where the blocks of boxes lie. -/
namespace Go.Proofs.YtlifgcgoehkinaaGreatDoor
open Go.RowKit

theorem RBuf.stay {α : Type} {E : Enc α} {B : Nat} {w w' : World} {v : Value} {l : List α} (h : RBuf E B w w v l) (hz : w.heap.size ≤ w'.heap.size) (hk : ∀ k, v.ownBlock = some k → w'.heap[k]? = w.heap[k]?) : RBuf E B w' w' v l := by
  refine ⟨⟨h.own.1, ?_⟩, Below.refl _ _, Nat.le_trans h.le hz⟩
  rcases h.own.2 with h0 | ⟨g, cap, cur, rfl, hg, hh, h1, h2, h3, h4⟩
  · exact .inl h0
  · exact .inr ⟨g, cap, cur, rfl, hg, (hk g rfl).trans hh, h1, h2, h3, h4⟩
theorem Box.stay {w w' : World} {b : Nat} {cs : Array Value} {t : TypeId} (h : Box w b cs t) (hk : w'.heap[b]? = w.heap[b]?) : Box w' b cs t := hk.trans h

end Go.Proofs.YtlifgcgoehkinaaGreatDoor

/- States held against each other, and right states, plainly. -/
namespace Go.Proofs.YtlifgcgoehkinaaGreatDoor

end Go.Proofs.YtlifgcgoehkinaaGreatDoor

/- States held against each other: the model's SameState. -/
namespace Go.Proofs.YtlifgcgoehkinaaGreatDoor
open Go.RowKit


end Go.Proofs.YtlifgcgoehkinaaGreatDoor

/- NextsOf of either side: a RecBox of each box of which less, or nothing, is left. -/
namespace Go.Proofs.YtlifgcgoehkinaaGreatDoor
open Go.RowKit

theorem KS.app {w x y : World} {gO : Nat} {r : Option Nat} (h : KS w gO none x) (hg : x.grownBy y r) (hr : ∀ k, r = some k → k = gO ∨ w.heap.size ≤ k) : KS w gO none y :=
  ⟨Nat.le_trans h.size hg.size, fun g hg2 h1 h2 => (hg.block g (Nat.lt_of_lt_of_le hg2 h.size) (fun e => by rcases hr g e.symm with e2 | e2 <;> omega)).trans (h.same g hg2 h1 h2)⟩
theorem RBuf.ks {α : Type} {E : Enc α} {B gO : Nat} {w x : World} {v : Value} {l : List α} (h : RBuf E B w w v l) (hk : KS w gO none x) (hB : gO < B) : RBuf E B x x v l :=
  h.stay hk.size (fun k hb => hk.same k (h.own.lt k hb).2 (by have := (h.own.lt k hb).1; omega) (by simp))
theorem Box.ks {w x : World} {gO b : Nat} {cs : Array Value} {t : TypeId} (h : Box w b cs t) (hk : KS w gO none x) (hB : b ≠ gO) : Box x b cs t := h.stay (hk.same b h.lt hB (by simp))


end Go.Proofs.YtlifgcgoehkinaaGreatDoor
