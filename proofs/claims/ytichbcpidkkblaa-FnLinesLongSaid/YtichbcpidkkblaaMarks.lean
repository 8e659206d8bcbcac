/- The marks by which a law tells whose memory a list of texts is: what laws.markText, eqStringS, markStringS and heldStringS hand back. -/
import Derived.Test.YtichbcpidkkblaaDecimal
import Derived.Test.YtichbcpidkkblaaKitS
import Derived.Deep.QuietTactic
import Derived.BigQuiet
import Derived.Deep.RegionHeld3
namespace Go.Proofs.Ytichbcpidkkblaa
open Go.RowKit

/-- The k-th mark. -/
def mark (k : Nat) : ByteArray := ⟨(109 :: digs k).toArray⟩

theorem Strs.ways {w : World} {v : Value} {l : List ByteArray} (h : Strs w v l) : (l = [] ∧ ∃ (a : Option Addr) (cap : Nat), v = .slice a 0 cap) ∨
    (l ≠ [] ∧ ∃ g cap : Nat, v = .slice (some ⟨g, 0, none⟩) l.length cap ∧ l.length ≤ cap ∧ g < w.heap.size ∧ ∀ j b, l[j]? = some b → w.cell? ⟨g, j, none⟩ = some (.string b)) := by
  by_cases hl : l = []
  · subst hl
    rcases h with h | ⟨g, cap, hv, _⟩
    · exact .inl h
    · exact .inl ⟨rfl, _, _, hv⟩
  · rcases h with ⟨h, _⟩ | h
    · exact absurd h hl
    · exact .inr ⟨hl, h⟩

end Go.Proofs.Ytichbcpidkkblaa
