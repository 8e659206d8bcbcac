/- The words of a line: WordsOf of the program. -/
import Derived.Test.YtnaaebbinmpjeaaWdS
namespace Go.Proofs.Ytnaaebbinmpjeaa
open Go.RowKit

theorem WdR.both {s : ByteArray} {l : List ByteArray} {f : Bool} (h : PoT s l f) : WdR s l := by
  rcases h with ⟨a, rfl, _⟩ | ⟨a, rfl, _⟩
  · exact .inl ⟨a, rfl⟩
  · exact .inr ⟨a, rfl⟩

set_option maxRecDepth 100000 in
set_option maxHeartbeats 1000000 in
theorem implWordsOf_any (s : ByteArray) (w : World) (hs : s.size ≤ 1099511627776) :
    Calls Try.prog 10 #[.string s] w fun e w' => ∃ v l, e = .returned v ∧ WdR s l ∧ SBuf w.heap.size w w' v l := by
  go_enter Try.func10, Try.ntmps10
  go_wp2_with fail
  refine (implPartsOf_any s _ hs).mono ?_
  rintro e w1 ⟨v1, l, f, rfl, hp, hb⟩
  have HP := Lib.hid (WdR.both hp)
  have HB := Lib.hid hb
  clear hp hb
  go_wp2
  go_ret
  exact ⟨_, _, rfl, HP.out, HB.out⟩

end Go.Proofs.Ytnaaebbinmpjeaa
