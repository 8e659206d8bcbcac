/- The number that a text is: NumberOf of the program. -/
import Derived.Test.YtnaaebbinmpjeaaNumS
namespace Go.Proofs.Ytnaaebbinmpjeaa
open Go.RowKit

set_option maxRecDepth 100000 in
set_option maxHeartbeats 400000 in
theorem implNumberOf_any (s : ByteArray) (w : World) (hs : s.size ≤ 1099511627776) :
    Calls Try.prog 17 #[.string s] w fun e w' => (∃ n, e = .returned (.int .i64 n) ∧ NumR s n) ∧ Below w.heap.size w w' := by
  obtain ⟨n, f, hn, _, hr⟩ := NumR.of s
  have HN := Lib.hid hn
  have HR := Lib.hid hr
  clear hn hr
  go_enter Try.func17, Try.ntmps17
  go_wp2_with fail
  refine (implReadDecimal_any s _ hs).mono ?_
  rintro e w1 ⟨v, rfl, hv, k1⟩
  rw [HR.out v hv]
  clear hv
  go_wp2
  go_ret
  exact ⟨⟨_, rfl, HN.out⟩, k1⟩

end Go.Proofs.Ytnaaebbinmpjeaa
