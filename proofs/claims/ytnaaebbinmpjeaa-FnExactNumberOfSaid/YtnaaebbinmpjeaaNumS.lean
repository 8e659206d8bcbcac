/- The number that a text is: NumberOf of the model. -/
import Derived.Test.YtnaaebbinmpjeaaReadDecimal
import Derived.Lib.Hide
namespace Go.Proofs.Ytnaaebbinmpjeaa
open Go.RowKit

/-- What NumberOf hands back. -/
def NumR (s : ByteArray) (n : Int) : Prop := (isDec s.data.toList ∧ n = (val s.data.toList : Int)) ∨ (¬ isDec s.data.toList ∧ n = 0)
theorem NumR.one {s : ByteArray} {n n' : Int} (h : NumR s n) (h' : NumR s n') : n' = n := by
  rcases h with ⟨a, rfl⟩ | ⟨a, rfl⟩ <;> rcases h' with ⟨b, rfl⟩ | ⟨b, rfl⟩
  · rfl
  · exact absurd a b
  · exact absurd b a
  · rfl
theorem NumR.of (s : ByteArray) : ∃ (n : Int) (f : Bool), NumR s n ∧ (f = false → n = 0) ∧ ∀ v, RdT s v → v = .tuple #[.int .i64 n, .bool f] := by
  by_cases h : isDec s.data.toList
  · refine ⟨(val s.data.toList : Int), true, .inl ⟨h, rfl⟩, fun h => absurd h (by simp), fun v hv => ?_⟩
    rcases hv with ⟨_, hv⟩ | ⟨hn, _⟩
    · exact hv
    · exact absurd h hn
  · refine ⟨0, false, .inr ⟨h, rfl⟩, fun _ => rfl, fun v hv => ?_⟩
    rcases hv with ⟨hn, _⟩ | ⟨_, hv⟩
    · exact absurd hn h
    · exact hv

set_option maxRecDepth 100000 in
set_option maxHeartbeats 400000 in
theorem specNumberOf_any (s : ByteArray) (w : World) (hs : s.size ≤ 1099511627776) :
    Calls Try.prog 16 #[.string s] w fun e w' => (∃ n, e = .returned (.int .i64 n) ∧ NumR s n) ∧ Below w.heap.size w w' := by
  obtain ⟨n, f, hn, _, hr⟩ := NumR.of s
  have HN := Lib.hid hn
  have HR := Lib.hid hr
  clear hn hr
  go_enter Try.func16, Try.ntmps16
  go_wp2_with fail
  refine (specReadDecimal_any s _ hs).mono ?_
  rintro e w1 ⟨v, rfl, hv, k1⟩
  rw [HR.out v hv]
  clear hv
  go_wp2
  go_ret
  exact ⟨⟨_, rfl, HN.out⟩, k1⟩

end Go.Proofs.Ytnaaebbinmpjeaa
