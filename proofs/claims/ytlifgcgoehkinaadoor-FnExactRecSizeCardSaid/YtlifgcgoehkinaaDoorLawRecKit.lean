/- Records and items: the helpers of the exact laws. -/
import Derived.Test.YtlifgcgoehkinaaDoorItemS
namespace Go.Proofs.YtlifgcgoehkinaaDoor
open Go.RowKit

set_option maxRecDepth 100000 in
set_option maxHeartbeats 1000000 in
theorem szRec_any (r : Rc) (left : Int) (w : World) (s1 : r.user.size ≤ 9223372036854775807) (s2 : r.name.size ≤ 9223372036854775807) (s3 : r.text.size ≤ 9223372036854775807) (h0 : 0 ≤ left) (h1 : left ≤ 1099511627776) :
    Calls Tryd.prog 4 #[r.v, .int .i64 left] w fun e w' => (∃ x : Int, e = .returned (.int .i64 x) ∧ (x < 0 ∨ (r.user.size : Int) + r.name.size + r.text.size ≤ left) ∧ -1 ≤ x ∧ x ≤ left) ∧ Below w.heap.size w w' := by
  have b0 : Below w.heap.size w (w.alloc (.cells #[.int .i64 r.kind, .int .i64 r.valid, .int .i64 r.uid, .int .i64 r.next, .int .i64 r.flags, .string r.user, .string r.name, .string r.text] 23)) := belNew _ _
  unfold Rc.v
  by_cases hA : (r.user.size : Int) ≤ left
  · by_cases hB : (r.name.size : Int) ≤ left - r.user.size
    · by_cases hC : (r.text.size : Int) ≤ left - r.user.size - r.name.size
      · go_enter Tryd.func4, Tryd.ntmps4
        go_wp2
        go_ret
        exact ⟨⟨left - r.user.size - r.name.size - r.text.size, rfl, .inr (by omega), by omega, by omega⟩, b0⟩
      · go_enter Tryd.func4, Tryd.ntmps4
        go_wp2
        go_ret
        exact ⟨⟨-1, rfl, .inl (by omega), by omega, by omega⟩, b0⟩
    · go_enter Tryd.func4, Tryd.ntmps4
      go_wp2
      go_ret
      exact ⟨⟨-1, rfl, .inl (by omega), by omega, by omega⟩, b0⟩
  · go_enter Tryd.func4, Tryd.ntmps4
    go_wp2
    go_ret
    exact ⟨⟨-1, rfl, .inl (by omega), by omega, by omega⟩, b0⟩

set_option maxRecDepth 100000 in
set_option maxHeartbeats 1000000 in
theorem toRec_any (r : Rc) (w : World) : Calls Tryd.prog 6 #[r.v] w fun e w' => e = .returned r.v ∧ Below w.heap.size w w' := by
  unfold Rc.v
  go_enter Tryd.func6, Tryd.ntmps6
  go_wp2
  refine bodyPost_ret (v := .agg #[.int .i64 r.kind, .int .i64 r.valid, .int .i64 r.uid, .int .i64 r.next, .int .i64 r.flags, .string r.user, .string r.name, .string r.text]) (by simp [results, Tryd.results6, go_sem]) rfl ?_
  exact ⟨rfl, (((Below.refl _ _).alloc (Nat.le_refl _) _).alloc (by simp) _).alloc (by simp; omega) _⟩





end Go.Proofs.YtlifgcgoehkinaaDoor
