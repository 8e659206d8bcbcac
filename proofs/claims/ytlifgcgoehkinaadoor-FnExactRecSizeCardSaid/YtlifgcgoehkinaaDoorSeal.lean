/- Sealed texts: what Sealed and Unsealed hand back. -/
import Derived.Test.YtlifgcgoehkinaaDoorSum
import Derived.Laws.Concat
import Derived.Deep.RegionHeld3
namespace Go.Proofs.YtlifgcgoehkinaaDoor
open Go.RowKit

/-- The four bytes of the sum of a text. -/
def fourOf (s : ByteArray) : ByteArray := ⟨(four (sumL 4294967295 s.data.toList)).toArray⟩
theorem fourOf_size (s : ByteArray) : (fourOf s).size = 4 := rfl

/-- What Sealed hands back. -/
def seT (s : ByteArray) : Value :=
  if s.size ≤ 20000 then .tuple #[.string (s ++ fourOf s), .bool true] else .tuple #[.string ⟨#[]⟩, .bool false]
theorem seT_yes {s : ByteArray} (h : s.size ≤ 20000) : seT s = .tuple #[.string (s ++ fourOf s), .bool true] := by rw [seT, if_pos h]
theorem seT_no {s : ByteArray} (h : ¬ s.size ≤ 20000) : seT s = .tuple #[.string ⟨#[]⟩, .bool false] := by rw [seT, if_neg h]

theorem seT_form (s : ByteArray) : ∃ (t : ByteArray) (f : Bool), seT s = .tuple #[.string t, .bool f] := by
  unfold seT
  split
  · exact ⟨_, _, rfl⟩
  · exact ⟨_, _, rfl⟩

theorem specSealed_any (s : ByteArray) (w : World) (hs : s.size ≤ 1099511627776) :
    Calls Tryd.prog 22 #[.string s] w fun e w' => e = .returned (seT s) ∧ Below w.heap.size w w' := by
  by_cases h : s.size ≤ 20000
  · have hl := sumL_lt (s := 4294967295) (by decide) s.data.toList
    have hadd := fun wx => run_string_add_sum (P := Tryd.prog) (w := wx) s (fourOf s) (by rw [fourOf_size]; omega)
    go_enter Tryd.func22, Tryd.ntmps22
    go_wp2_with (first | (go_at_call 30; refine (specSumOf_any _ _ hs).mono ?_; rintro e w1 ⟨rfl, rfl⟩) | (go_at_call 29; refine (specFour_any _ _ hl).mono ?_; rintro e w2 ⟨rfl, hb2⟩; rw [← fourOf]))
    go_ret2
    exact ⟨by rw [seT_yes h]; rfl, hb2⟩
  · go_enter Tryd.func22, Tryd.ntmps22
    go_wp2
    go_ret2
    exact ⟨by rw [seT_no h]; rfl, Below.refl _ _⟩

theorem implSealed_any (s : ByteArray) (w : World) (hs : s.size ≤ 1099511627776) (ht : SumTab w) :
    Calls Tryd.prog 27 #[.string s] w fun e w' => e = .returned (seT s) ∧ Below w.heap.size w w' := by
  by_cases h : s.size ≤ 20000
  · have hl := sumL_lt (s := 4294967295) (by decide) s.data.toList
    have hadd := fun wx => run_string_add_sum (P := Tryd.prog) (w := wx) s (fourOf s) (by rw [fourOf_size]; omega)
    go_enter Tryd.func27, Tryd.ntmps27
    go_wp2_with (first | (go_at_call 33; refine (implSumOf_any _ _ hs ht).mono ?_; rintro e w1 ⟨rfl, hb1⟩) | (go_at_call 34; refine (implText_any _ _ hl).mono ?_; rintro e w2 ⟨rfl, hb2⟩; rw [← fourOf]))
    go_ret2
    exact ⟨by rw [seT_yes h]; rfl, hb1.trans (hb2.mono hb1.size)⟩
  · go_enter Tryd.func27, Tryd.ntmps27
    go_wp2
    go_ret2
    exact ⟨by rw [seT_no h]; rfl, Below.refl _ _⟩

end Go.Proofs.YtlifgcgoehkinaaDoor
