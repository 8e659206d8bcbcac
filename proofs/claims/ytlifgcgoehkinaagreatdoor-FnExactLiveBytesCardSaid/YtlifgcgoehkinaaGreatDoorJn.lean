/- Texts of our own, joined. -/
import Derived.Test.YtlifgcgoehkinaaGreatDoorJm
import Derived.Laws.Concat
import Derived.Deep.RegionHeld3
import Derived.Test.YtlifgcgoehkinaaGreatDoorJd
/- Sealed texts: what Sealed and Unsealed hand back. -/
namespace Go.Proofs.YtlifgcgoehkinaaGreatDoor
open Go.RowKit

def fourOf (s : ByteArray) : ByteArray := ⟨(four (sumL 4294967295 s.data.toList)).toArray⟩
theorem fourOf_size (s : ByteArray) : (fourOf s).size = 4 := rfl

def seT (s : ByteArray) : Value :=
  if s.size ≤ 20000 then .tuple #[.string (s ++ fourOf s), .bool true] else .tuple #[.string ⟨#[]⟩, .bool false]
theorem seT_yes {s : ByteArray} (h : s.size ≤ 20000) : seT s = .tuple #[.string (s ++ fourOf s), .bool true] := by rw [seT, if_pos h]
theorem seT_no {s : ByteArray} (h : ¬ s.size ≤ 20000) : seT s = .tuple #[.string ⟨#[]⟩, .bool false] := by rw [seT, if_neg h]

theorem specSealed_any (s : ByteArray) (w : World) (hs : s.size ≤ 1099511627776) :
    Calls Tryz.prog 62 #[.string s] w fun e w' => e = .returned (seT s) ∧ Below w.heap.size w w' := by
  by_cases h : s.size ≤ 20000
  · have hl := sumL_lt (s := 4294967295) (by decide) s.data.toList
    have hadd := fun wx => run_string_add_sum (P := Tryz.prog) (w := wx) s (fourOf s) (by rw [fourOf_size]; omega)
    go_enter Tryz.func62, Tryz.ntmps62
    go_wp2_with (first | (go_at_call 81; refine (specSumOf_any _ _ hs).mono ?_; rintro e w1 ⟨rfl, rfl⟩) | (go_at_call 80; refine (specFour_any _ _ hl).mono ?_; rintro e w2 ⟨rfl, hb2⟩; rw [← fourOf]))
    go_ret2
    exact ⟨by rw [seT_yes h]; rfl, hb2⟩
  · go_enter Tryz.func62, Tryz.ntmps62
    go_wp2
    go_ret2
    exact ⟨by rw [seT_no h]; rfl, Below.refl _ _⟩

theorem implSealed_any (s : ByteArray) (w : World) (hs : s.size ≤ 1099511627776) (ht : SumTab w) :
    Calls Tryz.prog 75 #[.string s] w fun e w' => e = .returned (seT s) ∧ Below w.heap.size w w' := by
  by_cases h : s.size ≤ 20000
  · have hl := sumL_lt (s := 4294967295) (by decide) s.data.toList
    have hadd := fun wx => run_string_add_sum (P := Tryz.prog) (w := wx) s (fourOf s) (by rw [fourOf_size]; omega)
    go_enter Tryz.func75, Tryz.ntmps75
    go_wp2_with (first | (go_at_call 96; refine (implSumOf_any _ _ hs ht).mono ?_; rintro e w1 ⟨rfl, hb1⟩) | (go_at_call 97; refine (implText_any _ _ hl).mono ?_; rintro e w2 ⟨rfl, hb2⟩; rw [← fourOf]))
    go_ret2
    exact ⟨by rw [seT_yes h]; rfl, hb1.trans (hb2.mono hb1.size)⟩
  · go_enter Tryz.func75, Tryz.ntmps75
    go_wp2
    go_ret2
    exact ⟨by rw [seT_no h]; rfl, Below.refl _ _⟩

end Go.Proofs.YtlifgcgoehkinaaGreatDoor

/- Frames: their texts. -/
namespace Go.Proofs.YtlifgcgoehkinaaGreatDoor
open Go.RowKit

def Fr.tx (f : Fr) : ByteArray := f.text fourOf
theorem Fr.tx_size (f : Fr) : f.tx.size = f.raw.size + 4 := by simp [Fr.tx, Fr.text, ByteArray.size_append, fourOf_size]
theorem Fr.tx_le {f : Fr} (h : f.ok) : f.tx.size ≤ 196 := by have := f.tx_size; have := Fr.raw_size h; omega

def ftT (f : Fr) : Value := if f.ok then .tuple #[.string f.tx, .bool true] else .tuple #[.string ⟨#[]⟩, .bool false]
theorem ftT_yes {f : Fr} (h : f.ok) : ftT f = .tuple #[.string f.tx, .bool true] := by rw [ftT, if_pos h]
theorem ftT_no {f : Fr} (h : ¬ f.ok) : ftT f = .tuple #[.string ⟨#[]⟩, .bool false] := by rw [ftT, if_neg h]
end Go.Proofs.YtlifgcgoehkinaaGreatDoor
