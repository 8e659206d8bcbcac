/- Plain facts on disks: what is right, what is read. -/
import Derived.Test.YtmlhpjkijpbinaqDisk
namespace Go.Proofs.Ytmlhpjkijpbinaq
open Go.RowKit

/-- A right disk. -/
def Dk.ok (d : Dk) : Prop := 1 ≤ d.sec.length ∧ d.sec.length ≤ 100 ∧ d.cache.length ≤ 60 ∧ (∀ s ∈ d.sec, s.size = 32) ∧ ∀ x ∈ d.cache, 0 ≤ x.at_ ∧ x.at_ < d.sec.length ∧ x.text.size = 32

instance (d : Dk) : Decidable d.ok := by unfold Dk.ok; infer_instance

/-- What the last write at this place has. -/
def lastAt (c : List Wr) (a : Int) : Option ByteArray := match c with
  | [] => none
  | x :: c => match lastAt c a with
    | some t => some t
    | none => if x.at_ = a then some x.text else none

theorem lastAt_append (c : List Wr) (x : Wr) (a : Int) : lastAt (c ++ [x]) a = if x.at_ = a then some x.text else lastAt c a := by
  induction c with
  | nil => simp only [List.nil_append, lastAt]
  | cons y c ih =>
    show (match lastAt (c ++ [x]) a with
      | some t => some t
      | none => if y.at_ = a then some y.text else none) = _
    rw [ih]
    by_cases h : x.at_ = a
    · simp [h]
    · simp only [h, if_false]; rfl

theorem lastAt_take {c : List Wr} {i : Nat} (h : i < c.length) (a : Int) : lastAt (c.take (i + 1)) a = if c[i].at_ = a then some c[i].text else lastAt (c.take i) a := by
  rw [List.take_succ_eq_append_getElem h, lastAt_append]

/-- What ReadSector hands back. -/
def rdT (d : Dk) (a : Int) : Value :=
  if 0 ≤ a ∧ a < d.sec.length then .tuple #[.string ((lastAt d.cache a).getD (d.sec.getD a.toNat ⟨#[]⟩)), .bool true] else .tuple #[.string ⟨#[]⟩, .bool false]

theorem rdT_no {d : Dk} {a : Int} (h : ¬ (0 ≤ a ∧ a < d.sec.length)) : rdT d a = .tuple #[.string ⟨#[]⟩, .bool false] := by rw [rdT, if_neg h]
theorem rdT_last {d : Dk} {a : Int} (h : 0 ≤ a ∧ a < d.sec.length) {t : ByteArray} (ht : lastAt d.cache a = some t) : rdT d a = .tuple #[.string t, .bool true] := by rw [rdT, if_pos h, ht]; rfl
theorem rdT_sec {d : Dk} {k : Nat} (h : k < d.sec.length) (ht : lastAt d.cache (k : Int) = none) : rdT d (k : Int) = .tuple #[.string d.sec[k], .bool true] := by
  rw [rdT, if_pos ⟨by omega, by omega⟩, ht, Int.toNat_natCast, List.getD_eq_getElem?_getD, List.getElem?_eq_getElem h]; rfl

theorem rdT_form (d : Dk) (a : Int) : ∃ (t : ByteArray) (f : Bool), rdT d a = .tuple #[.string t, .bool f] := by
  unfold rdT
  split
  · exact ⟨_, _, rfl⟩
  · exact ⟨_, _, rfl⟩

end Go.Proofs.Ytmlhpjkijpbinaq
