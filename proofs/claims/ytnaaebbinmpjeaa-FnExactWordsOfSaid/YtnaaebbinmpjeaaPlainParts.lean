/- Plain facts on the parts of a line, with no program in them. -/
import Derived.WalkKit
namespace Go.Proofs.Ytnaaebbinmpjeaa

/-- The parts that end ahead of the place i (each from one place to another), and where the next one may begin. -/
def cutSt (l : List UInt8) : Nat → List (Nat × Nat) × Nat
  | 0 => ([], 0)
  | i + 1 =>
    if (l[i]?).any (fun c => c.toNat != 32) then cutSt l i
    else (if (cutSt l i).2 < i then (cutSt l i).1 ++ [((cutSt l i).2, i)] else (cutSt l i).1, i + 1)

theorem cutSt_le (l : List UInt8) : ∀ i, (cutSt l i).2 ≤ i ∧ (cutSt l i).1.length ≤ i := by
  intro i
  induction i with
  | zero => simp [cutSt]
  | succ i ih =>
    rw [cutSt]
    split
    · omega
    · split
      · simp; omega
      · simp; omega

theorem cutSt_go {l : List UInt8} {i : Nat} (h : i < l.length) (hc : l[i].toNat ≠ 32) : cutSt l (i + 1) = cutSt l i := by
  rw [cutSt, if_pos]
  simp [List.getElem?_eq_getElem h, hc]

theorem cutSt_part {l : List UInt8} {i : Nat} (hc : ∀ h : i < l.length, l[i].toNat = 32) (hf : (cutSt l i).2 < i) : cutSt l (i + 1) = ((cutSt l i).1 ++ [((cutSt l i).2, i)], i + 1) := by
  rw [cutSt, if_neg, if_pos hf]
  by_cases h : i < l.length
  · simp [List.getElem?_eq_getElem h, hc h]
  · simp [List.getElem?_eq_none (by omega : l.length ≤ i)]

theorem cutSt_none {l : List UInt8} {i : Nat} (hc : ∀ h : i < l.length, l[i].toNat = 32) (hf : ¬ (cutSt l i).2 < i) : cutSt l (i + 1) = ((cutSt l i).1, i + 1) := by
  rw [cutSt, if_neg, if_neg hf]
  by_cases h : i < l.length
  · simp [List.getElem?_eq_getElem h, hc h]
  · simp [List.getElem?_eq_none (by omega : l.length ≤ i)]

def printed (l : List UInt8) : Prop := ∀ c ∈ l, 32 ≤ c.toNat ∧ c.toNat ≤ 126

/-- The texts of the parts. -/
def cutTexts (s : ByteArray) (i : Nat) : List ByteArray := (cutSt s.data.toList i).1.map fun p => s.extract p.1 p.2

theorem cutTexts_len (s : ByteArray) (i : Nat) : (cutTexts s i).length ≤ i := by
  have := (cutSt_le s.data.toList i).2
  simpa [cutTexts] using this

/-- All parts. -/
def partsOf (s : ByteArray) : List ByteArray := cutTexts s (s.size + 1)

/-- Whether a line has parts. -/
def isLine (s : ByteArray) : Prop := s.size ≤ 600 ∧ printed s.data.toList ∧ (partsOf s).length ≤ 10

end Go.Proofs.Ytnaaebbinmpjeaa
