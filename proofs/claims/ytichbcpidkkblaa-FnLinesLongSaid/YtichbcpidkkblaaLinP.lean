/- Lines: what TakeLine, LowWord hand back. -/
import Derived.Test.YtichbcpidkkblaaRecS
namespace Go.Proofs.Ytichbcpidkkblaa
open Go.RowKit

/-- A line ends at i: the bytes 13 and 10 stand there. -/
def CrAt (s : ByteArray) (i : Nat) : Prop := ∃ h : i + 1 < s.size, s[i].toNat = 13 ∧ s[i + 1].toNat = 10
/-- What is longer than a line, but not by a byte 13 alone. -/
def OverL (s : ByteArray) : Prop := 80 < s.size ∧ ¬ (s.size = 81 ∧ ∀ h : 80 < s.size, s[80].toNat = 13)
/-- What TakeLine hands back. -/
def TkR (s a b : ByteArray) (c : Int) : Prop :=
  (∃ i, i ≤ 80 ∧ CrAt s i ∧ (∀ j, j < i → ¬ CrAt s j) ∧ a = s.extract 0 i ∧ b = s.extract (i + 2) s.size ∧ c = 0) ∨
  ((∀ j, j ≤ 80 → ¬ CrAt s j) ∧ a = emp ∧ ((OverL s ∧ b = s.extract 80 s.size ∧ c = 2) ∨ (¬ OverL s ∧ b = s ∧ c = 1)))

theorem TkR.one {s a b a' b' : ByteArray} {c c' : Int} (h : TkR s a b c) (h' : TkR s a' b' c') : a' = a ∧ b' = b ∧ c' = c := by
  rcases h with ⟨i, hi, hc, hn, rfl, rfl, rfl⟩ | ⟨hn, rfl, h⟩
  · rcases h' with ⟨j, hj, hc', hn', rfl, rfl, rfl⟩ | ⟨hn', _⟩
    · have : j = i := by
        rcases Nat.lt_trichotomy i j with h | h | h
        · exact absurd hc (hn' i h)
        · exact h.symm
        · exact absurd hc' (hn j h)
      subst this
      exact ⟨rfl, rfl, rfl⟩
    · exact absurd hc (hn' i hi)
  · rcases h' with ⟨j, hj, hc', _⟩ | ⟨_, rfl, h'⟩
    · exact absurd hc' (hn j hj)
    · rcases h with ⟨o, rfl, rfl⟩ | ⟨o, rfl, rfl⟩ <;> rcases h' with ⟨o', rfl, rfl⟩ | ⟨o', rfl, rfl⟩
      · exact ⟨rfl, rfl, rfl⟩
      · exact absurd o o'
      · exact absurd o' o
      · exact ⟨rfl, rfl, rfl⟩

/-- A byte's lower letter. -/
def lowB (b : UInt8) : UInt8 := if 65 ≤ b.toNat ∧ b.toNat ≤ 90 then b + 32 else b
/-- What LowWord hands back. -/
def lowW (s : ByteArray) : ByteArray := ⟨(s.data.toList.map lowB).toArray⟩

end Go.Proofs.Ytichbcpidkkblaa
