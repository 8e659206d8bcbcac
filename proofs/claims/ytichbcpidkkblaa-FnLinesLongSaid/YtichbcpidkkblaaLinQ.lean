/- Lines in a text: the first one of it, and what is too long. -/
import Derived.Test.YtichbcpidkkblaaLinP
namespace Go.Proofs.Ytichbcpidkkblaa
open Go.RowKit

theorem crAt_list {l : List UInt8} {i : Nat} : CrAt ⟨l.toArray⟩ i ↔ l[i]? = some 13 ∧ l[i + 1]? = some 10 := by
  have hs : (⟨l.toArray⟩ : ByteArray).size = l.length := by simp [ByteArray.size]
  constructor
  · rintro ⟨h, h1, h2⟩
    rw [hs] at h
    have g1 : l[i] = 13 := UInt8.toNat_inj.1 h1
    have g2 : l[i + 1] = 10 := UInt8.toNat_inj.1 h2
    exact ⟨by rw [List.getElem?_eq_getElem (by omega), g1], by rw [List.getElem?_eq_getElem h, g2]⟩
  · rintro ⟨h1, h2⟩
    obtain ⟨g1, e1⟩ := List.getElem?_eq_some_iff.1 h1
    obtain ⟨g2, e2⟩ := List.getElem?_eq_some_iff.1 h2
    refine ⟨by rw [hs]; exact g2, ?_, ?_⟩
    · show l[i].toNat = 13
      rw [e1]; rfl
    · show l[i + 1].toNat = 10
      rw [e2]; rfl

theorem no_cr {x r : List UInt8} (hx : ∀ b ∈ x, b ≠ 13) {j : Nat} (hj : j < x.length) : ¬ CrAt ⟨(x ++ r).toArray⟩ j := by
  rw [crAt_list]
  rintro ⟨h, _⟩
  rw [List.getElem?_append_left hj] at h
  exact hx _ (List.mem_of_getElem? h) rfl

theorem ext_take (l : List UInt8) (k : Nat) : (⟨l.toArray⟩ : ByteArray).extract 0 k = ⟨(l.take k).toArray⟩ := by
  rw [ByteArray.extract_mk]
  simp
theorem ext_drop (l : List UInt8) (k : Nat) : (⟨l.toArray⟩ : ByteArray).extract k (⟨l.toArray⟩ : ByteArray).size = ⟨(l.drop k).toArray⟩ := by
  rw [ByteArray.extract_mk]
  have hs : (⟨l.toArray⟩ : ByteArray).size = l.length := by simp [ByteArray.size]
  rw [hs]
  congr 2
  rw [List.take_of_length_le (by rw [List.length_drop]; omega)]

/-- A line, and what is behind it. -/
theorem tk_line {x r : List UInt8} (hx : ∀ b ∈ x, b ≠ 13) (h : x.length ≤ 80) : TkR ⟨(x ++ 13 :: 10 :: r).toArray⟩ ⟨x.toArray⟩ ⟨r.toArray⟩ 0 := by
  refine .inl ⟨x.length, h, ?_, fun j hj => no_cr hx hj, ?_, ?_, rfl⟩
  · rw [crAt_list]
    refine ⟨?_, ?_⟩
    · rw [List.getElem?_append_right (Nat.le_refl _)]; simp
    · rw [List.getElem?_append_right (by omega)]; simp
  · rw [ext_take, List.take_left]
  · rw [ext_drop, List.drop_append, List.drop_of_length_le (by omega), show x.length + 2 - x.length = 2 by omega]
    rfl

/-- What is too long. -/
theorem tk_long {x r : List UInt8} (hx : ∀ b ∈ x, b ≠ 13) (h : 80 < x.length) : TkR ⟨(x ++ 13 :: 10 :: r).toArray⟩ emp ⟨(x.drop 80 ++ 13 :: 10 :: r).toArray⟩ 2 := by
  have hs : (⟨(x ++ 13 :: 10 :: r).toArray⟩ : ByteArray).size = x.length + (r.length + 2) := by simp [ByteArray.size]
  refine .inr ⟨fun j hj => no_cr hx (by omega), rfl, .inl ⟨⟨by rw [hs]; omega, fun e => by have := e.1; rw [hs] at this; omega⟩, ?_, rfl⟩⟩
  rw [ext_drop, List.drop_append, show 80 - x.length = 0 by omega]
  rfl

end Go.Proofs.Ytichbcpidkkblaa
