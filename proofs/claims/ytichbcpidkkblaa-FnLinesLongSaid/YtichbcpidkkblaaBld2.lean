/- strings.Builder beside other memory: WriteString writes into the builder and its own buffer alone. -/
import Derived.Test.YtichbcpidkkblaaBuilder
import Derived.Test.YtichbcpidkkblaaBox
namespace Go.Proofs.Ytichbcpidkkblaa
open Go.RowKit Go.Shelf

/-- All blocks below B but b are as they were. -/
structure BelBut (B b : Nat) (w w' : World) : Prop where
  os : w'.os = w.os
  tape : w'.tape = w.tape
  output : w'.output = w.output
  size : w.heap.size ≤ w'.heap.size
  block : ∀ k, k < B → k ≠ b → w'.heap[k]? = w.heap[k]?
theorem BelBut.refl (B b : Nat) (w : World) : BelBut B b w w := ⟨rfl, rfl, rfl, Nat.le_refl _, fun _ _ _ => rfl⟩
theorem BelBut.trans {B b : Nat} {u v w : World} (h : BelBut B b u v) (k : BelBut B b v w) : BelBut B b u w :=
  ⟨k.os.trans h.os, k.tape.trans h.tape, k.output.trans h.output, Nat.le_trans h.size k.size, fun q h1 h2 => (k.block q h1 h2).trans (h.block q h1 h2)⟩
theorem BelBut.of_below {B b : Nat} {u v : World} (h : Below u.heap.size u v) (hB : B ≤ u.heap.size) : BelBut B b u v :=
  ⟨h.os, h.tape, h.output, h.size, fun q h1 _ => h.block q (by omega)⟩
theorem BelBut.below {B b C : Nat} {u v : World} (h : BelBut B b u v) (h1 : C ≤ b) (h2 : C ≤ B) : Below C u v :=
  ⟨h.os, h.tape, h.output, h.size, fun q hq => h.block q (by omega) (by omega)⟩
theorem BelBut.grown {B b : Nat} {u v : World} {r : Option Nat} (h : u.grownBy v r) (hB : B ≤ u.heap.size) (hr : ∀ k, r = some k → B ≤ k ∨ k = b) : BelBut B b u v :=
  ⟨h.os, h.tape, h.output, h.size, fun q h1 h2 => h.block q (by omega) (fun e => by rcases hr q e.symm with e1 | e1 <;> omega)⟩

/-- A builder in the block b, its buffer from block B on. -/
def Bld (B b : Nat) (bs : List Value) (w : World) : Prop := b < B ∧ ∃ p v, (p = .pointer none ∨ p = .pointer (some ⟨b, 0, none⟩)) ∧ Box w b #[p, v] 41 ∧ w.ownsRow B 5 1 v bs.length bs
theorem Bld.later {B b : Nat} {bs : List Value} {w w' : World} (h : Bld B b bs w) (hb : Below w.heap.size w w') : Bld B b bs w' := by
  obtain ⟨h1, p, v, h2, h3, h4⟩ := h
  have hg : w.grownBy w' none := ⟨hb.os, hb.tape, hb.output, hb.size, fun k hk _ => hb.block k hk⟩
  refine ⟨h1, p, v, h2, h3.later hb, h4.kept hg ?_⟩
  cases hv : v.ownBlock with
  | none => exact .inl rfl
  | some k => exact .inr (by simp)
/-- As the library has it. -/
theorem Bld.is {B b : Nat} {bs : List Value} {w : World} (h : Bld B b bs w) : Lib.IsBuilder 41 5 b b bs w := by
  obtain ⟨h1, p, v, h2, h3, h4⟩ := h
  have h5 : w.ownsRow b 5 1 v bs.length bs := by
    rcases h4 with ⟨e, h | ⟨g, cap, cur, a, c, d⟩⟩
    · exact ⟨e, .inl h⟩
    · exact ⟨e, .inr ⟨g, cap, cur, a, by omega, d⟩⟩
  have h6 : v.ownBlock ≠ some b := fun e => by have := (h4.lt b e).1; omega
  rcases h2 with rfl | rfl
  · exact .inl ⟨Nat.le_refl _, v, h3, h5, h6⟩
  · exact .inr ⟨Nat.le_refl _, v, h3, h5, h6⟩

end Go.Proofs.Ytichbcpidkkblaa
