/- What a value owns: its memory lies between two marks of the heap, and what is written elsewhere leaves it alone. -/
import Derived.Test.YtichbcpidkkblaaEncs
import Derived.Test.YtichbcpidkkblaaKitS
import Derived.Test.YtichbcpidkkblaaBox
import Derived.Lib.SmallJoins
namespace Go.Proofs.Ytichbcpidkkblaa
open Go.RowKit

/-- Whatever was there outside the blocks B .. T-1 is as it was. -/
structure Kept (B T : Nat) (w w' : World) : Prop where
  os : w'.os = w.os
  tape : w'.tape = w.tape
  output : w'.output = w.output
  size : w.heap.size ≤ w'.heap.size
  block : ∀ k, k < w.heap.size → (k < B ∨ T ≤ k) → w'.heap[k]? = w.heap[k]?

theorem Kept.of_below {w w' : World} (hb : Below w.heap.size w w') (B T : Nat) : Kept B T w w' := ⟨hb.os, hb.tape, hb.output, hb.size, fun k hk _ => hb.block k hk⟩
theorem Kept.of_grown {w w' : World} {r : Option Nat} {B T : Nat} (h : w.grownBy w' r) (hr : ∀ k, r = some k → B ≤ k ∧ k < T) : Kept B T w w' :=
  ⟨h.os, h.tape, h.output, h.size, fun k hk hout => h.block k hk (fun e => by have := hr k e.symm; omega)⟩
theorem Kept.trans {B T : Nat} {w w1 w2 : World} (h : Kept B T w w1) (h2 : Kept B T w1 w2) : Kept B T w w2 :=
  ⟨h2.os.trans h.os, h2.tape.trans h.tape, h2.output.trans h.output, Nat.le_trans h.size h2.size, fun k hk hout => (h2.block k (Nat.lt_of_lt_of_le hk h.size) hout).trans (h.block k hk hout)⟩
theorem Kept.below {B T B0 : Nat} {w0 w w' : World} (h : Kept B T w w') (hb : Below B0 w0 w) (h0 : B0 ≤ B) (hs : B0 ≤ w.heap.size) : Below B0 w0 w' :=
  ⟨h.os.trans hb.os, h.tape.trans hb.tape, h.output.trans hb.output, Nat.le_trans hb.size h.size, fun k hk => (h.block k (Nat.lt_of_lt_of_le hk hs) (.inl (Nat.lt_of_lt_of_le hk h0))).trans (hb.block k hk)⟩

variable {α : Type} {E : Enc α} {B T : Nat} {w w' : World} {v : Value} {l : List α}

/-- The slice v holds the elements l in a row of its own, in one of the blocks B .. T-1. -/
def LOwn (E : Enc α) (B T : Nat) (w : World) (v : Value) (l : List α) : Prop := RBuf E B w w v l ∧ T ≤ w.heap.size ∧ ∀ k, v.ownBlock = some k → k < T

theorem RBuf.lown {w0 : World} (h : RBuf E B w0 w v l) : LOwn E B w.heap.size w v l := ⟨h.here, Nat.le_refl _, fun k hk => (h.own.lt k hk).2⟩

theorem LOwn.kept {B' T' : Nat} (h : LOwn E B T w v l) (hk : Kept B' T' w w') (hd : T ≤ B' ∨ T' ≤ B) : LOwn E B T w' v l := by
  refine ⟨⟨⟨h.1.own.1, ?_⟩, Below.refl _ _, Nat.le_trans h.1.le hk.size⟩, Nat.le_trans h.2.1 hk.size, h.2.2⟩
  rcases h.1.own.2 with h1 | ⟨g, cap, cur, h1, h2, h3, h4⟩
  · exact .inl h1
  · have hg := h.2.2 g (by rw [h1]; rfl)
    refine .inr ⟨g, cap, cur, h1, h2, ?_, h4⟩
    rw [hk.block g (Nat.lt_of_lt_of_le hg h.2.1) (by omega)]
    exact h3

theorem LOwn.later (h : LOwn E B T w v l) (hb : Below w.heap.size w w') : LOwn E B T w' v l :=
  h.kept (Kept.of_below hb T T) (.inl (Nat.le_refl _))

theorem LOwn.wider {T' : Nat} (h : LOwn E B T w v l) (hT : T ≤ T') (hs : T' ≤ w.heap.size) : LOwn E B T' w v l := ⟨h.1, hs, fun k hk => Nat.lt_of_lt_of_le (h.2.2 k hk) hT⟩

theorem LOwn.deeper {B' : Nat} (h : LOwn E B T w v l) (hB : B' ≤ B) : LOwn E B' T w v l := ⟨h.1.down (Below.refl _ _) hB, h.2⟩

theorem LOwn.rows (h : LOwn E B T w v l) : Rows' E w v l := h.1.rows

/-- A store by another name leaves a row alone whose block is another. -/
theorem LOwn.grown {r : Option Nat} (h : LOwn E B T w v l) (hg : w.grownBy w' r) (hne : v.ownBlock = none ∨ v.ownBlock ≠ r) : LOwn E B T w' v l :=
  ⟨⟨h.1.own.kept hg hne, Below.refl _ _, Nat.le_trans h.1.le hg.size⟩, Nat.le_trans h.2.1 hg.size, h.2.2⟩

/-- A store below the row's base leaves it alone. -/
theorem LOwn.store (h : LOwn E B T w v l) (g i : Nat) (u : Value) (hg : g < B) : LOwn E B T (w.setCell ⟨g, i, none⟩ u) v l := by
  refine h.grown (stored_grown w g i u) ?_
  cases hv : v.ownBlock with
  | none => exact .inl rfl
  | some k => exact .inr (by intro e; have := (h.1.own.lt k hv).1; have := Option.some.inj e; omega)

theorem LOwn.storeHi (h : LOwn E B T w v l) (g i : Nat) (u : Value) (hg : T ≤ g) : LOwn E B T (w.setCell ⟨g, i, none⟩ u) v l := by
  refine h.grown (stored_grown w g i u) ?_
  cases hv : v.ownBlock with
  | none => exact .inl rfl
  | some k => exact .inr (by intro e; have := h.2.2 k hv; have := Option.some.inj e; omega)

end Go.Proofs.Ytichbcpidkkblaa
