/- Texts of our own, joined. -/
import Derived.Test.YtlifgcgoehkinaaGreatDoorJhx
import Derived.Test.YtlifgcgoehkinaaGreatDoorJa
import Derived.Maps.AppendAt
import Derived.Test.YtlifgcgoehkinaaGreatDoorJd
import Derived.Lib.Hide
import Derived.Test.YtlifgcgoehkinaaGreatDoorJe
/- How boxes lie in memory: a row of boxes, each with a row of mails of its own. -/
namespace Go.Proofs.YtlifgcgoehkinaaGreatDoor
open Go.RowKit

structure BxH where
  valid : Int
  user : ByteArray
  name : ByteArray
  next : Int
  a : Option Addr
  n : Nat
  c : Nat
def BxH.mv (h : BxH) : Value := .slice h.a h.n h.c


end Go.Proofs.YtlifgcgoehkinaaGreatDoor

/- Boxes in memory of their own: what leaves them as they are. -/
namespace Go.Proofs.YtlifgcgoehkinaaGreatDoor
open Go.RowKit


end Go.Proofs.YtlifgcgoehkinaaGreatDoor

/- What a list of numbers is that a call builds in memory of its own, and the laws by which it grows, is read and is written. -/
namespace Go.Proofs.YtlifgcgoehkinaaGreatDoor
open Go.RowKit

def intV (l : List Int) : List Value := l.map fun c => .int .i64 c
structure IBuf (B : Nat) (w0 w : World) (v : Value) (l : List Int) : Prop where
  own : w.ownsRow B 3 1 v l.length (intV l)
  bel : Below B w0 w
  le : B ≤ w.heap.size

theorem IBuf.alloc {B : Nat} {w0 w : World} {v : Value} {l : List Int} (h : IBuf B w0 w v l) (o : Obj) : IBuf B w0 (w.alloc o) v l :=
  ⟨h.own.alloc o, h.bel.alloc h.le o, by have := h.le; simp; omega⟩
theorem IBuf.drew {B : Nat} {w0 w : World} {v : Value} {l : List Int} (h : IBuf B w0 w v l) : IBuf B w0 w.drew v l :=
  ⟨h.own.drew, h.bel.drew, h.le⟩
theorem IBuf.fresh (w : World) : IBuf w.heap.size w (w.alloc (.cells #[] 3)) (.slice (some ⟨w.heap.size, 0, none⟩) 0 0) [] :=
  ⟨World.ownsRow_made w #[] 0 (Nat.le_refl _) (by decide) rfl, (Below.refl _ _).alloc (Nat.le_refl _) _, by simp⟩

theorem IBuf.later {B : Nat} {w0 w w' : World} {v : Value} {l : List Int} (h : IBuf B w0 w v l) (hb : Below w.heap.size w w') : IBuf B w0 w' v l := by
  have hg : w.grownBy w' none := ⟨hb.os, hb.tape, hb.output, hb.size, fun k hk _ => hb.block k hk⟩
  refine ⟨h.own.kept hg ?_, h.bel.trans (hb.mono h.le), Nat.le_trans h.le hb.size⟩
  cases hv : v.ownBlock with
  | none => exact .inl rfl
  | some k => exact .inr (by simp)

theorem IBuf.form {B : Nat} {w0 w : World} {v : Value} {l : List Int} (h : IBuf B w0 w v l) : ∃ (a : Option Addr) (cap : Nat), v = .slice a l.length cap := by
  rcases h.own.2 with ⟨rfl, h0⟩ | ⟨g, cap, cur, rfl, _⟩
  · exact ⟨none, 0, by rw [h0]⟩
  · exact ⟨_, _, rfl⟩

def Ints (w : World) (v : Value) (l : List Int) : Prop :=
  (l = [] ∧ ∃ (a : Option Addr) (cap : Nat), v = .slice a 0 cap) ∨
  ∃ g cap : Nat, v = .slice (some ⟨g, 0, none⟩) l.length cap ∧ l.length ≤ cap ∧ g < w.heap.size ∧ ∀ j b, l[j]? = some b → w.cell? ⟨g, j, none⟩ = some (.int .i64 b)

theorem Ints.later {w w' : World} {v : Value} {l : List Int} (h : Ints w v l) (hb : Below w.heap.size w w') : Ints w' v l := by
  rcases h with h | ⟨g, cap, hv, hc, hg, hcl⟩
  · exact .inl h
  · exact .inr ⟨g, cap, hv, hc, Nat.lt_of_lt_of_le hg hb.size, fun j b hj => (hb.cell (p := ⟨g, j, none⟩) hg).trans (hcl j b hj)⟩

theorem IBuf.stored {B : Nat} {w0 w : World} {g cap : Nat} {l : List Int} (h : IBuf B w0 w (.slice (some ⟨g, 0, none⟩) l.length cap) l) (j : Nat) (t : Int) :
    IBuf B w0 (w.setCell ⟨g, j, none⟩ (.int .i64 t)) (.slice (some ⟨g, 0, none⟩) l.length cap) (l.set j t) := by
  have hst := h.own.stored j (.int .i64 t)
  have e : intV (l.set j t) = (intV l).set j (.int .i64 t) := by simp [intV, List.map_set]
  refine ⟨?_, h.bel.setCell (h.own.lt g rfl).1 _, by have := h.le; simpa using this⟩
  have hl : (l.set j t).length = l.length := by simp
  rw [hl, e]
  exact hst.1

theorem IBuf.under {w0 w1 w : World} {v : Value} {l : List Int} (hb : Below w0.heap.size w0 w1) (h : IBuf w1.heap.size w1 w v l) : IBuf w0.heap.size w0 w v l := by
  refine ⟨⟨h.own.1, ?_⟩, hb.trans (h.bel.mono hb.size), Nat.le_trans hb.size h.le⟩
  rcases h.own.2 with h1 | ⟨g, cap, cur, h1, h2, h3⟩
  · exact .inl h1
  · exact .inr ⟨g, cap, cur, h1, Nat.le_trans hb.size h2, h3⟩

end Go.Proofs.YtlifgcgoehkinaaGreatDoor

/- What records tell: the model's numbers in their order. -/
namespace Go.Proofs.YtlifgcgoehkinaaGreatDoor
open Go.RowKit

end Go.Proofs.YtlifgcgoehkinaaGreatDoor

/- What records tell: the model's mails of a box. -/
namespace Go.Proofs.YtlifgcgoehkinaaGreatDoor
open Go.RowKit

end Go.Proofs.YtlifgcgoehkinaaGreatDoor

/- What records tell: the model's choice of what tells a box. -/
namespace Go.Proofs.YtlifgcgoehkinaaGreatDoor
open Go.RowKit

end Go.Proofs.YtlifgcgoehkinaaGreatDoor

/- What records tell: the model's number of the next mail. -/
namespace Go.Proofs.YtlifgcgoehkinaaGreatDoor
open Go.RowKit

end Go.Proofs.YtlifgcgoehkinaaGreatDoor

/- What records tell: the model's StateOf. -/
namespace Go.Proofs.YtlifgcgoehkinaaGreatDoor
open Go.RowKit

structure KS (w : World) (gs : Nat) (bo : Option Nat) (x : World) : Prop where
  size : w.heap.size ≤ x.heap.size
  same : ∀ g, g < w.heap.size → g ≠ gs → bo ≠ some g → x.heap[g]? = w.heap[g]?
theorem KS.drew (w : World) (gs : Nat) (bo : Option Nat) : KS w gs bo w.drew := ⟨Nat.le_refl _, fun _ _ _ _ => rfl⟩
theorem KS.later {w x y : World} {gs : Nat} {bo : Option Nat} (h : KS w gs bo x) (hb : Below x.heap.size x y) : KS w gs bo y :=
  ⟨Nat.le_trans h.size hb.size, fun g hg h1 h2 => (hb.block g (Nat.lt_of_lt_of_le hg h.size)).trans (h.same g hg h1 h2)⟩
theorem KS.grown {w x y : World} {gs : Nat} {bo : Option Nat} (h : KS w gs bo x) (hb : x.grownBy y bo) : KS w gs bo y :=
  ⟨Nat.le_trans h.size hb.size, fun g hg h1 h2 => (hb.block g (Nat.lt_of_lt_of_le hg h.size) (fun e => h2 e.symm)).trans (h.same g hg h1 h2)⟩
theorem KS.put {w x : World} {gs : Nat} {bo : Option Nat} (h : KS w gs bo x) (i : Nat) (u : Value) : KS w gs bo (x.setCell ⟨gs, i, none⟩ u) := by
  have g0 := stored_grown x gs i u
  exact ⟨Nat.le_trans h.size g0.size, fun g hg h1 h2 => (g0.block g (Nat.lt_of_lt_of_le hg h.size) (fun e => h1 (Option.some.inj e))).trans (h.same g hg h1 h2)⟩
theorem KS.cell {w x : World} {gs : Nat} {bo : Option Nat} (h : KS w gs bo x) {g i : Nat} {u : Value} (hc : w.cell? ⟨g, i, none⟩ = some u) (h1 : g ≠ gs) (h2 : bo ≠ some g) : x.cell? ⟨g, i, none⟩ = some u := by
  have hg := World.block_lt_of_cell? _ _ hc
  have e := h.same g hg h1 h2
  have : x.cell? ⟨g, i, none⟩ = w.cell? ⟨g, i, none⟩ := by
    unfold World.cell?
    rw [e]
  rw [this]; exact hc

theorem Rows'.but {α : Type} {E : Enc α} {w wa X : World} {v : Value} {l : List α} {gs : Nat} (h : Rows' E w v l) (hb : Below w.heap.size w wa) (hg : wa.grownBy X (some gs)) (hlt : w.heap.size ≤ gs) : Rows' E X v l := by
  rcases h with h | ⟨g, off, cap, hv, hc, hgl, hcl⟩
  · exact .inl h
  · refine .inr ⟨g, off, cap, hv, hc, Nat.lt_of_lt_of_le hgl (Nat.le_trans hb.size hg.size), fun j x hj k u hk => ?_⟩
    exact hg.cell ((hb.cell (p := ⟨g, off + j * E.sz + k, none⟩) hgl).trans (hcl j x hj k u hk)) (fun e => by have := Option.some.inj e; dsimp only at this; omega)


end Go.Proofs.YtlifgcgoehkinaaGreatDoor

/- What StateOf hands back. -/
namespace Go.Proofs.YtlifgcgoehkinaaGreatDoor
open Go.RowKit

end Go.Proofs.YtlifgcgoehkinaaGreatDoor

/- The helpers of the exact laws over lists of mails: two alike are alike; each is marked, and the marks are held. -/
namespace Go.Proofs.YtlifgcgoehkinaaGreatDoor
open Go.RowKit

def Ml.v (f : Ml) : Value := .agg #[.int .i64 f.uid, .int .i64 f.flags, .string f.text]


end Go.Proofs.YtlifgcgoehkinaaGreatDoor

/- The marks of boxes, plainly. -/
namespace Go.Proofs.YtlifgcgoehkinaaGreatDoor

def kB (k : Nat) (b : Bx) : Nat := k + 4 + 3 * b.mails.length
def kE : Nat → List Bx → Nat
  | k, [] => k
  | k, b :: bs => kE (kB k b) bs
end Go.Proofs.YtlifgcgoehkinaaGreatDoor
