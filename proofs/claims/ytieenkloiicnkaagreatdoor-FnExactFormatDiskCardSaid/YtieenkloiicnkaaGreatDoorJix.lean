/- Texts of our own, joined. -/
import Derived.Test.YtieenkloiicnkaaGreatDoorJv
import Derived.Test.YtieenkloiicnkaaGreatDoorJa
import Derived.Test.YtieenkloiicnkaaGreatDoorJb
import Derived.Test.YtieenkloiicnkaaGreatDoorJc
import Derived.Deep.RegionLaw
/- Segments: their frames: SegFrames, the model's and the program's; the program's list stands behind the first frame, in a row of the call's own. -/
namespace Go.Proofs.YtieenkloiicnkaaGreatDoor
open Go.RowKit

def Tail (B : Nat) (w0 w : World) (v : Value) (l : List Fr) : Prop :=
  ∃ (g off cap c0 : Nat) (pre : List Fr), v = .slice (some ⟨g, off, none⟩) l.length cap ∧ l.length ≤ cap ∧ (l ≠ [] → off = pre.length * 3) ∧ RBuf frE B w0 w (.slice (some ⟨g, 0, none⟩) (pre ++ l).length c0) (pre ++ l)

theorem Tail.later {B : Nat} {w0 w w' : World} {v : Value} {l : List Fr} (h : Tail B w0 w v l) (hb : Below w.heap.size w w') : Tail B w0 w' v l := by
  obtain ⟨g, off, cap, c0, pre, h1, h2, h3, h4⟩ := h
  exact ⟨g, off, cap, c0, pre, h1, h2, h3, h4.later hb⟩
theorem Tail.bel {B : Nat} {w0 w : World} {v : Value} {l : List Fr} (h : Tail B w0 w v l) : Below B w0 w := by
  obtain ⟨g, off, cap, c0, pre, h1, h2, h3, h4⟩ := h
  exact h4.bel
theorem Tail.le {B : Nat} {w0 w : World} {v : Value} {l : List Fr} (h : Tail B w0 w v l) : B ≤ w.heap.size := by
  obtain ⟨g, off, cap, c0, pre, h1, h2, h3, h4⟩ := h
  exact h4.le
theorem Tail.rows {B : Nat} {w0 w : World} {v : Value} {l : List Fr} (h : Tail B w0 w v l) : Rows' frE w v l := by
  obtain ⟨g, off, cap, c0, pre, rfl, h2, h3, h4⟩ := h
  by_cases hl : l = []
  · subst hl; exact .inl ⟨rfl, _, _, rfl⟩
  · refine .inr ⟨g, off, cap, rfl, h2, (h4.own.lt g rfl).2, fun j x hj k u hk => ?_⟩
    have hj2 : (pre ++ l)[pre.length + j]? = some x := by rw [List.getElem?_append_right (by omega)]; simpa using hj
    have := h4.cell rfl _ _ hj2 k u hk
    rw [h3 hl]
    rw [Nat.add_mul, Nat.add_assoc] at this
    rw [Nat.add_assoc]
    exact this

end Go.Proofs.YtieenkloiicnkaaGreatDoor

/- A segment as it is on a disk: its items, and while they are gathered. -/
namespace Go.Proofs.YtieenkloiicnkaaGreatDoor
open Go.RowKit

theorem Box.butG {w X : World} {b : Nat} {cs : Array Value} {t : TypeId} {r : Option Nat} (h : Box w b cs t) (hg : w.grownBy X r) (hne : ∀ k, r = some k → k ≠ b) : Box X b cs t := (hg.block b h.lt (fun e => hne b e.symm rfl)).trans h
theorem Box.fourG {w : World} {b : Nat} {u0 u1 u2 u3 : Value} {t : TypeId} (h : Box w b #[u0, u1, u2, u3] t) : w.cell? ⟨b, 0, none⟩ = some u0 ∧ w.cell? ⟨b, 1, none⟩ = some u1 ∧ w.cell? ⟨b, 2, none⟩ = some u2 ∧ w.cell? ⟨b, 3, none⟩ = some u3 ∧ w.frozen? ⟨b, 0, none⟩ = false ∧ w.frozen? ⟨b, 1, none⟩ = false ∧ w.frozen? ⟨b, 2, none⟩ = false ∧ w.frozen? ⟨b, 3, none⟩ = false :=
  ⟨h.cell 0 _ rfl, h.cell 1 _ rfl, h.cell 2 _ rfl, h.cell 3 _ rfl, h.loose 0, h.loose 1, h.loose 2, h.loose 3⟩
theorem Box.set4G {w : World} {b : Nat} {u0 u1 u2 u3 : Value} {t : TypeId} (h : Box w b #[u0, u1, u2, u3] t) (v0 v1 v2 v3 : Value) : Box ((((w.setCell ⟨b, 0, none⟩ v0).setCell ⟨b, 1, none⟩ v1).setCell ⟨b, 2, none⟩ v2).setCell ⟨b, 3, none⟩ v3) b #[v0, v1, v2, v3] t := (((h.set 0 v0).set 1 v1).set 2 v2).set 3 v3
theorem RBuf.set4G {α : Type} {E : Enc α} {B g : Nat} {w0 x : World} {v : Value} {l : List α} (h : RBuf E B x x v l) (hb : Below w0.heap.size w0 x) (hB : w0.heap.size ≤ B) (hg : g < B) (hw : w0.heap.size ≤ g) (v0 v1 v2 v3 : Value) : RBuf E w0.heap.size w0 ((((x.setCell ⟨g, 0, none⟩ v0).setCell ⟨g, 1, none⟩ v1).setCell ⟨g, 2, none⟩ v2).setCell ⟨g, 3, none⟩ v3) v l := by
  have hne : v.ownBlock = none ∨ v.ownBlock ≠ some g := .inr (fun e => by have := (h.own.lt g e).1; omega)
  have h0 := h.shift (stored_grown _ g 0 v0) hne
  have h1 := h0.shift (stored_grown _ g 1 v1) hne
  have h2 := h1.shift (stored_grown _ g 2 v2) hne
  have h3 := h2.shift (stored_grown _ g 3 v3) hne
  exact h3.down ((((hb.setCell (p := ⟨g, 0, none⟩) hw v0).setCell (p := ⟨g, 1, none⟩) hw v1).setCell (p := ⟨g, 2, none⟩) hw v2).setCell (p := ⟨g, 3, none⟩) hw v3) hB
structure SgL (w1 : World) (B : Nat) (tS : TypeId) (no gn en : Int) (x : World) (a : Option Addr) (cap : Nat) (l : List Itm) : Prop where
  seg : Box x w1.heap.size #[.int .i64 no, .int .i64 gn, .int .i64 en, .slice a l.length cap] tS
  its : RBuf itE B x x (.slice a l.length cap) l
  bel : Below w1.heap.size w1 x
  lt : w1.heap.size < B
theorem SgL.later {w1 : World} {B : Nat} {tS : TypeId} {no gn en : Int} {x y : World} {a : Option Addr} {cap : Nat} {l : List Itm} (h : SgL w1 B tS no gn en x a cap l) (hb : Below x.heap.size x y) : SgL w1 B tS no gn en y a cap l :=
  ⟨h.seg.later hb, (h.its.later hb).here, h.bel.trans (hb.mono h.bel.size), h.lt⟩
theorem SgL.push {w1 : World} {B : Nat} {tS : TypeId} {no gn en : Int} {x y : World} {a : Option Addr} {cap : Nat} {l m : List Itm} (h : SgL w1 B tS no gn en x a cap l)
    (a2 : Option Addr) (c2 : Nat) (hr : RBuf itE B y y (.slice a2 m.length c2) m) (hg : x.grownBy y (Value.slice a l.length cap).ownBlock) : SgL w1 B tS no gn en (y.setCell ⟨w1.heap.size, 3, none⟩ (.slice a2 m.length c2)) a2 c2 m := by
  have hne : ∀ k, (Value.slice a l.length cap).ownBlock = some k → B ≤ k := fun k hk => (h.its.own.lt k hk).1
  have b3 := h.seg.butG hg (fun k hk => by have := hne k hk; have := h.lt; omega)
  refine ⟨b3.set 3 _, hr.shift (stored_grown _ w1.heap.size 3 _) ?_, (h.bel.grown hg h.bel.size (fun k hk => by have := hne k hk; have := h.lt; omega)).setCell (p := ⟨w1.heap.size, 3, none⟩) (Nat.le_refl _) _, h.lt⟩
  cases hb : (Value.slice a2 m.length c2).ownBlock with
  | none => exact .inl rfl
  | some k =>
    right
    intro e
    have e1 : k = w1.heap.size := Option.some.inj e
    have := (hr.own.lt k hb).1
    have := h.lt
    omega
theorem SgL.cells {w1 : World} {B : Nat} {tS : TypeId} {no gn en : Int} {x y : World} {a : Option Addr} {cap : Nat} {l : List Itm} (h : SgL w1 B tS no gn en x a cap l)
    (hg : x.grownBy y (Value.slice a l.length cap).ownBlock) : y.cell? ⟨w1.heap.size, 3, none⟩ = some (.slice a l.length cap) ∧ y.frozen? ⟨w1.heap.size, 3, none⟩ = false := by
  have hne : ∀ k, (Value.slice a l.length cap).ownBlock = some k → B ≤ k := fun k hk => (h.its.own.lt k hk).1
  have b3 := h.seg.butG hg (fun k hk => by have := hne k hk; have := h.lt; omega)
  exact ⟨b3.cell 3 _ rfl, b3.loose 3⟩
end Go.Proofs.YtieenkloiicnkaaGreatDoor
