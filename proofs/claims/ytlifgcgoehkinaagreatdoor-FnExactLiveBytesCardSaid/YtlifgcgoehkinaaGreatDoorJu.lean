/- Texts of our own, joined. -/
import Derived.Test.YtlifgcgoehkinaaGreatDoorJt
import Derived.Test.YtlifgcgoehkinaaGreatDoorJd
import Derived.Test.YtlifgcgoehkinaaGreatDoorJf
import Derived.Deep.RegionLaw
/- A segment as it is on a disk: its items, and while they are gathered. -/
namespace Go.Proofs.YtlifgcgoehkinaaGreatDoor
open Go.RowKit

theorem Box.butG {w X : World} {b : Nat} {cs : Array Value} {t : TypeId} {r : Option Nat} (h : Box w b cs t) (hg : w.grownBy X r) (hne : ∀ k, r = some k → k ≠ b) : Box X b cs t := (hg.block b h.lt (fun e => hne b e.symm rfl)).trans h
theorem Box.fourG {w : World} {b : Nat} {u0 u1 u2 u3 : Value} {t : TypeId} (h : Box w b #[u0, u1, u2, u3] t) : w.cell? ⟨b, 0, none⟩ = some u0 ∧ w.cell? ⟨b, 1, none⟩ = some u1 ∧ w.cell? ⟨b, 2, none⟩ = some u2 ∧ w.cell? ⟨b, 3, none⟩ = some u3 ∧ w.frozen? ⟨b, 0, none⟩ = false ∧ w.frozen? ⟨b, 1, none⟩ = false ∧ w.frozen? ⟨b, 2, none⟩ = false ∧ w.frozen? ⟨b, 3, none⟩ = false :=
  ⟨h.cell 0 _ rfl, h.cell 1 _ rfl, h.cell 2 _ rfl, h.cell 3 _ rfl, h.loose 0, h.loose 1, h.loose 2, h.loose 3⟩
theorem Box.nineG {w : World} {b : Nat} {u0 u1 u2 u3 u4 u5 u6 u7 u8 : Value} {t : TypeId} (h : Box w b #[u0, u1, u2, u3, u4, u5, u6, u7, u8] t) : w.cell? ⟨b, 0, none⟩ = some u0 ∧ w.cell? ⟨b, 1, none⟩ = some u1 ∧ w.cell? ⟨b, 2, none⟩ = some u2 ∧ w.cell? ⟨b, 3, none⟩ = some u3 ∧ w.cell? ⟨b, 4, none⟩ = some u4 ∧ w.cell? ⟨b, 5, none⟩ = some u5 ∧ w.cell? ⟨b, 6, none⟩ = some u6 ∧ w.cell? ⟨b, 7, none⟩ = some u7 ∧ w.cell? ⟨b, 8, none⟩ = some u8 :=
  ⟨h.cell 0 _ rfl, h.cell 1 _ rfl, h.cell 2 _ rfl, h.cell 3 _ rfl, h.cell 4 _ rfl, h.cell 5 _ rfl, h.cell 6 _ rfl, h.cell 7 _ rfl, h.cell 8 _ rfl⟩

structure SgL (w1 : World) (B : Nat) (tS : TypeId) (no gn en : Int) (x : World) (a : Option Addr) (cap : Nat) (l : List Itm) : Prop where
  seg : Box x w1.heap.size #[.int .i64 no, .int .i64 gn, .int .i64 en, .slice a l.length cap] tS
  its : RBuf itE B x x (.slice a l.length cap) l
  bel : Below w1.heap.size w1 x
  lt : w1.heap.size < B
theorem SgL.later {w1 : World} {B : Nat} {tS : TypeId} {no gn en : Int} {x y : World} {a : Option Addr} {cap : Nat} {l : List Itm} (h : SgL w1 B tS no gn en x a cap l) (hb : Below x.heap.size x y) : SgL w1 B tS no gn en y a cap l :=
  ⟨h.seg.later hb, (h.its.later hb).here, h.bel.trans (hb.mono h.bel.size), h.lt⟩
theorem SgL.push {w1 : World} {B : Nat} {tS : TypeId} {no gn en : Int} {x y : World} {a : Option Addr} {cap : Nat} {l m : List Itm} (h : SgL w1 B tS no gn en x a cap l)
    (a2 : Option Addr) (c2 : Nat) (hr : RBuf itE B y y (.slice a2 m.length c2) m) (hg : x.grownBy y (Value.slice a l.length cap).ownBlock) : SgL w1 B tS no gn en (y.setCell ⟨w1.heap.size, 3, none⟩ (.slice a2 m.length c2)) a2 c2 m := by
  have hne : ∀ k, (Value.slice a l.length cap).ownBlock = some k → B ≤ k := fun k hk => (h.its.own.lt k hk).1
  have b3 := h.seg.butG hg (fun k hk => by have := hne k hk; have := h.lt; omega)
  refine ⟨b3.set 3 _, hr.shift (stored_grown _ w1.heap.size 3 _) ?_, (h.bel.grown hg h.bel.size (fun k hk => by have := hne k hk; have := h.lt; omega)).setCell (p := ⟨w1.heap.size, 3, none⟩) (Nat.le_refl _) _, h.lt⟩
  cases hb : (Value.slice a2 m.length c2).ownBlock with
  | none => exact .inl rfl
  | some k =>
    right
    intro e
    have e1 : k = w1.heap.size := Option.some.inj e
    have := (hr.own.lt k hb).1
    have := h.lt
    omega
theorem SgL.cells {w1 : World} {B : Nat} {tS : TypeId} {no gn en : Int} {x y : World} {a : Option Addr} {cap : Nat} {l : List Itm} (h : SgL w1 B tS no gn en x a cap l)
    (hg : x.grownBy y (Value.slice a l.length cap).ownBlock) : y.cell? ⟨w1.heap.size, 3, none⟩ = some (.slice a l.length cap) ∧ y.frozen? ⟨w1.heap.size, 3, none⟩ = false := by
  have hne : ∀ k, (Value.slice a l.length cap).ownBlock = some k → B ≤ k := fun k hk => (h.its.own.lt k hk).1
  have b3 := h.seg.butG hg (fun k hk => by have := hne k hk; have := h.lt; omega)
  exact ⟨b3.cell 3 _ rfl, b3.loose 3⟩
end Go.Proofs.YtlifgcgoehkinaaGreatDoor
