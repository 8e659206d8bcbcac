/- Texts of our own, joined. -/
import Derived.Test.YtieenkloiicnkaaGreatDoorJo
import Derived.Test.YtieenkloiicnkaaGreatDoorJd
import Derived.Deep.RegionLaw
/- What is fixed of a log: while its references are gathered. -/
namespace Go.Proofs.YtieenkloiicnkaaGreatDoor
open Go.RowKit

def ckOf (L : Lg) : Ck := ⟨IntKind.i64.wrap (L.st + 1), L.ng, L.ns, L.nv, L.used.map (fun s => (s.no, s.gen))⟩

theorem refs_take {u : List Sg} {i : Nat} {s : Sg} (h : u[i]? = some s) : (u.take (i + 1)).map (fun s => (s.no, s.gen)) = (u.take i).map (fun s => (s.no, s.gen)) ++ [(s.no, s.gen)] := by
  rw [List.take_add_one, h]
  simp
theorem Box.butC {w X : World} {b : Nat} {cs : Array Value} {t : TypeId} {r : Option Nat} (h : Box w b cs t) (hg : w.grownBy X r) (hne : ∀ k, r = some k → k ≠ b) : Box X b cs t := (hg.block b h.lt (fun e => hne b e.symm rfl)).trans h
theorem Box.set5C {w : World} {b : Nat} {u0 u1 u2 u3 u4 : Value} {t : TypeId} (h : Box w b #[u0, u1, u2, u3, u4] t) (v0 v1 v2 v3 v4 : Value) : Box (((((w.setCell ⟨b, 0, none⟩ v0).setCell ⟨b, 1, none⟩ v1).setCell ⟨b, 2, none⟩ v2).setCell ⟨b, 3, none⟩ v3).setCell ⟨b, 4, none⟩ v4) b #[v0, v1, v2, v3, v4] t := ((((h.set 0 v0).set 1 v1).set 2 v2).set 3 v3).set 4 v4
theorem RBuf.set5C {α : Type} {E : Enc α} {B g : Nat} {w0 x : World} {v : Value} {l : List α} (h : RBuf E B x x v l) (hb : Below w0.heap.size w0 x) (hB : w0.heap.size ≤ B) (hg : g < B) (hw : w0.heap.size ≤ g) (v0 v1 v2 v3 v4 : Value) : RBuf E w0.heap.size w0 (((((x.setCell ⟨g, 0, none⟩ v0).setCell ⟨g, 1, none⟩ v1).setCell ⟨g, 2, none⟩ v2).setCell ⟨g, 3, none⟩ v3).setCell ⟨g, 4, none⟩ v4) v l := by
  have hne : v.ownBlock = none ∨ v.ownBlock ≠ some g := .inr (fun e => by have := (h.own.lt g e).1; omega)
  have h0 := h.shift (stored_grown _ g 0 v0) hne
  have h1 := h0.shift (stored_grown _ g 1 v1) hne
  have h2 := h1.shift (stored_grown _ g 2 v2) hne
  have h3 := h2.shift (stored_grown _ g 3 v3) hne
  have h4 := h3.shift (stored_grown _ g 4 v4) hne
  exact h4.down (((((hb.setCell (p := ⟨g, 0, none⟩) hw v0).setCell (p := ⟨g, 1, none⟩) hw v1).setCell (p := ⟨g, 2, none⟩) hw v2).setCell (p := ⟨g, 3, none⟩) hw v3).setCell (p := ⟨g, 4, none⟩) hw v4) hB

structure CkL (w : World) (B gL gR gC : Nat) (tL tC : TypeId) (cl : Array Value) (st ng ns nv : Int) (x : World) (a : Option Addr) (n cap : Nat) (l : List Rf) : Prop where
  log : Box x gL cl tL
  res : Box x gR #[.int .i64 0, .int .i64 0, .int .i64 0, .int .i64 0, .slice none 0 0] tC
  chk : Box x gC #[.int .i64 st, .int .i64 ng, .int .i64 ns, .int .i64 nv, .slice a n cap] tC
  refs : RBuf rfE B x x (.slice a n cap) l
  bel : Below w.heap.size w x
  low : w.heap.size ≤ gC ∧ w.heap.size ≤ gR
  lt : gL < gC ∧ gR < gC ∧ gC < B
theorem CkL.later {w : World} {B gL gR gC : Nat} {tL tC : TypeId} {cl : Array Value} {st ng ns nv : Int} {x y : World} {a : Option Addr} {n cap : Nat} {l : List Rf} (h : CkL w B gL gR gC tL tC cl st ng ns nv x a n cap l) (hb : Below x.heap.size x y) : CkL w B gL gR gC tL tC cl st ng ns nv y a n cap l :=
  ⟨h.log.later hb, h.res.later hb, h.chk.later hb, (h.refs.later hb).here, h.bel.trans (hb.mono h.bel.size), h.low, h.lt⟩
theorem CkL.push {w : World} {B gL gR gC : Nat} {tL tC : TypeId} {cl : Array Value} {st ng ns nv : Int} {x y : World} {a : Option Addr} {n cap : Nat} {l m : List Rf} (h : CkL w B gL gR gC tL tC cl st ng ns nv x a n cap l)
    (a2 : Option Addr) (n2 c2 : Nat) (hr : RBuf rfE B y y (.slice a2 n2 c2) m) (hg : x.grownBy y (Value.slice a n cap).ownBlock) : CkL w B gL gR gC tL tC cl st ng ns nv (y.setCell ⟨gC, 4, none⟩ (.slice a2 n2 c2)) a2 n2 c2 m := by
  have hne : ∀ k, (Value.slice a n cap).ownBlock = some k → B ≤ k := fun k hk => (h.refs.own.lt k hk).1
  have hz : w.heap.size ≤ B := by have := h.low; have := h.lt; omega
  have b1 := h.log.butC hg (fun k hk => by have := hne k hk; have := h.lt; omega)
  have b2 := h.res.butC hg (fun k hk => by have := hne k hk; have := h.lt; omega)
  have b3 := h.chk.butC hg (fun k hk => by have := hne k hk; have := h.lt; omega)
  refine ⟨b1.other (by have := h.lt; omega) _ _, b2.other (by have := h.lt; omega) _ _, b3.set 4 _, hr.shift (stored_grown _ gC 4 _) ?_, (h.bel.grown hg h.bel.size (fun k hk => Nat.le_trans hz (hne k hk))).setCell (p := ⟨gC, 4, none⟩) h.low.1 _, h.low, h.lt⟩
  cases hb : (Value.slice a2 n2 c2).ownBlock with
  | none => exact .inl rfl
  | some k =>
    right
    intro e
    have e1 : k = gC := Option.some.inj e
    have := (hr.own.lt k hb).1
    have := h.lt
    omega
theorem CkL.cells {w : World} {B gL gR gC : Nat} {tL tC : TypeId} {cl : Array Value} {st ng ns nv : Int} {x y : World} {a : Option Addr} {n cap : Nat} {l : List Rf} (h : CkL w B gL gR gC tL tC cl st ng ns nv x a n cap l)
    (hg : x.grownBy y (Value.slice a n cap).ownBlock) : y.cell? ⟨gC, 4, none⟩ = some (.slice a n cap) ∧ y.frozen? ⟨gC, 4, none⟩ = false := by
  have hne : ∀ k, (Value.slice a n cap).ownBlock = some k → B ≤ k := fun k hk => (h.refs.own.lt k hk).1
  have b3 := h.chk.butC hg (fun k hk => by have := hne k hk; have := h.lt; omega)
  exact ⟨b3.cell 4 _ rfl, b3.loose 4⟩

end Go.Proofs.YtieenkloiicnkaaGreatDoor
