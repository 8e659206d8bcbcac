/- What every drawn law stands on: numbers picked, places, stores into what is new, and the cursor beside what was there before. -/
import Derived.Test.YthlbokfajiahpaaDraw2
import Derived.Test.YthlbokfajiahpaaBox
import Derived.Deep.Cut
import Derived.Lib.Hide
namespace Go.Proofs.Ythlbokfajiahpaa
open Go.RowKit

theorem ints_cell' (w : World) (zs : List Int) (t : TypeId) (j : Nat) (hj : j < zs.length) : (w.alloc (.cells (zs.map (Value.int .i64)).toArray t)).cell? ⟨w.heap.size, j, none⟩ = some (.int .i64 zs[j]) := by
  rw [Joins.cell_of_block (heap_alloc_new w _)]
  simp [hj]

/-- One of a list of numbers that was just laid. -/
theorem pickLit_any (zs : List Int) (n pc : Nat) (a : Option Addr) (len cap : Nat) (w : World) (hc : Cur w pc a len cap) (hl : zs.length = n) (h0 : 0 < n) (h1 : n ≤ 1048576) :
    Calls Try.prog 105 #[.pointer (some ⟨pc, 0, none⟩), .slice (some ⟨w.heap.size, 0, none⟩) n n] (w.alloc (.cells (zs.map (Value.int .i64)).toArray 3)) fun e w' => ∃ x : Int, x ∈ zs ∧ e = .returned (.int .i64 x) ∧ Cur w' pc a len cap ∧ w.grownBy w' (some pc) := by
  have hbel : Below w.heap.size w (w.alloc (.cells (zs.map (Value.int .i64)).toArray 3)) := (Below.refl _ _).alloc (Nat.le_refl _) _
  have hpc := hc.lt
  refine (pickInt_any w.heap.size n n pc a len cap _ (hc.below hbel hpc hc.codeLt) h0 (Nat.le_refl _) h1 (by omega) (fun j hj => ⟨_, ints_cell' w zs 3 j (by rw [hl]; exact hj)⟩)).mono ?_
  rintro e w2 ⟨j, x, hj, hx, rfl, hc2, hg2⟩
  rw [ints_cell' w zs 3 j (by rw [hl]; exact hj)] at hx
  simp only [Option.some.injEq, Value.int.injEq, true_and] at hx
  exact ⟨x, by rw [← hx]; exact List.getElem_mem _, rfl, hc2, (grownBy_below (World.grownBy.refl w (some pc)) hbel (Nat.le_refl _)).trans hg2⟩

/-- A store into what is new changes nothing that was there. -/
theorem grownBy_new {w X : World} {r : Option Nat} (h : w.grownBy X r) {b : Nat} (hb : w.heap.size ≤ b) (i : Nat) (v : Value) : w.grownBy (X.setCell ⟨b, i, none⟩ v) r :=
  have g := stored_grown X b i v
  ⟨g.os.trans h.os, g.tape.trans h.tape, g.output.trans h.output, Nat.le_trans h.size g.size, fun k hk hne => (g.block k (Nat.lt_of_lt_of_le hk h.size) (fun e => by have := Option.some.inj e; omega)).trans (h.block k hk hne)⟩
theorem grownBy_new3 {w X : World} {r : Option Nat} (h : w.grownBy X r) {b : Nat} (hb : w.heap.size ≤ b) (v0 v1 v2 : Value) : w.grownBy (set3 X b v0 v1 v2) r :=
  grownBy_new (grownBy_new (grownBy_new h hb 0 v0) hb 1 v1) hb 2 v2
theorem Cur.new {w X : World} {pc : Nat} {a : Option Addr} {len cap : Nat} (h : Cur X pc a len cap) (hw : Cur w pc a len cap) {b : Nat} (hb : w.heap.size ≤ b) (i : Nat) (v : Value) : Cur (X.setCell ⟨b, i, none⟩ v) pc a len cap :=
  h.below ((Below.refl w.heap.size X).setCell (p := ⟨b, i, none⟩) hb v) hw.lt hw.codeLt
theorem Cur.new3 {w X : World} {pc : Nat} {a : Option Addr} {len cap : Nat} (h : Cur X pc a len cap) (hw : Cur w pc a len cap) {b : Nat} (hb : w.heap.size ≤ b) (v0 v1 v2 : Value) : Cur (set3 X b v0 v1 v2) pc a len cap :=
  ((h.new hw hb 0 v0).new hw hb 1 v1).new hw hb 2 v2
theorem Cur.alloc {w : World} {pc : Nat} {a : Option Addr} {len cap : Nat} (h : Cur w pc a len cap) (o : Obj) : Cur (w.alloc o) pc a len cap := h.below ((Below.refl _ _).alloc (Nat.le_refl _) o) h.lt h.codeLt
theorem Box.cur {w X : World} {b pc : Nat} {cs : Array Value} {t : TypeId} (h : Box w b cs t) (hg : w.grownBy X (some pc)) (hne : b ≠ pc) : Box X b cs t := (hg.block b h.lt (fun e => hne (Option.some.inj e))).trans h


theorem below_of_new2 {w w1 w2 : World} {pc : Nat} (hb : Below w.heap.size w w1) (hp : w.heap.size ≤ pc) (hg : w1.grownBy w2 (some pc)) : Below w.heap.size w w2 :=
  hb.grown hg hb.size (fun k hk => by have := Option.some.inj hk; omega)

/-- The cursor of a draw, and what was there before. -/
structure Drw (w : World) (pc : Nat) (a : Option Addr) (len cap : Nat) (X : World) : Prop where
  cur : Cur X pc a len cap
  bel : Below w.heap.size w X
  le : w.heap.size ≤ pc

theorem Drw.step {w : World} {pc : Nat} {a : Option Addr} {len cap : Nat} {X Y : World} (h : Drw w pc a len cap X) (hc : Cur Y pc a len cap) (hg : X.grownBy Y (some pc)) : Drw w pc a len cap Y := ⟨hc, below_of_new2 h.bel h.le hg, h.le⟩
theorem Drw.later {w : World} {pc : Nat} {a : Option Addr} {len cap : Nat} {X Y : World} (h : Drw w pc a len cap X) (hb : Below X.heap.size X Y) : Drw w pc a len cap Y := ⟨h.cur.below hb h.cur.lt h.cur.codeLt, h.bel.trans (hb.mono h.bel.size), h.le⟩

end Go.Proofs.Ythlbokfajiahpaa
