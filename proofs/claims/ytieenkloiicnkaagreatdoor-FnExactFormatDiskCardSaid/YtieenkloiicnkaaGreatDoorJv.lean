/- Texts of our own, joined. -/
import Derived.Test.YtieenkloiicnkaaGreatDoorJu
import Derived.Test.YtieenkloiicnkaaGreatDoorJa
import Derived.Lib.SmallJoins
import Derived.Deep.Cut
import Derived.Test.YtieenkloiicnkaaGreatDoorJb
import Derived.RangeFuncNested
import Derived.RangeFuncBound
import Derived.RangeFuncCalls
import Derived.RangeFuncLeaves
import Derived.RangeFuncBox
import Derived.Maps.OwnIn
import Derived.Shelf.Abstract
import Derived.Shelf.RegionOpen
import Derived.OwnWalkIn
import Derived.TacticsInMore
import Derived.LoopNIn
import Derived.LoopIn
import Derived.Sort.QuietIn
import Derived.Sort.CutIn
import Derived.Test.YtieenkloiicnkaaGreatDoorJj
/- Frames: what ReadFrame hands back, of the model and of the program. -/
namespace Go.Proofs.YtieenkloiicnkaaGreatDoor
open Go.RowKit

end Go.Proofs.YtieenkloiicnkaaGreatDoor

/- Frames: what the model's ReadFrame hands back. -/
namespace Go.Proofs.YtieenkloiicnkaaGreatDoor
open Go.RowKit

end Go.Proofs.YtieenkloiicnkaaGreatDoor

/- How frames lie in memory. -/
namespace Go.Proofs.YtieenkloiicnkaaGreatDoor
open Go.RowKit

def frE : Enc Fr where
  ty := 69
  sty := 65
  sz := 3
  bytes := 32
  zero := .agg #[.int .i64 0, .int .i64 0, .string ⟨#[]⟩]
  f := fun x => [.int .i64 x.gen, .int .i64 x.seq, .string x.body]
  len := fun _ => rfl
  pos := by decide
  one := fun _ u hu => by simp at hu; rcases hu with rfl | rfl | rfl <;> rfl
  und := Tryz.underlying65
  info := by kernel_rfl
  zc := rfl
  z0 := ⟨0, 0, ⟨#[]⟩⟩
  zf := rfl

end Go.Proofs.YtieenkloiicnkaaGreatDoor

/- Frames: what the model's ScanFrames hands back. -/
namespace Go.Proofs.YtieenkloiicnkaaGreatDoor
open Go.RowKit

end Go.Proofs.YtieenkloiicnkaaGreatDoor

/- A range over a function that keeps a variable of its own in memory, at the wide fence: what the caller holds to, round by round, while the variable's block is turned by the function alone. -/
namespace Go.Proofs.YtieenkloiicnkaaGreatDoor
open Go.RowKit

end Go.Proofs.YtieenkloiicnkaaGreatDoor

/- Frames: what the program's ScanFrames hands back: a range over a reader that is handed a yield. -/
namespace Go.Proofs.YtieenkloiicnkaaGreatDoor
open Go.RowKit Go.Shelf

attribute [local go_sem] Oper.semAt_some

structure ScanI (s : ByteArray) (g : Int) (w : World) (B : Nat) (pre : List (Fr × Nat)) (X : World) : Prop where
  bel : Below w.heap.size w X
  le : w.heap.size + 5 ≤ X.heap.size
  list : ∃ v, Boxed X (w.heap.size + 1) 65 v ∧ RBuf frE w.heap.size X X v (pre.map (·.1)) ∧ v.ownBlock ≠ some B ∧ ∀ k, v.ownBlock = some k → k = w.heap.size ∨ w.heap.size + 7 ≤ k
  fin : Boxed X (w.heap.size + 1 + 1) 3 (.int .i64 (behind 0 pre : Int))
  str : Boxed X (w.heap.size + 1 + 1 + 1) 9 (.string s)
  gen : Boxed X (w.heap.size + 1 + 1 + 1 + 1) 3 (.int .i64 g)

theorem ScanI.grown {s : ByteArray} {g : Int} {w : World} {B : Nat} {pre : List (Fr × Nat)} {X Y : World} {row : Option Nat} (h : ScanI s g w B pre X) (hg : X.grownBy Y row)
    (hB : w.heap.size + 7 ≤ B) (hr : ∀ r, row = some r → r = B ∨ r = w.heap.size + 5 ∨ r = w.heap.size + 6) : ScanI s g w B pre Y := by
  have ne : ∀ b, b < w.heap.size + 5 → some b ≠ row := fun b hb e => by have := hr b e.symm; omega
  obtain ⟨v, v1, v2, v3, v4⟩ := h.list
  refine ⟨h.bel.grown hg h.bel.size (fun k hk => by have := hr k hk; omega), Nat.le_trans h.le hg.size, ⟨v, v1.kept hg (ne _ (by omega)), v2.shift hg ?_, v3, v4⟩, h.fin.kept hg (ne _ (by omega)), h.str.kept hg (ne _ (by omega)), h.gen.kept hg (ne _ (by omega))⟩
  cases hv : v.ownBlock with
  | none => exact .inl rfl
  | some k =>
    refine .inr (fun e => ?_)
    have h1 := hr k e.symm
    have h2 := v4 k hv
    have h3 : k ≠ B := fun e => v3 (by rw [hv, e])
    omega

end Go.Proofs.YtieenkloiicnkaaGreatDoor

/- Segments: whether one is in use, and its frames: SegGen, the model's and the program's. -/
namespace Go.Proofs.YtieenkloiicnkaaGreatDoor
open Go.RowKit

def segB : ByteArray := ⟨#[115, 101, 103]⟩

end Go.Proofs.YtieenkloiicnkaaGreatDoor

/- A list that can be read, appended to one of the call's own. -/
namespace Go.Proofs.YtieenkloiicnkaaGreatDoor
open Go.RowKit

variable {α : Type} {E : Enc α}

theorem run_append_zero {P : Program} {w : World} (base : Nat) (t ty e : TypeId) (i : TypeInfo) (size : Nat) (ht : P.underlying t = some (.slice e)) (hi : P.info? e = some i)
    (v : Value) (n : Nat) (xs : List Value) (hown : w.ownsRow base e size v n xs) (a : Option Addr) (c : Nat) :
    (Builtin.append_ #[t, t] ty #[v, .slice a 0 c]).run P w = .ok v w := by
  rcases hown.2 with ⟨rfl, rfl⟩ | ⟨g, cap, cur, rfl, _, _, hnc, _⟩
  · cases a <;> simp [Builtin.append_, run_underlying ht, sizeOf, typeInfo, hi, Builtin.lenOf, Builtin.firstCells, loadCells, loadCellsFrom]
  · cases a <;> simp [Builtin.append_, run_underlying ht, sizeOf, typeInfo, hi, Builtin.lenOf, Builtin.firstCells, hnc, storeCells, loadCells, loadCellsFrom]

theorem run_append_rd {w : World} (ty : TypeId) (B : Nat) (v : Value) (l : List α) (hb : RBuf E B w w v l) (vx : Value) (m : List α) (hx : Rows' E w vx m)
    (hlen : (l.length + m.length) * (E.bytes + 1) ≤ 140737488355328) :
    ∃ v' w', (Builtin.append_ #[E.sty, E.sty] ty #[v, vx]).run Tryz.prog w = .ok v' w' ∧ RBuf E B w' w' v' (l ++ m) ∧ w.grownBy w' v.ownBlock ∧ (v'.ownBlock = v.ownBlock ∨ v'.ownBlock = some w.heap.size) := by
  obtain ⟨i0, hi, hz0, hz1, hz2⟩ := info_parts E.info
  have e0 : (l.length + m.length) * (E.bytes + 1) = (l.length + m.length) * E.bytes + (l.length + m.length) := Nat.mul_succ _ _
  rcases hx with ⟨rfl, a, c, rfl⟩ | ⟨g, off, cap, rfl, hc, hg, hcl⟩
  · exact ⟨v, w, run_append_zero (P := Tryz.prog) B E.sty ty E.ty i0 E.sz E.und hi v l.length (E.row l) hb.own a c, by simpa using hb, World.grownBy.refl _ _, .inl rfl⟩
  · obtain ⟨v', w', h1, h2, h3, _, h5⟩ := run_append_own_at (P := Tryz.prog) w B E.sty ty E.ty i0 E.zero E.sz E.bytes E.und hi hz0 hz1 hz2 E.zc E.pos v l.length (E.row l) hb.own ⟨g, off, none⟩ m.length cap (E.row m) (E.row_length m)
      (fun j u hu => by
        have hjl : j < m.length * E.sz := by have := (List.getElem?_eq_some_iff.1 hu).1; rwa [E.row_length] at this
        have hp := E.pos
        have hq : j / E.sz < m.length := Nat.div_lt_of_lt_mul (by rw [Nat.mul_comm]; exact hjl)
        have hr : j % E.sz < E.sz := Nat.mod_lt _ hp
        have hj : j / E.sz * E.sz + j % E.sz = j := Nat.div_add_mod' j E.sz
        have hgq : m[j / E.sz]? = some m[j / E.sz] := List.getElem?_eq_getElem hq
        have h6 := E.row_at m (j / E.sz) _ hgq (j % E.sz) hr
        rw [hj, hu] at h6
        have h7 := hcl (j / E.sz) _ hgq (j % E.sz) u h6.symm
        rw [Nat.add_assoc, hj] at h7
        rw [Addr.add_lit]
        exact h7) (E.row_one' m) (by unfold maxLen; omega) (by omega) hb.le
    refine ⟨v', w', h1, ⟨?_, Below.refl _ _, Nat.le_trans hb.le h3.size⟩, h3, h5⟩
    rw [List.length_append, E.row_append]
    exact h2

theorem wp_append_rd {w : World} {o : Oper} {a : Act} {K : Act → World → Prop} {Q : Exit → Act → World → Prop} (s x : Operand) (E : Enc α)
    (ho : o.op = .call { callee := .builtin .append, args := #[s, x], argTypes := #[E.sty, E.sty] })
    (B : Nat) (v : Value) (l : List α) (hs : a.eval s = v) (hb : RBuf E B w w v l) (vx : Value) (m : List α) (hxv : a.eval x = vx) (hx : Rows' E w vx m)
    (hlen : (l.length + m.length) * (E.bytes + 1) ≤ 140737488355328)
    (h : ∀ v' w', RBuf E B w' w' v' (l ++ m) → w.grownBy w' v.ownBlock → (v'.ownBlock = v.ownBlock ∨ v'.ownBlock = some w.heap.size) → K (a.put o.dst v') w') : o.wp Tryz.prog a w K Q := by
  obtain ⟨v', w', hr, h2, h3, h4⟩ := run_append_rd o.type B v l hb vx m hx hlen
  unfold Oper.wp execOp
  simp only [ho, resolve, invoke, builtin, Sem.run_bind, Sem.run_pure, Result.andThen_ok, List.map_toArray, List.map_cons, List.map_nil, hs, hxv, hr]
  exact h v' w' h2 h3 h4

end Go.Proofs.YtieenkloiicnkaaGreatDoor
