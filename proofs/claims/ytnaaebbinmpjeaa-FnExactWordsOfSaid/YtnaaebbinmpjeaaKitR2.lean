/- Appends of one list of the call's own to another, at an operation, in a list of operations and in a region that draws its order. -/
import Derived.Test.YtnaaebbinmpjeaaKitR
import Derived.Laws.OwnMore
namespace Go.Proofs.Ytnaaebbinmpjeaa
open Go.RowKit

variable {α : Type} {E : Enc α}

theorem RBuf.shift {B : Nat} {w w' : World} {v : Value} {l : List α} {r : Option Nat} (h : RBuf E B w w v l) (hg : w.grownBy w' r) (hne : v.ownBlock = none ∨ v.ownBlock ≠ r) : RBuf E B w' w' v l :=
  ⟨h.own.kept hg hne, Below.refl _ _, Nat.le_trans h.le hg.size⟩

theorem RBuf.lower {B B0 : Nat} {w : World} {v : Value} {l : List α} (h : RBuf E B w w v l) (hB : B0 ≤ B) : RBuf E B0 w w v l := h.down (Below.refl _ _) hB

/-- What is appended: a list of whoever's own. -/
theorem run_append_rows {w : World} (ty : TypeId) (B : Nat) (v : Value) (l : List α) (hb : RBuf E B w w v l) (Bx : Nat) (vx : Value) (m : List α) (hx : RBuf E Bx w w vx m)
    (hlen : (l.length + m.length) * (E.bytes + 1) ≤ 140737488355328) :
    ∃ v' w', (Builtin.append_ #[E.sty, E.sty] ty #[v, vx]).run Try.prog w = .ok v' w' ∧ RBuf E B w' w' v' (l ++ m) ∧ w.grownBy w' v.ownBlock ∧ (v'.ownBlock = v.ownBlock ∨ v'.ownBlock = some w.heap.size) := by
  obtain ⟨i0, hi, hz0, hz1, hz2⟩ := info_parts E.info
  have e0 : (l.length + m.length) * (E.bytes + 1) = (l.length + m.length) * E.bytes + (l.length + m.length) := Nat.mul_succ _ _
  rcases hx.own.2 with ⟨rfl, h0⟩ | ⟨g, cap, cur, rfl, hg, hh, hnc, hcp, hcs, htake⟩
  · obtain rfl := List.length_eq_zero_iff.1 h0
    refine ⟨v, w, run_append_owned_none (P := Try.prog) w B E.sty ty E.ty i0 E.sz E.und hi v l.length (E.row l) hb.own, by simpa using hb, World.grownBy.refl _ _, .inl rfl⟩
  · obtain ⟨v', w', h1, h2, h3, _, h5⟩ := run_append_own_at (P := Try.prog) w B E.sty ty E.ty i0 E.zero E.sz E.bytes E.und hi hz0 hz1 hz2 E.zc E.pos v l.length (E.row l) hb.own ⟨g, 0, none⟩ m.length cap (E.row m) (E.row_length m)
      (fun j u hu => by
        have hjl : j < m.length * E.sz := by have := (List.getElem?_eq_some_iff.1 hu).1; rwa [E.row_length] at this
        rw [Addr.add_lit, Nat.zero_add, hx.own.cellAt j hjl]; exact hu) (E.row_one' m) (by unfold maxLen; omega) (by omega) hb.le
    refine ⟨v', w', h1, ⟨?_, Below.refl _ _, Nat.le_trans hb.le h3.size⟩, h3, h5⟩
    rw [List.length_append, E.row_append]
    exact h2

theorem wp_append_rows {w : World} {o : Oper} {a : Act} {K : Act → World → Prop} {Q : Exit → Act → World → Prop} (s x : Operand) (E : Enc α)
    (ho : o.op = .call { callee := .builtin .append, args := #[s, x], argTypes := #[E.sty, E.sty] })
    (B : Nat) (v : Value) (l : List α) (hs : a.eval s = v) (hb : RBuf E B w w v l) (Bx : Nat) (vx : Value) (m : List α) (hxv : a.eval x = vx) (hx : RBuf E Bx w w vx m)
    (hlen : (l.length + m.length) * (E.bytes + 1) ≤ 140737488355328)
    (h : ∀ v' w', RBuf E B w' w' v' (l ++ m) → w.grownBy w' v.ownBlock → (v'.ownBlock = v.ownBlock ∨ v'.ownBlock = some w.heap.size) → K (a.put o.dst v') w') : o.wp Try.prog a w K Q := by
  obtain ⟨v', w', hr, h2, h3, h4⟩ := run_append_rows o.type B v l hb Bx vx m hx hlen
  unfold Oper.wp execOp
  simp only [ho, resolve, invoke, builtin, Sem.run_bind, Sem.run_pure, Result.andThen_ok, List.map_toArray, List.map_cons, List.map_nil, hs, hxv, hr]
  exact h v' w' h2 h3 h4

theorem wpList_append_rows {w : World} {ops : Array Oper} {rest : List Oper} {o : Oper} {a : Act} {Q : Exit → Act → World → Prop} (hgd : o.guard = none) (s x : Operand) (E : Enc α)
    (ho : o.op = .call { callee := .builtin .append, args := #[s, x], argTypes := #[E.sty, E.sty] })
    (B : Nat) (v : Value) (l : List α) (hs : a.eval s = v) (hb : RBuf E B w w v l) (Bx : Nat) (vx : Value) (m : List α) (hxv : a.eval x = vx) (hx : RBuf E Bx w w vx m)
    (hlen : (l.length + m.length) * (E.bytes + 1) ≤ 140737488355328)
    (h : ∀ v' w', RBuf E B w' w' v' (l ++ m) → w.grownBy w' v.ownBlock → (v'.ownBlock = v.ownBlock ∨ v'.ownBlock = some w.heap.size) → wpList Try.prog ops Q rest (a.put o.dst v') w') : wpList Try.prog ops Q (o :: rest) a w :=
  wpList_plain hgd fun _ hK => wp_append_rows s x E ho B v l hs hb Bx vx m hxv hx hlen fun v' w' h2 h3 h4 => hK _ _ (h v' w' h2 h3 h4)

theorem step_append_rows {w : World} {ops : Array Oper} {o : Oper} {a : Act} {K : Act → World → Prop} {Q : Exit → Act → World → Prop} {X : Prop} (hgd : o.guard = none) (s x : Operand) (E : Enc α)
    (ho : o.op = .call { callee := .builtin .append, args := #[s, x], argTypes := #[E.sty, E.sty] })
    (B : Nat) (v : Value) (l : List α) (hs : a.eval s = v) (hb : RBuf E B w w v l) (Bx : Nat) (vx : Value) (m : List α) (hxv : a.eval x = vx) (hx : RBuf E Bx w w vx m)
    (hlen : (l.length + m.length) * (E.bytes + 1) ≤ 140737488355328)
    (h : ∀ v' w', RBuf E B w' w' v' (l ++ m) → w.grownBy w' v.ownBlock → (v'.ownBlock = v.ownBlock ∨ v'.ownBlock = some w.heap.size) → (∀ k, v.ownBlock = some k → B ≤ k ∧ k < w.heap.size) → K (a.put o.dst v') w') :
    if Region.wanted o (yielded ops a.tmps) = true then Oper.wp Try.prog o a w K Q else X := by
  have hw : Region.wanted o (yielded ops a.tmps) = true := by simp [Region.wanted, hgd]
  rw [if_pos hw]
  exact wp_append_rows s x E ho B v l hs hb Bx vx m hxv hx hlen fun v' w' h2 h3 h4 => h v' w' h2 h3 h4 (fun k hk => hb.own.lt k hk)

/-- One element in a new row, as an append asks for it. -/
theorem RBuf.lit1 (E : Enc α) (w : World) (x : α) : RBuf E w.heap.size (w.alloc (.cells (E.f x).toArray E.ty)) (w.alloc (.cells (E.f x).toArray E.ty)) (.slice (some ⟨w.heap.size, 0, none⟩) 1 1) [x] := by
  refine ⟨?_, Below.refl _ _, by simp⟩
  have := World.ownsRow_lit (base := w.heap.size) (e := E.ty) (size := E.sz) w (E.f x).toArray 1 (Nat.le_refl _) (by decide) (by simp [E.len])
  simpa [E.row_one] using this

end Go.Proofs.Ytnaaebbinmpjeaa
