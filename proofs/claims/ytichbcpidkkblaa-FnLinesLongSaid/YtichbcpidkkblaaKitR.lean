/- What a list is that a call builds in memory of its own, whatever its elements are (each of so many cells), and the laws by which it grows, is read and is written; and a list that can be read. -/
import Derived.Test.YtichbcpidkkblaaRows
import Derived.WalkKit
import Derived.Maps.AppendAt
namespace Go.Proofs.Ytichbcpidkkblaa
open Go.RowKit

/-- How an element lies in memory. -/
structure Enc (α : Type) where
  ty : TypeId
  sty : TypeId
  sz : Nat
  bytes : Nat
  zero : Value
  f : α → List Value
  len : ∀ a, (f a).length = sz
  pos : 0 < sz
  one : ∀ a, ∀ u ∈ f a, u.oneCell' = true
  und : Try.prog.underlying sty = some (.slice ty)
  info : (Try.prog.info? ty).map (fun i => (i.zero, i.size, i.bytes)) = some (some zero, sz, bytes)
  zc : zero.cells.size = sz
  z0 : α
  zf : f z0 = zero.cells.toList

variable {α : Type}

def Enc.row (E : Enc α) (l : List α) : List Value := l.flatMap E.f

theorem Enc.row_length (E : Enc α) (l : List α) : (E.row l).length = l.length * E.sz := by
  induction l with
  | nil => simp [Enc.row]
  | cons x l ih =>
    have : E.row (x :: l) = E.f x ++ E.row l := rfl
    rw [this, List.length_append, ih, E.len, List.length_cons, Nat.succ_mul, Nat.add_comm]

theorem Enc.row_append (E : Enc α) (l m : List α) : E.row (l ++ m) = E.row l ++ E.row m := by simp [Enc.row]

theorem Enc.row_one (E : Enc α) (x : α) : E.row [x] = E.f x := by simp [Enc.row]

theorem Enc.row_at (E : Enc α) (l : List α) (j : Nat) (x : α) (hj : l[j]? = some x) (k : Nat) (hk : k < E.sz) : (E.row l)[j * E.sz + k]? = (E.f x)[k]? := by
  induction l generalizing j with
  | nil => simp at hj
  | cons y l ih =>
    have e : E.row (y :: l) = E.f y ++ E.row l := rfl
    rw [e]
    cases j with
    | zero =>
      have : y = x := by simpa using hj
      subst this
      rw [Nat.zero_mul, Nat.zero_add, List.getElem?_append_left (by rw [E.len]; exact hk)]
    | succ j =>
      have hj' : l[j]? = some x := by simpa using hj
      rw [List.getElem?_append_right (by rw [E.len, Nat.succ_mul]; omega), E.len]
      have : (j + 1) * E.sz + k - E.sz = j * E.sz + k := by rw [Nat.succ_mul]; omega
      rw [this]
      exact ih j hj'

theorem Enc.row_set (E : Enc α) (l : List α) (j : Nat) (x y : α) (hj : l[j]? = some x) (k : Nat) (hk : k < E.sz) (u : Value) (hy : E.f y = (E.f x).set k u) : E.row (l.set j y) = (E.row l).set (j * E.sz + k) u := by
  induction l generalizing j with
  | nil => simp at hj
  | cons z l ih =>
    have e : E.row (z :: l) = E.f z ++ E.row l := rfl
    rw [e]
    cases j with
    | zero =>
      have : z = x := by simpa using hj
      subst this
      have e2 : E.row ((z :: l).set 0 y) = E.f y ++ E.row l := rfl
      rw [e2, hy, Nat.zero_mul, Nat.zero_add, List.set_append_left _ _ (by rw [E.len]; exact hk)]
    | succ j =>
      have hj' : l[j]? = some x := by simpa using hj
      have e2 : E.row ((z :: l).set (j + 1) y) = E.f z ++ E.row (l.set j y) := rfl
      rw [e2, List.set_append_right _ _ (by rw [E.len, Nat.succ_mul]; omega), E.len]
      have : (j + 1) * E.sz + k - E.sz = j * E.sz + k := by rw [Nat.succ_mul]; omega
      rw [this, ih j hj']

theorem Enc.row_one' (E : Enc α) (l : List α) : ∀ u ∈ E.row l, u.oneCell' = true := by
  intro u hu
  simp only [Enc.row, List.mem_flatMap] at hu
  obtain ⟨a, _, ha⟩ := hu
  exact E.one a u ha

/-- The slice v holds the elements l in memory that the call made itself (blocks from B on); below B all is as it was in w0. -/
structure RBuf (E : Enc α) (B : Nat) (w0 w : World) (v : Value) (l : List α) : Prop where
  own : w.ownsRow B E.ty E.sz v l.length (E.row l)
  bel : Below B w0 w
  le : B ≤ w.heap.size

variable {E : Enc α} {B : Nat} {w0 w : World} {v : Value} {l : List α}

theorem RBuf.alloc (h : RBuf E B w0 w v l) (o : Obj) : RBuf E B w0 (w.alloc o) v l :=
  ⟨h.own.alloc o, h.bel.alloc h.le o, by have := h.le; simp; omega⟩
theorem RBuf.drew (h : RBuf E B w0 w v l) : RBuf E B w0 w.drew v l := ⟨h.own.drew, h.bel.drew, h.le⟩
theorem RBuf.here (h : RBuf E B w0 w v l) : RBuf E B w w v l := ⟨h.own, Below.refl _ _, h.le⟩

theorem RBuf.nil (E : Enc α) (w : World) : RBuf E w.heap.size w w (.slice none 0 0) [] :=
  ⟨World.ownsRow_nil _ _ _ _, Below.refl _ _, Nat.le_refl _⟩

theorem RBuf.fresh (E : Enc α) (w : World) : RBuf E w.heap.size w (w.alloc (.cells #[] E.ty)) (.slice (some ⟨w.heap.size, 0, none⟩) 0 0) [] :=
  ⟨World.ownsRow_made w #[] 0 (Nat.le_refl _) (by decide) (by simp), (Below.refl _ _).alloc (Nat.le_refl _) _, by simp⟩

/-- What leaves the row's own block alone leaves the list as it is. -/
theorem RBuf.grown (h : RBuf E B w0 w v l) {w' : World} {r : Option Nat} (hg : w.grownBy w' r) (hne : v.ownBlock = none ∨ v.ownBlock ≠ r) (hb : ∀ k, r = some k → B ≤ k) : RBuf E B w0 w' v l :=
  ⟨h.own.kept hg hne, h.bel.grown hg h.le hb, Nat.le_trans h.le hg.size⟩

theorem RBuf.later (h : RBuf E B w0 w v l) {w' : World} (hb : Below w.heap.size w w') : RBuf E B w0 w' v l := by
  have hg : w.grownBy w' none := ⟨hb.os, hb.tape, hb.output, hb.size, fun k hk _ => hb.block k hk⟩
  refine ⟨h.own.kept hg ?_, h.bel.trans (hb.mono h.le), Nat.le_trans h.le hb.size⟩
  cases hv : v.ownBlock with
  | none => exact .inl rfl
  | some k => exact .inr (by simp)

/-- The same list under a lower base. -/
theorem RBuf.down {B0 : Nat} {w1 : World} (h : RBuf E B w1 w v l) (hb : Below B0 w0 w) (hB : B0 ≤ B) : RBuf E B0 w0 w v l := by
  refine ⟨⟨h.own.1, ?_⟩, hb, Nat.le_trans hB h.le⟩
  rcases h.own.2 with h1 | ⟨g, cap, cur, h1, h2, h3⟩
  · exact .inl h1
  · exact .inr ⟨g, cap, cur, h1, Nat.le_trans hB h2, h3⟩

theorem RBuf.form (h : RBuf E B w0 w v l) : ∃ (a : Option Addr) (cap : Nat), v = .slice a l.length cap := by
  rcases h.own.2 with ⟨rfl, h0⟩ | ⟨g, cap, cur, rfl, _⟩
  · exact ⟨none, 0, by rw [h0]⟩
  · exact ⟨_, _, rfl⟩

/-- An append of elements that lie at ad. -/
theorem wpList_append_row {ops : Array Oper} {rest : List Oper} {o : Oper} {a : Act} {Q : Exit → Act → World → Prop} (hgd : o.guard = none) (s x : Operand)
    (E : Enc α) (ho : o.op = .call { callee := .builtin .append, args := #[s, x], argTypes := #[E.sty, E.sty] })
    (B : Nat) (v : Value) (l : List α) (hs : a.eval s = v) (hb : RBuf E B w0 w v l)
    (ad : Addr) (news : List α) (c : Nat) (hx : a.eval x = .slice (some ad) news.length c)
    (hnews : ∀ j u, (E.row news)[j]? = some u → w.cell? (ad.add j) = some u)
    (hlen : (l.length + news.length) * (E.bytes + 1) ≤ 140737488355328)
    (h : ∀ v' w', RBuf E B w0 w' v' (l ++ news) → w.grownBy w' v.ownBlock → (v'.ownBlock = v.ownBlock ∨ v'.ownBlock = some w.heap.size) → wpList Try.prog ops Q rest (a.put o.dst v') w') : wpList Try.prog ops Q (o :: rest) a w := by
  obtain ⟨i0, hi, hz0, hz1, hz2⟩ := info_parts E.info
  have e0 : (l.length + news.length) * (E.bytes + 1) = (l.length + news.length) * E.bytes + (l.length + news.length) := Nat.mul_succ _ _
  refine wpList_append_own_at _ hgd s x E.sty ho B E.ty i0 E.zero E.sz E.bytes E.und hi hz0 hz1 hz2 E.zc E.pos v l.length (E.row l) hs hb.own ad news.length c (E.row news) hx (E.row_length news) hnews (E.row_one' news) (by unfold maxLen; omega) (by omega) hb.le ?_
  intro v' w' hown hgrow _ hat
  refine h v' w' ⟨?_, hb.bel.grown hgrow hb.le (fun k hk => (hb.own.lt k hk).1), Nat.le_trans hb.le hgrow.size⟩ hgrow hat
  have e1 : (l ++ news).length = l.length + news.length := by simp
  rw [e1, E.row_append]
  exact hown

/-- Elements that can be read: each in its cells of a row; nothing where there is none. -/
def Rows' (E : Enc α) (w : World) (v : Value) (l : List α) : Prop :=
  (l = [] ∧ ∃ (a : Option Addr) (cap : Nat), v = .slice a 0 cap) ∨
  ∃ g off cap : Nat, v = .slice (some ⟨g, off, none⟩) l.length cap ∧ l.length ≤ cap ∧ g < w.heap.size ∧
    ∀ j x, l[j]? = some x → ∀ k u, (E.f x)[k]? = some u → w.cell? ⟨g, off + j * E.sz + k, none⟩ = some u

theorem RBuf.cell (h : RBuf E B w0 w v l) {g cap : Nat} (hv : v = .slice (some ⟨g, 0, none⟩) l.length cap) (j : Nat) (x : α) (hj : l[j]? = some x) (k : Nat) (u : Value) (hk : (E.f x)[k]? = some u) : w.cell? ⟨g, j * E.sz + k, none⟩ = some u := by
  subst hv
  have hlt : j < l.length := (List.getElem?_eq_some_iff.1 hj).1
  have hks : k < E.sz := by rw [← E.len x]; exact (List.getElem?_eq_some_iff.1 hk).1
  have : j * E.sz + k < l.length * E.sz := by
    have : (j + 1) * E.sz ≤ l.length * E.sz := Nat.mul_le_mul_right _ hlt
    rw [Nat.succ_mul] at this; omega
  rw [h.own.cellAt _ this, E.row_at l j x hj k hks, hk]

theorem RBuf.rows (h : RBuf E B w0 w v l) : Rows' E w v l := by
  rcases h.own.2 with ⟨rfl, h0⟩ | ⟨g, cap, cur, rfl, hg, hh, hnc, hcp, hcs, htake⟩
  · exact .inl ⟨List.length_eq_zero_iff.1 h0, _, _, rfl⟩
  · refine .inr ⟨g, 0, cap, rfl, hnc, (h.own.lt g rfl).2, fun j x hj k u hk => ?_⟩
    rw [Nat.zero_add]
    exact h.cell rfl j x hj k u hk

theorem Rows'.later (h : Rows' E w v l) {w' : World} (hb : Below w.heap.size w w') : Rows' E w' v l := by
  rcases h with h | ⟨g, off, cap, hv, hc, hg, hcl⟩
  · exact .inl h
  · exact .inr ⟨g, off, cap, hv, hc, Nat.lt_of_lt_of_le hg hb.size, fun j x hj k u hk => (hb.cell (p := ⟨g, off + j * E.sz + k, none⟩) hg).trans (hcl j x hj k u hk)⟩

/-- A store into one cell of an element. -/
theorem RBuf.stored {g cap : Nat} (h : RBuf E B w0 w (.slice (some ⟨g, 0, none⟩) l.length cap) l) (j : Nat) (x y : α) (hj : l[j]? = some x) (k : Nat) (hk : k < E.sz) (u : Value) (hy : E.f y = (E.f x).set k u) :
    RBuf E B w0 (w.setCell ⟨g, j * E.sz + k, none⟩ u) (.slice (some ⟨g, 0, none⟩) l.length cap) (l.set j y) := by
  have hst := h.own.stored (j * E.sz + k) u
  refine ⟨?_, h.bel.setCell (h.own.lt g rfl).1 _, by have := h.le; simpa using this⟩
  have hl : (l.set j y).length = l.length := by simp
  rw [hl, E.row_set l j x y hj k hk u hy]
  exact hst.1

theorem RBuf.loose {g cap : Nat} (h : RBuf E B w0 w (.slice (some ⟨g, 0, none⟩) l.length cap) l) (j : Nat) : w.frozen? ⟨g, j, none⟩ = false := h.own.frozenAt j

theorem Enc.row_made (E : Enc α) (n : Nat) : (madeCells E.zero.cells (n * E.sz)).toList = E.row (List.replicate n E.z0) := by
  apply List.ext_getElem?
  intro i
  have hl : (E.row (List.replicate n E.z0)).length = n * E.sz := by rw [E.row_length, List.length_replicate]
  by_cases hi : i < n * E.sz
  · have hdm : i / E.sz * E.sz + i % E.sz = i := Nat.div_add_mod' i E.sz
    have hj : i / E.sz < n := (Nat.div_lt_iff_lt_mul E.pos).2 hi
    have hk : i % E.sz < E.sz := Nat.mod_lt _ E.pos
    have h1 : (List.replicate n E.z0)[i / E.sz]? = some E.z0 := by rw [List.getElem?_replicate, if_pos hj]
    have h2 := E.row_at _ _ _ h1 _ hk
    rw [hdm] at h2
    rw [h2, E.zf]
    have hz : i % E.sz < E.zero.cells.size := by rw [E.zc]; exact hk
    simp [madeCells, hi, E.zc]
    rw [getElem!_pos E.zero.cells (i % E.sz) hz, Array.getElem?_eq_getElem hz]
  · rw [List.getElem?_eq_none (by simp [madeCells]; omega), List.getElem?_eq_none (by omega)]

/-- make([]T, n). -/
theorem wpList_make_rows {ops : Array Oper} {rest : List Oper} {o : Oper} {a : Act} {Q : Exit → Act → World → Prop} (hg : o.guard = none) (x c : Operand) (E : Enc α) (hop : o.op = Op.makeSlice E.sty x c)
    (kl kc : IntKind) (L C : Int) (n : Nat) (hl : a.eval x = .int kl L) (hc : a.eval c = .int kc C) (hL : L = (n : Int)) (hC : C = (n : Int)) (hn : (E.bytes + 1) * n ≤ 281474976710656)
    (h : ∀ w', RBuf E w.heap.size w w' (.slice (some ⟨w.heap.size, 0, none⟩) n n) (List.replicate n E.z0) → w.heap.size < w'.heap.size → wpList Try.prog ops Q rest (a.put o.dst (.slice (some ⟨w.heap.size, 0, none⟩) n n)) w') : wpList Try.prog ops Q (o :: rest) a w := by
  obtain ⟨i0, hi, hz0, hz1, hz2⟩ := info_parts E.info
  have e0 : (E.bytes + 1) * n = E.bytes * n + n := Nat.succ_mul _ _
  refine wpList_make_full w hg x c E.sty hop w.heap.size E.ty i0 E.zero E.sz E.und hi hz0 hz1 kl kc L C n hl hc hL hC (by rw [hz2]; omega) (by unfold maxLen; omega) (Nat.le_refl _) ?_
  intro w' hown hgrow
  rw [E.row_made] at hown
  refine h w' ⟨?_, (Below.refl _ _).grown hgrow (Nat.le_refl _) (fun k hk => by cases hk), hgrow.size⟩ (hown.lt w.heap.size rfl).2
  rw [List.length_replicate]
  exact hown

end Go.Proofs.Ytichbcpidkkblaa
