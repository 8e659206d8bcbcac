/- Texts of our own, joined. -/
import Derived.Test.YthlbokfajiahpabRows
import Derived.WalkKit
import Derived.Laws.BytesArg
import Derived.Maps.AppendAt
import Derived.Lib.ConvBytes
import Derived.Lib.Buffer
import Derived.Lib.SmallJoins
import Derived.Maps.RangeWalk
import Derived.Maps.OwnSet
import Derived.Laws.BitsAllLaws
import Derived.Laws.BitsLemmas
/- What a list of bytes is that a call builds in memory of its own, and the laws by which it grows and becomes a string. -/
namespace Go.Proofs.Ythlbokfajiahpab
open Go.RowKit

theorem Try.info_u8 : (Try.prog.info? 5).map (fun i => (i.zero, i.size, i.bytes)) = some (some (.int .u8 0), 1, 1) := by kernel_rfl

/-- The bytes as the cells of a row. -/
def bytesV (l : List UInt8) : List Value := l.map fun c => .int .u8 (c.toNat : Int)

theorem bytesV_length (l : List UInt8) : (bytesV l).length = l.length := by simp [bytesV]

/-- The slice v holds the bytes l in memory that the call made itself (blocks from B on); below B all is as it was in w0. -/
structure Buf (B : Nat) (w0 w : World) (v : Value) (l : List UInt8) : Prop where
  own : w.ownsRow B 5 1 v l.length (bytesV l)
  bel : Below B w0 w
  le : B ≤ w.heap.size

theorem Buf.alloc {B : Nat} {w0 w : World} {v : Value} {l : List UInt8} (h : Buf B w0 w v l) (o : Obj) : Buf B w0 (w.alloc o) v l :=
  ⟨h.own.alloc o, h.bel.alloc h.le o, by have := h.le; simp; omega⟩

theorem Buf.drew {B : Nat} {w0 w : World} {v : Value} {l : List UInt8} (h : Buf B w0 w v l) : Buf B w0 w.drew v l :=
  ⟨h.own.drew, h.bel.drew, h.le⟩

/-- An append of the bytes that lie at ad. -/
theorem wpList_append_bytes {w0 w : World} {ops : Array Oper} {rest : List Oper} {o : Oper} {a : Act} {Q : Exit → Act → World → Prop} (hgd : o.guard = none) (s x : Operand)
    (ho : o.op = .call { callee := .builtin .append, args := #[s, x], argTypes := #[68, 68] })
    (B : Nat) (v : Value) (l : List UInt8) (hs : a.eval s = v) (hb : Buf B w0 w v l)
    (ad : Addr) (news : List UInt8) (c : Nat) (hx : a.eval x = .slice (some ad) news.length c)
    (hnews : ∀ j u, (bytesV news)[j]? = some u → w.cell? (ad.add j) = some u)
    (hlen : l.length + news.length ≤ 140737488355328)
    (h : ∀ v' w', Buf B w0 w' v' (l ++ news) → wpList Try.prog ops Q rest (a.put o.dst v') w') : wpList Try.prog ops Q (o :: rest) a w := by
  obtain ⟨i0, hi, hz0, hz1, hz2⟩ := info_parts Try.info_u8
  refine wpList_append_own _ hgd s x 68 ho B 5 i0 (.int .u8 0) 1 1 Try.underlying68 hi hz0 hz1 hz2 rfl (by decide) v l.length (bytesV l) hs hb.own ad news.length c (bytesV news) hx (by simp [bytesV]) hnews ?_ (by unfold maxLen; omega) (by omega) hb.le ?_
  · intro u hu
    simp only [bytesV, List.mem_map] at hu
    obtain ⟨c, _, rfl⟩ := hu
    rfl
  · intro v' w' hown hgrow _
    refine h v' w' ⟨?_, hb.bel.grown hgrow hb.le (fun k hk => (hb.own.lt k hk).1), Nat.le_trans hb.le hgrow.size⟩
    have e1 : (l ++ news).length = l.length + news.length := by simp
    have e2 : bytesV (l ++ news) = bytesV l ++ bytesV news := by simp [bytesV]
    rw [e1, e2]
    exact hown

/-- A slice over a new row of no bytes yet. -/
theorem Buf.fresh (w : World) (cur : Array Value) (cap : Nat) (hs : cur.size = cap) (hm : cap ≤ maxLen) :
    Buf w.heap.size w (w.alloc (.cells cur 5)) (.slice (some ⟨w.heap.size, 0, none⟩) 0 cap) [] :=
  ⟨World.ownsRow_made w cur cap (Nat.le_refl _) hm (by omega), (Below.refl _ _).alloc (Nat.le_refl _) _, by simp⟩

/-- The one cell of a new block, as an append asks for it. -/
theorem one_new (w : World) (x : Int) (b : UInt8) (h : x = (b.toNat : Int)) :
    ∀ j u, (bytesV [b])[j]? = some u → (w.alloc (.cells #[.int .u8 x] 5)).cell? ((⟨w.heap.size, 0, none⟩ : Addr).add j) = some u := by
  subst h
  intro j u hj
  match j, hj with
  | 0, hj => simp [bytesV] at hj; subst hj; simp [Addr.add]
  | j + 1, hj => simp [bytesV] at hj

/-- string(b) of such bytes. -/
theorem Buf.toString {B : Nat} {w0 w : World} {v : Value} {l : List UInt8} (h : Buf B w0 w v l) :
    (convert 68 9 v).run Try.prog w = .ok (.string ⟨l.toArray⟩) w := by
  rcases h.own.2 with ⟨rfl, h0⟩ | ⟨g, cap, cur, rfl, hg, hh, hnc, hcp, hcs, htake⟩
  · obtain rfl := List.length_eq_zero_iff.1 h0
    exact run_convert_bytes_nil (P := Try.prog) w 68 5 Try.underlying68 Try.underlying5 0 0 9 Try.underlying9
  · refine run_convert_bytes_back (P := Try.prog) w 68 9 5 ⟨g, 0, none⟩ cap l Try.underlying68 Try.underlying5 Try.underlying9 fun j hj => ?_
    rw [Addr.add_lit, Nat.zero_add, h.own.cellAt j (by omega)]
    simp [bytesV, hj]

end Go.Proofs.Ythlbokfajiahpab

/- Appends to a list of bytes beside other memory of the call's own: what else lies there stays; inside a region that draws its order too; and the bytes of a string laid in a row of their own. -/
namespace Go.Proofs.Ythlbokfajiahpab
open Go.RowKit

/-- Behind an append from v to v': v' lies where v lay, or in a new block; every other block is as it was. -/
structure Keeps (w w' : World) (v v' : Value) : Prop where
  place : v'.ownBlock = v.ownBlock ∨ v'.ownBlock = some w.heap.size
  other : ∀ g, g < w.heap.size → some g ≠ v.ownBlock → w'.heap[g]? = w.heap[g]?
  size : w.heap.size ≤ w'.heap.size

theorem Keeps.block {w w' : World} {v v' : Value} (h : Keeps w w' v v') {g : Nat} {o : Obj} (hg : w.heap[g]? = some o) (ha : v.ownBlock ≠ some g) : w'.heap[g]? = some o ∧ v'.ownBlock ≠ some g := by
  have hlt : g < w.heap.size := by
    by_cases hh : g < w.heap.size
    · exact hh
    · rw [Array.getElem?_eq_none (by omega)] at hg; cases hg
  refine ⟨(h.other g hlt (Ne.symm ha)).trans hg, ?_⟩
  rcases h.place with e | e
  · rw [e]; exact ha
  · rw [e]; intro e2; have := Option.some.inj e2; omega

theorem heap_drew (w : World) (g : Nat) : (w.drew).heap[g]? = w.heap[g]? := rfl
theorem heap_alloc_some {w : World} {g : Nat} {o : Obj} (h : w.heap[g]? = some o) (x : Obj) : (w.alloc x).heap[g]? = some o := by
  have hlt : g < w.heap.size := by
    by_cases hh : g < w.heap.size
    · exact hh
    · rw [Array.getElem?_eq_none (by omega)] at h; cases h
  rw [Below.heap_alloc w x g hlt, h]

theorem run_append_bytes {w0 w : World} (ty : TypeId) (B : Nat) (v : Value) (l : List UInt8) (hb : Buf B w0 w v l)
    (ad : Addr) (news : List UInt8) (c : Nat) (hnews : ∀ j u, (bytesV news)[j]? = some u → w.cell? (ad.add j) = some u)
    (hlen : l.length + news.length ≤ 140737488355328) :
    ∃ v' w', (Builtin.append_ #[68, 68] ty #[v, .slice (some ad) news.length c]).run Try.prog w = .ok v' w' ∧ Buf B w0 w' v' (l ++ news) ∧ Keeps w w' v v' := by
  obtain ⟨i0, hi, hz0, hz1, hz2⟩ := info_parts Try.info_u8
  obtain ⟨v', w', h1, h2, h3, _, h5⟩ := run_append_own_at (P := Try.prog) w B 68 ty 5 i0 (.int .u8 0) 1 1 Try.underlying68 hi hz0 hz1 hz2 rfl (by decide) v l.length (bytesV l) hb.own ad news.length c (bytesV news) (by simp [bytesV]) hnews
    (by intro u hu; simp only [bytesV, List.mem_map] at hu; obtain ⟨c, _, rfl⟩ := hu; rfl) (by unfold maxLen; omega) (by omega) hb.le
  have e1 : (l ++ news).length = l.length + news.length := by simp
  have e2 : bytesV (l ++ news) = bytesV l ++ bytesV news := by simp [bytesV]
  exact ⟨v', w', h1, ⟨by rw [e1, e2]; exact h2, hb.bel.grown h3 hb.le (fun k hk => (hb.own.lt k hk).1), Nat.le_trans hb.le h3.size⟩, ⟨h5, fun g hg hne => h3.block g hg hne, h3.size⟩⟩

theorem wp_append_bytes {w0 w : World} {o : Oper} {a : Act} {K : Act → World → Prop} {Q : Exit → Act → World → Prop} (s x : Operand)
    (ho : o.op = .call { callee := .builtin .append, args := #[s, x], argTypes := #[68, 68] })
    (B : Nat) (v : Value) (l : List UInt8) (hs : a.eval s = v) (hb : Buf B w0 w v l)
    (ad : Addr) (news : List UInt8) (c : Nat) (hx : a.eval x = .slice (some ad) news.length c)
    (hnews : ∀ j u, (bytesV news)[j]? = some u → w.cell? (ad.add j) = some u)
    (hlen : l.length + news.length ≤ 140737488355328)
    (h : ∀ v' w', Buf B w0 w' v' (l ++ news) → Keeps w w' v v' → K (a.put o.dst v') w') : o.wp Try.prog a w K Q := by
  obtain ⟨v', w', hr, h2, h3⟩ := run_append_bytes o.type B v l hb ad news c hnews hlen
  unfold Oper.wp execOp
  simp only [ho, resolve, invoke, builtin, Sem.run_bind, Sem.run_pure, Result.andThen_ok, List.map_toArray, List.map_cons, List.map_nil, hs, hx, hr]
  exact h v' w' h2 h3

/-- The same at a list of operations that goes in its own order. -/
theorem wpList_append_kept {w0 w : World} {ops : Array Oper} {rest : List Oper} {o : Oper} {a : Act} {Q : Exit → Act → World → Prop} (hgd : o.guard = none) (s x : Operand)
    (ho : o.op = .call { callee := .builtin .append, args := #[s, x], argTypes := #[68, 68] })
    (B : Nat) (v : Value) (l : List UInt8) (hs : a.eval s = v) (hb : Buf B w0 w v l)
    (ad : Addr) (news : List UInt8) (c : Nat) (hx : a.eval x = .slice (some ad) news.length c)
    (hnews : ∀ j u, (bytesV news)[j]? = some u → w.cell? (ad.add j) = some u)
    (hlen : l.length + news.length ≤ 140737488355328)
    (h : ∀ v' w', Buf B w0 w' v' (l ++ news) → Keeps w w' v v' → wpList Try.prog ops Q rest (a.put o.dst v') w') : wpList Try.prog ops Q (o :: rest) a w :=
  wpList_plain hgd fun _ hK => wp_append_bytes s x ho B v l hs hb ad news c hx hnews hlen fun v' w' h2 h3 => hK _ _ (h v' w' h2 h3)

/-- The same at a step of a region that draws its order. -/
theorem step_append_bytes {w0 w : World} {ops : Array Oper} {o : Oper} {a : Act} {K : Act → World → Prop} {Q : Exit → Act → World → Prop} {E : Prop} (hgd : o.guard = none) (s x : Operand)
    (ho : o.op = .call { callee := .builtin .append, args := #[s, x], argTypes := #[68, 68] })
    (B : Nat) (v : Value) (l : List UInt8) (hs : a.eval s = v) (hb : Buf B w0 w v l)
    (ad : Addr) (news : List UInt8) (c : Nat) (hx : a.eval x = .slice (some ad) news.length c)
    (hnews : ∀ j u, (bytesV news)[j]? = some u → w.cell? (ad.add j) = some u)
    (hlen : l.length + news.length ≤ 140737488355328)
    (h : ∀ v' w', Buf B w0 w' v' (l ++ news) → Keeps w w' v v' → K (a.put o.dst v') w') :
    if Region.wanted o (yielded ops a.tmps) = true then Oper.wp Try.prog o a w K Q else E := by
  have hw : Region.wanted o (yielded ops a.tmps) = true := by simp [Region.wanted, hgd]
  rw [if_pos hw]
  exact wp_append_bytes s x ho B v l hs hb ad news c hx hnews hlen h

/-- Two cells of a new block, as an append asks for them; behind a draw. -/
theorem two_new (w : World) (x y : Int) (b c : UInt8) (hx : x = (b.toNat : Int)) (hy : y = (c.toNat : Int)) :
    ∀ j u, (bytesV [b, c])[j]? = some u → ((w.alloc (.cells #[.int .u8 x, .int .u8 y] 5)).drew).cell? ((⟨w.heap.size, 0, none⟩ : Addr).add j) = some u := by
  subst hx hy
  intro j u hj
  match j, hj with
  | 0, hj => simp [bytesV] at hj; subst hj; simp [Addr.add]
  | 1, hj => simp [bytesV] at hj; subst hj; simp [Addr.add]
  | j + 2, hj => simp [bytesV] at hj

/-- The row that []byte(s) lays: its block is there, whatever is laid behind it. -/
theorem bytes_block (w : World) (s : ByteArray) : ∃ o : Obj, (Lib.bytesWorld w 5 s).heap[w.heap.size]? = some o ∧
    ∀ wx : World, wx.heap[w.heap.size]? = some o → ∀ j (hj : j < s.size), wx.cell? ⟨w.heap.size, j, none⟩ = some (.int .u8 (s[j].toNat : Int)) := by
  refine ⟨_, Lib.bytesWorld_at_new w 5 s, fun wx hx j hj => ?_⟩
  have h1 := Lib.bytesWorld_cell w 5 s j hj
  rw [World.cell?_of_block (w := Lib.bytesWorld w 5 s) (a := ⟨w.heap.size, j, none⟩) (by rw [hx, Lib.bytesWorld_at_new]), h1]
  have : s.data.toList.getD j 0 = s[j] := by
    rw [List.getD_eq_getElem?_getD, List.getElem?_eq_getElem (by simpa using hj)]; rfl
  rw [this]

theorem Buf.bytesWorld {B : Nat} {w0 w : World} {v : Value} {l : List UInt8} (h : Buf B w0 w v l) (s : ByteArray) : Buf B w0 (Lib.bytesWorld w 5 s) v l := by
  have hg : w.grownBy (Lib.bytesWorld w 5 s) none := ⟨rfl, rfl, rfl, by rw [Lib.bytesWorld_size]; omega, fun k hk _ => Lib.bytesWorld_at_old w 5 s k hk⟩
  refine ⟨h.own.kept hg ?_, h.bel.grown hg h.le (fun k hk => by cases hk), Nat.le_trans h.le hg.size⟩
  cases hv : v.ownBlock with
  | none => exact .inl rfl
  | some k => exact .inr (by simp)

/-- make([]byte, 0, n). -/
theorem wpList_make_bytes {w : World} {ops : Array Oper} {rest : List Oper} {o : Oper} {a : Act} {Q : Exit → Act → World → Prop} (hg : o.guard = none) (l c : Operand) (hop : o.op = Op.makeSlice 68 l c)
    (kl kc : IntKind) (C : Int) (n : Nat) (hl : a.eval l = .int kl 0) (hc : a.eval c = .int kc C) (hC : C = (n : Int)) (hn : n ≤ 281474976710656)
    (h : ∀ w' g, Buf w.heap.size w w' (.slice (some ⟨g, 0, none⟩) 0 n) [] → g < w'.heap.size → wpList Try.prog ops Q rest (a.put o.dst (.slice (some ⟨g, 0, none⟩) 0 n)) w') : wpList Try.prog ops Q (o :: rest) a w := by
  obtain ⟨i0, hi, hz0, hz1, hz2⟩ := info_parts Try.info_u8
  refine wpList_make_own w hg l c 68 hop w.heap.size 5 i0 (.int .u8 0) 1 Try.underlying68 hi hz0 hz1 kl kc C n hl hc hC (by rw [hz2]; omega) (by unfold maxLen; omega) (Nat.le_refl _) ?_
  intro w' hown hgrow
  exact h w' w.heap.size ⟨hown, (Below.refl _ _).grown hgrow (Nat.le_refl _) (fun k hk => by cases hk), hgrow.size⟩ (hown.lt w.heap.size rfl).2

theorem Buf.form {B : Nat} {w0 w : World} {v : Value} {l : List UInt8} (h : Buf B w0 w v l) : ∃ (a : Option Addr) (cap : Nat), v = .slice a l.length cap := by
  rcases h.own.2 with ⟨rfl, h0⟩ | ⟨g, cap, cur, rfl, _⟩
  · exact ⟨none, 0, by rw [h0]⟩
  · exact ⟨_, _, rfl⟩

/-- Where something is held, it lies at the head of a row of the call's own, and each byte is in its cell. -/
theorem Buf.at {B : Nat} {w0 w : World} {v : Value} {l : List UInt8} (h : Buf B w0 w v l) (hl : l ≠ []) : ∃ g cap : Nat, v = .slice (some ⟨g, 0, none⟩) l.length cap ∧ l.length ≤ cap ∧ B ≤ g ∧ g < w.heap.size ∧
    ∀ j b, l[j]? = some b → w.cell? ⟨g, j, none⟩ = some (.int .u8 (b.toNat : Int)) := by
  rcases h.own.2 with ⟨rfl, h0⟩ | ⟨g, cap, cur, rfl, hg, hh, hnc, hcp, hcs, htake⟩
  · exact absurd (List.length_eq_zero_iff.1 h0) hl
  · refine ⟨g, cap, rfl, hnc, hg, (h.own.lt g rfl).2, fun j b hj => ?_⟩
    have hlt : j < l.length := (List.getElem?_eq_some_iff.1 hj).1
    rw [h.own.cellAt j (by omega)]
    simp [bytesV, hj]

end Go.Proofs.Ythlbokfajiahpab

/- A variable of the call's own. -/
namespace Go.Proofs.Ythlbokfajiahpab
open Go.RowKit

theorem stored_grown (w : World) (g i : Nat) (v : Value) : w.grownBy (w.setCell ⟨g, i, none⟩ v) (some g) :=
  have b := (Below.refl 0 w).setCell (p := ⟨g, i, none⟩) (Nat.zero_le _) v
  ⟨b.os, b.tape, b.output, b.size, fun k _ hne => Below.heap_setCell w _ _ _ (fun e => hne (by rw [e]))⟩

variable {w w' : World}

/-- A variable of the call's own: its cells stand in the block b. -/
def Box (w : World) (b : Nat) (cs : Array Value) (t : TypeId) : Prop := w.heap[b]? = some (.cells cs t (0, 0))

theorem Box.new (w : World) (cs : Array Value) (t : TypeId) : Box (w.alloc (.cells cs t)) w.heap.size cs t := heap_alloc_new w _
theorem Box.lt {b : Nat} {cs : Array Value} {t : TypeId} (h : Box w b cs t) : b < w.heap.size := (Array.getElem?_eq_some_iff.1 h).1
theorem Box.cell {b : Nat} {cs : Array Value} {t : TypeId} (h : Box w b cs t) (j : Nat) (u : Value) (hu : cs[j]? = some u) : w.cell? ⟨b, j, none⟩ = some u := by
  rw [Joins.cell_of_block h, hu]
theorem Box.loose {b : Nat} {cs : Array Value} {t : TypeId} (h : Box w b cs t) (j : Nat) : w.frozen? ⟨b, j, none⟩ = false := Joins.unfrozen_of_block h j
theorem Box.later {b : Nat} {cs : Array Value} {t : TypeId} (h : Box w b cs t) (hb : Below w.heap.size w w') : Box w' b cs t := (hb.block b h.lt).trans h
theorem Box.under {b B : Nat} {cs : Array Value} {t : TypeId} (h : Box w b cs t) (hb : Below B w w') (hl : b < B) : Box w' b cs t := (hb.block b hl).trans h
theorem Box.set {b : Nat} {cs : Array Value} {t : TypeId} (h : Box w b cs t) (j : Nat) (u : Value) : Box (w.setCell ⟨b, j, none⟩ u) b (cs.setIfInBounds j u) t := Joins.block_setCell h u
theorem Box.other {b g : Nat} {cs : Array Value} {t : TypeId} (h : Box w b cs t) (hne : b ≠ g) (j : Nat) (u : Value) : Box (w.setCell ⟨g, j, none⟩ u) b cs t :=
  ((stored_grown w g j u).block b h.lt (fun e => hne (Option.some.inj e))).trans h

/-- The three cells of a variable. -/
theorem Box.three {b : Nat} {u0 u1 u2 : Value} {t : TypeId} (h : Box w b #[u0, u1, u2] t) : w.cell? ⟨b, 0, none⟩ = some u0 ∧ w.cell? ⟨b, 1, none⟩ = some u1 ∧ w.cell? ⟨b, 2, none⟩ = some u2 ∧ w.frozen? ⟨b, 0, none⟩ = false ∧ w.frozen? ⟨b, 1, none⟩ = false ∧ w.frozen? ⟨b, 2, none⟩ = false :=
  ⟨h.cell 0 _ rfl, h.cell 1 _ rfl, h.cell 2 _ rfl, h.loose 0, h.loose 1, h.loose 2⟩
/-- The three cells stored. -/
def set3 (w : World) (b : Nat) (v0 v1 v2 : Value) : World := ((w.setCell ⟨b, 0, none⟩ v0).setCell ⟨b, 1, none⟩ v1).setCell ⟨b, 2, none⟩ v2
theorem Box.set3 {b : Nat} {u0 u1 u2 : Value} {t : TypeId} (h : Box w b #[u0, u1, u2] t) (v0 v1 v2 : Value) : Box (set3 w b v0 v1 v2) b #[v0, v1, v2] t := ((h.set 0 v0).set 1 v1).set 2 v2
theorem below_set3 {B b : Nat} {w0 : World} (h : Below B w0 w) (hb : B ≤ b) (v0 v1 v2 : Value) : Below B w0 (set3 w b v0 v1 v2) :=
  ((h.setCell (p := ⟨b, 0, none⟩) hb v0).setCell (p := ⟨b, 1, none⟩) hb v1).setCell (p := ⟨b, 2, none⟩) hb v2

end Go.Proofs.Ythlbokfajiahpab

/- Maps of a call's own, as functions: at each key what stands there, or nothing. -/
namespace Go.Proofs.Ythlbokfajiahpab
open Go.RowKit
open Go.Maps (Keyed)

section
variable {β : Type}

open Classical in
/-- An element of a map, told by what it is the value of. -/
noncomputable def shp (mk : β → Value) (v : Value) : Option (DataW β × List MemPlace) :=
  if h : ∃ c, v = mk c then some (.held (Classical.choose h), []) else none

theorem shp_inv {mk : β → Value} {v : Value} {y : DataW β × List MemPlace} (h : shp mk v = some y) : ∃ c, v = mk c ∧ y = (.held c, []) := by
  unfold shp at h
  split at h
  · rename_i hc
    cases h
    exact ⟨_, Classical.choose_spec hc, rfl⟩
  · cases h

theorem shp_mk {mk : β → Value} (hi : ∀ x y, mk x = mk y → x = y) (c : β) : shp mk (mk c) = some (.held c, []) := by
  unfold shp
  have h : ∃ c', mk c = mk c' := ⟨c, rfl⟩
  rw [dif_pos h]
  have := hi _ _ (Classical.choose_spec h)
  rw [← this]
end

/-- How keys stand. -/
structure KeyE (P : Program) (κ : Type) where
  ty : TypeId
  law : Keyed P ty
  val : κ → Value
  lit : κ → Lit
  ok : κ → Prop
  key : ∀ x, ok x → keyOf P ty (val x) = some (lit x)
  inv : ∀ v l, keyOf P ty v = some l → ∃ x, ok x ∧ v = val x
  inj : ∀ x y, val x = val y → x = y

/-- Whole numbers as keys. -/
def intK {P : Program} (t : TypeId) (h : P.underlying t = some (.int .i64)) : KeyE P Int where
  ty := t
  law := Maps.int_keyed h
  val := Value.int .i64
  lit := Lit.int .i64
  ok := fun x => (Lit.int .i64 x).wf = true
  key := fun _ hx => Maps.keyOf_int_mk h hx
  inv := fun v l hv => by
    obtain ⟨x, rfl, rfl, hx⟩ := Maps.keyOf_int_inv h hv
    exact ⟨x, hx, rfl⟩
  inj := fun x y e => by cases e; rfl

section
variable {P : Program} {κ β : Type}

theorem KeyE.lit_inj (K : KeyE P κ) {x y : κ} (hx : K.ok x) (hy : K.ok y) (h : K.lit x = K.lit y) : x = y := by
  have h1 := K.key x hx
  have h2 := K.key y hy
  rw [h] at h1
  exact K.inj _ _ (K.law.inj h1 h2)

theorem KeyE.isKey (K : KeyE P κ) {x : κ} (hx : K.ok x) : WideAt.IsKeyLit (K.lit x) := K.law.key (K.key x hx)

/-- What a datum has at each key. -/
def Looks (K : KeyE P κ) (D : DataW β) (f : κ → Option β) : Prop :=
  ∀ x, K.ok x → (f x = none ∧ Maps.has D (K.lit x) = false) ∨ ∃ c, f x = some c ∧ Maps.has D (K.lit x) = true ∧ ∀ z, D.atKey (K.lit x) z = .held c

/-- The map in the block b holds f, in at most n entries. -/
def MapIs (K : KeyE P κ) (mk : β → Value) (w : World) (b n : Nat) (f : κ → Option β) : Prop :=
  ∃ D : DataW β, w.ownsMap P K.ty (shp mk) b n D ∧ Looks K D f

/-- It is gone through: what is still to come. -/
def MapGo (K : KeyE P κ) (mk : β → Value) (w : World) (b r n : Nat) (f : κ → Option β) (todo : κ → Bool) (cnt : Nat) : Prop :=
  ∃ (D : DataW β) (left : Lit → Bool), w.ranges P K.ty (shp mk) b r n D left cnt ∧ Looks K D f ∧ ∀ x, K.ok x → left (K.lit x) = todo x

variable {K : KeyE P κ} {mk : β → Value} {w w' : World} {b r n cnt : Nat} {f : κ → Option β} {todo : κ → Bool}

theorem MapIs.made (K : KeyE P κ) (mk : β → Value) (w : World) : MapIs K mk (w.alloc (.map #[] 0)) w.heap.size 0 (fun _ => none) :=
  ⟨.map [], World.ownsMap_made w P K.ty (shp mk), fun _ _ => .inl ⟨rfl, rfl⟩⟩
theorem MapIs.lt (h : MapIs K mk w b n f) : b < w.heap.size := by obtain ⟨D, h1, _⟩ := h; exact h1.lt
theorem MapIs.mono (h : MapIs K mk w b n f) {n' : Nat} (hn : n ≤ n') : MapIs K mk w b n' f := by obtain ⟨D, h1, h2⟩ := h; exact ⟨D, h1.mono hn, h2⟩
theorem MapIs.kept {row : Option Nat} (h : MapIs K mk w b n f) (hg : w.grownBy w' row) (hne : some b ≠ row) : MapIs K mk w' b n f := by
  obtain ⟨D, h1, h2⟩ := h
  exact ⟨D, h1.kept hg hne, h2⟩
theorem MapIs.later (h : MapIs K mk w b n f) (hb : Below w.heap.size w w') : MapIs K mk w' b n f :=
  h.kept (row := none) ⟨hb.os, hb.tape, hb.output, hb.size, fun k hk _ => hb.block k hk⟩ (by simp)
theorem MapIs.under {B : Nat} (h : MapIs K mk w b n f) (hb : Below B w w') (hl : b < B) : MapIs K mk w' b n f := by
  obtain ⟨D, ⟨es, clock, e, r⟩, h2⟩ := h
  exact ⟨D, ⟨es, clock, (hb.block b hl).trans e, r⟩, h2⟩
theorem MapIs.same (h : MapIs K mk w b n f) (e : w'.heap[b]? = w.heap[b]?) : MapIs K mk w' b n f := by
  obtain ⟨D, ⟨es, clock, e0, r⟩, h2⟩ := h
  exact ⟨D, ⟨es, clock, e.trans e0, r⟩, h2⟩
theorem MapIs.setCell (h : MapIs K mk w b n f) {a : Addr} (ha : b ≠ a.block) (u : Value) : MapIs K mk (w.setCell a u) b n f := by
  obtain ⟨D, h1, h2⟩ := h
  exact ⟨D, h1.setCell ha u, h2⟩
theorem MapIs.congr {g : κ → Option β} (h : MapIs K mk w b n f) (e : ∀ x, K.ok x → f x = g x) : MapIs K mk w b n g := by
  obtain ⟨D, h1, h2⟩ := h
  refine ⟨D, h1, fun x hx => ?_⟩
  rw [← e x hx]
  exact h2 x hx

/-- A block is no map and a row of cells. -/
theorem MapIs.notBox {cs : Array Value} {t : TypeId} (h : MapIs K mk w b n f) {g : Nat} (hb : Box w g cs t) : b ≠ g := by
  obtain ⟨D, ⟨es, clock, e, _⟩, _⟩ := h
  rintro rfl
  unfold Box at hb
  rw [e] at hb
  cases hb

theorem MapIs.look_there {t e : TypeId} (h : MapIs K mk w b n f) (ht : P.underlying t = some (.map K.ty e)) {z : Value} (hz : (zeroValue e).run P w = .ok z w) {x : κ} (hx : K.ok x) {c : β} (hf : f x = some c) (ok : Bool) :
    (Instr.lookup t (.map (some b)) (K.val x) ok).run P w = .ok (if ok then .tuple #[mk c, .bool true] else mk c) w := by
  obtain ⟨D, ⟨es, clock, hb, F, _, rfl⟩, hL⟩ := h
  rcases hL x hx with ⟨h1, _⟩ | ⟨c', h1, hh, h2⟩
  · rw [hf] at h1; cases h1
  · rw [hf] at h1
    cases h1
    rcases Maps.fit_look ok K.law ht hz hb F (K.key x hx) with ⟨hrun, _, hat⟩ | ⟨e0, y, _, _, hrun, hRv, hat, _⟩
    · have h3 := Maps.has_false_of_atKey hat
      rw [hh] at h3
      cases h3
    · obtain ⟨c2, e1, e2⟩ := shp_inv hRv
      have h3 : y.1 = .held c := (hat .nil).symm.trans (h2 .nil)
      rw [e2] at h3
      cases h3
      rw [e1] at hrun
      exact hrun

theorem MapIs.look_gone {t e : TypeId} (h : MapIs K mk w b n f) (ht : P.underlying t = some (.map K.ty e)) {z : Value} (hz : (zeroValue e).run P w = .ok z w) {x : κ} (hx : K.ok x) (hf : f x = none) (ok : Bool) :
    (Instr.lookup t (.map (some b)) (K.val x) ok).run P w = .ok (if ok then .tuple #[z, .bool false] else z) w := by
  obtain ⟨D, ⟨es, clock, hb, F, _, rfl⟩, hL⟩ := h
  rcases hL x hx with ⟨_, hh⟩ | ⟨c', h1, _⟩
  · rcases Maps.fit_look ok K.law ht hz hb F (K.key x hx) with ⟨hrun, _, hat⟩ | ⟨e0, y, _, _, hrun, hRv, hat, _⟩
    · exact hrun
    · have h3 := Maps.has_true_of_atKey hat
      rw [hh] at h3
      cases h3
  · rw [hf] at h1; cases h1

theorem MapIs.len {t e : TypeId} (h : MapIs K mk w b n f) (ht : P.underlying t = some (.map K.ty e)) (ty : TypeId) : ∃ k : Nat, k ≤ n ∧ (Builtin.len_ #[t] ty #[.map (some b)]).run P w = .ok (.int .i64 k) w := by
  obtain ⟨D, h1, _⟩ := h
  exact ⟨_, h1.size_le, h1.len ht ty⟩

/-! ### gone through -/
theorem MapGo.is (h : MapGo K mk w b r n f todo cnt) : MapIs K mk w b n f := by
  obtain ⟨D, left, h1, h2, _⟩ := h
  exact ⟨D, h1.owns, h2⟩
theorem MapGo.left_eq (h : MapGo K mk w b r n f todo cnt) : w.rangeLeft b r = cnt := by obtain ⟨D, left, h1, _⟩ := h; exact h1.left_eq
theorem MapGo.ne (h : MapGo K mk w b r n f todo cnt) : r ≠ b := by obtain ⟨D, left, h1, _⟩ := h; exact h1.ne
theorem MapGo.lt (h : MapGo K mk w b r n f todo cnt) : r < w.heap.size := by obtain ⟨D, left, h1, _⟩ := h; exact h1.lt
theorem MapGo.kept {row : Option Nat} (h : MapGo K mk w b r n f todo cnt) (hg : w.grownBy w' row) (h1 : some b ≠ row) (h2 : some r ≠ row) : MapGo K mk w' b r n f todo cnt := by
  obtain ⟨D, left, h3, h4⟩ := h
  exact ⟨D, left, h3.kept hg h1 h2, h4⟩
theorem MapGo.later (h : MapGo K mk w b r n f todo cnt) (hb : Below w.heap.size w w') : MapGo K mk w' b r n f todo cnt :=
  h.kept (row := none) ⟨hb.os, hb.tape, hb.output, hb.size, fun k hk _ => hb.block k hk⟩ (by simp) (by simp)
theorem MapGo.notBox {cs : Array Value} {t : TypeId} (h : MapGo K mk w b r n f todo cnt) {g : Nat} (hb : Box w g cs t) : r ≠ g := by
  obtain ⟨D, left, ⟨es, clock, _, _, _, _, _, _, _, e, _⟩, _⟩ := h
  rintro rfl
  unfold Box at hb
  rw [e] at hb
  cases hb

/-- 'range m', at the operation. -/
theorem wpList_range_is {ops : Array Oper} {rest : List Oper} {o : Oper} {a : Act} {Q : Exit → Act → World → Prop} (hg : o.guard = none) (m : Operand) (t : TypeId) (hop : o.op = Op.range t m)
    (K : KeyE P κ) (mk : β → Value) (e : TypeId) (ht : P.underlying t = some (.map K.ty e)) (b n : Nat) (f : κ → Option β) (hm : a.eval m = .map (some b)) (h : MapIs K mk w b n f)
    (hK : ∀ w' cnt, cnt ≤ n → MapGo K mk w' b w.heap.size n f (fun x => (f x).isSome) cnt → w.grownBy w' none → w'.heap.size = w.heap.size + 1 → wpList P ops Q rest (a.put o.dst (.pointer (some ⟨w.heap.size, 0, none⟩))) w') :
    wpList P ops Q (o :: rest) a w := by
  obtain ⟨D, h1, h2⟩ := h
  refine wpList_range_own w hg m t hop K.ty e K.law ht (shp mk) b n D hm h1 fun w' r1 r2 r3 => hK w' _ h1.size_le ⟨D, _, r1, h2, fun x hx => ?_⟩ r2 r3
  rcases h2 x hx with ⟨e1, e2⟩ | ⟨c, e1, e2, _⟩
  · show _ = (f x).isSome
    rw [e1, e2]; rfl
  · show _ = (f x).isSome
    rw [e1, e2]; rfl

variable [DecidableEq κ]

theorem Looks.put {D : DataW β} (h : Looks K D f) (hD : Maps.IsMap D) {x : κ} (hx : K.ok x) (c : β) : Looks K (D.put (K.lit x) (.held c)) (fun y => if y = x then some c else f y) := by
  intro y hy
  by_cases e : y = x
  · subst e
    refine .inr ⟨c, by simp, Maps.has_put_same hD (K.isKey hy) _, fun z => Maps.atKey_put_same hD (K.isKey hy) _ z⟩
  · have hne : K.lit y ≠ K.lit x := fun e2 => e (K.lit_inj hy hx e2)
    rcases h y hy with ⟨h1, h2⟩ | ⟨c', h1, h2, h3⟩
    · exact .inl ⟨by simp [e, h1], by rw [Maps.has_put_other hne]; exact h2⟩
    · exact .inr ⟨c', by simp [e, h1], by rw [Maps.has_put_other hne]; exact h2, fun z => by rw [Maps.atKey_put_other hne]; exact h3 z⟩

theorem Looks.del {D : DataW β} (h : Looks K D f) {x : κ} (hx : K.ok x) : Looks K (D.del (K.lit x)) (fun y => if y = x then none else f y) := by
  intro y hy
  by_cases e : y = x
  · subst e
    exact .inl ⟨by simp, Maps.has_del_same⟩
  · have hne : K.lit y ≠ K.lit x := fun e2 => e (K.lit_inj hy hx e2)
    rcases h y hy with ⟨h1, h2⟩ | ⟨c', h1, h2, h3⟩
    · exact .inl ⟨by simp [e, h1], by rw [Maps.has_del_other hne]; exact h2⟩
    · exact .inr ⟨c', by simp [e, h1], by rw [Maps.has_del_other hne]; exact h2, fun z => by rw [Maps.atKey_del_other hne]; exact h3 z⟩

/-- A store. -/
theorem MapIs.put {t e : TypeId} (h : MapIs K mk w b n f) (hi : ∀ x y, mk x = mk y → x = y) (ht : P.underlying t = some (.map K.ty e)) (hn : n < maxLen) {x : κ} (hx : K.ok x) (c : β) :
    ∃ w', (Instr.mapUpdate t (.map (some b)) (K.val x) (mk c)).run P w = .ok () w' ∧ MapIs K mk w' b (n + 1) (fun y => if y = x then some c else f y) ∧ w.grownBy w' (some b) ∧ w'.heap.size = w.heap.size := by
  obtain ⟨D, h1, h2⟩ := h
  obtain ⟨w', r1, r2, r3⟩ := h1.store K.law ht hn (K.key x hx) (shp_mk hi c)
  refine ⟨w', r1, ⟨_, r2, h2.put h1.isMap hx c⟩, r3.grown, ?_⟩
  obtain ⟨_, _, _, _, _, rfl⟩ := r3
  simp [ChangeMaps.setBlock]

theorem MapIs.del {t e : TypeId} (h : MapIs K mk w b n f) (ht : P.underlying t = some (.map K.ty e)) {x : κ} (hx : K.ok x) (ty : TypeId) :
    ∃ w', (Builtin.delete_ #[t, K.ty] ty #[.map (some b), K.val x]).run P w = .ok (.tuple #[]) w' ∧ MapIs K mk w' b n (fun y => if y = x then none else f y) ∧ w.grownBy w' (some b) ∧ w'.heap.size = w.heap.size := by
  obtain ⟨D, h1, h2⟩ := h
  obtain ⟨w', r1, r2, r3⟩ := h1.drop K.law ht (K.key x hx) ty
  refine ⟨w', r1, ⟨_, r2, h2.del hx⟩, r3.grown, ?_⟩
  obtain ⟨_, _, _, _, _, rfl⟩ := r3
  simp [ChangeMaps.setBlock]

/-- A store, at the operation. -/
theorem wpList_put {ops : Array Oper} {rest : List Oper} {o : Oper} {a : Act} {Q : Exit → Act → World → Prop} (hg : o.guard = none) (m x v : Operand) (t : TypeId) (hop : o.op = Op.mapUpdate t m x v)
    (K : KeyE P κ) (mk : β → Value) (hi : ∀ x y, mk x = mk y → x = y) (e : TypeId) (ht : P.underlying t = some (.map K.ty e)) (b n : Nat) (f : κ → Option β)
    (hm : a.eval m = .map (some b)) (h : MapIs K mk w b n f) (hn : n < maxLen) (y : κ) (c : β) (hx : a.eval x = K.val y) (hv : a.eval v = mk c) (hok : K.ok y)
    (hK : ∀ w', MapIs K mk w' b (n + 1) (fun z => if z = y then some c else f z) → w.grownBy w' (some b) → w'.heap.size = w.heap.size → wpList P ops Q rest (a.put o.dst undef) w') :
    wpList P ops Q (o :: rest) a w := by
  refine wpList_plain hg fun K' hK' => ?_
  obtain ⟨w', hrun, r1, r2, r3⟩ := h.put hi ht hn hok c
  unfold Oper.wp
  simp [execOp, hop, hm, hx, hv, hrun, Result.andThen]
  exact hK' _ _ (hK w' r1 r2 r3)

/-- A delete, at the operation. -/
theorem wpList_del {ops : Array Oper} {rest : List Oper} {o : Oper} {a : Act} {Q : Exit → Act → World → Prop} (hg : o.guard = none) (m x : Operand) (t : TypeId) (K : KeyE P κ) (hop : o.op = Op.call { callee := Callee.builtin Builtin.delete, args := #[m, x], argTypes := #[t, K.ty] })
    (mk : β → Value) (e : TypeId) (ht : P.underlying t = some (.map K.ty e)) (b n : Nat) (f : κ → Option β)
    (hm : a.eval m = .map (some b)) (h : MapIs K mk w b n f) (y : κ) (hx : a.eval x = K.val y) (hok : K.ok y)
    (hK : ∀ w', MapIs K mk w' b n (fun z => if z = y then none else f z) → w.grownBy w' (some b) → w'.heap.size = w.heap.size → wpList P ops Q rest (a.put o.dst (.tuple #[])) w') :
    wpList P ops Q (o :: rest) a w := by
  refine wpList_plain hg fun K' hK' => ?_
  obtain ⟨w', hrun, r1, r2, r3⟩ := h.del ht hok o.type
  unfold Oper.wp
  simp [execOp, hop, resolve, invoke, builtin, hm, hx, hrun, Result.andThen]
  exact hK' _ _ (hK w' r1 r2 r3)

/-- 'next', at the operation. -/
theorem wpList_next_is {ops : Array Oper} {rest : List Oper} {o : Oper} {a : Act} {Q : Exit → Act → World → Prop} (hg : o.guard = none) (it : Operand) (hop : o.op = Op.next it false)
    (K : KeyE P κ) (mk : β → Value) (hi : ∀ x y, mk x = mk y → x = y) (b r n : Nat) (f : κ → Option β) (todo : κ → Bool) (cnt : Nat) (hit : a.eval it = .pointer (some ⟨r, 0, none⟩)) (h : MapGo K mk w b r n f todo cnt)
    (hDone : (∀ x, K.ok x → todo x = false) → wpList P ops Q rest (a.put o.dst (.tuple #[.bool false])) w)
    (hMore : ∀ (x : κ) (c : β) (w' : World) (cnt' : Nat), K.ok x → todo x = true → f x = some c → MapGo K mk w' b r n f (fun y => todo y && !decide (y = x)) cnt' → cnt' < cnt → w.grownBy w' (some r) → w'.heap.size = w.heap.size →
      (Instr.entry (.pointer (some ⟨r, 0, none⟩))).run P w' = .ok (.tuple #[K.val x, mk c]) w' → wpList P ops Q rest (a.put o.dst (.tuple #[.bool true, K.val x, mk c])) w') :
    wpList P ops Q (o :: rest) a w := by
  obtain ⟨D, left, h1, h2, h3⟩ := h
  refine wpList_next_ranges (α := κ) (β := β) w hg it hop K.ty K.law (shp mk) K.val mk (fun key kl hk => ?_) (fun v y hv => ?_) b r n D left cnt hit h1 (fun _ hl => hDone fun x hx => by rw [← h3 x hx]; exact hl _) ?_
  · obtain ⟨x, _, rfl⟩ := K.inv key kl hk
    exact ⟨x, rfl⟩
  · obtain ⟨c, rfl, _⟩ := shp_inv hv
    exact ⟨c, rfl⟩
  · intro x c kl y w' cnt' hk hl hv hat hrg hlt hgr hsz hen
    obtain ⟨x', hx', e⟩ := K.inv _ _ hk
    have e' := K.inj _ _ e
    subst e'
    have ek : kl = K.lit x := Option.some.inj (hk.symm.trans (K.key x hx'))
    subst ek
    have hf : f x = some c := by
      have hh : Maps.has D (K.lit x) = true := Maps.has_true_of_atKey hat
      rcases h2 x hx' with ⟨_, e3⟩ | ⟨c', e3, _, e4⟩
      · rw [hh] at e3; cases e3
      · obtain ⟨c2, e5, e6⟩ := shp_inv hv
        have e7 : y.1 = .held c' := (hat .nil).symm.trans (e4 .nil)
        rw [e6] at e7
        cases e7
        rw [e3, hi _ _ e5]
    refine hMore x c w' cnt' hx' (by rw [← h3 x hx']; exact hl) hf ⟨D, _, hrg, h2, fun y' hy' => ?_⟩ hlt hgr hsz hen
    by_cases e3 : y' = x
    · subst e3
      simp [WideAt.sameKey_self (K.isKey hy')]
    · have : (K.lit y').sameKey (K.lit x) = false := Maps.sameKey_ne (fun e4 => e3 (K.lit_inj hy' hx' e4))
      rw [this, h3 y' hy']
      simp [e3]
end

end Go.Proofs.Ythlbokfajiahpab

/- Plain facts on the bytes of a number, with no program in them: the groups of seven bits of a number, the lowest first. -/
namespace Go.Proofs.Ythlbokfajiahpab

/-- A byte that more follows: the lowest seven bits of m, and 128. -/
def hiByte (m : Nat) : UInt8 := UInt8.ofNat (m % 128 + 128)
/-- The last byte. -/
def loByte (m : Nat) : UInt8 := UInt8.ofNat m

theorem hiByte_toNat (m : Nat) : (hiByte m).toNat = m % 128 + 128 := by
  rw [hiByte, UInt8.toNat_ofNat']
  omega

theorem loByte_toNat {m : Nat} (h : m < 256) : (loByte m).toNat = m := by
  rw [loByte, UInt8.toNat_ofNat']
  omega

def vtF : Nat → Nat → List UInt8
  | 0, n => [loByte n]
  | f + 1, n => if 127 < n then hiByte n :: vtF f (n / 128) else [loByte n]

def vt (n : Nat) : List UInt8 := vtF n n

theorem vtF_more : ∀ (f g n : Nat), n ≤ f → n ≤ g → vtF f n = vtF g n := by
  intro f
  induction f with
  | zero =>
    intro g n hf hg
    obtain rfl : n = 0 := by omega
    cases g <;> simp [vtF]
  | succ f ih =>
    intro g n hf hg
    cases g with
    | zero => obtain rfl : n = 0 := by omega
              simp [vtF]
    | succ g =>
      simp only [vtF]
      split
      · rw [ih g (n / 128) (by omega) (by omega)]
      · rfl

theorem vt_big {n : Nat} (h : 127 < n) : vt n = hiByte n :: vt (n / 128) := by
  unfold vt
  cases n with
  | zero => omega
  | succ n =>
    rw [vtF, if_pos h, vtF_more n ((n + 1) / 128) ((n + 1) / 128) (by omega) (Nat.le_refl _)]

theorem vt_small {n : Nat} (h : n ≤ 127) : vt n = [loByte n] := by
  unfold vt
  cases n with
  | zero => rfl
  | succ n => rw [vtF, if_neg (by omega)]

theorem vtF_len : ∀ (f n : Nat), (vtF f n).length ≤ f + 1 := by
  intro f
  induction f with
  | zero => intro n; simp [vtF]
  | succ f ih =>
    intro n
    simp only [vtF]
    split
    · simp; exact ih _
    · simp

theorem vt_len (n : Nat) : (vt n).length ≤ n + 1 := vtF_len n n

/-- What has been written and what is still to be written are together what is asked for. -/
theorem vt_step {acc : List UInt8} {m n : Nat} (h : acc ++ vt m = vt n) (hm : 127 < m) : (acc ++ [hiByte m]) ++ vt (m / 128) = vt n := by
  rw [vt_big hm] at h
  simpa using h

theorem vt_end {acc : List UInt8} {m n : Nat} (h : acc ++ vt m = vt n) (hm : m ≤ 127) : acc ++ [loByte m] = vt n := by
  rw [vt_small hm] at h
  exact h

theorem vt_acc {acc : List UInt8} {m n : Nat} (h : acc ++ vt m = vt n) : acc.length ≤ n + 1 := by
  have h1 := congrArg List.length h
  have h2 := vt_len n
  simp at h1
  omega

end Go.Proofs.Ythlbokfajiahpab

/- Plain facts on reading a number in groups of seven bits, with no program in them. -/
namespace Go.Proofs.Ythlbokfajiahpab

/-- The groups from the first byte of a list on, the i-th of them next: the number, and how many bytes there were. -/
def rg : Nat → List UInt8 → Nat → Nat → Option (Nat × Nat)
  | 0, _, _, _ => none
  | _ + 1, [], _, _ => none
  | f + 1, c :: cs, i, n => if c.toNat < 128 then some (n + c.toNat % 128 * 128 ^ i, i + 1) else rg f cs (i + 1) (n + c.toNat % 128 * 128 ^ i)

theorem rg_lo {l : List UInt8} {k i n : Nat} (hi : i < 5) (hlt : k + i < l.length) (hc : l[k + i].toNat < 128) :
    rg (5 - i) (l.drop (k + i)) i n = some (n + l[k + i].toNat % 128 * 128 ^ i, i + 1) := by
  rw [List.drop_eq_getElem_cons hlt, show 5 - i = (4 - i) + 1 by omega, rg, if_pos hc]

theorem rg_hi {l : List UInt8} {k i n : Nat} (hi : i < 5) (hlt : k + i < l.length) (hc : ¬ l[k + i].toNat < 128) :
    rg (5 - i) (l.drop (k + i)) i n = rg (5 - (i + 1)) (l.drop (k + (i + 1))) (i + 1) (n + l[k + i].toNat % 128 * 128 ^ i) := by
  rw [List.drop_eq_getElem_cons hlt, show 5 - i = (4 - i) + 1 by omega, rg, if_neg hc, show 5 - (i + 1) = 4 - i by omega, show k + (i + 1) = k + i + 1 by omega]

theorem rg_out {l : List UInt8} {k i n : Nat} (h : ¬ (i < 5 ∧ k + i < l.length)) : rg (5 - i) (l.drop (k + i)) i n = none := by
  by_cases hi : i < 5
  · have : l.drop (k + i) = [] := by apply List.drop_eq_nil_of_le; omega
    rw [this, show 5 - i = (4 - i) + 1 by omega, rg]
  · rw [show 5 - i = 0 by omega, rg]

theorem rg_bound : ∀ (f : Nat) (l : List UInt8) (i n m c : Nat), rg f l i n = some (m, c) → n < 128 ^ i → m < 128 ^ (i + f) ∧ i < c ∧ c ≤ i + f ∧ c ≤ i + l.length := by
  intro f
  induction f with
  | zero => intro l i n m c h; simp [rg] at h
  | succ f ih =>
    intro l i n m c h hn
    cases l with
    | nil => simp [rg] at h
    | cons b bs =>
      have hb : b.toNat % 128 * 128 ^ i ≤ 127 * 128 ^ i := Nat.mul_le_mul_right _ (by omega)
      have hp : 128 ^ (i + 1) = 128 * 128 ^ i := by rw [Nat.pow_succ, Nat.mul_comm]
      rw [rg] at h
      split at h
      · simp at h
        obtain ⟨rfl, rfl⟩ := h
        have hq : 128 ^ (i + 1) ≤ 128 ^ (i + (f + 1)) := Nat.pow_le_pow_right (by omega) (by omega)
        simp
        omega
      · obtain ⟨h1, h2, h3, h4⟩ := ih bs (i + 1) _ m c h (by omega)
        rw [show i + 1 + f = i + (f + 1) by omega] at h1
        simp
        omega

/-- The number whose bytes stand in l from k on, and the place behind it. -/
def rv (l : List UInt8) (k : Nat) : Option (Nat × Nat) :=
  match rg 5 (l.drop k) 0 0 with
  | some (n, c) => if n ≤ 1000000000 ∧ vt n = (l.drop k).take c then some (n, k + c) else none
  | none => none

theorem rv_none {l : List UInt8} {k : Nat} (h : rg 5 (l.drop k) 0 0 = none) : rv l k = none := by rw [rv, h]
theorem rv_yes {l : List UInt8} {k n c : Nat} (h : rg 5 (l.drop k) 0 0 = some (n, c)) (h1 : n ≤ 1000000000) (h2 : vt n = (l.drop k).take c) : rv l k = some (n, k + c) := by rw [rv, h]; simp [h1, h2]
theorem rv_no {l : List UInt8} {k n c : Nat} (h : rg 5 (l.drop k) 0 0 = some (n, c)) (h1 : ¬ (n ≤ 1000000000 ∧ vt n = (l.drop k).take c)) : rv l k = none := by rw [rv, h]; simp only [if_neg h1]

theorem rv_le {l : List UInt8} {k n b : Nat} (hk : k ≤ l.length) (h : rv l k = some (n, b)) : n ≤ 1000000000 ∧ k < b ∧ b ≤ l.length := by
  unfold rv at h
  split at h
  · rename_i m c hR
    split at h
    · rename_i h2
      simp at h
      obtain ⟨rfl, rfl⟩ := h
      obtain ⟨_, b2, _, b4⟩ := rg_bound 5 _ 0 0 _ _ hR (by decide)
      simp at b4
      omega
    · simp at h
  · simp at h

end Go.Proofs.Ythlbokfajiahpab

/- Plain facts on rows of bytes. -/
namespace Go.Proofs.Ythlbokfajiahpab

theorem extract_data (s : ByteArray) (i j : Nat) : (s.extract i j).data.toList = (s.data.toList.drop i).take (j - i) := by
  obtain ⟨⟨l⟩⟩ := s
  have := ByteArray.extract_mk l i j
  rw [this]

theorem ba_ext {a b : ByteArray} (h : a.data.toList = b.data.toList) : a = b := by
  obtain ⟨⟨a⟩⟩ := a
  obtain ⟨⟨b⟩⟩ := b
  simp at h
  rw [h]

theorem ba_len (s : ByteArray) : s.data.toList.length = s.size := by rw [Array.length_toList]; rfl

theorem ba_append_list (a b : ByteArray) : (a ++ b).data.toList = a.data.toList ++ b.data.toList := by simp

theorem extract_join (s : ByteArray) {i j k : Nat} (h1 : i ≤ j) (h2 : j ≤ k) : s.extract i j ++ s.extract j k = s.extract i k := by
  apply ba_ext
  rw [ba_append_list, extract_data, extract_data, extract_data]
  have e : k - i = (j - i) + (k - j) := by omega
  have e2 : j = i + (j - i) := by omega
  rw [e, List.take_add, List.drop_drop, ← e2]

theorem extract_all (s : ByteArray) : s.extract 0 s.size = s := by
  apply ba_ext
  rw [extract_data, List.drop_zero, Nat.sub_zero, ← ba_len, List.take_length]

theorem ba_nil : (⟨#[]⟩ : ByteArray) = ByteArray.empty := rfl

end Go.Proofs.Ythlbokfajiahpab

/- Plain facts, with no program in them: frames, their texts, and what is read of a text. -/
namespace Go.Proofs.Ythlbokfajiahpab

theorem vt_short : ∀ (k n : Nat), n < 128 ^ (k + 1) → (vt n).length ≤ k + 1 := by
  intro k
  induction k with
  | zero =>
    intro n h
    rw [vt_small (by simpa using Nat.le_of_lt_succ h)]
    simp
  | succ k ih =>
    intro n h
    by_cases hn : n ≤ 127
    · rw [vt_small hn]; simp
    · rw [vt_big (by omega)]
      have := ih (n / 128) (by rw [Nat.pow_succ] at h; omega)
      simpa using this

theorem vt_five {n : Nat} (h : n ≤ 1000000000) : (vt n).length ≤ 5 := vt_short 4 n (by omega)
theorem vt_two {n : Nat} (h : n ≤ 180) : (vt n).length ≤ 2 := vt_short 1 n (by omega)

/-- The bytes of a number. -/
def vtB (n : Nat) : ByteArray := ⟨(vt n).toArray⟩
theorem vtB_size (n : Nat) : (vtB n).size = (vt n).length := by simp [vtB, ByteArray.size]
theorem vtB_list (n : Nat) : (vtB n).data.toList = vt n := by simp [vtB]

structure Fr where
  gen : Int
  seq : Int
  body : ByteArray

def Fr.ok (f : Fr) : Prop := (1 ≤ f.gen ∧ f.gen ≤ 1000000000) ∧ (1 ≤ f.seq ∧ f.seq ≤ 1000000000) ∧ 1 ≤ f.body.size ∧ f.body.size ≤ 180
instance decFrOk (f : Fr) : Decidable f.ok := by unfold Fr.ok; infer_instance

/-- What is sealed of a frame. -/
def Fr.raw (f : Fr) : ByteArray := vtB f.gen.toNat ++ vtB f.seq.toNat ++ (vtB f.body.size ++ f.body)
/-- Its text, of whatever sum. -/
def Fr.text (f : Fr) (four : ByteArray → ByteArray) : ByteArray := f.raw ++ four f.raw

theorem Fr.raw_size {f : Fr} (h : f.ok) : f.raw.size ≤ 192 := by
  obtain ⟨h1, h2, h3, h4⟩ := h
  have a := vt_five (n := f.gen.toNat) (by omega)
  have b := vt_five (n := f.seq.toNat) (by omega)
  have c := vt_two h4
  simp only [Fr.raw, ByteArray.size_append, vtB_size]
  omega

/-- What a number is read from is its bytes. -/
theorem rv_bytes {s : ByteArray} {k n b : Nat} (h : rv s.data.toList k = some (n, b)) (hk : k ≤ s.size) : n ≤ 1000000000 ∧ k < b ∧ b ≤ s.size ∧ s.extract k b = vtB n := by
  have h0 : k ≤ s.data.toList.length := by rw [ba_len]; exact hk
  obtain ⟨h1, h2, h3⟩ := rv_le h0 h
  rw [ba_len] at h3
  refine ⟨h1, h2, h3, ?_⟩
  apply ba_ext
  rw [extract_data, vtB_list]
  unfold rv at h
  split at h
  · split at h
    · rename_i m c hR h4
      simp at h
      obtain ⟨rfl, rfl⟩ := h
      rw [h4.2]
      congr 1
      omega
    · simp at h
  · simp at h

/-- What lies ahead of a frame's sum, and the place behind it. -/
def ru (s : ByteArray) (k : Nat) : Option (Fr × Nat) :=
  match rv s.data.toList k with
  | none => none
  | some (g, a) =>
    match rv s.data.toList a with
    | none => none
    | some (q, b) =>
      match rv s.data.toList b with
      | none => none
      | some (n, c) => if n ≤ 20000 ∧ n + c ≤ s.size then some (⟨g, q, s.extract c (c + n)⟩, c + n) else none

theorem ru_no1 {s : ByteArray} {k : Nat} (h : rv s.data.toList k = none) : ru s k = none := by rw [ru, h]
theorem ru_no2 {s : ByteArray} {k g a : Nat} (h : rv s.data.toList k = some (g, a)) (h2 : rv s.data.toList a = none) : ru s k = none := by rw [ru, h]; simp only [h2]
theorem ru_no3 {s : ByteArray} {k g a q b : Nat} (h : rv s.data.toList k = some (g, a)) (h2 : rv s.data.toList a = some (q, b)) (h3 : rv s.data.toList b = none) : ru s k = none := by rw [ru, h]; simp only [h2, h3]
theorem ru_no4 {s : ByteArray} {k g a q b n c : Nat} (h : rv s.data.toList k = some (g, a)) (h2 : rv s.data.toList a = some (q, b)) (h3 : rv s.data.toList b = some (n, c)) (h4 : ¬ (n ≤ 20000 ∧ n + c ≤ s.size)) : ru s k = none := by rw [ru, h]; simp only [h2, h3, if_neg h4]
theorem ru_yes {s : ByteArray} {k g a q b n c : Nat} (h : rv s.data.toList k = some (g, a)) (h2 : rv s.data.toList a = some (q, b)) (h3 : rv s.data.toList b = some (n, c)) (h4 : n ≤ 20000 ∧ n + c ≤ s.size) : ru s k = some (⟨g, q, s.extract c (c + n)⟩, c + n) := by rw [ru, h]; simp only [h2, h3, if_pos h4]

theorem ru_ways {s : ByteArray} {k e : Nat} {f : Fr} (h : ru s k = some (f, e)) : ∃ g a q b n c : Nat, rv s.data.toList k = some (g, a) ∧ rv s.data.toList a = some (q, b) ∧ rv s.data.toList b = some (n, c) ∧ n ≤ 20000 ∧ n + c ≤ s.size ∧ f = ⟨g, q, s.extract c (c + n)⟩ ∧ e = c + n := by
  unfold ru at h
  split at h
  · simp at h
  · rename_i g a h1
    split at h
    · simp at h
    · rename_i q b h2
      split at h
      · simp at h
      · rename_i n c h3
        split at h
        · rename_i h4
          simp at h
          exact ⟨g, a, q, b, n, c, h1, h2, h3, h4.1, h4.2, h.1.symm, h.2.symm⟩
        · simp at h

theorem ru_raw {s : ByteArray} {k e : Nat} {f : Fr} (h : ru s k = some (f, e)) (hk : k ≤ s.size) : f.raw = s.extract k e ∧ k + 3 ≤ e ∧ e ≤ s.size ∧ (0 ≤ f.gen ∧ f.gen ≤ 1000000000) ∧ (0 ≤ f.seq ∧ f.seq ≤ 1000000000) ∧ f.body.size ≤ 20000 := by
  obtain ⟨g, a, q, b, n, c, h1, h2, h3, h4, h5, rfl, rfl⟩ := ru_ways h
  obtain ⟨g1, g2, g3, g4⟩ := rv_bytes h1 hk
  obtain ⟨q1, q2, q3, q4⟩ := rv_bytes h2 g3
  obtain ⟨n1, n2, n3, n4⟩ := rv_bytes h3 q3
  have hsz : (s.extract c (c + n)).size = n := by rw [ByteArray.size_extract]; omega
  refine ⟨?_, by omega, by omega, by simp only; omega, by simp only; omega, by rw [hsz]; exact h4⟩
  simp only [Fr.raw, hsz, Int.toNat_natCast]
  rw [← g4, ← q4, ← n4, extract_join s (by omega) (by omega), extract_join s (by omega) (by omega), extract_join s (by omega) (by omega)]

/-- The frame whose text stands in s from k on, and the place behind it. -/
def rf (four : ByteArray → ByteArray) (s : ByteArray) (k : Nat) : Option (Fr × Nat) :=
  match ru s k with
  | some (f, e) => if f.ok ∧ e + 4 ≤ s.size ∧ f.text four = s.extract k (e + 4) then some (f, e + 4) else none
  | none => none

variable {four : ByteArray → ByteArray}

theorem rf_none {s : ByteArray} {k : Nat} (h : ru s k = none) : rf four s k = none := by rw [rf, h]
theorem rf_no {s : ByteArray} {k e : Nat} {f : Fr} (h : ru s k = some (f, e)) (h2 : ¬ (f.ok ∧ e + 4 ≤ s.size ∧ f.text four = s.extract k (e + 4))) : rf four s k = none := by rw [rf, h]; simp only [if_neg h2]
theorem rf_yes {s : ByteArray} {k e : Nat} {f : Fr} (h : ru s k = some (f, e)) (h2 : f.ok ∧ e + 4 ≤ s.size ∧ f.text four = s.extract k (e + 4)) : rf four s k = some (f, e + 4) := by rw [rf, h]; simp only [if_pos h2]

theorem rf_some {s : ByteArray} {k e : Nat} {f : Fr} (h : rf four s k = some (f, e)) (hk : k ≤ s.size) : f.ok ∧ k < e ∧ e ≤ s.size ∧ f.text four = s.extract k e := by
  unfold rf at h
  split at h
  · rename_i f' e' hu
    split at h
    · rename_i h2
      simp at h
      obtain ⟨rfl, rfl⟩ := h
      have := (ru_raw hu hk).2.1
      exact ⟨h2.1, by omega, h2.2.1, h2.2.2⟩
    · simp at h
  · simp at h

/-- Frames of a Gen, one behind the other, each with the place behind it. -/
def sqF (four : ByteArray → ByteArray) : Nat → ByteArray → Int → Nat → List (Fr × Nat)
  | 0, _, _, _ => []
  | n + 1, s, g, k =>
    match rf four s k with
    | some (f, e) => if f.gen = g then (f, e) :: sqF four n s g e else []
    | none => []
def sq (four : ByteArray → ByteArray) (s : ByteArray) (g : Int) (k : Nat) : List (Fr × Nat) := sqF four (s.size + 1 - k) s g k

theorem sqF_more : ∀ (n m : Nat) (s : ByteArray) (g : Int) (k : Nat), k ≤ s.size → s.size < n + k → s.size < m + k → sqF four n s g k = sqF four m s g k := by
  intro n
  induction n with
  | zero => intro m s g k h0 h1; omega
  | succ n ih =>
    intro m s g k h0 h1 h2
    cases m with
    | zero => omega
    | succ m =>
      rw [sqF, sqF]
      split
      · rename_i f e hr
        obtain ⟨_, h3, h4, _⟩ := rf_some hr h0
        rw [ih m s g e h4 (by omega) (by omega)]
      · rfl

theorem sq_yes {s : ByteArray} {g : Int} {k e : Nat} {f : Fr} (hk : k ≤ s.size) (h : rf four s k = some (f, e)) (hg : f.gen = g) : sq four s g k = (f, e) :: sq four s g e := by
  obtain ⟨_, h3, h4, _⟩ := rf_some h hk
  rw [sq, show s.size + 1 - k = (s.size - k) + 1 by omega, sqF, h]
  simp only [if_pos hg]
  rw [sq, sqF_more (s.size - k) (s.size + 1 - e) s g e h4 (by omega) (by omega)]
theorem sq_no {s : ByteArray} {g : Int} {k e : Nat} {f : Fr} (h : rf four s k = some (f, e)) (hg : ¬ f.gen = g) : sq four s g k = [] := by
  rw [sq]
  cases s.size + 1 - k with
  | zero => rfl
  | succ n => rw [sqF, h]; simp only [if_neg hg]
theorem sq_none {s : ByteArray} {g : Int} {k : Nat} (h : rf four s k = none) : sq four s g k = [] := by
  rw [sq]
  cases s.size + 1 - k with
  | zero => rfl
  | succ n => rw [sqF, h]

/-- The place behind the last one. -/
def behind : Nat → List (Fr × Nat) → Nat
  | k, [] => k
  | _, x :: l => behind x.2 l

theorem behind_append : ∀ (l m : List (Fr × Nat)) (k : Nat), behind k (l ++ m) = behind (behind k l) m := by
  intro l
  induction l with
  | nil => intro m k; rfl
  | cons x l ih => intro m k; exact ih m x.2
theorem behind_snoc (l : List (Fr × Nat)) (x : Fr × Nat) (k : Nat) : behind k (l ++ [x]) = x.2 := by rw [behind_append]; rfl

/-- Every one of them is right, and short; and there are no more than bytes. -/
theorem sqF_all : ∀ (n : Nat) (s : ByteArray) (g : Int) (k : Nat), k ≤ s.size → (∀ x ∈ sqF four n s g k, x.1.ok ∧ x.2 ≤ s.size) ∧ (sqF four n s g k).length + k ≤ s.size ∧ behind k (sqF four n s g k) ≤ s.size := by
  intro n
  induction n with
  | zero => intro s g k hk; exact ⟨by simp [sqF], by simpa [sqF] using hk, by simpa [sqF, behind] using hk⟩
  | succ n ih =>
    intro s g k hk
    rw [sqF]
    split
    · rename_i f e hr
      obtain ⟨h1, h3, h4, _⟩ := rf_some hr hk
      split
      · obtain ⟨i1, i2, i3⟩ := ih s g e h4
        refine ⟨?_, by simp; omega, i3⟩
        intro x hx
        rcases List.mem_cons.1 hx with rfl | hx
        · exact ⟨h1, h4⟩
        · exact i1 x hx
      · exact ⟨by simp, by simpa using hk, hk⟩
    · exact ⟨by simp, by simpa using hk, hk⟩

theorem sq_all {s : ByteArray} {g : Int} {k : Nat} (hk : k ≤ s.size) : (∀ x ∈ sq four s g k, x.1.ok ∧ x.2 ≤ s.size) ∧ (sq four s g k).length + k ≤ s.size ∧ behind k (sq four s g k) ≤ s.size := sqF_all _ s g k hk

end Go.Proofs.Ythlbokfajiahpab

/- Plain facts on hexadecimal figures, with no program in them. -/
namespace Go.Proofs.Ythlbokfajiahpab

/-- A figure, of a number below 16. -/
def fig (x : Nat) : UInt8 := if x < 10 then UInt8.ofNat (48 + x) else UInt8.ofNat (87 + x)

theorem fig_toNat {x : Nat} (h : x < 16) : (fig x).toNat = if x < 10 then 48 + x else 87 + x := by
  unfold fig
  split <;> (rw [UInt8.toNat_ofNat']; omega)

/-- Two figures for each byte, the higher half first. -/
def hexOf (l : List UInt8) : List UInt8 := l.flatMap fun c => [fig (c.toNat / 16), fig (c.toNat % 16)]

theorem hexOf_length (l : List UInt8) : (hexOf l).length = 2 * l.length := by
  induction l with
  | nil => rfl
  | cons c l ih => simp only [hexOf, List.flatMap_cons, List.length_append, List.length_cons, List.length_nil] at ih ⊢; omega

theorem hexOf_take {l : List UInt8} {k : Nat} (h : k < l.length) : hexOf (l.take (k + 1)) = hexOf (l.take k) ++ [fig (l[k].toNat / 16), fig (l[k].toNat % 16)] := by
  rw [List.take_succ_eq_append_getElem h, hexOf, List.flatMap_append]
  rfl

/-- The figure as it stands in the sixteen figures. -/
theorem figure_at : ∀ x, x < 16 → (⟨#[48, 49, 50, 51, 52, 53, 54, 55, 56, 57, 97, 98, 99, 100, 101, 102]⟩ : ByteArray)[x]? = some (fig x) := by
  decide +kernel

end Go.Proofs.Ythlbokfajiahpab

/- Plain facts on the values of figures, with no program in them. -/
namespace Go.Proofs.Ythlbokfajiahpab

/-- The value of a figure of a base (16: a to f too). -/
def digV (sixteen : Bool) (c : UInt8) : Option Nat :=
  if 48 ≤ c.toNat ∧ c.toNat ≤ 57 then some (c.toNat - 48) else if sixteen = true ∧ 97 ≤ c.toNat ∧ c.toNat ≤ 102 then some (c.toNat - 87) else none

/-- The values of the figures of a text, as far as they are figures. -/
def valsOf (x : Bool) : List UInt8 → List UInt8
  | [] => []
  | c :: cs => match digV x c with
    | some v => UInt8.ofNat v :: valsOf x cs
    | none => []

theorem digV_lt {x : Bool} {c : UInt8} {v : Nat} (h : digV x c = some v) : v < 16 := by
  unfold digV at h
  split at h
  · simp at h; omega
  · split at h
    · simp at h; omega
    · simp at h

theorem valsOf_le (x : Bool) (l : List UInt8) : (valsOf x l).length ≤ l.length := by
  induction l with
  | nil => simp [valsOf]
  | cons c cs ih =>
    unfold valsOf
    split
    · simp; exact ih
    · simp

theorem valsOf_none {x : Bool} : ∀ {l : List UInt8} {k : Nat}, k ≤ (valsOf x l).length → (h : k < l.length) → digV x l[k] = none → (valsOf x l).length = k := by
  intro l
  induction l with
  | nil => intro k _ h; simp at h
  | cons c cs ih =>
    intro k hk h hd
    cases hv : digV x c with
    | none =>
      simp only [valsOf, hv, List.length_nil] at hk ⊢
      omega
    | some v =>
      simp only [valsOf, hv, List.length_cons] at hk ⊢
      cases k with
      | zero => simp [hv] at hd
      | succ k =>
        have := ih (k := k) (by omega) (by simpa using h) (by simpa using hd)
        omega

theorem valsOf_some {x : Bool} : ∀ {l : List UInt8} {k v : Nat}, k ≤ (valsOf x l).length → (h : k < l.length) → digV x l[k] = some v → (valsOf x l)[k]? = some (UInt8.ofNat v) := by
  intro l
  induction l with
  | nil => intro k _ _ h; simp at h
  | cons c cs ih =>
    intro k w hk h hd
    cases hv : digV x c with
    | none =>
      simp only [valsOf, hv, List.length_nil] at hk
      obtain rfl : k = 0 := by omega
      simp [hv] at hd
    | some v =>
      simp only [valsOf, hv, List.length_cons] at hk ⊢
      cases k with
      | zero => simp [hv] at hd; simp [hd]
      | succ k =>
        have := ih (k := k) (v := w) (by omega) (by simpa using h) (by simpa using hd)
        simpa using this

theorem valsOf_lt16 {x : Bool} : ∀ {l : List UInt8} {c : UInt8}, c ∈ valsOf x l → c.toNat < 16 := by
  intro l
  induction l with
  | nil => intro c h; simp [valsOf] at h
  | cons a cs ih =>
    intro c h
    unfold valsOf at h
    split at h
    · rename_i v hv
      rcases List.mem_cons.1 h with rfl | h
      · have := digV_lt hv
        rw [UInt8.toNat_ofNat']; omega
      · exact ih h
    · simp at h

theorem take_next {l : List UInt8} {k : Nat} {v : UInt8} (h : l[k]? = some v) : l.take (k + 1) = l.take k ++ [v] := by
  rw [List.take_add_one, h]; rfl

/-- Two values to a byte. -/
def pairsOf : List UInt8 → List UInt8
  | a :: b :: r => UInt8.ofNat (16 * a.toNat + b.toNat) :: pairsOf r
  | _ => []

theorem pairsOf_append : ∀ (j : Nat) (l : List UInt8) (a b : UInt8), l.length = 2 * j → pairsOf (l ++ [a, b]) = pairsOf l ++ [UInt8.ofNat (16 * a.toNat + b.toNat)] := by
  intro j
  induction j with
  | zero => intro l a b h; obtain rfl := List.length_eq_zero_iff.1 h; rfl
  | succ j ih =>
    intro l a b h
    match l, h with
    | x :: y :: r, h =>
      have := ih r a b (by simp at h; omega)
      simp only [List.cons_append, pairsOf, this]

theorem pairsOf_length : ∀ (j : Nat) (l : List UInt8), l.length = 2 * j → (pairsOf l).length = j := by
  intro j
  induction j with
  | zero => intro l h; obtain rfl := List.length_eq_zero_iff.1 h; rfl
  | succ j ih =>
    intro l h
    match l, h with
    | x :: y :: r, h =>
      have := ih r (by simp at h; omega)
      simp only [pairsOf, List.length_cons, this]

theorem pairs_next {l : List UInt8} {j : Nat} {a b : UInt8} (h1 : l[2 * j]? = some a) (h2 : l[2 * j + 1]? = some b) :
    pairsOf (l.take (2 * (j + 1))) = pairsOf (l.take (2 * j)) ++ [UInt8.ofNat (16 * a.toNat + b.toNat)] := by
  have hl : 2 * j + 1 < l.length := (List.getElem?_eq_some_iff.1 h2).1
  rw [show 2 * (j + 1) = 2 * j + 1 + 1 by omega, take_next h2, take_next h1, List.append_assoc]
  exact pairsOf_append j _ _ _ (by simp; omega)

theorem pair_toNat {a b : Nat} (ha : a < 16) (hb : b < 16) : (UInt8.ofNat (16 * a + b)).toNat = 16 * a + b := by
  rw [UInt8.toNat_ofNat']; omega

theorem shl_or (a b : Nat) (ha : a < 16) (hb : b < 16) : bits .or .u8 ((a : Int) * 16) (b : Int) = ((16 * a + b : Nat) : Int) := by
  have e : (a : Int) * 16 = ((16 * a : Nat) : Int) := by omega
  rw [e, u8_or_nat (16 * a) b (by omega) (by omega)]
  have := Nat.shiftLeft_add_eq_or_of_lt (i := 4) (b := b) (by omega) a
  rw [Nat.shiftLeft_eq, show a * 2 ^ 4 = 16 * a by omega] at this
  rw [this]

/-- The value of a figure as a number, -1 of what is none. -/
def valN (c : Nat) : Int := if 48 ≤ c ∧ c ≤ 57 then (c : Int) - 48 else if 97 ≤ c ∧ c ≤ 102 then (c : Int) - 87 else -1

theorem valN_some {c : UInt8} {v : Nat} (h : digV true c = some v) : valN c.toNat = (v : Int) := by
  unfold digV at h
  unfold valN
  split at h
  · rename_i h1
    simp at h
    rw [if_pos h1]; omega
  · rename_i h1
    split at h
    · rename_i h2
      simp at h
      rw [if_neg h1, if_pos h2.2]; omega
    · simp at h

theorem valN_none {c : UInt8} (h : digV true c = none) : valN c.toNat = -1 := by
  unfold digV at h
  unfold valN
  split at h
  · simp at h
  · rename_i h1
    split at h
    · simp at h
    · rename_i h2
      rw [if_neg h1, if_neg (fun h3 => h2 ⟨rfl, h3⟩)]

/-- Whether a text is the figures of some bytes. -/
abbrev isHex (l : List UInt8) : Prop := l.length ≤ 40000 ∧ l.length % 2 = 0 ∧ (valsOf true l).length = l.length

theorem digV_dec {x : Bool} {c : UInt8} (h1 : 48 ≤ c.toNat) (h2 : c.toNat ≤ 57) : digV x c = some (c.toNat - 48) := by rw [digV, if_pos ⟨h1, h2⟩]
theorem digV_hex {c : UInt8} (h1 : 97 ≤ c.toNat) (h2 : c.toNat ≤ 102) : digV true c = some (c.toNat - 87) := by
  rw [digV, if_neg (by omega), if_pos ⟨rfl, h1, h2⟩]
theorem digV_bad {x : Bool} {c : UInt8} (h1 : ¬ (48 ≤ c.toNat ∧ c.toNat ≤ 57)) (h2 : ¬ (x = true ∧ 97 ≤ c.toNat ∧ c.toNat ≤ 102)) : digV x c = none := by
  rw [digV, if_neg h1, if_neg h2]

end Go.Proofs.Ythlbokfajiahpab
