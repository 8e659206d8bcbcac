/- Texts of our own, joined. -/
import Derived.Test.YtahebgceoidebaaGreatJb
import Derived.Maps.AppendAt
import Derived.Test.YtahebgceoidebaaGreatJd
import Derived.Deep.QuietTactic
import Derived.BigQuiet
import Derived.Deep.RegionHeld3
import Derived.Test.YtahebgceoidebaaGreatJc
/- What a list of texts is that a call builds in memory of its own, and the laws by which it grows, is read and is written. -/
namespace Go.Proofs.YtahebgceoidebaaGreat
open Go.RowKit

theorem Tryz.info_str : (Tryz.prog.info? 9).map (fun i => (i.zero, i.size, i.bytes)) = some (some (.string ⟨#[]⟩), 1, 16) := by kernel_rfl

def strV (l : List ByteArray) : List Value := l.map fun c => .string c
theorem strV_length (l : List ByteArray) : (strV l).length = l.length := by simp [strV]

/-- The slice v holds the texts l in memory that the call made itself (blocks from B on); below B all is as it was in w0. -/
structure SBuf (B : Nat) (w0 w : World) (v : Value) (l : List ByteArray) : Prop where
  own : w.ownsRow B 9 1 v l.length (strV l)
  bel : Below B w0 w
  le : B ≤ w.heap.size

theorem SBuf.alloc {B : Nat} {w0 w : World} {v : Value} {l : List ByteArray} (h : SBuf B w0 w v l) (o : Obj) : SBuf B w0 (w.alloc o) v l :=
  ⟨h.own.alloc o, h.bel.alloc h.le o, by have := h.le; simp; omega⟩
theorem SBuf.drew {B : Nat} {w0 w : World} {v : Value} {l : List ByteArray} (h : SBuf B w0 w v l) : SBuf B w0 w.drew v l :=
  ⟨h.own.drew, h.bel.drew, h.le⟩
theorem SBuf.fresh (w : World) : SBuf w.heap.size w (w.alloc (.cells #[] 9)) (.slice (some ⟨w.heap.size, 0, none⟩) 0 0) [] :=
  ⟨World.ownsRow_made w #[] 0 (Nat.le_refl _) (by decide) rfl, (Below.refl _ _).alloc (Nat.le_refl _) _, by simp⟩

/-- What is laid behind the heap's end, and nothing else, leaves the texts where they are. -/
theorem SBuf.later {B : Nat} {w0 w w' : World} {v : Value} {l : List ByteArray} (h : SBuf B w0 w v l) (hb : Below w.heap.size w w') : SBuf B w0 w' v l := by
  have hg : w.grownBy w' none := ⟨hb.os, hb.tape, hb.output, hb.size, fun k hk _ => hb.block k hk⟩
  refine ⟨h.own.kept hg ?_, h.bel.trans (hb.mono h.le), Nat.le_trans h.le hb.size⟩
  cases hv : v.ownBlock with
  | none => exact .inl rfl
  | some k => exact .inr (by simp)

theorem wpList_append_str {w0 w : World} {ops : Array Oper} {rest : List Oper} {o : Oper} {a : Act} {Q : Exit → Act → World → Prop} (hgd : o.guard = none) (s x : Operand)
    (ho : o.op = .call { callee := .builtin .append, args := #[s, x], argTypes := #[110, 110] })
    (B : Nat) (v : Value) (l : List ByteArray) (hs : a.eval s = v) (hb : SBuf B w0 w v l)
    (ad : Addr) (t : ByteArray) (hx : a.eval x = .slice (some ad) 1 1)
    (hnews : ∀ j u, [Value.string t][j]? = some u → w.cell? (ad.add j) = some u)
    (hlen : l.length + 1 ≤ 8796093022208)
    (h : ∀ v' w', SBuf B w0 w' v' (l ++ [t]) → wpList Tryz.prog ops Q rest (a.put o.dst v') w') : wpList Tryz.prog ops Q (o :: rest) a w := by
  obtain ⟨i0, hi, hz0, hz1, hz2⟩ := info_parts Tryz.info_str
  refine wpList_append_own _ hgd s x 110 ho B 9 i0 (.string ⟨#[]⟩) 1 16 Tryz.underlying110 hi hz0 hz1 hz2 rfl (by decide) v l.length (strV l) hs hb.own ad 1 1 [.string t] hx (by simp) hnews ?_ (by unfold maxLen; omega) (by omega) hb.le ?_
  · intro u hu
    simp at hu
    subst hu
    rfl
  · intro v' w' hown hgrow _
    refine h v' w' ⟨?_, hb.bel.grown hgrow hb.le (fun k hk => (hb.own.lt k hk).1), Nat.le_trans hb.le hgrow.size⟩
    have e1 : (l ++ [t]).length = l.length + 1 := by simp
    have e2 : strV (l ++ [t]) = strV l ++ [.string t] := by simp [strV]
    rw [e1, e2]
    exact hown

theorem SBuf.form {B : Nat} {w0 w : World} {v : Value} {l : List ByteArray} (h : SBuf B w0 w v l) : ∃ (a : Option Addr) (cap : Nat), v = .slice a l.length cap := by
  rcases h.own.2 with ⟨rfl, h0⟩ | ⟨g, cap, cur, rfl, _⟩
  · exact ⟨none, 0, by rw [h0]⟩
  · exact ⟨_, _, rfl⟩

/-- Texts that can be read: each in its cell of a row; nothing where there is none. -/
def Strs (w : World) (v : Value) (l : List ByteArray) : Prop :=
  (l = [] ∧ ∃ (a : Option Addr) (cap : Nat), v = .slice a 0 cap) ∨
  ∃ g cap : Nat, v = .slice (some ⟨g, 0, none⟩) l.length cap ∧ l.length ≤ cap ∧ g < w.heap.size ∧ ∀ j b, l[j]? = some b → w.cell? ⟨g, j, none⟩ = some (.string b)

theorem SBuf.strs {B : Nat} {w0 w : World} {v : Value} {l : List ByteArray} (h : SBuf B w0 w v l) : Strs w v l := by
  rcases h.own.2 with ⟨rfl, h0⟩ | ⟨g, cap, cur, rfl, hg, hh, hnc, hcp, hcs, htake⟩
  · exact .inl ⟨List.length_eq_zero_iff.1 h0, _, _, rfl⟩
  · refine .inr ⟨g, cap, rfl, hnc, (h.own.lt g rfl).2, fun j b hj => ?_⟩
    have hlt : j < l.length := (List.getElem?_eq_some_iff.1 hj).1
    rw [h.own.cellAt j (by omega)]
    simp [strV, hj]

theorem Strs.later {w w' : World} {v : Value} {l : List ByteArray} (h : Strs w v l) (hb : Below w.heap.size w w') : Strs w' v l := by
  rcases h with h | ⟨g, cap, hv, hc, hg, hcl⟩
  · exact .inl h
  · exact .inr ⟨g, cap, hv, hc, Nat.lt_of_lt_of_le hg hb.size, fun j b hj => (hb.cell (p := ⟨g, j, none⟩) hg).trans (hcl j b hj)⟩

/-- A store into the row. -/
theorem SBuf.stored {B : Nat} {w0 w : World} {g cap : Nat} {l : List ByteArray} (h : SBuf B w0 w (.slice (some ⟨g, 0, none⟩) l.length cap) l) (j : Nat) (t : ByteArray) :
    SBuf B w0 (w.setCell ⟨g, j, none⟩ (.string t)) (.slice (some ⟨g, 0, none⟩) l.length cap) (l.set j t) := by
  have hst := h.own.stored j (.string t)
  have e : strV (l.set j t) = (strV l).set j (.string t) := by simp [strV, List.map_set]
  refine ⟨?_, h.bel.setCell (h.own.lt g rfl).1 _, by have := h.le; simpa using this⟩
  have hl : (l.set j t).length = l.length := by simp
  rw [hl, e]
  exact hst.1

theorem SBuf.under {w0 w1 w : World} {v : Value} {l : List ByteArray} (hb : Below w0.heap.size w0 w1) (h : SBuf w1.heap.size w1 w v l) : SBuf w0.heap.size w0 w v l := by
  refine ⟨⟨h.own.1, ?_⟩, hb.trans (h.bel.mono hb.size), Nat.le_trans hb.size h.le⟩
  rcases h.own.2 with h1 | ⟨g, cap, cur, h1, h2, h3⟩
  · exact .inl h1
  · exact .inr ⟨g, cap, cur, h1, Nat.le_trans hb.size h2, h3⟩

end Go.Proofs.YtahebgceoidebaaGreat

/- The marks by which a law tells whose memory a list of texts is: what laws.markText, eqStringS, markStringS and heldStringS hand back. -/
namespace Go.Proofs.YtahebgceoidebaaGreat
open Go.RowKit

/-- The k-th mark. -/
def mark (k : Nat) : ByteArray := ⟨(109 :: digs k).toArray⟩

theorem Strs.ways {w : World} {v : Value} {l : List ByteArray} (h : Strs w v l) : (l = [] ∧ ∃ (a : Option Addr) (cap : Nat), v = .slice a 0 cap) ∨
    (l ≠ [] ∧ ∃ g cap : Nat, v = .slice (some ⟨g, 0, none⟩) l.length cap ∧ l.length ≤ cap ∧ g < w.heap.size ∧ ∀ j b, l[j]? = some b → w.cell? ⟨g, j, none⟩ = some (.string b)) := by
  by_cases hl : l = []
  · subst hl
    rcases h with h | ⟨g, cap, hv, _⟩
    · exact .inl h
    · exact .inl ⟨rfl, _, _, hv⟩
  · rcases h with ⟨h, _⟩ | h
    · exact absurd h hl
    · exact .inr ⟨hl, h⟩

end Go.Proofs.YtahebgceoidebaaGreat

/- A list of texts marked and looked at again: what laws.markStringS and laws.heldStringS hand back. -/
namespace Go.Proofs.YtahebgceoidebaaGreat
open Go.RowKit

/-- The first i texts of l marked, from the k-th mark on. -/
def markTo (k : Nat) (l : List ByteArray) (i : Nat) : List ByteArray := (List.range i).map (fun j => mark (k + j)) ++ l.drop i

theorem markTo_length {k i : Nat} {l : List ByteArray} (h : i ≤ l.length) : (markTo k l i).length = l.length := by
  simp [markTo]; omega

theorem markTo_set {k i : Nat} {l : List ByteArray} (h : i < l.length) : (markTo k l i).set i (mark (k + i)) = markTo k l (i + 1) := by
  unfold markTo
  rw [List.set_append_right _ _ (by simp)]
  simp only [List.length_map, List.length_range, Nat.sub_self]
  rw [List.drop_eq_getElem_cons h, List.set_cons_zero, List.range_succ, List.map_append, List.append_assoc]
  rfl

theorem markTo_zero (k : Nat) (l : List ByteArray) : markTo k l 0 = l := by simp [markTo]

/-- All marked. -/
def marksOf (k n : Nat) : List ByteArray := (List.range n).map (fun j => mark (k + j))
theorem markTo_all (k : Nat) (l : List ByteArray) : markTo k l l.length = marksOf k l.length := by simp [markTo, marksOf]
theorem marksOf_length (k n : Nat) : (marksOf k n).length = n := by simp [marksOf]
theorem marksOf_at {k n i : Nat} (h : i < n) : (marksOf k n)[i]? = some (mark (k + i)) := by simp [marksOf, h]

end Go.Proofs.YtahebgceoidebaaGreat

/- Lists copied element by element. -/
namespace Go.Proofs.YtahebgceoidebaaGreat
open Go.RowKit

/-- The first i elements of l, then nothing yet. -/
def copyTo {α : Type} (z : α) (l : List α) (i : Nat) : List α := l.take i ++ List.replicate (l.length - i) z
theorem copyTo_length {α : Type} {z : α} {l : List α} {i : Nat} (h : i ≤ l.length) : (copyTo z l i).length = l.length := by simp [copyTo]; omega
theorem copyTo_zero {α : Type} (z : α) (l : List α) : copyTo z l 0 = List.replicate l.length z := by simp [copyTo]
theorem copyTo_all {α : Type} {z : α} {l : List α} {i : Nat} (h : l.length ≤ i) : copyTo z l i = l := by
  rw [copyTo, List.take_of_length_le h, show l.length - i = 0 by omega]; simp
theorem copyTo_at {α : Type} {z : α} {l : List α} {i : Nat} (h : i < l.length) : (copyTo z l i)[i]? = some z := by
  have hm : (l.take i).length = i := by simp; omega
  rw [copyTo, List.getElem?_append_right (by omega), hm, Nat.sub_self, List.getElem?_replicate, if_pos (by omega)]
theorem copyTo_set {α : Type} {z : α} {l : List α} {i : Nat} (h : i < l.length) : (copyTo z l i).set i l[i] = copyTo z l (i + 1) := by
  have hm : (l.take i).length = i := by simp; omega
  rw [copyTo, List.set_append_right _ _ (by omega), hm, Nat.sub_self, copyTo, List.take_succ_eq_append_getElem h, List.append_assoc]
  have : l.length - i = (l.length - (i + 1)) + 1 := by omega
  rw [this, List.replicate_succ]
  rfl

theorem Rows'.at {α : Type} {E : Enc α} {w : World} {a : Option Addr} {cap : Nat} {l : List α} (h : Rows' E w (.slice a l.length cap) l) (i : Nat) (hi : i < l.length) :
    ∃ g off : Nat, a = some ⟨g, off, none⟩ ∧ ∀ w', Below w.heap.size w w' → ∀ k u, (E.f l[i])[k]? = some u → w'.cell? ⟨g, off + i * E.sz + k, none⟩ = some u := by
  rcases h.ways with ⟨h0, _⟩ | ⟨_, g, off, c, hv, hc, hg, hcl⟩
  · rw [h0] at hi; simp at hi
  · simp only [Value.slice.injEq] at hv
    exact ⟨g, off, hv.1, fun w' hb k u hu => (hb.cell (p := ⟨g, off + i * E.sz + k, none⟩) hg).trans (hcl i _ (List.getElem?_eq_getElem hi) k u hu)⟩

end Go.Proofs.YtahebgceoidebaaGreat

/- Lists of items that come in: how great they are, copies of them, and that two alike are alike; items marked. -/
namespace Go.Proofs.YtahebgceoidebaaGreat
open Go.RowKit



/-- A whole item is stored. -/
theorem RBuf.put9 {B : Nat} {w0 w : World} {g cap : Nat} {l : List Itm} (h : RBuf itE B w0 w (.slice (some ⟨g, 0, none⟩) l.length cap) l) (i : Nat) (x : Itm) (hi : l[i]? = some x) (y : Itm) :
    RBuf itE B w0 (((((((((w.setCell ⟨g, i * 9, none⟩ (.int .i64 y.1)).setCell ⟨g, i * 9 + 1, none⟩ (.int .i64 y.2.kind)).setCell ⟨g, i * 9 + 2, none⟩ (.int .i64 y.2.valid)).setCell ⟨g, i * 9 + 3, none⟩ (.int .i64 y.2.uid)).setCell ⟨g, i * 9 + 4, none⟩ (.int .i64 y.2.next)).setCell ⟨g, i * 9 + 5, none⟩ (.int .i64 y.2.flags)).setCell ⟨g, i * 9 + 6, none⟩ (.string y.2.user)).setCell ⟨g, i * 9 + 7, none⟩ (.string y.2.name)).setCell ⟨g, i * 9 + 8, none⟩ (.string y.2.text)) (.slice (some ⟨g, 0, none⟩) l.length cap) (l.set i y) := by
  have hlt : i < l.length := (List.getElem?_eq_some_iff.1 hi).1
  have hl1 : ∀ z : Itm, (l.set i z).length = l.length := fun z => by simp
  have ha1 : ∀ z : Itm, (l.set i z)[i]? = some z := fun z => List.getElem?_set_self hlt
  have s0 : RBuf itE B w0 (w.setCell ⟨g, i * 9, none⟩ (.int .i64 y.1)) (.slice (some ⟨g, 0, none⟩) l.length cap) (l.set i (y.1, ⟨x.2.kind, x.2.valid, x.2.uid, x.2.next, x.2.flags, x.2.user, x.2.name, x.2.text⟩)) := h.stored i _ (y.1, ⟨x.2.kind, x.2.valid, x.2.uid, x.2.next, x.2.flags, x.2.user, x.2.name, x.2.text⟩) hi 0 (by decide) (.int .i64 y.1) rfl
  rw [← hl1 (y.1, ⟨x.2.kind, x.2.valid, x.2.uid, x.2.next, x.2.flags, x.2.user, x.2.name, x.2.text⟩)] at s0
  have s1 := s0.stored i _ (y.1, ⟨y.2.kind, x.2.valid, x.2.uid, x.2.next, x.2.flags, x.2.user, x.2.name, x.2.text⟩) (ha1 _) 1 (by decide) (.int .i64 y.2.kind) rfl
  rw [List.set_set, hl1] at s1
  rw [← hl1 (y.1, ⟨y.2.kind, x.2.valid, x.2.uid, x.2.next, x.2.flags, x.2.user, x.2.name, x.2.text⟩)] at s1
  have s2 := s1.stored i _ (y.1, ⟨y.2.kind, y.2.valid, x.2.uid, x.2.next, x.2.flags, x.2.user, x.2.name, x.2.text⟩) (ha1 _) 2 (by decide) (.int .i64 y.2.valid) rfl
  rw [List.set_set, hl1] at s2
  rw [← hl1 (y.1, ⟨y.2.kind, y.2.valid, x.2.uid, x.2.next, x.2.flags, x.2.user, x.2.name, x.2.text⟩)] at s2
  have s3 := s2.stored i _ (y.1, ⟨y.2.kind, y.2.valid, y.2.uid, x.2.next, x.2.flags, x.2.user, x.2.name, x.2.text⟩) (ha1 _) 3 (by decide) (.int .i64 y.2.uid) rfl
  rw [List.set_set, hl1] at s3
  rw [← hl1 (y.1, ⟨y.2.kind, y.2.valid, y.2.uid, x.2.next, x.2.flags, x.2.user, x.2.name, x.2.text⟩)] at s3
  have s4 := s3.stored i _ (y.1, ⟨y.2.kind, y.2.valid, y.2.uid, y.2.next, x.2.flags, x.2.user, x.2.name, x.2.text⟩) (ha1 _) 4 (by decide) (.int .i64 y.2.next) rfl
  rw [List.set_set, hl1] at s4
  rw [← hl1 (y.1, ⟨y.2.kind, y.2.valid, y.2.uid, y.2.next, x.2.flags, x.2.user, x.2.name, x.2.text⟩)] at s4
  have s5 := s4.stored i _ (y.1, ⟨y.2.kind, y.2.valid, y.2.uid, y.2.next, y.2.flags, x.2.user, x.2.name, x.2.text⟩) (ha1 _) 5 (by decide) (.int .i64 y.2.flags) rfl
  rw [List.set_set, hl1] at s5
  rw [← hl1 (y.1, ⟨y.2.kind, y.2.valid, y.2.uid, y.2.next, y.2.flags, x.2.user, x.2.name, x.2.text⟩)] at s5
  have s6 := s5.stored i _ (y.1, ⟨y.2.kind, y.2.valid, y.2.uid, y.2.next, y.2.flags, y.2.user, x.2.name, x.2.text⟩) (ha1 _) 6 (by decide) (.string y.2.user) rfl
  rw [List.set_set, hl1] at s6
  rw [← hl1 (y.1, ⟨y.2.kind, y.2.valid, y.2.uid, y.2.next, y.2.flags, y.2.user, x.2.name, x.2.text⟩)] at s6
  have s7 := s6.stored i _ (y.1, ⟨y.2.kind, y.2.valid, y.2.uid, y.2.next, y.2.flags, y.2.user, y.2.name, x.2.text⟩) (ha1 _) 7 (by decide) (.string y.2.name) rfl
  rw [List.set_set, hl1] at s7
  rw [← hl1 (y.1, ⟨y.2.kind, y.2.valid, y.2.uid, y.2.next, y.2.flags, y.2.user, y.2.name, x.2.text⟩)] at s7
  have s8 := s7.stored i _ (y.1, ⟨y.2.kind, y.2.valid, y.2.uid, y.2.next, y.2.flags, y.2.user, y.2.name, y.2.text⟩) (ha1 _) 8 (by decide) (.string y.2.text) rfl
  rw [List.set_set, hl1] at s8
  exact s8



/-- Items of whatever make in a row of the call's own. -/
def RItm (B : Nat) (X : World) (g n cap : Nat) : Prop := ∃ l : List Itm, l.length = n ∧ RBuf itE B X X (.slice (some ⟨g, 0, none⟩) n cap) l
theorem RItm.later {B : Nat} {X Y : World} {g n cap : Nat} (h : RItm B X g n cap) (hb : Below X.heap.size X Y) : RItm B Y g n cap := by
  obtain ⟨l, h1, h2⟩ := h
  exact ⟨l, h1, (h2.later hb).here⟩
theorem RItm.at0 {B : Nat} {X : World} {g n cap : Nat} (h : RItm B X g n cap) {i : Nat} (hi : i < n) : (∃ z : Int, X.cell? ⟨g, i * 9, none⟩ = some (.int .i64 z)) ∧ X.frozen? ⟨g, i * 9, none⟩ = false ∧ ∀ z : Int, RItm B (X.setCell ⟨g, i * 9, none⟩ (.int .i64 z)) g n cap := by
  obtain ⟨l, rfl, h2⟩ := h
  have hx : l[i]? = some l[i] := List.getElem?_eq_getElem hi
  generalize l[i] = x at hx
  exact ⟨⟨_, h2.cell rfl i x hx 0 _ rfl⟩, h2.loose _, fun z => ⟨l.set i (z, ⟨x.2.kind, x.2.valid, x.2.uid, x.2.next, x.2.flags, x.2.user, x.2.name, x.2.text⟩), by simp, (h2.stored i x (z, ⟨x.2.kind, x.2.valid, x.2.uid, x.2.next, x.2.flags, x.2.user, x.2.name, x.2.text⟩) hx 0 (by decide) (.int .i64 z) rfl).here⟩⟩
theorem RItm.at1 {B : Nat} {X : World} {g n cap : Nat} (h : RItm B X g n cap) {i : Nat} (hi : i < n) : (∃ z : Int, X.cell? ⟨g, i * 9 + 1, none⟩ = some (.int .i64 z)) ∧ X.frozen? ⟨g, i * 9 + 1, none⟩ = false ∧ ∀ z : Int, RItm B (X.setCell ⟨g, i * 9 + 1, none⟩ (.int .i64 z)) g n cap := by
  obtain ⟨l, rfl, h2⟩ := h
  have hx : l[i]? = some l[i] := List.getElem?_eq_getElem hi
  generalize l[i] = x at hx
  exact ⟨⟨_, h2.cell rfl i x hx 1 _ rfl⟩, h2.loose _, fun z => ⟨l.set i (x.1, ⟨z, x.2.valid, x.2.uid, x.2.next, x.2.flags, x.2.user, x.2.name, x.2.text⟩), by simp, (h2.stored i x (x.1, ⟨z, x.2.valid, x.2.uid, x.2.next, x.2.flags, x.2.user, x.2.name, x.2.text⟩) hx 1 (by decide) (.int .i64 z) rfl).here⟩⟩
theorem RItm.at2 {B : Nat} {X : World} {g n cap : Nat} (h : RItm B X g n cap) {i : Nat} (hi : i < n) : (∃ z : Int, X.cell? ⟨g, i * 9 + 2, none⟩ = some (.int .i64 z)) ∧ X.frozen? ⟨g, i * 9 + 2, none⟩ = false ∧ ∀ z : Int, RItm B (X.setCell ⟨g, i * 9 + 2, none⟩ (.int .i64 z)) g n cap := by
  obtain ⟨l, rfl, h2⟩ := h
  have hx : l[i]? = some l[i] := List.getElem?_eq_getElem hi
  generalize l[i] = x at hx
  exact ⟨⟨_, h2.cell rfl i x hx 2 _ rfl⟩, h2.loose _, fun z => ⟨l.set i (x.1, ⟨x.2.kind, z, x.2.uid, x.2.next, x.2.flags, x.2.user, x.2.name, x.2.text⟩), by simp, (h2.stored i x (x.1, ⟨x.2.kind, z, x.2.uid, x.2.next, x.2.flags, x.2.user, x.2.name, x.2.text⟩) hx 2 (by decide) (.int .i64 z) rfl).here⟩⟩
theorem RItm.at3 {B : Nat} {X : World} {g n cap : Nat} (h : RItm B X g n cap) {i : Nat} (hi : i < n) : (∃ z : Int, X.cell? ⟨g, i * 9 + 3, none⟩ = some (.int .i64 z)) ∧ X.frozen? ⟨g, i * 9 + 3, none⟩ = false ∧ ∀ z : Int, RItm B (X.setCell ⟨g, i * 9 + 3, none⟩ (.int .i64 z)) g n cap := by
  obtain ⟨l, rfl, h2⟩ := h
  have hx : l[i]? = some l[i] := List.getElem?_eq_getElem hi
  generalize l[i] = x at hx
  exact ⟨⟨_, h2.cell rfl i x hx 3 _ rfl⟩, h2.loose _, fun z => ⟨l.set i (x.1, ⟨x.2.kind, x.2.valid, z, x.2.next, x.2.flags, x.2.user, x.2.name, x.2.text⟩), by simp, (h2.stored i x (x.1, ⟨x.2.kind, x.2.valid, z, x.2.next, x.2.flags, x.2.user, x.2.name, x.2.text⟩) hx 3 (by decide) (.int .i64 z) rfl).here⟩⟩
theorem RItm.at4 {B : Nat} {X : World} {g n cap : Nat} (h : RItm B X g n cap) {i : Nat} (hi : i < n) : (∃ z : Int, X.cell? ⟨g, i * 9 + 4, none⟩ = some (.int .i64 z)) ∧ X.frozen? ⟨g, i * 9 + 4, none⟩ = false ∧ ∀ z : Int, RItm B (X.setCell ⟨g, i * 9 + 4, none⟩ (.int .i64 z)) g n cap := by
  obtain ⟨l, rfl, h2⟩ := h
  have hx : l[i]? = some l[i] := List.getElem?_eq_getElem hi
  generalize l[i] = x at hx
  exact ⟨⟨_, h2.cell rfl i x hx 4 _ rfl⟩, h2.loose _, fun z => ⟨l.set i (x.1, ⟨x.2.kind, x.2.valid, x.2.uid, z, x.2.flags, x.2.user, x.2.name, x.2.text⟩), by simp, (h2.stored i x (x.1, ⟨x.2.kind, x.2.valid, x.2.uid, z, x.2.flags, x.2.user, x.2.name, x.2.text⟩) hx 4 (by decide) (.int .i64 z) rfl).here⟩⟩
theorem RItm.at5 {B : Nat} {X : World} {g n cap : Nat} (h : RItm B X g n cap) {i : Nat} (hi : i < n) : (∃ z : Int, X.cell? ⟨g, i * 9 + 5, none⟩ = some (.int .i64 z)) ∧ X.frozen? ⟨g, i * 9 + 5, none⟩ = false ∧ ∀ z : Int, RItm B (X.setCell ⟨g, i * 9 + 5, none⟩ (.int .i64 z)) g n cap := by
  obtain ⟨l, rfl, h2⟩ := h
  have hx : l[i]? = some l[i] := List.getElem?_eq_getElem hi
  generalize l[i] = x at hx
  exact ⟨⟨_, h2.cell rfl i x hx 5 _ rfl⟩, h2.loose _, fun z => ⟨l.set i (x.1, ⟨x.2.kind, x.2.valid, x.2.uid, x.2.next, z, x.2.user, x.2.name, x.2.text⟩), by simp, (h2.stored i x (x.1, ⟨x.2.kind, x.2.valid, x.2.uid, x.2.next, z, x.2.user, x.2.name, x.2.text⟩) hx 5 (by decide) (.int .i64 z) rfl).here⟩⟩
theorem RItm.at6 {B : Nat} {X : World} {g n cap : Nat} (h : RItm B X g n cap) {i : Nat} (hi : i < n) : (∃ z : ByteArray, X.cell? ⟨g, i * 9 + 6, none⟩ = some (.string z)) ∧ X.frozen? ⟨g, i * 9 + 6, none⟩ = false ∧ ∀ z : ByteArray, RItm B (X.setCell ⟨g, i * 9 + 6, none⟩ (.string z)) g n cap := by
  obtain ⟨l, rfl, h2⟩ := h
  have hx : l[i]? = some l[i] := List.getElem?_eq_getElem hi
  generalize l[i] = x at hx
  exact ⟨⟨_, h2.cell rfl i x hx 6 _ rfl⟩, h2.loose _, fun z => ⟨l.set i (x.1, ⟨x.2.kind, x.2.valid, x.2.uid, x.2.next, x.2.flags, z, x.2.name, x.2.text⟩), by simp, (h2.stored i x (x.1, ⟨x.2.kind, x.2.valid, x.2.uid, x.2.next, x.2.flags, z, x.2.name, x.2.text⟩) hx 6 (by decide) (.string z) rfl).here⟩⟩
theorem RItm.at7 {B : Nat} {X : World} {g n cap : Nat} (h : RItm B X g n cap) {i : Nat} (hi : i < n) : (∃ z : ByteArray, X.cell? ⟨g, i * 9 + 7, none⟩ = some (.string z)) ∧ X.frozen? ⟨g, i * 9 + 7, none⟩ = false ∧ ∀ z : ByteArray, RItm B (X.setCell ⟨g, i * 9 + 7, none⟩ (.string z)) g n cap := by
  obtain ⟨l, rfl, h2⟩ := h
  have hx : l[i]? = some l[i] := List.getElem?_eq_getElem hi
  generalize l[i] = x at hx
  exact ⟨⟨_, h2.cell rfl i x hx 7 _ rfl⟩, h2.loose _, fun z => ⟨l.set i (x.1, ⟨x.2.kind, x.2.valid, x.2.uid, x.2.next, x.2.flags, x.2.user, z, x.2.text⟩), by simp, (h2.stored i x (x.1, ⟨x.2.kind, x.2.valid, x.2.uid, x.2.next, x.2.flags, x.2.user, z, x.2.text⟩) hx 7 (by decide) (.string z) rfl).here⟩⟩
theorem RItm.at8 {B : Nat} {X : World} {g n cap : Nat} (h : RItm B X g n cap) {i : Nat} (hi : i < n) : (∃ z : ByteArray, X.cell? ⟨g, i * 9 + 8, none⟩ = some (.string z)) ∧ X.frozen? ⟨g, i * 9 + 8, none⟩ = false ∧ ∀ z : ByteArray, RItm B (X.setCell ⟨g, i * 9 + 8, none⟩ (.string z)) g n cap := by
  obtain ⟨l, rfl, h2⟩ := h
  have hx : l[i]? = some l[i] := List.getElem?_eq_getElem hi
  generalize l[i] = x at hx
  exact ⟨⟨_, h2.cell rfl i x hx 8 _ rfl⟩, h2.loose _, fun z => ⟨l.set i (x.1, ⟨x.2.kind, x.2.valid, x.2.uid, x.2.next, x.2.flags, x.2.user, x.2.name, z⟩), by simp, (h2.stored i x (x.1, ⟨x.2.kind, x.2.valid, x.2.uid, x.2.next, x.2.flags, x.2.user, x.2.name, z⟩) hx 8 (by decide) (.string z) rfl).here⟩⟩


end Go.Proofs.YtahebgceoidebaaGreat

/- How records lie in memory; two lists of records that are alike. -/
namespace Go.Proofs.YtahebgceoidebaaGreat
open Go.RowKit

def rcE : Enc Rc where
  ty := 47
  sty := 51
  sz := 8
  bytes := 88
  zero := .agg #[.int .i64 0, .int .i64 0, .int .i64 0, .int .i64 0, .int .i64 0, .string ⟨#[]⟩, .string ⟨#[]⟩, .string ⟨#[]⟩]
  f := fun x => [.int .i64 x.kind, .int .i64 x.valid, .int .i64 x.uid, .int .i64 x.next, .int .i64 x.flags, .string x.user, .string x.name, .string x.text]
  len := fun _ => rfl
  pos := by decide
  one := fun _ u hu => by simp at hu; rcases hu with rfl | rfl | rfl | rfl | rfl | rfl | rfl | rfl <;> rfl
  und := Tryz.underlying51
  info := by kernel_rfl
  zc := rfl
  z0 := Rc.nil
  zf := rfl

/-- The eight cells of a record. -/
theorem rc_cells {w w' : World} {g off : Nat} {l : List Rc} (hc : ∀ j x, l[j]? = some x → ∀ k u, (rcE.f x)[k]? = some u → w.cell? ⟨g, off + j * rcE.sz + k, none⟩ = some u)
    (hg : g < w.heap.size) (hb : Below w.heap.size w w') (i : Nat) (x : Rc) (hi : l[i]? = some x) :
    w'.cell? ⟨g, off + i * 8, none⟩ = some (.int .i64 x.kind) ∧ w'.cell? ⟨g, off + i * 8 + 1, none⟩ = some (.int .i64 x.valid) ∧ w'.cell? ⟨g, off + i * 8 + 2, none⟩ = some (.int .i64 x.uid) ∧ w'.cell? ⟨g, off + i * 8 + 3, none⟩ = some (.int .i64 x.next) ∧
    w'.cell? ⟨g, off + i * 8 + 4, none⟩ = some (.int .i64 x.flags) ∧ w'.cell? ⟨g, off + i * 8 + 5, none⟩ = some (.string x.user) ∧ w'.cell? ⟨g, off + i * 8 + 6, none⟩ = some (.string x.name) ∧ w'.cell? ⟨g, off + i * 8 + 7, none⟩ = some (.string x.text) := by
  have h : ∀ k u, (rcE.f x)[k]? = some u → w'.cell? ⟨g, off + i * 8 + k, none⟩ = some u := fun k u hu => (hb.cell (p := ⟨g, off + i * 8 + k, none⟩) hg).trans (hc i x hi k u hu)
  exact ⟨h 0 _ rfl, h 1 _ rfl, h 2 _ rfl, h 3 _ rfl, h 4 _ rfl, h 5 _ rfl, h 6 _ rfl, h 7 _ rfl⟩

/-- As a loop reads them. -/
def RcRow (w : World) (ad : Option Addr) (l : List Rc) : Prop := ∀ X, Below w.heap.size w X → ∀ (i : Nat) (x : Rc), l[i]? = some x → ∃ (g off : Nat), ad = some ⟨g, off, none⟩ ∧ X.cell? ⟨g, off + i * 8, none⟩ = some (.int .i64 x.kind) ∧ X.cell? ⟨g, off + i * 8 + 1, none⟩ = some (.int .i64 x.valid) ∧ X.cell? ⟨g, off + i * 8 + 2, none⟩ = some (.int .i64 x.uid) ∧ X.cell? ⟨g, off + i * 8 + 3, none⟩ = some (.int .i64 x.next) ∧ X.cell? ⟨g, off + i * 8 + 4, none⟩ = some (.int .i64 x.flags) ∧ X.cell? ⟨g, off + i * 8 + 5, none⟩ = some (.string x.user) ∧ X.cell? ⟨g, off + i * 8 + 6, none⟩ = some (.string x.name) ∧ X.cell? ⟨g, off + i * 8 + 7, none⟩ = some (.string x.text)
theorem Rows'.recs {w : World} {v : Value} {l : List Rc} (h : Rows' rcE w v l) : ∃ (ad : Option Addr) (cap : Nat), v = .slice ad l.length cap ∧ RcRow w ad l := by
  rcases h.ways with ⟨rfl, a, c, rfl⟩ | ⟨hne, g, off, c, rfl, hc, hg, hcl⟩
  · exact ⟨a, c, rfl, fun X _ i x hi => by cases hi⟩
  · exact ⟨_, c, rfl, fun X hb i x hi => ⟨g, off, rfl, rc_cells (fun j x hj k u hu => hcl j x hj k u hu) hg hb i x hi⟩⟩


end Go.Proofs.YtahebgceoidebaaGreat

/- What records tell, gathered box by box, plainly. -/
namespace Go.Proofs.YtahebgceoidebaaGreat

/-- What the records of one box tell, as far as they came. -/
structure Tb where
  named : Itm
  next : Int
  adds : Int → Option Itm
  flags : Int → Option Itm
def Tb.nil : Tb := ⟨(0, Rc.nil), 0, fun _ => none, fun _ => none⟩

/-- The number of what is there, 0 without it. -/
def sqO (o : Option Itm) : Int := match o with | some y => y.1 | none => 0
/-- The latest one of a mail. -/
def keepL (f : Int → Option Itm) (x : Itm) : Int → Option Itm := if sqO (f x.2.uid) < x.1 then (fun u => if u = x.2.uid then some x else f u) else f
theorem keepL_lt {f : Int → Option Itm} {x : Itm} (h : sqO (f x.2.uid) < x.1) : keepL f x = fun u => if u = x.2.uid then some x else f u := if_pos h
theorem keepL_ge {f : Int → Option Itm} {x : Itm} (h : ¬ sqO (f x.2.uid) < x.1) : keepL f x = f := if_neg h
/-- One record more. -/
def takeT (t : Tb) (x : Itm) : Tb :=
  if x.2.kind = 1 then ⟨if aheadB (fun y => y.2.next) x t.named then x else t.named, max t.next x.2.next, t.adds, t.flags⟩
  else if x.2.kind = 3 then ⟨t.named, max t.next (x.2.uid + 1), keepL t.adds x, t.flags⟩
  else if x.2.kind = 4 then ⟨t.named, t.next, t.adds, keepL t.flags x⟩
  else if x.2.kind = 5 then ⟨t.named, max t.next (x.2.uid + 1), t.adds, t.flags⟩
  else t

def fmT (l : List Itm) (v : Int) : Tb := ⟨(tellO v l).getD (0, Rc.nil), mostOf 0 (nextK v) l, fun u => bestR 3 v u l, fun u => bestR 4 v u l⟩
open Classical in
noncomputable def toldT (l : List Itm) (v : Int) : Option Tb := if ∃ x ∈ l, x.2.valid = v then some (fmT l v) else none

theorem bestO_snoc (k : Itm → Int) (p : Itm → Bool) (l : List Itm) (x : Itm) : bestO k p (l ++ [x]) = bestStep k p (bestO k p l) x := by
  unfold bestO; rw [List.foldl_append]; rfl
theorem mostOf_snoc (b : Int) (f : Itm → Int) (l : List Itm) (x : Itm) : mostOf b f (l ++ [x]) = if mostOf b f l < f x then f x else mostOf b f l := by
  unfold mostOf; rw [List.foldl_append]; rfl
theorem mostOf_ge (b : Int) (f : Itm → Int) (l : List Itm) : b ≤ mostOf b f l := (mostFold f l b).1
theorem bestStep_out {k : Itm → Int} {p : Itm → Bool} {o : Option Itm} {x : Itm} (h : p x = false) : bestStep k p o x = o := by
  unfold bestStep; rw [h]; rfl
theorem bestStep_in {k : Itm → Int} {p : Itm → Bool} {x : Itm} (h : p x = true) : bestStep k p none x = some x := by
  unfold bestStep; rw [if_pos h]
theorem bestStep_more {k : Itm → Int} {p : Itm → Bool} {x y : Itm} (h : p x = true) : bestStep k p (some y) x = if aheadB k x y then some x else some y := by
  unfold bestStep; rw [if_pos h]

/-- Without a record of it nothing is told of a box. -/
theorem fmT_none {l : List Itm} {v : Int} (h : ¬ ∃ x ∈ l, x.2.valid = v) : fmT l v = Tb.nil := by
  have hb : ∀ (k : Itm → Int) (p : Itm → Bool), (∀ x, p x = true → x.2.valid = v) → bestO k p l = none := by
    intro k p hp
    have hI := bestO_I k p l
    cases e : bestO k p l with
    | none => rfl
    | some y =>
      rw [e] at hI
      exact absurd ⟨y, hI.1, hp y hI.2.1⟩ h
  have hm : mostOf 0 (nextK v) l = 0 := by
    have : ∀ (m : List Itm), (∀ x ∈ m, nextK v x = 0) → mostOf 0 (nextK v) m = 0 := by
      intro m
      unfold mostOf
      induction m with
      | nil => intro _; rfl
      | cons x m ih =>
        intro hx
        rw [List.foldl_cons, hx x (by simp)]
        exact ih (fun y hy => hx y (List.mem_cons_of_mem _ hy))
    refine this l (fun x hx => ?_)
    unfold nextK
    rw [if_neg (fun e => h ⟨x, hx, e⟩)]
  unfold fmT Tb.nil
  congr 1
  · unfold tellO
    rw [hb _ _ (fun x hx => (of_decide_eq_true hx).2)]; rfl
  · funext u
    exact hb _ _ (fun x hx => (of_decide_eq_true hx).2.1)
  · funext u
    exact hb _ _ (fun x hx => (of_decide_eq_true hx).2.1)
theorem toldT_getD (l : List Itm) (v : Int) : (toldT l v).getD Tb.nil = fmT l v := by
  unfold toldT
  by_cases h : ∃ x ∈ l, x.2.valid = v
  · rw [if_pos h]; rfl
  · rw [if_neg h, fmT_none h]; rfl
theorem toldT_some {l : List Itm} {v : Int} {t : Tb} (h : toldT l v = some t) : t = fmT l v := by
  unfold toldT at h
  split at h
  · cases h; rfl
  · cases h

theorem fmT_other {l : List Itm} {x : Itm} {v : Int} (hv : x.2.valid ≠ v) : fmT (l ++ [x]) v = fmT l v := by
  have h0 : nextK v x = 0 := by unfold nextK; rw [if_neg hv]
  unfold fmT
  congr 1
  · unfold tellO
    rw [bestO_snoc, bestStep_out (decide_eq_false (fun c => hv c.2))]
  · rw [mostOf_snoc, h0, if_neg (by have := mostOf_ge 0 (nextK v) l; omega)]
  · funext u; unfold bestR; rw [bestO_snoc, bestStep_out (decide_eq_false (fun c => hv c.2.1))]
  · funext u; unfold bestR; rw [bestO_snoc, bestStep_out (decide_eq_false (fun c => hv c.2.1))]

theorem best_keep {kind v : Int} {l : List Itm} {x : Itm} (hv : x.2.valid = v) (hk : x.2.kind = kind) (hs : 1 ≤ x.1) : (fun u => bestR kind v u (l ++ [x])) = keepL (fun u => bestR kind v u l) x := by
  funext u
  by_cases hu : x.2.uid = u
  · have hp : decide (x.2.kind = kind ∧ x.2.valid = v ∧ x.2.uid = u) = true := decide_eq_true ⟨hk, hv, hu⟩
    have e0 : bestR kind v u (l ++ [x]) = bestStep (fun _ => 0) (fun x' => decide (x'.2.kind = kind ∧ x'.2.valid = v ∧ x'.2.uid = u)) (bestR kind v u l) x := bestO_snoc _ _ _ _
    show bestR kind v u (l ++ [x]) = _
    rw [e0]
    cases e : bestR kind v u l with
    | none =>
      have h1 : sqO ((fun u => bestR kind v u l) x.2.uid) < x.1 := by
        show sqO (bestR kind v x.2.uid l) < x.1
        rw [hu, e]; show (0 : Int) < x.1; omega
      rw [bestStep_in hp, keepL_lt h1]
      simp [hu]
    | some y =>
      rw [bestStep_more hp]
      have h0 : sqO ((fun u => bestR kind v u l) x.2.uid) = y.1 := by
        show sqO (bestR kind v x.2.uid l) = y.1
        rw [hu, e]; rfl
      by_cases c : y.1 < x.1
      · rw [keepL_lt (by rw [h0]; exact c), if_pos (by unfold aheadB; exact decide_eq_true (.inr ⟨rfl, c⟩))]; simp [hu]
      · rw [keepL_ge (by rw [h0]; exact c), if_neg (fun h => by unfold aheadB at h; have := of_decide_eq_true h; dsimp only at this; omega)]; exact e.symm
  · have e : bestR kind v u (l ++ [x]) = bestR kind v u l := by
      show bestO _ _ _ = _
      rw [bestO_snoc, bestStep_out (decide_eq_false (fun c => hu c.2.2))]; rfl
    show bestR kind v u (l ++ [x]) = _
    rw [e]
    unfold keepL
    split
    · show _ = if u = x.2.uid then some x else bestR kind v u l
      rw [if_neg (fun c => hu c.symm)]
    · rfl
theorem best_skip {kind v : Int} {l : List Itm} {x : Itm} (hk : x.2.kind ≠ kind) : (fun u => bestR kind v u (l ++ [x])) = fun u => bestR kind v u l := by
  funext u
  show bestO _ _ _ = _
  rw [bestO_snoc, bestStep_out (decide_eq_false (fun c => hk c.1))]; rfl
theorem tell_skip {v : Int} {l : List Itm} {x : Itm} (hk : x.2.kind ≠ 1) : tellO v (l ++ [x]) = tellO v l := by
  unfold tellO
  rw [bestO_snoc, bestStep_out (decide_eq_false (fun c => hk c.1))]
theorem most_max {v : Int} {l : List Itm} {x : Itm} : mostOf 0 (nextK v) (l ++ [x]) = max (mostOf 0 (nextK v) l) (nextK v x) := by
  rw [mostOf_snoc]
  split <;> omega
/-- One record more, told. -/
theorem fmT_step {l : List Itm} {x : Itm} (hs : 1 ≤ x.1) (hok : x.2.ok) : fmT (l ++ [x]) x.2.valid = takeT (fmT l x.2.valid) x := by
  have hge := mostOf_ge 0 (nextK x.2.valid) l
  unfold takeT
  by_cases h1 : x.2.kind = 1
  · rw [if_pos h1]
    have hn : 1 ≤ x.2.next := by
      have h := hok.2.2.1
      rw [if_pos h1] at h
      exact h.2.2.1
    have hnk : nextK x.2.valid x = x.2.next := by unfold nextK; rw [if_pos rfl, if_pos h1]
    unfold fmT
    rw [most_max, hnk, best_skip (by omega), best_skip (by omega)]
    congr 1
    unfold tellO
    rw [bestO_snoc]
    cases e : bestO (fun y => y.2.next) (fun y => decide (y.2.kind = 1 ∧ y.2.valid = x.2.valid)) l with
    | none =>
      rw [bestStep_in (decide_eq_true ⟨h1, rfl⟩)]
      simp only [Option.getD]
      rw [if_pos (by unfold aheadB; exact decide_eq_true (.inl (by show (0 : Int) < x.2.next; omega)))]
    | some y =>
      rw [bestStep_more (decide_eq_true ⟨h1, rfl⟩)]
      by_cases c : aheadB (fun y => y.2.next) x y = true
      · rw [if_pos c]
        show x = if aheadB (fun y => y.2.next) x y = true then x else y
        rw [if_pos c]
      · rw [if_neg c]
        show y = if aheadB (fun y => y.2.next) x y = true then x else y
        rw [if_neg c]
  rw [if_neg h1]
  by_cases h3 : x.2.kind = 3
  · rw [if_pos h3]
    have hnk : nextK x.2.valid x = x.2.uid + 1 := by unfold nextK; rw [if_pos rfl, if_neg h1, if_pos (.inl h3)]
    unfold fmT
    rw [most_max, hnk, best_keep rfl h3 hs, best_skip (kind := 4) (by omega), tell_skip h1]
  rw [if_neg h3]
  by_cases h4 : x.2.kind = 4
  · rw [if_pos h4]
    have hnk : nextK x.2.valid x = 0 := by unfold nextK; rw [if_pos rfl, if_neg h1, if_neg (by omega)]
    unfold fmT
    rw [most_max, hnk, best_keep rfl h4 hs, best_skip (kind := 3) (by omega), tell_skip h1, Int.max_eq_left hge]
  rw [if_neg h4]
  by_cases h5 : x.2.kind = 5
  · rw [if_pos h5]
    have hnk : nextK x.2.valid x = x.2.uid + 1 := by unfold nextK; rw [if_pos rfl, if_neg h1, if_pos (.inr h5)]
    unfold fmT
    rw [most_max, hnk, best_skip (kind := 3) (by omega), best_skip (kind := 4) (by omega), tell_skip h1]
  rw [if_neg h5]
  have hnk : nextK x.2.valid x = 0 := by unfold nextK; rw [if_pos rfl, if_neg h1, if_neg (by omega)]
  unfold fmT
  rw [most_max, hnk, best_skip (kind := 3) (by omega), best_skip (kind := 4) (by omega), tell_skip h1, Int.max_eq_left hge]

theorem toldT_step {l : List Itm} {x : Itm} (hs : 1 ≤ x.1) (hok : x.2.ok) (v : Int) : toldT (l ++ [x]) v = if v = x.2.valid then some (takeT ((toldT l v).getD Tb.nil) x) else toldT l v := by
  by_cases c : v = x.2.valid
  · subst c
    rw [if_pos rfl, toldT_getD]
    unfold toldT
    rw [if_pos ⟨x, by simp, rfl⟩, fmT_step hs hok]
  · rw [if_neg c]
    have hi : (∃ y ∈ l ++ [x], y.2.valid = v) ↔ ∃ y ∈ l, y.2.valid = v := by
      constructor
      · rintro ⟨y, hy, e⟩
        rcases List.mem_append.1 hy with h | h
        · exact ⟨y, h, e⟩
        · simp at h; subst h; exact absurd e.symm c
      · rintro ⟨y, hy, e⟩; exact ⟨y, List.mem_append_left _ hy, e⟩
    unfold toldT
    rw [fmT_other (fun e => c e.symm)]
    by_cases d : ∃ y ∈ l, y.2.valid = v
    · rw [if_pos d, if_pos (hi.2 d)]
    · rw [if_neg d, if_neg (fun h => d (hi.1 h))]
theorem toldT_nil (v : Int) : toldT [] v = none := by unfold toldT; rw [if_neg (by simp)]

end Go.Proofs.YtahebgceoidebaaGreat

/- What is gone is taken away, plainly. -/
namespace Go.Proofs.YtahebgceoidebaaGreat
open Classical

def dropB (k : List Itm) (v : Int) : Prop := ∃ x ∈ k, x.2.kind = 2 ∧ x.2.valid = v
def goneB (k : List Itm) (v u : Int) : Prop := ∃ x ∈ k, x.2.kind = 5 ∧ x.2.valid = v ∧ x.2.uid = u
noncomputable def lessA (k : List Itm) (v : Int) (t : Tb) : Tb := ⟨t.named, t.next, fun u => if goneB k v u then none else t.adds u, t.flags⟩
noncomputable def delT (T : Int → Option Tb) (k : List Itm) (v : Int) : Option Tb := if dropB k v then none else (T v).map (lessA k v)
/-- A mail taken away. -/
def lessM (u : Int) (t : Tb) : Tb := ⟨t.named, t.next, fun q => if q = u then none else t.adds q, t.flags⟩

theorem dropB_snoc {k : List Itm} {x : Itm} {v : Int} : dropB (k ++ [x]) v ↔ dropB k v ∨ (x.2.kind = 2 ∧ x.2.valid = v) := by
  unfold dropB
  constructor
  · rintro ⟨y, hy, h⟩
    rcases List.mem_append.1 hy with h1 | h1
    · exact .inl ⟨y, h1, h⟩
    · simp at h1; subst h1; exact .inr h
  · rintro (⟨y, hy, h⟩ | h)
    · exact ⟨y, List.mem_append_left _ hy, h⟩
    · exact ⟨x, by simp, h⟩
theorem goneB_snoc {k : List Itm} {x : Itm} {v u : Int} : goneB (k ++ [x]) v u ↔ goneB k v u ∨ (x.2.kind = 5 ∧ x.2.valid = v ∧ x.2.uid = u) := by
  unfold goneB
  constructor
  · rintro ⟨y, hy, h⟩
    rcases List.mem_append.1 hy with h1 | h1
    · exact .inl ⟨y, h1, h⟩
    · simp at h1; subst h1; exact .inr h
  · rintro (⟨y, hy, h⟩ | h)
    · exact ⟨y, List.mem_append_left _ hy, h⟩
    · exact ⟨x, by simp, h⟩
theorem lessA_snoc {k : List Itm} {x : Itm} {v : Int} (h : ¬ (x.2.kind = 5 ∧ x.2.valid = v)) : lessA (k ++ [x]) v = lessA k v := by
  funext t
  unfold lessA
  congr 1
  funext u
  have e : goneB (k ++ [x]) v u ↔ goneB k v u := by
    rw [goneB_snoc]
    exact ⟨fun c => c.elim id (fun c => absurd ⟨c.1, c.2.1⟩ h), .inl⟩
  by_cases c : goneB k v u
  · rw [if_pos c, if_pos (e.2 c)]
  · rw [if_neg c, if_neg (fun d => c (e.1 d))]
theorem lessA_more {k : List Itm} {x : Itm} (h : x.2.kind = 5) (t : Tb) : lessA (k ++ [x]) x.2.valid t = lessM x.2.uid (lessA k x.2.valid t) := by
  unfold lessA lessM
  congr 1
  funext u
  have e := goneB_snoc (k := k) (x := x) (v := x.2.valid) (u := u)
  by_cases c : u = x.2.uid
  · rw [if_pos c, if_pos (e.2 (.inr ⟨h, rfl, c.symm⟩))]
  · rw [if_neg c]
    show _ = if goneB k x.2.valid u then none else t.adds u
    by_cases d : goneB k x.2.valid u
    · rw [if_pos d, if_pos (e.2 (.inl d))]
    · rw [if_neg d, if_neg (fun q => (e.1 q).elim d (fun q => c q.2.2.symm))]
theorem delT_nil (T : Int → Option Tb) (v : Int) : delT T [] v = T v := by
  have h1 : ¬ dropB [] v := by unfold dropB; simp
  have h2 : ∀ t, lessA [] v t = t := fun t => by
    unfold lessA
    have : (fun u => if goneB [] v u then none else t.adds u) = t.adds := by
      funext u
      rw [if_neg (by unfold goneB; simp)]
    rw [this]
  unfold delT
  rw [if_neg h1]
  cases T v with
  | none => rfl
  | some t => simp [h2]
theorem delT_drop {T : Int → Option Tb} {k : List Itm} {x : Itm} (h : x.2.kind = 2) (v : Int) : delT T (k ++ [x]) v = if v = x.2.valid then none else delT T k v := by
  unfold delT
  rw [lessA_snoc (by omega)]
  by_cases c : v = x.2.valid
  · rw [if_pos c, if_pos (dropB_snoc.2 (.inr ⟨h, c.symm⟩))]
  · rw [if_neg c]
    by_cases d : dropB k v
    · rw [if_pos d, if_pos (dropB_snoc.2 (.inl d))]
    · rw [if_neg d, if_neg (fun q => (dropB_snoc.1 q).elim d (fun q => c q.2.symm))]
theorem delT_gone {T : Int → Option Tb} {k : List Itm} {x : Itm} (h : x.2.kind = 5) (v : Int) : delT T (k ++ [x]) v = if v = x.2.valid then (delT T k v).map (lessM x.2.uid) else delT T k v := by
  have hd : dropB (k ++ [x]) v ↔ dropB k v := ⟨fun q => (dropB_snoc.1 q).elim id (fun q => by omega), fun q => dropB_snoc.2 (.inl q)⟩
  unfold delT
  by_cases c : v = x.2.valid
  · subst c
    rw [if_pos rfl]
    by_cases d : dropB k x.2.valid
    · rw [if_pos d, if_pos (hd.2 d)]; rfl
    · rw [if_neg d, if_neg (fun q => d (hd.1 q)), Option.map_map]
      congr 1
      funext t
      exact lessA_more h t
  · rw [if_neg c, lessA_snoc (fun q => c q.2.symm)]
    by_cases d : dropB k v
    · rw [if_pos d, if_pos (hd.2 d)]
    · rw [if_neg d, if_neg (fun q => d (hd.1 q))]
theorem delT_other {T : Int → Option Tb} {k : List Itm} {x : Itm} (h : x.2.kind ≠ 2) (h5 : x.2.kind ≠ 5) (v : Int) : delT T (k ++ [x]) v = delT T k v := by
  have hd : dropB (k ++ [x]) v ↔ dropB k v := ⟨fun q => (dropB_snoc.1 q).elim id (fun q => absurd q.1 h), fun q => dropB_snoc.2 (.inl q)⟩
  unfold delT
  rw [lessA_snoc (fun q => h5 q.1)]
  by_cases d : dropB k v
  · rw [if_pos d, if_pos (hd.2 d)]
  · rw [if_neg d, if_neg (fun q => d (hd.1 q))]
theorem delT_out {T : Int → Option Tb} {k : List Itm} {x : Itm} (h : delT T k x.2.valid = none) (v : Int) : delT T (k ++ [x]) v = delT T k v := by
  by_cases h2 : x.2.kind = 2
  · rw [delT_drop h2]
    by_cases c : v = x.2.valid
    · subst c; rw [if_pos rfl, h]
    · rw [if_neg c]
  by_cases h5 : x.2.kind = 5
  · rw [delT_gone h5]
    by_cases c : v = x.2.valid
    · subst c; rw [if_pos rfl, h]; rfl
    · rw [if_neg c]
  exact delT_other h2 h5 v

end Go.Proofs.YtahebgceoidebaaGreat

/- The boxes that are told are those that the records of each Valid tell, plainly. -/
namespace Go.Proofs.YtahebgceoidebaaGreat
open Classical in
theorem goneB_if (l : List Itm) (v u : Int) (t : Tb) : (lessA l v t).adds u = if goneB l v u then none else t.adds u := rfl

/-- A mail out of what is gathered. -/
def mlOf (t : Tb) (u : Int) (x : Itm) : Ml := ⟨u, match t.flags u with | some y => y.2.flags | none => x.2.flags, x.2.text⟩

/-- Two rising rows of the same things are one. -/
theorem rise_same {α : Type} (k : α → Int) : ∀ {l m : List α}, l.Pairwise (fun x y => k x < k y) → m.Pairwise (fun x y => k x < k y) → (∀ x, x ∈ l ↔ x ∈ m) → l = m
  | [], [], _, _, _ => rfl
  | [], y :: m, _, _, h => by have := (h y).2 (by simp); cases this
  | x :: l, [], _, _, h => by have := (h x).1 (by simp); cases this
  | x :: l, y :: m, hl, hm, h => by
    rw [List.pairwise_cons] at hl hm
    have e : x = y := by
      rcases List.mem_cons.1 ((h x).1 (by simp)) with e | hx
      · exact e
      · rcases List.mem_cons.1 ((h y).2 (by simp)) with e | hy
        · exact e.symm
        · have := hl.1 y hy; have := hm.1 x hx; omega
    subst e
    rw [rise_same k hl.2 hm.2 (fun z => ?_)]
    constructor
    · intro hz
      rcases List.mem_cons.1 ((h z).1 (List.mem_cons_of_mem _ hz)) with e | hz'
      · have := hl.1 z hz; rw [e] at this; omega
      · exact hz'
    · intro hz
      rcases List.mem_cons.1 ((h z).2 (List.mem_cons_of_mem _ hz)) with e | hz'
      · have := hm.1 z hz; rw [e] at this; omega
      · exact hz'

theorem tellO_none {v : Int} {l : List Itm} (h : tellO v l = none) (x : Itm) (hx : x ∈ l) : ¬ (x.2.kind = 1 ∧ x.2.valid = v) := by
  have := bestO_I (fun x => x.2.next) (fun x => decide (x.2.kind = 1 ∧ x.2.valid = v)) l
  unfold tellO at h
  rw [h] at this
  exact of_decide_eq_false (this x hx)
theorem tellO_some {v : Int} {l : List Itm} {y : Itm} (h : tellO v l = some y) : y ∈ l ∧ y.2.kind = 1 ∧ y.2.valid = v := by
  have := bestO_I (fun x => x.2.next) (fun x => decide (x.2.kind = 1 ∧ x.2.valid = v)) l
  unfold tellO at h
  rw [h] at this
  exact ⟨this.1, of_decide_eq_true this.2.1⟩

/-- What is gathered of the box v, and not dropped. -/
noncomputable def finT (l : List Itm) (v : Int) : Option Tb := delT (toldT l) l v
theorem finT_some {l : List Itm} {v : Int} {t : Tb} (h : finT l v = some t) : t = lessA l v (fmT l v) ∧ ¬ dropB l v := by
  unfold finT delT at h
  split at h
  · cases h
  · rename_i c
    cases e : toldT l v with
    | none => rw [e] at h; cases h
    | some t0 =>
      rw [e] at h
      cases h
      exact ⟨by rw [toldT_some e], c⟩
theorem drop_best {l : List Itm} (hok : ∀ x ∈ l, x.2.ok) (v : Int) : ¬ dropB l v ↔ bestR 2 v 0 l = none := by
  constructor
  · intro h
    cases e : bestR 2 v 0 l with
    | none => rfl
    | some y =>
      obtain ⟨h1, h2, _⟩ := bestR_some e
      exact absurd ⟨y, h1, h2.1, h2.2.1⟩ h
  · rintro h ⟨x, hx, h1, h2⟩
    have hu : x.2.uid = 0 := by
      have := (hok x hx).2.2.2.1
      rw [if_neg (by omega)] at this
      exact this
    exact bestR_none h x hx ⟨h1, h2, hu⟩
/-- A box is told just where one is named, and not dropped. -/
theorem fin_valid {l : List Itm} (hok : ∀ x ∈ l, itOk x) (v : Int) : (∃ t, finT l v = some t ∧ 0 < t.named.1) ↔ v ∈ upOf (validK l) l := by
  have hok' : ∀ x ∈ l, x.2.ok := fun x hx => (hok x hx).2
  rw [mem_valids]
  constructor
  · rintro ⟨t, h1, h2⟩
    obtain ⟨rfl, hd⟩ := finT_some h1
    refine ⟨?_, (drop_best hok' v).1 hd⟩
    cases e : tellO v l with
    | none =>
      have : (lessA l v (fmT l v)).named.1 = 0 := by unfold lessA fmT; simp [e]
      omega
    | some y =>
      obtain ⟨q1, q2, q3⟩ := tellO_some e
      exact ⟨y, q1, q2, q3⟩
  · rintro ⟨⟨x, hx, h1, h2⟩, h3⟩
    have hd := (drop_best hok' v).2 h3
    have ht : toldT l v = some (fmT l v) := by unfold toldT; rw [if_pos ⟨x, hx, h2⟩]
    refine ⟨lessA l v (fmT l v), by unfold finT delT; rw [if_neg hd, ht]; rfl, ?_⟩
    cases e : tellO v l with
    | none => exact absurd ⟨h1, h2⟩ (tellO_none e x hx)
    | some y =>
      have : (lessA l v (fmT l v)).named = y := by unfold lessA fmT; simp [e]
      rw [this]
      have := (hok y (tellO_some e).1).1
      omega
open Classical in
theorem mails_fin {l : List Itm} (v : Int) {t : Tb} (h : t = lessA l v (fmT l v)) {ms : List Ml} (h1 : ∀ m, m ∈ ms ↔ ∃ x, t.adds m.uid = some x ∧ m = mlOf t m.uid x) (h2 : ms.Pairwise (fun x y => x.uid < y.uid)) : ms = mailsOf v l := by
  refine rise_same (fun m => m.uid) h2 (mails_up v l) (fun m => ?_)
  rw [h1 m]
  have hm : m ∈ mailsOf v l ↔ m.uid ∈ upOf (uidK v l) l ∧ m = mailK v l m.uid := by
    unfold mailsOf
    rw [List.mem_map]
    constructor
    · rintro ⟨u, hu, rfl⟩; exact ⟨hu, rfl⟩
    · rintro ⟨hu, e⟩; exact ⟨m.uid, hu, e.symm⟩
  rw [hm, mem_uids]
  have hadds : ∀ u, t.adds u = if goneB l v u then none else bestR 3 v u l := fun u => by rw [h]; rfl
  have hflags : ∀ u, t.flags u = bestR 4 v u l := fun u => by rw [h]; rfl
  have hgone : ∀ u, goneB l v u ↔ ¬ bestR 5 v u l = none := fun u => by
    constructor
    · rintro ⟨x, hx, q⟩ e; exact bestR_none e x hx q
    · intro e
      cases e2 : bestR 5 v u l with
      | none => exact absurd e2 e
      | some y => obtain ⟨q1, q2, _⟩ := bestR_some e2; exact ⟨y, q1, q2⟩
  have hml : ∀ u x, bestR 3 v u l = some x → mlOf t u x = mailK v l u := fun u x e => by
    unfold mlOf mailK
    rw [hflags, e]
    cases bestR 4 v u l <;> rfl
  constructor
  · rintro ⟨x, q1, q2⟩
    rw [hadds] at q1
    split at q1
    · cases q1
    · rename_i c
      have hb5 : bestR 5 v m.uid l = none := Classical.byContradiction (fun d => c ((hgone _).2 d))
      obtain ⟨y1, y2, _⟩ := bestR_some q1
      exact ⟨⟨⟨x, y1, y2⟩, hb5⟩, q2.trans (hml _ _ q1)⟩
  · rintro ⟨⟨⟨x, q1, q2⟩, q3⟩, q4⟩
    obtain ⟨y, hy⟩ := bestR_there q1 q2
    exact ⟨y, by rw [hadds, if_neg (fun c => (hgone _).1 c q3)]; exact hy, q4.trans (hml _ _ hy).symm⟩
theorem most_next {l : List Itm} {v : Int} {x : Itm} (hx : x ∈ l) (h : 1 ≤ nextK v x) : mostOf 0 (nextK v) l = nextOf v l := by
  have a := mostFold (nextK v) l 0
  have b := mostFold (nextK v) l 1
  have a1 := a.2.1 x hx
  have b1 := b.2.1 x hx
  unfold nextOf mostOf
  rcases a.2.2 with e | ⟨y, hy, e⟩
  · omega
  · have b2 := b.2.1 y hy
    rcases b.2.2 with e' | ⟨z, hz, e'⟩
    · omega
    · have a2 := a.2.1 z hz
      omega
/-- The box that is told of it. -/
theorem box_fin {l : List Itm} (hok : ∀ x ∈ l, itOk x) {v : Int} {t : Tb} (h : finT l v = some t) (hs : 0 < t.named.1) {ms : List Ml} (h1 : ∀ m, m ∈ ms ↔ ∃ x, t.adds m.uid = some x ∧ m = mlOf t m.uid x) (h2 : ms.Pairwise (fun x y => x.uid < y.uid)) :
    (⟨t.named.2.valid, t.named.2.user, t.named.2.name, t.next, ms⟩ : Bx) = boxK l v := by
  obtain ⟨ht, hd⟩ := finT_some h
  have hms := mails_fin v ht h1 h2
  cases e : tellO v l with
  | none =>
    have : t.named.1 = 0 := by rw [ht]; unfold lessA fmT; simp [e]
    omega
  | some y =>
    have hn : t.named = y := by rw [ht]; unfold lessA fmT; simp [e]
    obtain ⟨y1, y2, y3⟩ := tellO_some e
    have hnx : 1 ≤ nextK v y := by
      unfold nextK
      rw [if_pos y3, if_pos y2]
      have := (hok y y1).2.2.2.1
      rw [if_pos y2] at this
      exact this.2.2.1
    have hnext : t.next = nextOf v l := by rw [ht]; exact most_next y1 hnx
    unfold boxK
    rw [e, hn, hnext, hms, y3]
    rfl

end Go.Proofs.YtahebgceoidebaaGreat

/- What is needed, plainly: by the model's words, and by who tells each subject. -/
namespace Go.Proofs.YtahebgceoidebaaGreat

def hasO (l : List Itm) (k v u : Int) : Bool := (bestR k v u l).isSome
def thereO (l : List Itm) (v : Int) : Bool := hasO l 1 v 0 && !hasO l 2 v 0
def bigB (a b : Itm) : Bool := aheadB (fun x => x.2.next) a b
def anyBig (l : List Itm) (x : Itm) : Bool := l.any (fun y => decide (y.2.kind = 1 ∧ y.2.valid = x.2.valid) && bigB y x)
def anyOther (l : List Itm) (x : Itm) : Bool := l.any (fun y => decide (y.2.kind ≠ 2 ∧ y.2.valid = x.2.valid))
def seqB (o : Option Itm) (x : Itm) : Bool := decide ((bestX o).1 = x.1)
def needO (l : List Itm) (x : Itm) : Bool :=
  if x.2.kind = 1 then !anyBig l x && thereO l x.2.valid
  else if x.2.kind = 2 then anyOther l x && seqB (bestR 2 x.2.valid 0 l) x
  else if x.2.kind = 5 then (thereO l x.2.valid && hasO l 3 x.2.valid x.2.uid) && seqB (bestR 5 x.2.valid x.2.uid l) x
  else ((thereO l x.2.valid && hasO l 3 x.2.valid x.2.uid) && !hasO l 5 x.2.valid x.2.uid) && seqB (bestR x.2.kind x.2.valid x.2.uid l) x
def firstB (l : List Itm) (k : Nat) (x : Itm) : Bool := !(l.take k).any (fun y => decide (y.1 = x.1))
def needB (l : List Itm) (k : Nat) (x : Itm) : Bool := firstB l k x && needO l x
/-- Of each of the first i. -/
def needP (l : List Itm) (ok : Bool) : Nat → List Bool
  | 0 => []
  | i + 1 => needP l ok i ++ ((l[i]?).toList.map (fun x => ok && needB l i x))
theorem needP_step {l : List Itm} {ok : Bool} {i : Nat} {x : Itm} (h : l[i]? = some x) : needP l ok (i + 1) = needP l ok i ++ [ok && needB l i x] := by
  show _ ++ _ = _
  rw [h]; rfl
theorem needP_len (l : List Itm) (ok : Bool) : ∀ i, i ≤ l.length → (needP l ok i).length = i
  | 0, _ => rfl
  | i + 1, h => by
    have h1 := needP_len l ok i (by omega)
    rw [needP_step (List.getElem?_eq_getElem (by omega)), List.length_append, h1]
    rfl

/-- The subject of a record. -/
def sjOf (x : Itm) : Int × Int × Int := (x.2.kind, x.2.valid, x.2.uid)
/-- Whether an item comes ahead of the one at a place, if there is one. -/
def telA (l : List Itm) (o : Option Nat) (x : Itm) : Bool := match o with
  | none => true
  | some j => match l[j]? with
    | some y => bigB x y
    | none => true
/-- The place of the one that tells a subject, of the first i. -/
def telP (l : List Itm) : Nat → (Int × Int × Int) → Option Nat
  | 0 => fun _ => none
  | i + 1 => match l[i]? with
    | none => telP l i
    | some x => if telA l (telP l i (sjOf x)) x = true then (fun s => if s = sjOf x then some i else telP l i s) else telP l i
theorem telP_put {l : List Itm} {i : Nat} {x : Itm} (h : l[i]? = some x) (ha : telA l (telP l i (sjOf x)) x = true) : telP l (i + 1) = fun s => if s = sjOf x then some i else telP l i s := by
  show (match l[i]? with | none => telP l i | some x => if telA l (telP l i (sjOf x)) x = true then (fun s => if s = sjOf x then some i else telP l i s) else telP l i) = _
  rw [h]
  exact if_pos ha
theorem telP_keep {l : List Itm} {i : Nat} {x : Itm} (h : l[i]? = some x) (ha : ¬ telA l (telP l i (sjOf x)) x = true) : telP l (i + 1) = telP l i := by
  show (match l[i]? with | none => telP l i | some x => if telA l (telP l i (sjOf x)) x = true then (fun s => if s = sjOf x then some i else telP l i s) else telP l i) = _
  rw [h]
  exact if_neg ha

/-- What is known of the place that tells a subject. -/
def TelI (l : List Itm) (i : Nat) : Prop := ∀ s, (telP l i s = none ∧ ∀ (j : Nat) (y : Itm), j < i → l[j]? = some y → sjOf y ≠ s) ∨
  ∃ (j : Nat) (x : Itm), telP l i s = some j ∧ j < i ∧ l[j]? = some x ∧ sjOf x = s ∧ (∀ (q : Nat) (y : Itm), q < i → l[q]? = some y → sjOf y = s → bigB y x = false) ∧ ∀ (q : Nat) (y : Itm), q < j → l[q]? = some y → sjOf y = s → bigB x y = true
theorem bigB_trans {a b c : Itm} (h1 : bigB a b = true) (h2 : bigB b c = true) : bigB a c = true := by
  unfold bigB aheadB at *
  simp only [decide_eq_true_eq] at *
  omega
theorem bigB_self (a : Itm) : bigB a a = false := by
  unfold bigB aheadB
  simp only [decide_eq_false_iff_not]
  omega
theorem bigB_not {a b : Itm} (h1 : bigB a b = true) : bigB b a = false := by
  unfold bigB aheadB at *
  simp only [decide_eq_true_eq, decide_eq_false_iff_not] at *
  omega
/-- Neither is ahead of the other: then another that is ahead of one is ahead of both. -/
theorem bigB_like {a b c : Itm} (h1 : bigB a b = true) (h2 : bigB c b = false) : bigB a c = true := by
  unfold bigB aheadB at *
  simp only [decide_eq_true_eq, decide_eq_false_iff_not] at *
  omega
theorem telI : ∀ (l : List Itm) (i : Nat), i ≤ l.length → TelI l i
  | l, 0, _ => fun s => .inl ⟨rfl, fun j y h => by omega⟩
  | l, i + 1, h => by
    have ih := telI l i (by omega)
    obtain ⟨x, hx⟩ : ∃ x, l[i]? = some x := ⟨_, List.getElem?_eq_getElem (by omega)⟩
    intro s
    by_cases ha : telA l (telP l i (sjOf x)) x = true
    · rw [telP_put hx ha]
      by_cases hs : s = sjOf x
      · refine .inr ⟨i, x, if_pos hs, by omega, hx, hs.symm, fun q y hq hy e => ?_, fun q y hq hy e => ?_⟩
        · rcases ih s with ⟨h1, h2⟩ | ⟨j, z, h1, h2, h3, h4, h5, h6⟩
          · by_cases hqi : q = i
            · subst hqi; rw [hx] at hy; cases hy; exact bigB_self _
            · exact absurd e (h2 q y (by omega) hy)
          · rw [← hs, h1] at ha
            have hz : bigB x z = true := by
              have : telA l (some j) x = bigB x z := by unfold telA; simp only [h3]
              rw [← this]; exact ha
            by_cases hqi : q = i
            · subst hqi; rw [hx] at hy; cases hy; exact bigB_self _
            · exact bigB_not (bigB_like hz (h5 q y (by omega) hy e))
        · rcases ih s with ⟨h1, h2⟩ | ⟨j, z, h1, h2, h3, h4, h5, h6⟩
          · exact absurd e (h2 q y (by omega) hy)
          · rw [← hs, h1] at ha
            have hz : bigB x z = true := by
              have : telA l (some j) x = bigB x z := by unfold telA; simp only [h3]
              rw [← this]; exact ha
            exact bigB_like hz (h5 q y (by omega) hy e)
      · rcases ih s with ⟨h1, h2⟩ | ⟨j, z, h1, h2, h3, h4, h5, h6⟩
        · refine .inl ⟨(if_neg hs).trans h1, fun q y hq hy => ?_⟩
          by_cases hqi : q = i
          · subst hqi; rw [hx] at hy; cases hy; exact fun e => hs e.symm
          · exact h2 q y (by omega) hy
        · refine .inr ⟨j, z, (if_neg hs).trans h1, by omega, h3, h4, fun q y hq hy e => ?_, h6⟩
          by_cases hqi : q = i
          · subst hqi; rw [hx] at hy; cases hy; exact absurd e.symm hs
          · exact h5 q y (by omega) hy e
    · rw [telP_keep hx ha]
      rcases ih s with ⟨h1, h2⟩ | ⟨j, z, h1, h2, h3, h4, h5, h6⟩
      · refine .inl ⟨h1, fun q y hq hy => ?_⟩
        by_cases hqi : q = i
        · subst hqi
          rw [hx] at hy
          cases hy
          intro e
          rw [e, h1] at ha
          exact ha rfl
        · exact h2 q y (by omega) hy
      · refine .inr ⟨j, z, h1, by omega, h3, h4, fun q y hq hy e => ?_, h6⟩
        by_cases hqi : q = i
        · subst hqi
          rw [hx] at hy
          cases hy
          rw [e, h1] at ha
          have : telA l (some j) x = bigB x z := by unfold telA; simp only [h3]
          rw [this] at ha
          exact Bool.eq_false_iff.2 ha
        · exact h5 q y (by omega) hy e

end Go.Proofs.YtahebgceoidebaaGreat
