/- Texts of our own, joined. -/
import Derived.Test.YtgcnebepklelpaaGreatJb
import Derived.Test.YtgcnebepklelpaaGreatJf
import Derived.Test.YtgcnebepklelpaaGreatJa
import Derived.Deep.Slices
import Derived.Lib.SmallJoins
import Derived.ProofKit
import Derived.Deep.SlicePairs
import Derived.Deep.QuietTactic
import Derived.BigQuiet
import Derived.OpenShut
import Derived.Lib.Hide
import Derived.WalkSmall
import Derived.Test.YtgcnebepklelpaaGreatJe
/- Logs in memory: a disk, and segments in use. -/
namespace Go.Proofs.YtgcnebepklelpaaGreat
open Go.RowKit

structure Lg where
  d : Dk
  segs : Int
  used : List Sg
  ng : Int
  ns : Int
  st : Int
  nv : Int

theorem RBuf.stayG {α : Type} {E : Enc α} {B : Nat} {w w' : World} {v : Value} {l : List α} (h : RBuf E B w w v l) (hz : w.heap.size ≤ w'.heap.size) (hk : ∀ k, v.ownBlock = some k → w'.heap[k]? = w.heap[k]?) : RBuf E B w' w' v l := by
  refine ⟨⟨h.own.1, ?_⟩, Below.refl _ _, Nat.le_trans h.le hz⟩
  rcases h.own.2 with h1 | ⟨g, cap, cur, h1, h2, h3, h4⟩
  · exact .inl h1
  · exact .inr ⟨g, cap, cur, h1, h2, (hk g (by rw [h1]; rfl)).trans h3, h4⟩
theorem Box.keptG {b B T : Nat} {w w' : World} {cs : Array Value} {t : TypeId} (h : Box w b cs t) (hk : Kept B T w w') (hb : b < B ∨ T ≤ b) : Box w' b cs t := (hk.block b h.lt hb).trans h
theorem Box.eightL {w : World} {b : Nat} {u0 u1 u2 u3 u4 u5 u6 u7 : Value} {t : TypeId} (h : Box w b #[u0, u1, u2, u3, u4, u5, u6, u7] t) :
    w.cell? ⟨b, 0, none⟩ = some u0 ∧ w.cell? ⟨b, 1, none⟩ = some u1 ∧ w.cell? ⟨b, 2, none⟩ = some u2 ∧ w.cell? ⟨b, 3, none⟩ = some u3 ∧ w.cell? ⟨b, 4, none⟩ = some u4 ∧ w.cell? ⟨b, 5, none⟩ = some u5 ∧ w.cell? ⟨b, 6, none⟩ = some u6 ∧ w.cell? ⟨b, 7, none⟩ = some u7 ∧
    w.frozen? ⟨b, 0, none⟩ = false ∧ w.frozen? ⟨b, 1, none⟩ = false ∧ w.frozen? ⟨b, 2, none⟩ = false ∧ w.frozen? ⟨b, 3, none⟩ = false ∧ w.frozen? ⟨b, 4, none⟩ = false ∧ w.frozen? ⟨b, 5, none⟩ = false ∧ w.frozen? ⟨b, 6, none⟩ = false ∧ w.frozen? ⟨b, 7, none⟩ = false :=
  ⟨h.cell 0 _ rfl, h.cell 1 _ rfl, h.cell 2 _ rfl, h.cell 3 _ rfl, h.cell 4 _ rfl, h.cell 5 _ rfl, h.cell 6 _ rfl, h.cell 7 _ rfl, h.loose 0, h.loose 1, h.loose 2, h.loose 3, h.loose 4, h.loose 5, h.loose 6, h.loose 7⟩
def set8L (w : World) (b : Nat) (v0 v1 v2 v3 v4 v5 v6 v7 : Value) : World := (((((((w.setCell ⟨b, 0, none⟩ v0).setCell ⟨b, 1, none⟩ v1).setCell ⟨b, 2, none⟩ v2).setCell ⟨b, 3, none⟩ v3).setCell ⟨b, 4, none⟩ v4).setCell ⟨b, 5, none⟩ v5).setCell ⟨b, 6, none⟩ v6).setCell ⟨b, 7, none⟩ v7
theorem Box.set8L {w : World} {b : Nat} {u0 u1 u2 u3 u4 u5 u6 u7 : Value} {t : TypeId} (h : Box w b #[u0, u1, u2, u3, u4, u5, u6, u7] t) (v0 v1 v2 v3 v4 v5 v6 v7 : Value) : Box (Go.Proofs.YtgcnebepklelpaaGreat.set8L w b v0 v1 v2 v3 v4 v5 v6 v7) b #[v0, v1, v2, v3, v4, v5, v6, v7] t :=
  have a0 : Box (w.setCell ⟨b, 0, none⟩ v0) b #[v0, u1, u2, u3, u4, u5, u6, u7] t := h.set 0 v0
  have a1 : Box ((w.setCell ⟨b, 0, none⟩ v0).setCell ⟨b, 1, none⟩ v1) b #[v0, v1, u2, u3, u4, u5, u6, u7] t := a0.set 1 v1
  have a2 : Box (((w.setCell ⟨b, 0, none⟩ v0).setCell ⟨b, 1, none⟩ v1).setCell ⟨b, 2, none⟩ v2) b #[v0, v1, v2, u3, u4, u5, u6, u7] t := a1.set 2 v2
  have a3 : Box ((((w.setCell ⟨b, 0, none⟩ v0).setCell ⟨b, 1, none⟩ v1).setCell ⟨b, 2, none⟩ v2).setCell ⟨b, 3, none⟩ v3) b #[v0, v1, v2, v3, u4, u5, u6, u7] t := a2.set 3 v3
  have a4 : Box (((((w.setCell ⟨b, 0, none⟩ v0).setCell ⟨b, 1, none⟩ v1).setCell ⟨b, 2, none⟩ v2).setCell ⟨b, 3, none⟩ v3).setCell ⟨b, 4, none⟩ v4) b #[v0, v1, v2, v3, v4, u5, u6, u7] t := a3.set 4 v4
  have a5 : Box ((((((w.setCell ⟨b, 0, none⟩ v0).setCell ⟨b, 1, none⟩ v1).setCell ⟨b, 2, none⟩ v2).setCell ⟨b, 3, none⟩ v3).setCell ⟨b, 4, none⟩ v4).setCell ⟨b, 5, none⟩ v5) b #[v0, v1, v2, v3, v4, v5, u6, u7] t := a4.set 5 v5
  have a6 : Box (((((((w.setCell ⟨b, 0, none⟩ v0).setCell ⟨b, 1, none⟩ v1).setCell ⟨b, 2, none⟩ v2).setCell ⟨b, 3, none⟩ v3).setCell ⟨b, 4, none⟩ v4).setCell ⟨b, 5, none⟩ v5).setCell ⟨b, 6, none⟩ v6) b #[v0, v1, v2, v3, v4, v5, v6, u7] t := a5.set 6 v6
  a6.set 7 v7
theorem below_set8L {B b : Nat} {w0 w : World} (h : Below B w0 w) (hb : B ≤ b) (v0 v1 v2 v3 v4 v5 v6 v7 : Value) : Below B w0 (set8L w b v0 v1 v2 v3 v4 v5 v6 v7) :=
  (((((((h.setCell (p := ⟨b, 0, none⟩) hb v0).setCell (p := ⟨b, 1, none⟩) hb v1).setCell (p := ⟨b, 2, none⟩) hb v2).setCell (p := ⟨b, 3, none⟩) hb v3).setCell (p := ⟨b, 4, none⟩) hb v4).setCell (p := ⟨b, 5, none⟩) hb v5).setCell (p := ⟨b, 6, none⟩) hb v6).setCell (p := ⟨b, 7, none⟩) hb v7
theorem grown_set8L (w : World) (b : Nat) (v0 v1 v2 v3 v4 v5 v6 v7 : Value) : w.grownBy (set8L w b v0 v1 v2 v3 v4 v5 v6 v7) (some b) :=
  (((((((stored_grown w b 0 v0).trans (stored_grown _ b 1 v1)).trans (stored_grown _ b 2 v2)).trans (stored_grown _ b 3 v3)).trans (stored_grown _ b 4 v4)).trans (stored_grown _ b 5 v5)).trans (stored_grown _ b 6 v6)).trans (stored_grown _ b 7 v7)

theorem SgO.stay {B : Nat} {w w' : World} {v : Value} {bs : List Sg} {hs : List SgH} (h : SgO B w v bs hs) (hz : w.heap.size ≤ w'.heap.size) (h1 : ∀ k, v.ownBlock = some k → w'.heap[k]? = w.heap[k]?) (h2 : ∀ (j : Nat) (x : SgH), hs[j]? = some x → ∀ k, x.mv.ownBlock = some k → w'.heap[k]? = w.heap[k]?) : SgO B w' v bs hs :=
  ⟨h.row.stayG hz h1, h.len, fun j x b e1 e2 => ⟨(h.at' j x b e1 e2).1, (h.at' j x b e1 e2).2.stayG hz (h2 j x e1)⟩, h.far, h.apart⟩

structure GOwn (B T : Nat) (w : World) (v : Value) (l : List Sg) (hs : List SgH) : Prop where
  own : SgO B w v l hs
  le : T ≤ w.heap.size
  row : ∀ k, v.ownBlock = some k → k < T
  its : ∀ (j : Nat) (x : SgH), hs[j]? = some x → ∀ k, x.mv.ownBlock = some k → k < T
theorem SgO.gown {B : Nat} {w : World} {v : Value} {l : List Sg} {hs : List SgH} (h : SgO B w v l hs) : GOwn B w.heap.size w v l hs :=
  ⟨h, Nat.le_refl _, fun k hk => (h.where'.1 k hk).2, fun j x hj k hk => (h.where'.2 j x hj k hk).2⟩
theorem GOwn.kept {B T B' T' : Nat} {w w' : World} {v : Value} {l : List Sg} {hs : List SgH} (h : GOwn B T w v l hs) (hk : Kept B' T' w w') (hd : T ≤ B' ∨ T' ≤ B) : GOwn B T w' v l hs :=
  ⟨h.own.stay hk.size (fun k e => hk.block k (h.own.where'.1 k e).2 (by have := h.row k e; have := (h.own.where'.1 k e).1; omega)) (fun j x hj k e => hk.block k (h.own.where'.2 j x hj k e).2 (by have := h.its j x hj k e; have := (h.own.where'.2 j x hj k e).1; omega)), Nat.le_trans h.le hk.size, h.row, h.its⟩
theorem GOwn.later {B T : Nat} {w w' : World} {v : Value} {l : List Sg} {hs : List SgH} (h : GOwn B T w v l hs) (hb : Below w.heap.size w w') : GOwn B T w' v l hs :=
  h.kept (Kept.of_below hb T T) (.inl (Nat.le_refl _))
theorem GOwn.widen {B T B' T' : Nat} {w : World} {v : Value} {l : List Sg} {hs : List SgH} (h : GOwn B T w v l hs) (hB : B' ≤ B) (hT : T ≤ T') (hs' : T' ≤ w.heap.size) : GOwn B' T' w v l hs :=
  ⟨h.own.lower hB, hs', fun k e => Nat.lt_of_lt_of_le (h.row k e) hT, fun j x hj k e => Nat.lt_of_lt_of_le (h.its j x hj k e) hT⟩

structure LgP (B T : Nat) (w : World) (va vb vu : Value) (L : Lg) (hs : List SgH) : Prop where
  sec : LOwn strE B T w va L.d.sec
  cac : LOwn wrE B T w vb L.d.cache
  two : va.ownBlock = none ∨ va.ownBlock ≠ vb.ownBlock
  use : GOwn B T w vu L.used hs
  far : ∀ k, va.ownBlock = some k ∨ vb.ownBlock = some k → vu.ownBlock ≠ some k ∧ ∀ (j : Nat) (x : SgH), hs[j]? = some x → x.mv.ownBlock ≠ some k
def LgO (B T : Nat) (w : World) (v : Value) (L : Lg) : Prop :=
  ∃ va vb vu hs, v = .agg #[va, vb, .int .i64 L.segs, vu, .int .i64 L.ng, .int .i64 L.ns, .int .i64 L.st, .int .i64 L.nv] ∧ LgP B T w va vb vu L hs
theorem LgP.kept {B T B' T' : Nat} {w w' : World} {va vb vu : Value} {L : Lg} {hs : List SgH} (h : LgP B T w va vb vu L hs) (hk : Kept B' T' w w') (hd : T ≤ B' ∨ T' ≤ B) : LgP B T w' va vb vu L hs :=
  ⟨h.sec.kept hk hd, h.cac.kept hk hd, h.two, h.use.kept hk hd, h.far⟩
theorem LgP.later {B T : Nat} {w w' : World} {va vb vu : Value} {L : Lg} {hs : List SgH} (h : LgP B T w va vb vu L hs) (hb : Below w.heap.size w w') : LgP B T w' va vb vu L hs :=
  h.kept (Kept.of_below hb T T) (.inl (Nat.le_refl _))
theorem LgO.kept {B T B' T' : Nat} {w w' : World} {v : Value} {L : Lg} (h : LgO B T w v L) (hk : Kept B' T' w w') (hd : T ≤ B' ∨ T' ≤ B) : LgO B T w' v L := by
  obtain ⟨va, vb, vu, hs, e, p⟩ := h
  exact ⟨va, vb, vu, hs, e, p.kept hk hd⟩
theorem LgO.later {B T : Nat} {w w' : World} {v : Value} {L : Lg} (h : LgO B T w v L) (hb : Below w.heap.size w w') : LgO B T w' v L :=
  h.kept (Kept.of_below hb T T) (.inl (Nat.le_refl _))
theorem LgP.stay {B T : Nat} {w w' : World} {va vb vu : Value} {L : Lg} {hs : List SgH} (h : LgP B T w va vb vu L hs) (hz : w.heap.size ≤ w'.heap.size) (hk : ∀ q, B ≤ q → q < T → w'.heap[q]? = w.heap[q]?) : LgP B T w' va vb vu L hs :=
  ⟨⟨h.sec.1.stayG hz (fun q e => hk q (h.sec.1.own.lt q e).1 (h.sec.2.2 q e)), Nat.le_trans h.sec.2.1 hz, h.sec.2.2⟩, ⟨h.cac.1.stayG hz (fun q e => hk q (h.cac.1.own.lt q e).1 (h.cac.2.2 q e)), Nat.le_trans h.cac.2.1 hz, h.cac.2.2⟩, h.two,
   ⟨h.use.own.stay hz (fun q e => hk q (h.use.own.where'.1 q e).1 (h.use.row q e)) (fun j x hj q e => hk q (h.use.own.where'.2 j x hj q e).1 (h.use.its j x hj q e)), Nat.le_trans h.use.le hz, h.use.row, h.use.its⟩, h.far⟩
theorem LgP.widen {B T B' T' : Nat} {w : World} {va vb vu : Value} {L : Lg} {hs : List SgH} (h : LgP B T w va vb vu L hs) (hB : B' ≤ B) (hT : T ≤ T') (hz : T' ≤ w.heap.size) : LgP B' T' w va vb vu L hs :=
  ⟨(h.sec.deeper hB).wider hT hz, (h.cac.deeper hB).wider hT hz, h.two, h.use.widen hB hT hz, h.far⟩
theorem LgP.mk2 {B1 T1 B2 T : Nat} {w : World} {va vb vu : Value} {L : Lg} {hs : List SgH} (hd : DOwn B1 T1 w (.agg #[va, vb]) L.d) (hg : GOwn B2 T w vu L.used hs) (h1 : T1 ≤ B2) (h2 : B1 ≤ B2) (h3 : T1 ≤ T) : LgP B1 T w va vb vu L hs := by
  obtain ⟨ua, ub, e, l1, l2, l3⟩ := hd
  simp only [Value.agg.injEq, Array.mk.injEq, List.cons.injEq, and_true] at e
  obtain ⟨rfl, rfl⟩ := e
  refine ⟨l1.wider h3 hg.le, l2.wider h3 hg.le, l3, hg.widen h2 (Nat.le_refl _) hg.le, fun k hk => ?_⟩
  have hlt : k < T1 := by rcases hk with e | e; exact l1.2.2 k e; exact l2.2.2 k e
  refine ⟨fun e => ?_, fun j x hj e => ?_⟩
  · have := (hg.own.where'.1 k e).1; omega
  · have := (hg.own.where'.2 j x hj k e).1; omega
theorem LgP.down {B T : Nat} {w : World} {va vb vu : Value} {L : Lg} {hs : List SgH} (h : LgP B T w va vb vu L hs) : DOwn B T w (.agg #[va, vb]) L.d := ⟨va, vb, rfl, h.sec, h.cac, h.two⟩
theorem LgP.form {B T : Nat} {w : World} {va vb vu : Value} {L : Lg} {hs : List SgH} (h : LgP B T w va vb vu L hs) : ∃ (a b u : Option Addr) (c e f : Nat), va = .slice a L.d.sec.length c ∧ vb = .slice b L.d.cache.length e ∧ vu = .slice u L.used.length f := by
  obtain ⟨a, c, rfl⟩ := h.sec.1.form
  obtain ⟨b, e, rfl⟩ := h.cac.1.form
  obtain ⟨u, f, rfl⟩ := h.use.own.row.form
  exact ⟨a, b, u, c, e, f, rfl, rfl, by rw [h.use.own.len]⟩
theorem LgO.form {B T : Nat} {w : World} {v : Value} {L : Lg} (h : LgO B T w v L) : ∃ (a b u : Option Addr) (c e f : Nat), v = .agg #[.slice a L.d.sec.length c, .slice b L.d.cache.length e, .int .i64 L.segs, .slice u L.used.length f, .int .i64 L.ng, .int .i64 L.ns, .int .i64 L.st, .int .i64 L.nv] := by
  obtain ⟨va, vb, vu, hs, rfl, p⟩ := h
  obtain ⟨a, b, u, c, e, f, rfl, rfl, rfl⟩ := p.form
  exact ⟨a, b, u, c, e, f, rfl⟩

def LRd (w : World) (v : Value) (L : Lg) : Prop :=
  ∃ va vb vu, v = .agg #[va, vb, .int .i64 L.segs, vu, .int .i64 L.ng, .int .i64 L.ns, .int .i64 L.st, .int .i64 L.nv] ∧ DRd w (.agg #[va, vb]) L.d ∧ GRd w vu L.used
theorem LgO.rd {B T : Nat} {w : World} {v : Value} {L : Lg} (h : LgO B T w v L) : LRd w v L := by
  obtain ⟨va, vb, vu, hs, rfl, p⟩ := h
  exact ⟨va, vb, vu, rfl, p.down.rd, p.use.own.rd⟩
theorem LRd.later {w w' : World} {v : Value} {L : Lg} (h : LRd w v L) (hb : Below w.heap.size w w') : LRd w' v L := by
  obtain ⟨va, vb, vu, e, h1, h2⟩ := h
  exact ⟨va, vb, vu, e, h1.later hb, h2.later hb⟩

def LIn (w : World) (v : Value) (L : Lg) : Prop :=
  ∃ va vb vu, v = .agg #[va, vb, .int .i64 L.segs, vu, .int .i64 L.ng, .int .i64 L.ns, .int .i64 L.st, .int .i64 L.nv] ∧ DIn w (.agg #[va, vb]) L.d ∧ LGRd w vu L.used ∧ L.used.length ≤ 9223372036854775807 ∧ ∀ b ∈ L.used, sgShort b
theorem LIn.later {w w' : World} {v : Value} {L : Lg} (h : LIn w v L) (hb : Below w.heap.size w w') : LIn w' v L := by
  obtain ⟨va, vb, vu, e, h1, h2, h3⟩ := h
  exact ⟨va, vb, vu, e, h1.later hb, h2.later hb, h3⟩

def Lg.lean (L : Lg) (left : Int) : Prop := L.d.lean left ∧ ((L.used.length + gIts L.used : Nat) : Int) ≤ left ∧ ∀ b ∈ L.used, sgLean left b

theorem kF_gIts : ∀ (k : Nat) (bs : List Sg), kF k bs = k + 3 * bs.length + 9 * gIts bs
  | k, [] => by simp [kF, gIts]
  | k, b :: bs => by
    have h1 := kF_gIts (kG k b) bs
    unfold kF gIts
    rw [h1, List.length_cons]
    unfold kG
    omega
def marksLg (k : Nat) (L : Lg) : Lg := ⟨marksD k L.d, L.segs, marksG (k + L.d.count) L.used, L.ng, L.ns, L.st, L.nv⟩
def Lg.kL (k : Nat) (L : Lg) : Nat := kF (k + L.d.count) L.used
theorem Lg.lean_small (L : Lg) (h : L.lean 1048576) : L.d.small ∧ L.used.length ≤ 1048576 ∧ (∀ b ∈ L.used, b.items.length ≤ 1099511627776) ∧ L.kL 1 ≤ 40000000 ∧ L.d.count ≤ 4000000 := by
  obtain ⟨⟨h1, h2, _, _⟩, h3, _⟩ := h
  have h4 : L.d.count ≤ 4000000 := by unfold Dk.count; omega
  refine ⟨⟨by omega, by omega⟩, by omega, fun b hb => by have := gIts_mem hb; omega, ?_, h4⟩
  unfold Lg.kL
  rw [kF_gIts]
  omega
theorem Lg.lean_texts (L : Lg) (h : L.lean 1048576) : ∀ b ∈ L.used, ∀ x ∈ b.items, x.2.user.size ≤ 1048576 ∧ x.2.name.size ≤ 1048576 ∧ x.2.text.size ≤ 1048576 := fun b hb x hx => by
  have := h.2.2 b hb x hx
  omega

end Go.Proofs.YtgcnebepklelpaaGreat

/- Lists that came in: a row read cell by cell is a list. -/
namespace Go.Proofs.YtgcnebepklelpaaGreat
open Go.RowKit Go.ChangeShapes Go.WideShapes Go.ChangeAt Go.Deep Go.Joins

section
variable {W : World}

theorem rows_of_cells {α : Type} [Inhabited α] (E : Enc α) {a : Addr} {len cap : Nat} (hl : len ≤ cap) (hp : ∀ i, i < len → ∃ x : α, ∀ k u, (E.f x)[k]? = some u → W.cell? (a.add (i * E.sz + k)) = some u) (Pr : α → Prop)
    (hpr : ∀ i, i < len → ∀ x : α, (∀ k u, (E.f x)[k]? = some u → W.cell? (a.add (i * E.sz + k)) = some u) → Pr x) :
    ∃ l : List α, l.length = len ∧ Rows' E W (.slice (some a) len cap) l ∧ ∀ x ∈ l, Pr x := by
  obtain ⟨f, hf⟩ := choose_lt hp
  refine ⟨(List.range len).map f, by simp, ?_, ?_⟩
  · by_cases h0 : len = 0
    · subst h0
      exact .inl ⟨rfl, _, _, rfl⟩
    · have hsp : a.spot = none := by
        have hne : (E.f (f 0))[0]? = some ((E.f (f 0))[0]'(by rw [E.len]; exact E.pos)) := List.getElem?_eq_getElem _
        have := hf 0 (by omega) 0 _ hne
        have h2 := World.cell?_spot this
        simpa [Addr.add] using h2
      obtain ⟨b, off, spot⟩ := a
      simp only at hsp
      subst hsp
      refine .inr ⟨b, off, cap, by simp, by simpa using hl, ?_, ?_⟩
      · have hne : (E.f (f 0))[0]? = some ((E.f (f 0))[0]'(by rw [E.len]; exact E.pos)) := List.getElem?_eq_getElem _
        have := hf 0 (by omega) 0 _ hne
        rw [Addr.add_lit] at this
        exact World.block_lt_of_cell? W _ this
      · intro j x hj k u hu
        have hjl : j < len := by have := (List.getElem?_eq_some_iff.1 hj).1; simpa using this
        have hx : f j = x := by simpa [hjl] using hj
        subst hx
        have := hf j hjl k u hu
        rw [Addr.add_lit] at this
        rw [Nat.add_assoc]
        exact this
  · intro x hx
    simp only [List.mem_map, List.mem_range] at hx
    obtain ⟨i, hi, rfl⟩ := hx
    exact hpr i hi _ (hf i hi)
end

end Go.Proofs.YtgcnebepklelpaaGreat

/- What a disk is that comes in as an argument: its rows can be read. -/
namespace Go.Proofs.YtgcnebepklelpaaGreat
open Go.RowKit Go.ChangeShapes Go.WideShapes Go.ChangeAt Go.Deep Go.Joins

section
variable {H : Type} {enc : TypeId × Value → H} {W : World}

set_option maxRecDepth 100000 in
theorem strs_of_trod {fuel : Nat} {v : Value} {x : DataW H × List MemPlace} (h : DataW.trod enc Tryz.prog W 0 (fun _ => true) true fuel 22 [v] = some x) :
    ∃ l : List ByteArray, Rows' strE W v l ∧ l.length ≤ maxLen ∧ ∀ s ∈ l, s.size ≤ maxLen := by
  rcases open_slice1 Tryz.underlying22 (by kernel_rfl) h with ⟨hv, _⟩ | ⟨a, len, cap, m, n, V, D, Pl, hv, _, hl, hm, hmm, _, hc⟩
  · simp at hv; subst hv
    exact ⟨[], .inl ⟨rfl, _, _, rfl⟩, by decide, by simp⟩
  · simp at hv; subst hv
    have hm2 : m = cap := by simpa using hmm
    have hex : ∀ i, i < len → ∃ s : ByteArray, W.cell? (a.add i) = some (.string s) ∧ s.size ≤ maxLen := by
      intro i hi
      obtain ⟨h1, h2⟩ := hc i (by omega)
      obtain ⟨s, hs, _, hsz⟩ := DataW.trod_string Tryz.underlying9 h2
      simp at hs
      exact ⟨s, by rw [h1, hs], hsz⟩
    obtain ⟨l, hlen, hr, hp⟩ := rows_of_cells strE hl (fun i hi => by
      obtain ⟨s, hs, _⟩ := hex i hi
      refine ⟨s, fun k u hu => ?_⟩
      match k, hu with
      | 0, hu => simp [strE] at hu; subst hu; rw [show strE.sz = 1 from rfl, Nat.mul_one, Nat.add_zero]; exact hs
      | k + 1, hu => simp [strE] at hu) (fun s => s.size ≤ maxLen) (fun i hi s hs => by
      obtain ⟨t, ht, hts⟩ := hex i hi
      have := hs 0 (.string s) rfl
      rw [show strE.sz = 1 from rfl, Nat.mul_one, Nat.add_zero, ht] at this
      simp at this
      subst this
      exact hts)
    exact ⟨l, hr, by omega, hp⟩

instance : Inhabited Wr := ⟨⟨0, ⟨#[]⟩⟩⟩

set_option maxRecDepth 100000 in
theorem writes_of_trod {fuel : Nat} {v : Value} {x : DataW H × List MemPlace} (h : DataW.trod enc Tryz.prog W 0 (fun _ => true) true fuel 23 [v] = some x) :
    ∃ l : List Wr, Rows' lwrE W v l ∧ l.length ≤ maxLen ∧ ∀ x ∈ l, x.text.size ≤ maxLen := by
  rcases open_slice_pairs Tryz.underlying23 Tryz.underlying134 (by kernel_rfl) rfl rfl (by kernel_rfl) (by kernel_rfl) h with ⟨hv, _⟩ | ⟨a, len, cap, m, n, V0, V1, D0, D1, P0, P1, hv, _, hl, hm, hmm, _, hc⟩
  · simp at hv; subst hv
    exact ⟨[], .inl ⟨rfl, _, _, rfl⟩, by decide, by simp⟩
  · simp at hv; subst hv
    have hm2 : m = cap := by simpa using hmm
    have hex : ∀ i, i < len → ∃ x : Wr, W.cell? (a.add (i * 2)) = some (.int .i64 x.at_) ∧ W.cell? (a.add (i * 2 + 1)) = some (.string x.text) ∧ x.text.size ≤ maxLen := by
      intro i hi
      obtain ⟨h1, h2, h3, h4⟩ := hc i (by omega)
      obtain ⟨s, hs, _, hsz⟩ := DataW.trod_string Tryz.underlying9 h4
      obtain ⟨k, hk, _, _⟩ := DataW.trod_int Tryz.underlying3 h3
      simp at hs hk
      exact ⟨⟨k, s⟩, by rw [h1, hk], by rw [h2, hs], hsz⟩
    obtain ⟨l, hlen, hr, hp⟩ := rows_of_cells lwrE hl (fun i hi => by
      obtain ⟨x, h0, h1, _⟩ := hex i hi
      refine ⟨x, fun k u hu => ?_⟩
      match k, hu with
      | 0, hu => simp [lwrE] at hu; subst hu; exact h0
      | 1, hu => simp [lwrE] at hu; subst hu; exact h1
      | k + 2, hu => simp [lwrE] at hu) (fun x => x.text.size ≤ maxLen) (fun i hi x hx => by
      obtain ⟨y, _, h1, hys⟩ := hex i hi
      have : W.cell? (a.add (i * 2 + 1)) = some (.string x.text) := hx 1 (.string x.text) rfl
      rw [h1] at this
      simp at this
      rw [← this]
      exact hys)
    exact ⟨l, hr, by omega, hp⟩

end

end Go.Proofs.YtgcnebepklelpaaGreat

/- Lists of numbers in the exact laws: a copy, two alike, marks; and one that comes in. -/
namespace Go.Proofs.YtgcnebepklelpaaGreat
open Go.RowKit Go.ChangeShapes Go.WideShapes Go.ChangeAt Go.Deep Go.Joins

set_option maxRecDepth 100000 in
set_option maxHeartbeats 1000000 in
theorem toIntS_any (l : List Int) (v : Value) (w : World) (hb : Rows' intE w v l) (hl : l.length ≤ 1048576) :
    Calls Tryz.prog 18 #[v] w fun e w' => ∃ v', e = .returned v' ∧ RBuf intE w.heap.size w w' v' l := by
  obtain ⟨a, cap, rfl⟩ : ∃ (a : Option Addr) (cap : Nat), v = .slice a l.length cap := by
    rcases hb with ⟨rfl, a, c, rfl⟩ | ⟨g, off, c, rfl, _⟩
    · exact ⟨a, c, rfl⟩
    · exact ⟨_, c, rfl⟩
  have HB := Lib.hid hb
  clear hb
  go_enter Tryz.func18, Tryz.ntmps18
  go_wp2_with (at_make; refine wpList_make_rows rfl _ _ intE rfl .i64 .i64 _ _ l.length rfl rfl rfl rfl (by show 9 * l.length ≤ _; omega) ?_; intro w1 hr1 hs1)
  go_loopw [4] (fun iv wr => ∃ i : Nat, i ≤ l.length ∧ iv = .int .i64 (i : Int) ∧ RBuf intE w.heap.size w wr (.slice (some ⟨w.heap.size, 0, none⟩) l.length l.length) (copyTo intE.z0 l i)) (fun iv _ => l.length - (intOf iv).toNat)
  case atStart => exact ⟨0, by omega, rfl, by rw [copyTo_zero]; exact hr1⟩
  case round =>
    obtain ⟨i, hi, rfl, hbr⟩ := hrel
    by_cases hlt : i < l.length
    · obtain ⟨g, off, rfl, hcl⟩ := HB.out.at i hlt
      have hcs := hcl wr hbr.bel 0 _ rfl
      rw [show intE.sz = 1 from rfl, Nat.mul_one, Nat.add_zero] at hcs
      have hi0 : (0 : Int) ≤ (i : Int) := by omega
      have hi1 : (i : Int) < (l.length : Int) := by omega
      have hml := copyTo_length (z := intE.z0) hi
      have hms := copyTo_set (z := intE.z0) hlt
      have hat := copyTo_at (z := intE.z0) hlt
      rw [← hml] at hbr
      have cd : wr.cell? ⟨w.heap.size, i, none⟩ = some (.int .i64 intE.z0) := by
        have := hbr.cell rfl i _ hat 0 _ rfl
        rw [show intE.sz = 1 from rfl, Nat.mul_one, Nat.add_zero] at this
        exact this
      have fd := hbr.loose i
      have hst := hbr.stored i _ l[i] hat 0 (by decide) (.int .i64 l[i]) rfl
      rw [show intE.sz = 1 from rfl, Nat.mul_one, Nat.add_zero, hms, hml] at hst
      clear hcl hbr hat hml hms
      generalize l[i] = t at *
      go_wp2
      go_roundw
      case rel => exact ⟨i + 1, by omega, by go_num, hst⟩
      case measure => simp [intOf]; omega
    · go_wp2
      go_ret
      rw [copyTo_all (by omega)] at hbr
      exact ⟨_, rfl, hbr⟩

set_option maxRecDepth 100000 in
set_option maxHeartbeats 1000000 in
theorem eqIntS_same (l : List Int) (va vb : Value) (w : World) (ha : Rows' intE w va l) (hb : Rows' intE w vb l) (hl : l.length ≤ 1099511627776) :
    Calls Tryz.prog 23 #[va, vb] w fun e w' => e = .returned (.bool true) ∧ Below w.heap.size w w' := by
  rcases ha.ways with ⟨rfl, a, c, rfl⟩ | ⟨hne, ga, oa, ca, rfl, hca, hga, hcla⟩
  · rcases hb.ways with ⟨_, b, d, rfl⟩ | ⟨hne, _⟩
    · clear ha hb
      go_enter Tryz.func23, Tryz.ntmps23
      go_wp2
      go_loop [5] (fun iv => iv = .int .i64 0) (fun _ => 0)
      case atStart => rfl
      case round =>
        obtain rfl := hrel
        go_wp2
        go_ret
        exact ⟨rfl, Below.refl _ _⟩
    · exact absurd rfl hne
  · rcases hb.ways with ⟨e, _⟩ | ⟨_, gb, ob, cb, rfl, hcb, hgb, hclb⟩
    · exact absurd e hne
    · clear ha hb
      have HA := Lib.hid hcla
      have HB := Lib.hid hclb
      clear hcla hclb
      go_enter Tryz.func23, Tryz.ntmps23
      go_wp2
      go_loopw [5] (fun iv wr => ∃ i : Nat, i ≤ l.length ∧ iv = .int .i64 (i : Int) ∧ Below w.heap.size w wr) (fun iv _ => l.length - (intOf iv).toNat)
      case atStart => exact ⟨0, by omega, rfl, Below.refl _ _⟩
      case round =>
        obtain ⟨i, hi, rfl, hbel⟩ := hrel
        by_cases hlt : i < l.length
        · have hg : l[i]? = some l[i] := List.getElem?_eq_getElem hlt
          have h1 := (hbel.cell (p := ⟨ga, oa + i * intE.sz + 0, none⟩) hga).trans (HA.out i _ hg 0 _ rfl)
          have h2 := (hbel.cell (p := ⟨gb, ob + i * intE.sz + 0, none⟩) hgb).trans (HB.out i _ hg 0 _ rfl)
          rw [show intE.sz = 1 from rfl, Nat.mul_one, Nat.add_zero] at h1 h2
          generalize l[i] = t at *
          have hi0 : (0 : Int) ≤ (i : Int) := by omega
          have hi1 : (i : Int) < (l.length : Int) := by omega
          clear hg
          go_wp2
          go_quiet (fail)
          go_wp2
          go_roundw
          case rel => exact ⟨i + 1, by omega, by go_num, below_drewN hbel _⟩
          case measure => simp [intOf]; omega
        · go_wp2
          go_ret
          exact ⟨rfl, hbel⟩

def IsIn (w : World) (v : Value) (l : List Int) : Prop := Rows' intE w v l ∧ l.length ≤ 9223372036854775807

instance : Inhabited Int := ⟨0⟩

end Go.Proofs.YtgcnebepklelpaaGreat

/- Lists of numbers: each is marked, and the marks are held. -/
namespace Go.Proofs.YtgcnebepklelpaaGreat
open Go.RowKit

def markN (k : Nat) (j : Nat) : Int := ((k + j : Nat) : Int)
def marksN (k n : Nat) : List Int := (List.range n).map (markN k)
set_option maxRecDepth 100000 in
set_option maxHeartbeats 1000000 in
theorem markIntS_put (l : List Int) (v : Value) (k B : Nat) (w0 w : World) (hb : RBuf intE B w0 w v l) (hk2 : k + l.length ≤ 1099511627776) :
    Calls Tryz.prog 25 #[v, .int .i64 (k : Int)] w fun e w' => e = .returned (.int .i64 ((k + l.length : Nat) : Int)) ∧ RBuf intE B w0 w' v (marksN k l.length) ∧ w.grownBy w' v.ownBlock := by
  rcases hb.own.2 with ⟨rfl, h0⟩ | ⟨g, cap, cur, rfl, hg, hh, hnc, hcp, hcs, htake⟩
  · obtain rfl := List.length_eq_zero_iff.1 h0
    go_enter Tryz.func25, Tryz.ntmps25
    go_wp2
    go_loop [1, 5] (fun kv iv => kv = .int .i64 (k : Int) ∧ iv = .int .i64 0) (fun _ _ => 0)
    case atStart => exact ⟨rfl, rfl⟩
    case round =>
      obtain ⟨rfl, rfl⟩ := hrel
      go_wp2
      go_ret
      exact ⟨rfl, hb, World.grownBy.refl _ _⟩
  · clear hh hcs htake hcp
    have hle : l.length ≤ 1099511627776 := by omega
    go_enter Tryz.func25, Tryz.ntmps25
    go_wp2
    go_loopw [1, 5] (fun kv iv wr => ∃ i : Nat, i ≤ l.length ∧ iv = .int .i64 (i : Int) ∧ kv = .int .i64 ((k + i : Nat) : Int) ∧ RBuf intE B w0 wr (.slice (some ⟨g, 0, none⟩) l.length cap) (putTo (markN k) l i) ∧ w.grownBy wr (some g)) (fun _ iv _ => l.length - (intOf iv).toNat)
    case atStart => exact ⟨0, by omega, rfl, rfl, by rw [putTo_zero]; exact hb, World.grownBy.refl _ _⟩
    case round =>
      obtain ⟨i, hi, rfl, rfl, hbr, hgr⟩ := hrel
      by_cases hlt : i < l.length
      · have hi0 : (0 : Int) ≤ (i : Int) := by omega
        have hi1 : (i : Int) < (l.length : Int) := by omega
        have hml := putTo_length (m := markN k) hi
        have hat := putTo_at (m := markN k) hlt
        have hms := putTo_set (m := markN k) hlt
        rw [← hml] at hbr
        obtain ⟨K, hK⟩ : ∃ K : Nat, K = k + i := ⟨_, rfl⟩
        have HK := Lib.hid hK
        have hmk : markN k i = (K : Int) := by rw [hK]; rfl
        rw [← hK]
        have hK1 : K + 1 ≤ 4611686018427387904 := by omega
        clear hK
        generalize l[i] = x at hat
        have cs : wr.cell? ⟨g, i, none⟩ = some (.int .i64 x) := by
          have := hbr.cell rfl i _ hat 0 _ rfl
          rw [show intE.sz = 1 from rfl, Nat.mul_one, Nat.add_zero] at this
          exact this
        have fs := hbr.loose i
        have hst := hbr.stored i _ (markN k i) hat 0 (by decide) (.int .i64 (markN k i)) rfl
        rw [show intE.sz = 1 from rfl, Nat.mul_one, Nat.add_zero, hml, hms] at hst
        have hg2 := hgr.trans (grownBy_store wr g i (.int .i64 (markN k i)))
        rw [hmk] at hst hg2
        have HST := Lib.hid (And.intro hst hg2)
        clear hbr hat hst hg2 hgr hmk hms hml
        go_wp2
        go_roundw
        case rel => exact ⟨i + 1, by omega, by go_num, by rw [HK.out]; go_num, HST.out.1, HST.out.2⟩
        case measure => simp [intOf]; omega
      · have hfin : Hid (i = l.length) := by show i = l.length; omega
        go_wp2
        go_ret
        refine ⟨?_, ?_, hgr⟩
        · rw [← hfin.out]; rfl
        · have := hbr
          rw [hfin.out, putTo_all] at this
          exact this


end Go.Proofs.YtgcnebepklelpaaGreat

/- Stores in memory: a log, and the numbers of segments that are freed. -/
namespace Go.Proofs.YtgcnebepklelpaaGreat
open Go.RowKit

structure So where
  g : Lg
  fr : List Int

theorem Kept.wideS {B T B' T' : Nat} {w w' : World} (h : Kept B T w w') (hB : B' ≤ B) (hT : T ≤ T') : Kept B' T' w w' := ⟨h.os, h.tape, h.output, h.size, fun k hk ho => h.block k hk (by omega)⟩
theorem Box.nineL {w : World} {b : Nat} {u0 u1 u2 u3 u4 u5 u6 u7 u8 : Value} {t : TypeId} (h : Box w b #[u0, u1, u2, u3, u4, u5, u6, u7, u8] t) :
    (w.cell? ⟨b, 0, none⟩ = some u0 ∧ w.cell? ⟨b, 1, none⟩ = some u1 ∧ w.cell? ⟨b, 2, none⟩ = some u2 ∧ w.cell? ⟨b, 3, none⟩ = some u3 ∧ w.cell? ⟨b, 4, none⟩ = some u4 ∧ w.cell? ⟨b, 5, none⟩ = some u5 ∧ w.cell? ⟨b, 6, none⟩ = some u6 ∧ w.cell? ⟨b, 7, none⟩ = some u7 ∧ w.cell? ⟨b, 8, none⟩ = some u8) ∧
    w.frozen? ⟨b, 0, none⟩ = false ∧ w.frozen? ⟨b, 1, none⟩ = false ∧ w.frozen? ⟨b, 2, none⟩ = false ∧ w.frozen? ⟨b, 3, none⟩ = false ∧ w.frozen? ⟨b, 4, none⟩ = false ∧ w.frozen? ⟨b, 5, none⟩ = false ∧ w.frozen? ⟨b, 6, none⟩ = false ∧ w.frozen? ⟨b, 7, none⟩ = false ∧ w.frozen? ⟨b, 8, none⟩ = false :=
  ⟨⟨h.cell 0 _ rfl, h.cell 1 _ rfl, h.cell 2 _ rfl, h.cell 3 _ rfl, h.cell 4 _ rfl, h.cell 5 _ rfl, h.cell 6 _ rfl, h.cell 7 _ rfl, h.cell 8 _ rfl⟩, h.loose 0, h.loose 1, h.loose 2, h.loose 3, h.loose 4, h.loose 5, h.loose 6, h.loose 7, h.loose 8⟩
theorem Box.set8S {w : World} {b : Nat} {u0 u1 u2 u3 u4 u5 u6 u7 u8 : Value} {t : TypeId} (h : Box w b #[u0, u1, u2, u3, u4, u5, u6, u7, u8] t) (v0 v1 v2 v3 v4 v5 v6 v7 : Value) : Box (Go.Proofs.YtgcnebepklelpaaGreat.set8L w b v0 v1 v2 v3 v4 v5 v6 v7) b #[v0, v1, v2, v3, v4, v5, v6, v7, u8] t :=
  have a0 : Box (w.setCell ⟨b, 0, none⟩ v0) b #[v0, u1, u2, u3, u4, u5, u6, u7, u8] t := h.set 0 v0
  have a1 : Box ((w.setCell ⟨b, 0, none⟩ v0).setCell ⟨b, 1, none⟩ v1) b #[v0, v1, u2, u3, u4, u5, u6, u7, u8] t := a0.set 1 v1
  have a2 : Box (((w.setCell ⟨b, 0, none⟩ v0).setCell ⟨b, 1, none⟩ v1).setCell ⟨b, 2, none⟩ v2) b #[v0, v1, v2, u3, u4, u5, u6, u7, u8] t := a1.set 2 v2
  have a3 : Box ((((w.setCell ⟨b, 0, none⟩ v0).setCell ⟨b, 1, none⟩ v1).setCell ⟨b, 2, none⟩ v2).setCell ⟨b, 3, none⟩ v3) b #[v0, v1, v2, v3, u4, u5, u6, u7, u8] t := a2.set 3 v3
  have a4 : Box (((((w.setCell ⟨b, 0, none⟩ v0).setCell ⟨b, 1, none⟩ v1).setCell ⟨b, 2, none⟩ v2).setCell ⟨b, 3, none⟩ v3).setCell ⟨b, 4, none⟩ v4) b #[v0, v1, v2, v3, v4, u5, u6, u7, u8] t := a3.set 4 v4
  have a5 : Box ((((((w.setCell ⟨b, 0, none⟩ v0).setCell ⟨b, 1, none⟩ v1).setCell ⟨b, 2, none⟩ v2).setCell ⟨b, 3, none⟩ v3).setCell ⟨b, 4, none⟩ v4).setCell ⟨b, 5, none⟩ v5) b #[v0, v1, v2, v3, v4, v5, u6, u7, u8] t := a4.set 5 v5
  have a6 : Box (((((((w.setCell ⟨b, 0, none⟩ v0).setCell ⟨b, 1, none⟩ v1).setCell ⟨b, 2, none⟩ v2).setCell ⟨b, 3, none⟩ v3).setCell ⟨b, 4, none⟩ v4).setCell ⟨b, 5, none⟩ v5).setCell ⟨b, 6, none⟩ v6) b #[v0, v1, v2, v3, v4, v5, v6, u7, u8] t := a5.set 6 v6
  a6.set 7 v7

def set9S (w : World) (b : Nat) (v0 v1 v2 v3 v4 v5 v6 v7 v8 : Value) : World := (set8L w b v0 v1 v2 v3 v4 v5 v6 v7).setCell ⟨b, 8, none⟩ v8
theorem Box.set9S {w : World} {b : Nat} {u0 u1 u2 u3 u4 u5 u6 u7 u8 : Value} {t : TypeId} (h : Box w b #[u0, u1, u2, u3, u4, u5, u6, u7, u8] t) (v0 v1 v2 v3 v4 v5 v6 v7 v8 : Value) : Box (Go.Proofs.YtgcnebepklelpaaGreat.set9S w b v0 v1 v2 v3 v4 v5 v6 v7 v8) b #[v0, v1, v2, v3, v4, v5, v6, v7, v8] t :=
  (h.set8S v0 v1 v2 v3 v4 v5 v6 v7).set 8 v8
theorem below_set9S {B b : Nat} {w0 w : World} (h : Below B w0 w) (hb : B ≤ b) (v0 v1 v2 v3 v4 v5 v6 v7 v8 : Value) : Below B w0 (set9S w b v0 v1 v2 v3 v4 v5 v6 v7 v8) :=
  (below_set8L h hb v0 v1 v2 v3 v4 v5 v6 v7).setCell (p := ⟨b, 8, none⟩) hb v8
theorem grown_set9S (w : World) (b : Nat) (v0 v1 v2 v3 v4 v5 v6 v7 v8 : Value) : w.grownBy (set9S w b v0 v1 v2 v3 v4 v5 v6 v7 v8) (some b) :=
  (grown_set8L w b v0 v1 v2 v3 v4 v5 v6 v7).trans (stored_grown _ b 8 v8)
theorem Box.others8 {w : World} {b g : Nat} {cs : Array Value} {t : TypeId} (h : Box w b cs t) (hne : b ≠ g) (v0 v1 v2 v3 v4 v5 v6 v7 : Value) : Box (Go.Proofs.YtgcnebepklelpaaGreat.set8L w g v0 v1 v2 v3 v4 v5 v6 v7) b cs t :=
  (((((((h.other (g := g) hne 0 v0).other (g := g) hne 1 v1).other (g := g) hne 2 v2).other (g := g) hne 3 v3).other (g := g) hne 4 v4).other (g := g) hne 5 v5).other (g := g) hne 6 v6).other (g := g) hne 7 v7
theorem size_set8L (w : World) (b : Nat) (v0 v1 v2 v3 v4 v5 v6 v7 : Value) : (set8L w b v0 v1 v2 v3 v4 v5 v6 v7).heap.size = w.heap.size := by unfold set8L; simp

def SoO (B T : Nat) (w : World) (v : Value) (S : So) : Prop :=
  ∃ va vb vu vf hs B1 T1 B2 T2, v = .agg #[va, vb, .int .i64 S.g.segs, vu, .int .i64 S.g.ng, .int .i64 S.g.ns, .int .i64 S.g.st, .int .i64 S.g.nv, vf] ∧ (B ≤ B1 ∧ T1 ≤ T ∧ B ≤ B2 ∧ T2 ≤ T ∧ T ≤ w.heap.size ∧ (T1 ≤ B2 ∨ T2 ≤ B1)) ∧ LgP B1 T1 w va vb vu S.g hs ∧ LOwn intE B2 T2 w vf S.fr
theorem SoO.kept {B T B' T' : Nat} {w w' : World} {v : Value} {S : So} (h : SoO B T w v S) (hk : Kept B' T' w w') (hd : T ≤ B' ∨ T' ≤ B) : SoO B T w' v S := by
  obtain ⟨va, vb, vu, vf, hs, B1, T1, B2, T2, e, n, p, q⟩ := h
  have := hk.size
  exact ⟨va, vb, vu, vf, hs, B1, T1, B2, T2, e, by omega, p.kept hk (by omega), q.kept hk (by omega)⟩
theorem SoO.later {B T : Nat} {w w' : World} {v : Value} {S : So} (h : SoO B T w v S) (hb : Below w.heap.size w w') : SoO B T w' v S :=
  h.kept (Kept.of_below hb T T) (.inl (Nat.le_refl _))
theorem SoO.form {B T : Nat} {w : World} {v : Value} {S : So} (h : SoO B T w v S) : ∃ (a b u f : Option Addr) (c e g i : Nat), v = .agg #[.slice a S.g.d.sec.length c, .slice b S.g.d.cache.length e, .int .i64 S.g.segs, .slice u S.g.used.length g, .int .i64 S.g.ng, .int .i64 S.g.ns, .int .i64 S.g.st, .int .i64 S.g.nv, .slice f S.fr.length i] := by
  obtain ⟨va, vb, vu, vf, hs, B1, T1, B2, T2, rfl, n, p, q⟩ := h
  obtain ⟨a, b, u, c, e, f, rfl, rfl, rfl⟩ := p.form
  obtain ⟨x, i, rfl⟩ := q.1.form
  exact ⟨a, b, u, x, c, e, f, i, rfl⟩
def SoRd (w : World) (v : Value) (S : So) : Prop :=
  ∃ va vb vu vf, v = .agg #[va, vb, .int .i64 S.g.segs, vu, .int .i64 S.g.ng, .int .i64 S.g.ns, .int .i64 S.g.st, .int .i64 S.g.nv, vf] ∧ LRd w (.agg #[va, vb, .int .i64 S.g.segs, vu, .int .i64 S.g.ng, .int .i64 S.g.ns, .int .i64 S.g.st, .int .i64 S.g.nv]) S.g ∧ Rows' intE w vf S.fr
theorem SoO.rd {B T : Nat} {w : World} {v : Value} {S : So} (h : SoO B T w v S) : SoRd w v S := by
  obtain ⟨va, vb, vu, vf, hs, B1, T1, B2, T2, rfl, n, p, q⟩ := h
  exact ⟨va, vb, vu, vf, rfl, LgO.rd ⟨va, vb, vu, hs, rfl, p⟩, q.rows⟩
theorem SoRd.later {w w' : World} {v : Value} {S : So} (h : SoRd w v S) (hb : Below w.heap.size w w') : SoRd w' v S := by
  obtain ⟨va, vb, vu, vf, e, p, q⟩ := h
  exact ⟨va, vb, vu, vf, e, p.later hb, q.later hb⟩
theorem SoO.mk2 {B T B1 T1 B2 T2 : Nat} {w : World} {va vb vu vf : Value} {S : So} (h : LgO B1 T1 w (.agg #[va, vb, .int .i64 S.g.segs, vu, .int .i64 S.g.ng, .int .i64 S.g.ns, .int .i64 S.g.st, .int .i64 S.g.nv]) S.g) (hf : LOwn intE B2 T2 w vf S.fr) (n : B ≤ B1 ∧ T1 ≤ T ∧ B ≤ B2 ∧ T2 ≤ T ∧ T ≤ w.heap.size ∧ (T1 ≤ B2 ∨ T2 ≤ B1)) :
    SoO B T w (.agg #[va, vb, .int .i64 S.g.segs, vu, .int .i64 S.g.ng, .int .i64 S.g.ns, .int .i64 S.g.st, .int .i64 S.g.nv, vf]) S := by
  obtain ⟨ua, ub, uu, hs, e, p⟩ := h
  simp only [Value.agg.injEq, Array.mk.injEq, List.cons.injEq, and_true, true_and] at e
  obtain ⟨rfl, rfl, rfl⟩ := e
  exact ⟨_, _, _, vf, hs, B1, T1, B2, T2, rfl, n, p, hf⟩

def SoIn (w : World) (v : Value) (S : So) : Prop :=
  ∃ va vb vu vf, v = .agg #[va, vb, .int .i64 S.g.segs, vu, .int .i64 S.g.ng, .int .i64 S.g.ns, .int .i64 S.g.st, .int .i64 S.g.nv, vf] ∧ LIn w (.agg #[va, vb, .int .i64 S.g.segs, vu, .int .i64 S.g.ng, .int .i64 S.g.ns, .int .i64 S.g.st, .int .i64 S.g.nv]) S.g ∧ IsIn w vf S.fr
theorem SoIn.later {w w' : World} {v : Value} {S : So} (h : SoIn w v S) (hb : Below w.heap.size w w') : SoIn w' v S := by
  obtain ⟨va, vb, vu, vf, e, p, q, q2⟩ := h
  exact ⟨va, vb, vu, vf, e, p.later hb, q.later hb, q2⟩

def So.lean (S : So) : Prop := S.g.lean 1048576 ∧ S.fr.length ≤ 1048576
def marksSo (k : Nat) (S : So) : So := ⟨marksLg k S.g, marksN (S.g.kL k) S.fr.length⟩
def So.kS (k : Nat) (S : So) : Nat := S.g.kL k + S.fr.length

end Go.Proofs.YtgcnebepklelpaaGreat

/- Records and items that come in as arguments. -/
namespace Go.Proofs.YtgcnebepklelpaaGreat
open Go.RowKit Go.ChangeShapes Go.WideShapes Go.ChangeAt Go.Deep Go.Joins

theorem list8 {α : Type} {l : List α} (h : l.length = 8) : ∃ v0 v1 v2 v3 v4 v5 v6 v7, l = [v0, v1, v2, v3, v4, v5, v6, v7] := by
  match l, h with
  | [v0, v1, v2, v3, v4, v5, v6, v7], _ => exact ⟨v0, v1, v2, v3, v4, v5, v6, v7, rfl⟩
theorem list9 {α : Type} {l : List α} (h : l.length = 9) : ∃ c v0 v1 v2 v3 v4 v5 v6 v7, l = c :: [v0, v1, v2, v3, v4, v5, v6, v7] := by
  match l, h with
  | [c, v0, v1, v2, v3, v4, v5, v6, v7], _ => exact ⟨c, v0, v1, v2, v3, v4, v5, v6, v7, rfl⟩

section
variable {H : Type} {enc : TypeId × Value → H} {P : Program} {w : World} {base : Nat} {spare : Nat → Bool} {held : Bool}

theorem trod_eight {t : TypeId} {f0 f1 f2 f3 f4 f5 f6 f7 : Field} {fuel : Nat} {cs : List Value} {x : DataW H × List MemPlace} (hs : P.underlying t = some (.struct #[f0, f1, f2, f3, f4, f5, f6, f7])) (hone : oneCellFields P #[f0, f1, f2, f3, f4, f5, f6, f7] = true) (hC : P.cellsOf t = 8)
    (h : DataW.trod enc P w base spare held fuel t cs = some x) :
    ∃ (v0 v1 v2 v3 v4 v5 v6 v7 : Value) (n : Nat), cs = [v0, v1, v2, v3, v4, v5, v6, v7] ∧ (∃ y, DataW.trod enc P w base spare held n f0.type [v0] = some y) ∧ (∃ y, DataW.trod enc P w base spare held n f1.type [v1] = some y) ∧ (∃ y, DataW.trod enc P w base spare held n f2.type [v2] = some y) ∧ (∃ y, DataW.trod enc P w base spare held n f3.type [v3] = some y) ∧ (∃ y, DataW.trod enc P w base spare held n f4.type [v4] = some y) ∧ (∃ y, DataW.trod enc P w base spare held n f5.type [v5] = some y) ∧ (∃ y, DataW.trod enc P w base spare held n f6.type [v6] = some y) ∧ (∃ y, DataW.trod enc P w base spare held n f7.type [v7] = some y) := by
  obtain ⟨xs, n, _, _, hl, hlen, hf⟩ := DataW.trod_struct hs h
  obtain ⟨v0, v1, v2, v3, v4, v5, v6, v7, rfl⟩ := list8 (hl.trans hC)
  have g : ∀ (i : Nat) (f : Field) (v : Value), #[f0, f1, f2, f3, f4, f5, f6, f7][i]? = some f → [v0, v1, v2, v3, v4, v5, v6, v7][i]? = some v → ∃ y, DataW.trod enc P w base spare held n f.type [v] = some y := by
    intro i f v hi hv
    obtain ⟨o, k⟩ := hone_of hone i f hi
    have hx := hf i f hi
    rw [o, k] at hx
    have e : (List.drop i [v0, v1, v2, v3, v4, v5, v6, v7]).take 1 = [v] := by
      rw [List.take_one, List.head?_drop, hv]; rfl
    rw [e] at hx
    have hi' : i < xs.length := by
      rw [hlen]
      exact (Array.getElem?_eq_some_iff.1 hi).1
    exact ⟨xs[i], by first | (rw [hx]; exact List.getElem?_eq_getElem hi') | (rw [List.getElem?_eq_getElem hi'] at hx; exact hx) | simpa [hi'] using hx⟩
  exact ⟨v0, v1, v2, v3, v4, v5, v6, v7, n, rfl, g 0 f0 v0 rfl rfl, g 1 f1 v1 rfl rfl, g 2 f2 v2 rfl rfl, g 3 f3 v3 rfl rfl, g 4 f4 v4 rfl rfl, g 5 f5 v5 rfl rfl, g 6 f6 v6 rfl rfl, g 7 f7 v7 rfl rfl⟩
end

section
variable {H : Type} {enc : TypeId × Value → H} {W : World}

set_option maxRecDepth 100000 in
theorem rec_form {fuel : Nat} {cs : List Value} {x : DataW H × List MemPlace} (h : DataW.trod enc Tryz.prog W 0 (fun _ => true) true fuel 166 cs = some x) :
    ∃ r : Rc, cs = r.cs.toList ∧ r.user.size ≤ 9223372036854775807 ∧ r.name.size ≤ 9223372036854775807 ∧ r.text.size ≤ 9223372036854775807 := by
  obtain ⟨v0, v1, v2, v3, v4, v5, v6, v7, n, rfl, ⟨y0, h0⟩, ⟨y1, h1⟩, ⟨y2, h2⟩, ⟨y3, h3⟩, ⟨y4, h4⟩, ⟨y5, h5⟩, ⟨y6, h6⟩, ⟨y7, h7⟩⟩ := trod_eight Tryz.underlying166 (by kernel_rfl) (by kernel_rfl) h
  obtain ⟨k0, hk0, _, _⟩ := DataW.trod_int Tryz.underlying3 h0
  obtain ⟨k1, hk1, _, _⟩ := DataW.trod_int Tryz.underlying3 h1
  obtain ⟨k2, hk2, _, _⟩ := DataW.trod_int Tryz.underlying3 h2
  obtain ⟨k3, hk3, _, _⟩ := DataW.trod_int Tryz.underlying3 h3
  obtain ⟨k4, hk4, _, _⟩ := DataW.trod_int Tryz.underlying3 h4
  obtain ⟨s5, hk5, _, z5⟩ := DataW.trod_string Tryz.underlying9 h5
  obtain ⟨s6, hk6, _, z6⟩ := DataW.trod_string Tryz.underlying9 h6
  obtain ⟨s7, hk7, _, z7⟩ := DataW.trod_string Tryz.underlying9 h7
  simp at hk0 hk1 hk2 hk3 hk4 hk5 hk6 hk7
  have hml : maxLen ≤ 9223372036854775807 := by decide
  exact ⟨⟨k0, k1, k2, k3, k4, s5, s6, s7⟩, by rw [hk0, hk1, hk2, hk3, hk4, hk5, hk6, hk7]; rfl, Nat.le_trans z5 hml, Nat.le_trans z6 hml, Nat.le_trans z7 hml⟩

end

end Go.Proofs.YtgcnebepklelpaaGreat

/- Lists of items that come in as an argument. -/
namespace Go.Proofs.YtgcnebepklelpaaGreat
open Go.RowKit Go.ChangeShapes Go.WideShapes Go.ChangeAt Go.Deep Go.Joins

def ItsIn (W : World) (v : Value) (l : List Itm) : Prop := Rows' litE W v l ∧ l.length ≤ 9223372036854775807 ∧ ∀ x ∈ l, x.2.user.size ≤ 9223372036854775807 ∧ x.2.name.size ≤ 9223372036854775807 ∧ x.2.text.size ≤ 9223372036854775807

instance : Inhabited Itm := ⟨(0, Rc.nil)⟩

section
variable {H : Type} {enc : TypeId × Value → H} {W : World}

set_option maxRecDepth 100000 in
theorem item_form {fuel : Nat} {l : List Value} {x : DataW H × List MemPlace} (hl : l.length = 9) (hf : DataW.trod enc Tryz.prog W 0 (fun _ => true) true fuel 168 l = some x) :
    ∃ y : Itm, l = litE.f y ∧ y.2.user.size ≤ 9223372036854775807 ∧ y.2.name.size ≤ 9223372036854775807 ∧ y.2.text.size ≤ 9223372036854775807 := by
  have hR : Tryz.prog.cellsOf 166 = 8 := by kernel_rfl
  have hN : Tryz.prog.cellsOf 3 = 1 := by kernel_rfl
  obtain ⟨c, v0, v1, v2, v3, v4, v5, v6, v7, rfl⟩ := list9 hl
  obtain ⟨y0, y1, n, _, _, h0, h1⟩ := trod_struct2 Tryz.underlying168 hf
  simp [hR, hN] at h0 h1
  obtain ⟨k0, hk0, _, _⟩ := DataW.trod_int Tryz.underlying3 h0
  obtain ⟨D, hD, z⟩ := rec_form h1
  simp at hk0
  refine ⟨(k0, D), ?_, z⟩
  rw [hD, hk0]; rfl

set_option maxRecDepth 100000 in
theorem items_of_trod {fuel : Nat} {v : Value} {x : DataW H × List MemPlace} (h : DataW.trod enc Tryz.prog W 0 (fun _ => true) true fuel 104 [v] = some x) : ∃ l : List Itm, ItsIn W v l := by
  have hC : Tryz.prog.cellsOf 168 = 9 := by kernel_rfl
  have hml : maxLen ≤ 9223372036854775807 := by decide
  rcases open_slice Tryz.underlying104 h with ⟨hv, _⟩ | ⟨a, len, cap, m, n, D, Pl, hv, _, hl, hm, hmm, _, hc⟩
  · simp at hv; subst hv
    exact ⟨[], .inl ⟨rfl, _, _, rfl⟩, by simp, by simp⟩
  · simp at hv; subst hv
    have hm2 : m = cap := by simpa using hmm
    have hex : ∀ i, i < len → ∃ y : Itm, (∀ k u, (litE.f y)[k]? = some u → W.cell? (a.add (i * 9 + k)) = some u) ∧ y.2.user.size ≤ 9223372036854775807 ∧ y.2.name.size ≤ 9223372036854775807 ∧ y.2.text.size ≤ 9223372036854775807 := by
      intro i hi
      obtain ⟨cs', h1, h2⟩ := hc i (by omega)
      rw [hC] at h1
      obtain ⟨_, hlen, hcell⟩ := World.cells?_some h1
      obtain ⟨y, hy, z⟩ := item_form hlen h2
      refine ⟨y, fun k u hu => ?_, z⟩
      have hk : k < 9 := by have h9 := (List.getElem?_eq_some_iff.1 hu).1; rw [litE.len y] at h9; exact h9
      have := hcell k hk
      rw [add_add] at this
      rw [this, hy]
      exact hu
    obtain ⟨l, hlen, hr, hp⟩ := rows_of_cells litE hl (fun i hi => by
      obtain ⟨y, hy, _⟩ := hex i hi
      exact ⟨y, hy⟩) (fun y => y.2.user.size ≤ 9223372036854775807 ∧ y.2.name.size ≤ 9223372036854775807 ∧ y.2.text.size ≤ 9223372036854775807) (fun i hi y hy => by
      obtain ⟨z, hz, hs⟩ := hex i hi
      have e6 := hy 6 _ rfl
      have e7 := hy 7 _ rfl
      have e8 := hy 8 _ rfl
      have g6 := hz 6 _ rfl
      have g7 := hz 7 _ rfl
      have g8 := hz 8 _ rfl
      change W.cell? (a.add (i * 9 + 6)) = _ at e6
      change W.cell? (a.add (i * 9 + 7)) = _ at e7
      change W.cell? (a.add (i * 9 + 8)) = _ at e8
      rw [g6] at e6
      rw [g7] at e7
      rw [g8] at e8
      simp at e6 e7 e8
      rw [← e6, ← e7, ← e8]
      exact hs)
    exact ⟨l, hr, by omega, hp⟩

end

end Go.Proofs.YtgcnebepklelpaaGreat

/- Logs that come in as arguments. -/
namespace Go.Proofs.YtgcnebepklelpaaGreat
open Go.RowKit Go.ChangeShapes Go.WideShapes Go.ChangeAt Go.Deep Go.Joins

instance : Inhabited SgH := ⟨⟨0, 0, 0, none, 0, 0⟩⟩
theorem list4G {α : Type} {l : List α} (h : l.length = 4) : ∃ v0 v1 v2 v3, l = [v0, v1, v2, v3] := by
  match l, h with
  | [v0, v1, v2, v3], _ => exact ⟨v0, v1, v2, v3, rfl⟩
theorem list8G {α : Type} {l : List α} (h : l.length = 8) : ∃ v0 v1 v2 v3 v4 v5 v6 v7, l = [v0, v1, v2, v3, v4, v5, v6, v7] := by
  match l, h with
  | [v0, v1, v2, v3, v4, v5, v6, v7], _ => exact ⟨v0, v1, v2, v3, v4, v5, v6, v7, rfl⟩

section
variable {H : Type} {enc : TypeId × Value → H} {P : Program} {w : World} {base : Nat} {spare : Nat → Bool} {held : Bool}

theorem trod_onesG {t : TypeId} {fs : Array Field} {fuel : Nat} {cs : List Value} {x : DataW H × List MemPlace} (hs : P.underlying t = some (.struct fs)) (hone : oneCellFields P fs = true)
    (h : DataW.trod enc P w base spare held fuel t cs = some x) :
    ∃ n : Nat, cs.length = P.cellsOf t ∧ ∀ (i : Nat) (f : Field) (v : Value), fs[i]? = some f → cs[i]? = some v → ∃ y, DataW.trod enc P w base spare held n f.type [v] = some y := by
  obtain ⟨xs, n, _, _, hl, hlen, hf⟩ := DataW.trod_struct hs h
  refine ⟨n, hl, fun i f v hi hv => ?_⟩
  obtain ⟨o, k⟩ := hone_of hone i f hi
  have hx := hf i f hi
  rw [o, k] at hx
  have e : (List.drop i cs).take 1 = [v] := by
    rw [List.take_one, List.head?_drop, hv]; rfl
  rw [e] at hx
  have hi' : i < xs.length := by
    rw [hlen]
    exact (Array.getElem?_eq_some_iff.1 hi).1
  exact ⟨xs[i], by first | (rw [hx]; exact List.getElem?_eq_getElem hi') | (rw [List.getElem?_eq_getElem hi'] at hx; exact hx) | simpa [hi'] using hx⟩
end

section
variable {H : Type} {enc : TypeId × Value → H} {W : World}

def SgIn (W : World) (x : SgH) : Prop := ∃ l : List Itm, ItsIn W x.mv l

set_option maxRecDepth 100000 in
theorem seg_form {fuel : Nat} {l : List Value} {x : DataW H × List MemPlace} (hf : DataW.trod enc Tryz.prog W 0 (fun _ => true) true fuel 106 l = some x) :
    ∃ y : SgH, l = lsgE.f y ∧ SgIn W y := by
  have hC : Tryz.prog.cellsOf 106 = 4 := by kernel_rfl
  obtain ⟨n, hl, hx⟩ := trod_onesG Tryz.underlying106 (by kernel_rfl) hf
  obtain ⟨v0, v1, v2, v3, rfl⟩ := list4G (hl.trans hC)
  obtain ⟨y0, h0⟩ := hx 0 _ v0 rfl rfl
  obtain ⟨y1, h1⟩ := hx 1 _ v1 rfl rfl
  obtain ⟨y2, h2⟩ := hx 2 _ v2 rfl rfl
  obtain ⟨y3, h3⟩ := hx 3 _ v3 rfl rfl
  obtain ⟨k0, hk0, _, _⟩ := DataW.trod_int Tryz.underlying3 h0
  obtain ⟨k1, hk1, _, _⟩ := DataW.trod_int Tryz.underlying3 h1
  obtain ⟨k2, hk2, _, _⟩ := DataW.trod_int Tryz.underlying3 h2
  obtain ⟨ms, hr⟩ := items_of_trod h3
  simp at hk0 hk1 hk2
  obtain ⟨a, n, c, rfl⟩ : ∃ ad n cap, v3 = .slice ad n cap := by
    rcases hr.1.ways with ⟨_, a, c, e⟩ | ⟨_, g, off, c, e, _⟩
    · exact ⟨_, _, _, e⟩
    · exact ⟨_, _, _, e⟩
  exact ⟨⟨k0, k1, k2, a, n, c⟩, by rw [hk0, hk1, hk2]; rfl, ms, hr⟩

set_option maxRecDepth 100000 in
theorem segs_of_trod {fuel : Nat} {v : Value} {x : DataW H × List MemPlace} (h : DataW.trod enc Tryz.prog W 0 (fun _ => true) true fuel 26 [v] = some x) :
    ∃ l : List Sg, LGRd W v l ∧ l.length ≤ 9223372036854775807 ∧ ∀ b ∈ l, sgShort b := by
  have hC : Tryz.prog.cellsOf 106 = 4 := by kernel_rfl
  have hml : maxLen ≤ 9223372036854775807 := by decide
  have hrows : ∃ hs : List SgH, Rows' lsgE W v hs ∧ hs.length ≤ 9223372036854775807 ∧ ∀ y ∈ hs, SgIn W y := by
    rcases open_slice Tryz.underlying26 h with ⟨hv, _⟩ | ⟨a, len, cap, m, n, D, Pl, hv, _, hl, hm, hmm, _, hc⟩
    · simp at hv; subst hv
      exact ⟨[], .inl ⟨rfl, _, _, rfl⟩, by simp, by simp⟩
    · simp at hv; subst hv
      have hm2 : m = cap := by simpa using hmm
      have hex : ∀ i, i < len → ∃ y : SgH, (∀ k u, (lsgE.f y)[k]? = some u → W.cell? (a.add (i * 4 + k)) = some u) ∧ SgIn W y := by
        intro i hi
        obtain ⟨cs', h1, h2⟩ := hc i (by omega)
        rw [hC] at h1
        obtain ⟨_, hlen, hcell⟩ := World.cells?_some h1
        obtain ⟨y, hy, z⟩ := seg_form h2
        refine ⟨y, fun k u hu => ?_, z⟩
        have hk : k < 4 := by have h9 := (List.getElem?_eq_some_iff.1 hu).1; rw [lsgE.len y] at h9; exact h9
        have := hcell k hk
        rw [add_add] at this
        rw [this, hy]
        exact hu
      obtain ⟨l, hlen, hr, hp⟩ := rows_of_cells lsgE hl (fun i hi => by
        obtain ⟨y, hy, _⟩ := hex i hi
        exact ⟨y, hy⟩) (SgIn W) (fun i hi y hy => by
        obtain ⟨z, hz, hs⟩ := hex i hi
        have e3 := hy 3 _ rfl
        have g3 := hz 3 _ rfl
        change W.cell? (a.add (i * 4 + 3)) = _ at e3
        rw [g3] at e3
        have q3 : z.mv = y.mv := Option.some.inj e3
        unfold SgIn at hs ⊢
        rw [← q3]
        exact hs)
      exact ⟨l, hr, by omega, hp⟩
  obtain ⟨hs, hr, hlen, hp⟩ := hrows
  have hch : ∀ y : SgH, ∃ b : Sg, SgIn W y → ((y.no = b.no ∧ y.gen = b.gen ∧ y.ende = b.ende) ∧ Rows' litE W y.mv b.items) ∧ sgShort b := by
    intro y
    by_cases c : SgIn W y
    · obtain ⟨ms, hr, hl, hsh⟩ := c
      exact ⟨⟨y.no, y.gen, y.ende, ms⟩, fun _ => ⟨⟨⟨rfl, rfl, rfl⟩, hr⟩, hl, hsh⟩⟩
    · exact ⟨⟨0, 0, 0, []⟩, fun e => absurd e c⟩
  obtain ⟨f, hf⟩ := Classical.axiomOfChoice hch
  refine ⟨hs.map f, ⟨hs, hr, by simp, fun j y b h1 h2 => ?_⟩, by simpa using hlen, fun b hb => ?_⟩
  · rw [List.getElem?_map, h1] at h2
    cases h2
    exact (hf y (hp y (List.mem_of_getElem? h1))).1
  · obtain ⟨y, hy, rfl⟩ := List.mem_map.1 hb
    exact (hf y (hp y hy)).2

set_option maxRecDepth 100000 in
theorem log_of_trod {fuel : Nat} {l : List Value} {x : DataW H × List MemPlace} (hf : DataW.trod enc Tryz.prog W 0 (fun _ => true) true fuel 28 l = some x) : ∃ L : Lg, LIn W (.agg ⟨l⟩) L := by
  have hC : Tryz.prog.cellsOf 28 = 8 := by kernel_rfl
  have hN : Tryz.prog.cellsOf 3 = 1 := by kernel_rfl
  have hD : Tryz.prog.cellsOf 25 = 2 := by kernel_rfl
  have hG : Tryz.prog.cellsOf 26 = 1 := by kernel_rfl
  have hS1 : Tryz.prog.cellsOf 22 = 1 := by kernel_rfl
  have hW1 : Tryz.prog.cellsOf 23 = 1 := by kernel_rfl
  obtain ⟨xs, n, _, _, hl, hlen, hx⟩ := DataW.trod_struct Tryz.underlying28 hf
  obtain ⟨v0, v1, v2, v3, v4, v5, v6, v7, rfl⟩ := list8G (hl.trans hC)
  have hlen' : xs.length = 7 := hlen
  have ex : ∀ i, i < 7 → ∃ y, xs[i]? = some y := fun i hi => ⟨_, List.getElem?_eq_getElem (by omega)⟩
  obtain ⟨y0, e0⟩ := ex 0 (by omega)
  obtain ⟨y1, e1⟩ := ex 1 (by omega)
  obtain ⟨y2, e2⟩ := ex 2 (by omega)
  obtain ⟨y3, e3⟩ := ex 3 (by omega)
  obtain ⟨y4, e4⟩ := ex 4 (by omega)
  obtain ⟨y5, e5⟩ := ex 5 (by omega)
  obtain ⟨y6, e6⟩ := ex 6 (by omega)
  have h0 := (hx 0 _ rfl).trans e0
  have h1 := (hx 1 _ rfl).trans e1
  have h2 := (hx 2 _ rfl).trans e2
  have h3 := (hx 3 _ rfl).trans e3
  have h4 := (hx 4 _ rfl).trans e4
  have h5 := (hx 5 _ rfl).trans e5
  have h6 := (hx 6 _ rfl).trans e6
  simp [hD, hN, hG] at h0 h1 h2 h3 h4 h5 h6
  obtain ⟨z0, z1, m, _, _, g0, g1⟩ := trod_struct2 Tryz.underlying25 h0
  simp [hS1, hW1] at g0 g1
  obtain ⟨ls, hs1, hs2, hs3⟩ := strs_of_trod g0
  obtain ⟨lc, hc1, hc2, hc3⟩ := writes_of_trod g1
  obtain ⟨k1, hk1, _, _⟩ := DataW.trod_int Tryz.underlying3 h1
  obtain ⟨us, hu1, hu2, hu3⟩ := segs_of_trod h2
  obtain ⟨k3, hk3, _, _⟩ := DataW.trod_int Tryz.underlying3 h3
  obtain ⟨k4, hk4, _, _⟩ := DataW.trod_int Tryz.underlying3 h4
  obtain ⟨k5, hk5, _, _⟩ := DataW.trod_int Tryz.underlying3 h5
  obtain ⟨k6, hk6, _, _⟩ := DataW.trod_int Tryz.underlying3 h6
  simp at hk1 hk3 hk4 hk5 hk6
  have hml : maxLen ≤ 9223372036854775807 := by decide
  refine ⟨⟨⟨ls, lc⟩, k1, us, k3, k4, k5, k6⟩, v0, v1, v3, ?_, ⟨v0, v1, rfl, hs1, hc1, Nat.le_trans hs2 hml, Nat.le_trans hc2 hml, fun s hs => Nat.le_trans (hs3 s hs) hml, fun x hx => Nat.le_trans (hc3 x hx) hml⟩, hu1, hu2, hu3⟩
  rw [hk1, hk3, hk4, hk5, hk6]

end

end Go.Proofs.YtgcnebepklelpaaGreat

/- Stores that come in as arguments. -/
namespace Go.Proofs.YtgcnebepklelpaaGreat
open Go.RowKit Go.ChangeShapes Go.WideShapes Go.ChangeAt Go.Deep Go.Joins

theorem list9G {α : Type} {l : List α} (h : l.length = 9) : ∃ v0 v1 v2 v3 v4 v5 v6 v7 v8, l = [v0, v1, v2, v3, v4, v5, v6, v7, v8] := by
  match l, h with
  | [v0, v1, v2, v3, v4, v5, v6, v7, v8], _ => exact ⟨v0, v1, v2, v3, v4, v5, v6, v7, v8, rfl⟩

section
variable {H : Type} {enc : TypeId × Value → H} {W : World}

set_option maxRecDepth 100000 in
theorem ints_of_trod {fuel : Nat} {v : Value} {x : DataW H × List MemPlace} (h : DataW.trod enc Tryz.prog W 0 (fun _ => true) true fuel 29 [v] = some x) : ∃ l : List Int, IsIn W v l := by
  have hml : maxLen ≤ 9223372036854775807 := by decide
  rcases open_slice1 Tryz.underlying29 (by kernel_rfl) h with ⟨hv, _⟩ | ⟨a, len, cap, m, n, V, D, Pl, hv, _, hl, hm, hmm, _, hc⟩
  · simp at hv; subst hv
    exact ⟨[], .inl ⟨rfl, _, _, rfl⟩, by simp⟩
  · simp at hv; subst hv
    have hm2 : m = cap := by simpa using hmm
    have hex : ∀ i, i < len → ∃ s : Int, W.cell? (a.add i) = some (.int .i64 s) := by
      intro i hi
      obtain ⟨h1, h2⟩ := hc i (by omega)
      obtain ⟨s, hs, _, _⟩ := DataW.trod_int Tryz.underlying3 h2
      simp at hs
      exact ⟨s, by rw [h1, hs]⟩
    obtain ⟨l, hlen, hr, _⟩ := rows_of_cells intE hl (fun i hi => by
      obtain ⟨s, hs⟩ := hex i hi
      refine ⟨s, fun k u hu => ?_⟩
      match k, hu with
      | 0, hu => simp [intE] at hu; subst hu; rw [show intE.sz = 1 from rfl, Nat.mul_one, Nat.add_zero]; exact hs
      | k + 1, hu => simp [intE] at hu) (fun _ => True) (fun _ _ _ _ => trivial)
    exact ⟨l, hr, by omega⟩

set_option maxRecDepth 100000 in
theorem store_of_trod {fuel : Nat} {l : List Value} {x : DataW H × List MemPlace} (hf : DataW.trod enc Tryz.prog W 0 (fun _ => true) true fuel 31 l = some x) : ∃ S : So, SoIn W (.agg ⟨l⟩) S := by
  have hC : Tryz.prog.cellsOf 31 = 9 := by kernel_rfl
  have hN : Tryz.prog.cellsOf 29 = 1 := by kernel_rfl
  have hD : Tryz.prog.cellsOf 28 = 8 := by kernel_rfl
  obtain ⟨xs, n, _, _, hl, hlen, hx⟩ := DataW.trod_struct Tryz.underlying31 hf
  obtain ⟨v0, v1, v2, v3, v4, v5, v6, v7, v8, rfl⟩ := list9G (hl.trans hC)
  have hlen' : xs.length = 2 := hlen
  have ex : ∀ i, i < 2 → ∃ y, xs[i]? = some y := fun i hi => ⟨_, List.getElem?_eq_getElem (by omega)⟩
  obtain ⟨y0, e0⟩ := ex 0 (by omega)
  obtain ⟨y1, e1⟩ := ex 1 (by omega)
  have h0 := (hx 0 _ rfl).trans e0
  have h1 := (hx 1 _ rfl).trans e1
  simp [hD, hN] at h0 h1
  obtain ⟨L, hL⟩ := log_of_trod h0
  obtain ⟨fr, hfr⟩ := ints_of_trod h1
  obtain ⟨va, vb, vu, e, hp⟩ := id hL
  simp only [Value.agg.injEq, Array.mk.injEq, List.cons.injEq, and_true] at e
  obtain ⟨rfl, rfl, rfl, rfl, rfl, rfl, rfl, rfl⟩ := e
  exact ⟨⟨L, fr⟩, _, _, _, v8, rfl, hL, hfr⟩

set_option maxRecDepth 100000 in
theorem open_Store {b0 : Nat} {r : Reach} {v : Value} {d : DataW H} {p : List MemPlace} (hv : Value.okWide Tryz.prog W r b0 31 v) (h : DataW.Trod enc Tryz.prog W 0 (fun _ => true) true 31 v d p) : ∃ S : So, SoIn W v S := by
  obtain ⟨cs, rfl, hsz⟩ := okWide_struct Tryz.underlying31 hv
  obtain ⟨fuel, hf⟩ := h
  obtain ⟨l⟩ := cs
  exact store_of_trod hf
end

end Go.Proofs.YtgcnebepklelpaaGreat
