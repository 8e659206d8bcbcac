/- Texts of our own, joined. -/
import Derived.Test.YtjfilicddnhniabJh
import Derived.Deep.Slices
import Derived.Lib.SmallJoins
import Derived.ProofKit
import Derived.Test.YtjfilicddnhniabJc
import Derived.Test.YtjfilicddnhniabJb
/- States that come in as arguments. -/
namespace Go.Proofs.Ytjfilicddnhniab
open Go.RowKit Go.ChangeShapes Go.WideShapes Go.ChangeAt Go.Deep Go.Joins

theorem list3 {α : Type} {l : List α} (h : l.length = 3) : ∃ v0 v1 v2, l = [v0, v1, v2] := by
  match l, h with
  | [v0, v1, v2], _ => exact ⟨v0, v1, v2, rfl⟩
theorem list5 {α : Type} {l : List α} (h : l.length = 5) : ∃ v0 v1 v2 v3 v4, l = [v0, v1, v2, v3, v4] := by
  match l, h with
  | [v0, v1, v2, v3, v4], _ => exact ⟨v0, v1, v2, v3, v4, rfl⟩

section
variable {H : Type} {enc : TypeId × Value → H} {P : Program} {w : World} {base : Nat} {spare : Nat → Bool} {held : Bool}

/-- The fields of a struct, each of one cell. -/
theorem trod_ones {t : TypeId} {fs : Array Field} {fuel : Nat} {cs : List Value} {x : DataW H × List MemPlace} (hs : P.underlying t = some (.struct fs)) (hone : oneCellFields P fs = true)
    (h : DataW.trod enc P w base spare held fuel t cs = some x) :
    ∃ n : Nat, cs.length = P.cellsOf t ∧ ∀ (i : Nat) (f : Field) (v : Value), fs[i]? = some f → cs[i]? = some v → ∃ y, DataW.trod enc P w base spare held n f.type [v] = some y := by
  obtain ⟨xs, n, _, _, hl, hlen, hf⟩ := DataW.trod_struct hs h
  refine ⟨n, hl, fun i f v hi hv => ?_⟩
  obtain ⟨o, k⟩ := hone_of hone i f hi
  have hx := hf i f hi
  rw [o, k] at hx
  have e : (List.drop i cs).take 1 = [v] := by
    rw [List.take_one, List.head?_drop, hv]; rfl
  rw [e] at hx
  have hi' : i < xs.length := by
    rw [hlen]
    exact (Array.getElem?_eq_some_iff.1 hi).1
  exact ⟨xs[i], by first | (rw [hx]; exact List.getElem?_eq_getElem hi') | (rw [List.getElem?_eq_getElem hi'] at hx; exact hx) | simpa [hi'] using hx⟩
end

/-- A state that came in: its boxes can be read; their texts are texts. -/
def StIn (W : World) (v : Value) (l : List Bx) : Prop := ∃ u, v = .agg #[u] ∧ LBRd W u l ∧ l.length ≤ 9223372036854775807 ∧ ∀ b ∈ l, bxShort b

section
variable {H : Type} {enc : TypeId × Value → H} {W : World}

set_option maxRecDepth 100000 in
theorem mail_form {fuel : Nat} {l : List Value} {x : DataW H × List MemPlace} (hf : DataW.trod enc Try.prog W 0 (fun _ => true) true fuel 147 l = some x) :
    ∃ y : Ml, l = lmlE.f y ∧ mlShort y := by
  have hC : Try.prog.cellsOf 147 = 3 := by kernel_rfl
  obtain ⟨n, hl, hx⟩ := trod_ones Try.underlying147 (by kernel_rfl) hf
  obtain ⟨v0, v1, v2, rfl⟩ := list3 (hl.trans hC)
  obtain ⟨y0, h0⟩ := hx 0 _ v0 rfl rfl
  obtain ⟨y1, h1⟩ := hx 1 _ v1 rfl rfl
  obtain ⟨y2, h2⟩ := hx 2 _ v2 rfl rfl
  obtain ⟨k0, hk0, _, _⟩ := DataW.trod_int Try.underlying3 h0
  obtain ⟨k1, hk1, _, _⟩ := DataW.trod_int Try.underlying3 h1
  obtain ⟨s2, hk2, _, z2⟩ := DataW.trod_string Try.underlying9 h2
  simp at hk0 hk1 hk2
  have hml : maxLen ≤ 9223372036854775807 := by decide
  exact ⟨⟨k0, k1, s2⟩, by rw [hk0, hk1, hk2]; rfl, Nat.le_trans z2 hml⟩

set_option maxRecDepth 100000 in
theorem mails_of_trod {fuel : Nat} {v : Value} {x : DataW H × List MemPlace} (h : DataW.trod enc Try.prog W 0 (fun _ => true) true fuel 97 [v] = some x) :
    ∃ l : List Ml, Rows' lmlE W v l ∧ l.length ≤ 9223372036854775807 ∧ ∀ m ∈ l, mlShort m := by
  have hC : Try.prog.cellsOf 147 = 3 := by kernel_rfl
  have hml : maxLen ≤ 9223372036854775807 := by decide
  rcases open_slice Try.underlying97 h with ⟨hv, _⟩ | ⟨a, len, cap, m, n, D, Pl, hv, _, hl, hm, hmm, _, hc⟩
  · simp at hv; subst hv
    exact ⟨[], .inl ⟨rfl, _, _, rfl⟩, by simp, by simp⟩
  · simp at hv; subst hv
    have hm2 : m = cap := by simpa using hmm
    have hex : ∀ i, i < len → ∃ y : Ml, (∀ k u, (lmlE.f y)[k]? = some u → W.cell? (a.add (i * 3 + k)) = some u) ∧ mlShort y := by
      intro i hi
      obtain ⟨cs', h1, h2⟩ := hc i (by omega)
      rw [hC] at h1
      obtain ⟨_, hlen, hcell⟩ := World.cells?_some h1
      obtain ⟨y, hy, z⟩ := mail_form h2
      refine ⟨y, fun k u hu => ?_, z⟩
      have hk : k < 3 := by have h9 := (List.getElem?_eq_some_iff.1 hu).1; rw [lmlE.len y] at h9; exact h9
      have := hcell k hk
      rw [add_add] at this
      rw [this, hy]
      exact hu
    obtain ⟨l, hlen, hr, hp⟩ := rows_of_cells lmlE hl (fun i hi => by
      obtain ⟨y, hy, _⟩ := hex i hi
      exact ⟨y, hy⟩) mlShort (fun i hi y hy => by
      obtain ⟨z, hz, hs⟩ := hex i hi
      have e2 := hy 2 _ rfl
      have g2 := hz 2 _ rfl
      change W.cell? (a.add (i * 3 + 2)) = _ at e2
      rw [g2] at e2
      simp at e2
      unfold mlShort at hs ⊢
      rw [← e2]
      exact hs)
    exact ⟨l, hr, by omega, hp⟩

/-- A box as it came in: its mails can be read. -/
def HdIn (W : World) (x : BxH) : Prop := x.user.size ≤ 9223372036854775807 ∧ x.name.size ≤ 9223372036854775807 ∧ ∃ l : List Ml, Rows' lmlE W x.mv l ∧ l.length ≤ 9223372036854775807 ∧ ∀ m ∈ l, mlShort m

set_option maxRecDepth 100000 in
theorem box_form' {fuel : Nat} {l : List Value} {x : DataW H × List MemPlace} (hf : DataW.trod enc Try.prog W 0 (fun _ => true) true fuel 99 l = some x) :
    ∃ y : BxH, l = lhdE.f y ∧ HdIn W y := by
  have hC : Try.prog.cellsOf 99 = 5 := by kernel_rfl
  obtain ⟨n, hl, hx⟩ := trod_ones Try.underlying99 (by kernel_rfl) hf
  obtain ⟨v0, v1, v2, v3, v4, rfl⟩ := list5 (hl.trans hC)
  obtain ⟨y0, h0⟩ := hx 0 _ v0 rfl rfl
  obtain ⟨y1, h1⟩ := hx 1 _ v1 rfl rfl
  obtain ⟨y2, h2⟩ := hx 2 _ v2 rfl rfl
  obtain ⟨y3, h3⟩ := hx 3 _ v3 rfl rfl
  obtain ⟨y4, h4⟩ := hx 4 _ v4 rfl rfl
  obtain ⟨k0, hk0, _, _⟩ := DataW.trod_int Try.underlying3 h0
  obtain ⟨s1, hk1, _, z1⟩ := DataW.trod_string Try.underlying9 h1
  obtain ⟨s2, hk2, _, z2⟩ := DataW.trod_string Try.underlying9 h2
  obtain ⟨k3, hk3, _, _⟩ := DataW.trod_int Try.underlying3 h3
  obtain ⟨ms, hr, hlen, hsh⟩ := mails_of_trod h4
  simp at hk0 hk1 hk2 hk3
  have hml : maxLen ≤ 9223372036854775807 := by decide
  obtain ⟨a, n, c, rfl⟩ : ∃ ad n cap, v4 = .slice ad n cap := by
    rcases hr.ways with ⟨_, a, c, e⟩ | ⟨_, g, off, c, e, _⟩
    · exact ⟨_, _, _, e⟩
    · exact ⟨_, _, _, e⟩
  exact ⟨⟨k0, s1, s2, k3, a, n, c⟩, by rw [hk0, hk1, hk2, hk3]; rfl, Nat.le_trans z1 hml, Nat.le_trans z2 hml, ms, hr, hlen, hsh⟩

set_option maxRecDepth 100000 in
theorem boxes_of_trod {fuel : Nat} {v : Value} {x : DataW H × List MemPlace} (h : DataW.trod enc Try.prog W 0 (fun _ => true) true fuel 22 [v] = some x) :
    ∃ l : List Bx, LBRd W v l ∧ l.length ≤ 9223372036854775807 ∧ ∀ b ∈ l, bxShort b := by
  have hC : Try.prog.cellsOf 99 = 5 := by kernel_rfl
  have hml : maxLen ≤ 9223372036854775807 := by decide
  have hrows : ∃ hs : List BxH, Rows' lhdE W v hs ∧ hs.length ≤ 9223372036854775807 ∧ ∀ y ∈ hs, HdIn W y := by
    rcases open_slice Try.underlying22 h with ⟨hv, _⟩ | ⟨a, len, cap, m, n, D, Pl, hv, _, hl, hm, hmm, _, hc⟩
    · simp at hv; subst hv
      exact ⟨[], .inl ⟨rfl, _, _, rfl⟩, by simp, by simp⟩
    · simp at hv; subst hv
      have hm2 : m = cap := by simpa using hmm
      have hex : ∀ i, i < len → ∃ y : BxH, (∀ k u, (lhdE.f y)[k]? = some u → W.cell? (a.add (i * 5 + k)) = some u) ∧ HdIn W y := by
        intro i hi
        obtain ⟨cs', h1, h2⟩ := hc i (by omega)
        rw [hC] at h1
        obtain ⟨_, hlen, hcell⟩ := World.cells?_some h1
        obtain ⟨y, hy, z⟩ := box_form' h2
        refine ⟨y, fun k u hu => ?_, z⟩
        have hk : k < 5 := by have h9 := (List.getElem?_eq_some_iff.1 hu).1; rw [lhdE.len y] at h9; exact h9
        have := hcell k hk
        rw [add_add] at this
        rw [this, hy]
        exact hu
      obtain ⟨l, hlen, hr, hp⟩ := rows_of_cells lhdE hl (fun i hi => by
        obtain ⟨y, hy, _⟩ := hex i hi
        exact ⟨y, hy⟩) (HdIn W) (fun i hi y hy => by
        obtain ⟨z, hz, hs⟩ := hex i hi
        have e1 := hy 1 _ rfl
        have e2 := hy 2 _ rfl
        have e4 := hy 4 _ rfl
        have g1 := hz 1 _ rfl
        have g2 := hz 2 _ rfl
        have g4 := hz 4 _ rfl
        change W.cell? (a.add (i * 5 + 1)) = _ at e1
        change W.cell? (a.add (i * 5 + 2)) = _ at e2
        change W.cell? (a.add (i * 5 + 4)) = _ at e4
        rw [g1] at e1
        rw [g2] at e2
        rw [g4] at e4
        have q1 : z.user = y.user := by simpa using e1
        have q2 : z.name = y.name := by simpa using e2
        have q4 : z.mv = y.mv := Option.some.inj e4
        unfold HdIn at hs ⊢
        rw [← q1, ← q2, ← q4]
        exact hs)
      exact ⟨l, hr, by omega, hp⟩
  obtain ⟨hs, hr, hlen, hp⟩ := hrows
  have hch : ∀ y : BxH, ∃ b : Bx, HdIn W y → ((y.valid = b.valid ∧ y.user = b.user ∧ y.name = b.name ∧ y.next = b.next) ∧ Rows' lmlE W y.mv b.mails) ∧ bxShort b := by
    intro y
    by_cases c : HdIn W y
    · obtain ⟨z1, z2, ms, hr, hl, hsh⟩ := c
      exact ⟨⟨y.valid, y.user, y.name, y.next, ms⟩, fun _ => ⟨⟨⟨rfl, rfl, rfl, rfl⟩, hr⟩, z1, z2, hl, hsh⟩⟩
    · exact ⟨⟨0, ⟨#[]⟩, ⟨#[]⟩, 0, []⟩, fun e => absurd e c⟩
  obtain ⟨f, hf⟩ := Classical.axiomOfChoice hch
  refine ⟨hs.map f, ⟨hs, hr, by simp, fun j y b h1 h2 => ?_⟩, by simpa using hlen, fun b hb => ?_⟩
  · rw [List.getElem?_map, h1] at h2
    cases h2
    exact (hf y (hp y (List.mem_of_getElem? h1))).1
  · obtain ⟨y, hy, rfl⟩ := List.mem_map.1 hb
    exact (hf y (hp y hy)).2

set_option maxRecDepth 100000 in
theorem open_State {b0 : Nat} {r : Reach} {v : Value} {d : DataW H} {p : List MemPlace} (hv : Value.okWide Try.prog W r b0 24 v) (h : DataW.Trod enc Try.prog W 0 (fun _ => true) true 24 v d p) : ∃ l : List Bx, StIn W v l := by
  obtain ⟨cs, rfl, hsz⟩ := okWide_struct Try.underlying24 hv
  obtain ⟨fuel, hf⟩ := h
  have hC : Try.prog.cellsOf 24 = 1 := by kernel_rfl
  obtain ⟨l⟩ := cs
  have hl1 : l.length = 1 := hsz.trans hC
  obtain ⟨u, rfl⟩ := List.length_eq_one_iff.1 hl1
  obtain ⟨n, _, hx⟩ := trod_ones Try.underlying24 (by kernel_rfl) hf
  obtain ⟨y, h0⟩ := hx 0 _ u rfl rfl
  obtain ⟨bs, hr, hlen, hsh⟩ := boxes_of_trod h0
  exact ⟨bs, u, rfl, hr, hlen, hsh⟩
end

end Go.Proofs.Ytjfilicddnhniab

/- How numbers, texts and writes lie in memory. -/
namespace Go.Proofs.Ytjfilicddnhniab
open Go.RowKit


def intE : Enc Int where
  ty := 3
  sty := 115
  sz := 1
  bytes := 8
  zero := .int .i64 0
  f := fun n => [.int .i64 n]
  len := fun _ => rfl
  pos := by decide
  one := fun _ u hu => by simp at hu; subst hu; rfl
  und := Try.underlying115
  info := by kernel_rfl
  zc := rfl
  z0 := 0
  zf := rfl

/-- A write: where, and what. -/
structure Wr where
  at_ : Int
  text : ByteArray



end Go.Proofs.Ytjfilicddnhniab

/- What a value owns: its memory lies between two marks of the heap, and what is written elsewhere leaves it alone. -/
namespace Go.Proofs.Ytjfilicddnhniab
open Go.RowKit

/-- Whatever was there outside the blocks B .. T-1 is as it was. -/
structure Kept (B T : Nat) (w w' : World) : Prop where
  os : w'.os = w.os
  tape : w'.tape = w.tape
  output : w'.output = w.output
  size : w.heap.size ≤ w'.heap.size
  block : ∀ k, k < w.heap.size → (k < B ∨ T ≤ k) → w'.heap[k]? = w.heap[k]?

theorem Kept.of_below {w w' : World} (hb : Below w.heap.size w w') (B T : Nat) : Kept B T w w' := ⟨hb.os, hb.tape, hb.output, hb.size, fun k hk _ => hb.block k hk⟩
theorem Kept.of_grown {w w' : World} {r : Option Nat} {B T : Nat} (h : w.grownBy w' r) (hr : ∀ k, r = some k → B ≤ k ∧ k < T) : Kept B T w w' :=
  ⟨h.os, h.tape, h.output, h.size, fun k hk hout => h.block k hk (fun e => by have := hr k e.symm; omega)⟩
theorem Kept.trans {B T : Nat} {w w1 w2 : World} (h : Kept B T w w1) (h2 : Kept B T w1 w2) : Kept B T w w2 :=
  ⟨h2.os.trans h.os, h2.tape.trans h.tape, h2.output.trans h.output, Nat.le_trans h.size h2.size, fun k hk hout => (h2.block k (Nat.lt_of_lt_of_le hk h.size) hout).trans (h.block k hk hout)⟩
theorem Kept.below {B T B0 : Nat} {w0 w w' : World} (h : Kept B T w w') (hb : Below B0 w0 w) (h0 : B0 ≤ B) (hs : B0 ≤ w.heap.size) : Below B0 w0 w' :=
  ⟨h.os.trans hb.os, h.tape.trans hb.tape, h.output.trans hb.output, Nat.le_trans hb.size h.size, fun k hk => (h.block k (Nat.lt_of_lt_of_le hk hs) (.inl (Nat.lt_of_lt_of_le hk h0))).trans (hb.block k hk)⟩

variable {α : Type} {E : Enc α} {B T : Nat} {w w' : World} {v : Value} {l : List α}

/-- The slice v holds the elements l in a row of its own, in one of the blocks B .. T-1. -/
def LOwn (E : Enc α) (B T : Nat) (w : World) (v : Value) (l : List α) : Prop := RBuf E B w w v l ∧ T ≤ w.heap.size ∧ ∀ k, v.ownBlock = some k → k < T

theorem RBuf.lown {w0 : World} (h : RBuf E B w0 w v l) : LOwn E B w.heap.size w v l := ⟨h.here, Nat.le_refl _, fun k hk => (h.own.lt k hk).2⟩

theorem LOwn.kept {B' T' : Nat} (h : LOwn E B T w v l) (hk : Kept B' T' w w') (hd : T ≤ B' ∨ T' ≤ B) : LOwn E B T w' v l := by
  refine ⟨⟨⟨h.1.own.1, ?_⟩, Below.refl _ _, Nat.le_trans h.1.le hk.size⟩, Nat.le_trans h.2.1 hk.size, h.2.2⟩
  rcases h.1.own.2 with h1 | ⟨g, cap, cur, h1, h2, h3, h4⟩
  · exact .inl h1
  · have hg := h.2.2 g (by rw [h1]; rfl)
    refine .inr ⟨g, cap, cur, h1, h2, ?_, h4⟩
    rw [hk.block g (Nat.lt_of_lt_of_le hg h.2.1) (by omega)]
    exact h3

theorem LOwn.later (h : LOwn E B T w v l) (hb : Below w.heap.size w w') : LOwn E B T w' v l :=
  h.kept (Kept.of_below hb T T) (.inl (Nat.le_refl _))

theorem LOwn.wider {T' : Nat} (h : LOwn E B T w v l) (hT : T ≤ T') (hs : T' ≤ w.heap.size) : LOwn E B T' w v l := ⟨h.1, hs, fun k hk => Nat.lt_of_lt_of_le (h.2.2 k hk) hT⟩

theorem LOwn.deeper {B' : Nat} (h : LOwn E B T w v l) (hB : B' ≤ B) : LOwn E B' T w v l := ⟨h.1.down (Below.refl _ _) hB, h.2⟩

theorem LOwn.rows (h : LOwn E B T w v l) : Rows' E w v l := h.1.rows

/-- A store by another name leaves a row alone whose block is another. -/
theorem LOwn.grown {r : Option Nat} (h : LOwn E B T w v l) (hg : w.grownBy w' r) (hne : v.ownBlock = none ∨ v.ownBlock ≠ r) : LOwn E B T w' v l :=
  ⟨⟨h.1.own.kept hg hne, Below.refl _ _, Nat.le_trans h.1.le hg.size⟩, Nat.le_trans h.2.1 hg.size, h.2.2⟩

/-- A store below the row's base leaves it alone. -/
theorem LOwn.store (h : LOwn E B T w v l) (g i : Nat) (u : Value) (hg : g < B) : LOwn E B T (w.setCell ⟨g, i, none⟩ u) v l := by
  refine h.grown (stored_grown w g i u) ?_
  cases hv : v.ownBlock with
  | none => exact .inl rfl
  | some k => exact .inr (by intro e; have := (h.1.own.lt k hv).1; have := Option.some.inj e; omega)

theorem LOwn.storeHi (h : LOwn E B T w v l) (g i : Nat) (u : Value) (hg : T ≤ g) : LOwn E B T (w.setCell ⟨g, i, none⟩ u) v l := by
  refine h.grown (stored_grown w g i u) ?_
  cases hv : v.ownBlock with
  | none => exact .inl rfl
  | some k => exact .inr (by intro e; have := h.2.2 k hv; have := Option.some.inj e; omega)

end Go.Proofs.Ytjfilicddnhniab
