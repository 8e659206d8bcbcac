/- Texts of our own, joined. -/
import Derived.Test.YtmbmbnjbeofmaaaJd
import Derived.Lib.SmallJoins
import Derived.ProofKit
import Derived.Test.YtmbmbnjbeofmaaaJg
import Derived.Test.YtmbmbnjbeofmaaaJa
import Derived.Test.YtmbmbnjbeofmaaaJb
/- Records and items: the helpers of the exact laws. -/
namespace Go.Proofs.Ytmbmbnjbeofmaaa
open Go.RowKit

set_option maxRecDepth 100000 in
set_option maxHeartbeats 1000000 in
theorem szRec_any (r : Rc) (left : Int) (w : World) (s1 : r.user.size ≤ 9223372036854775807) (s2 : r.name.size ≤ 9223372036854775807) (s3 : r.text.size ≤ 9223372036854775807) (h0 : 0 ≤ left) (h1 : left ≤ 1099511627776) :
    Calls Try.prog 5 #[r.v, .int .i64 left] w fun e w' => (∃ x : Int, e = .returned (.int .i64 x) ∧ (x < 0 ∨ (r.user.size : Int) + r.name.size + r.text.size ≤ left) ∧ -1 ≤ x ∧ x ≤ left) ∧ Below w.heap.size w w' := by
  have b0 : Below w.heap.size w (w.alloc (.cells #[.int .i64 r.kind, .int .i64 r.valid, .int .i64 r.uid, .int .i64 r.next, .int .i64 r.flags, .string r.user, .string r.name, .string r.text] 26)) := belNew _ _
  unfold Rc.v
  by_cases hA : (r.user.size : Int) ≤ left
  · by_cases hB : (r.name.size : Int) ≤ left - r.user.size
    · by_cases hC : (r.text.size : Int) ≤ left - r.user.size - r.name.size
      · go_enter Try.func5, Try.ntmps5
        go_wp2
        go_ret
        exact ⟨⟨left - r.user.size - r.name.size - r.text.size, rfl, .inr (by omega), by omega, by omega⟩, b0⟩
      · go_enter Try.func5, Try.ntmps5
        go_wp2
        go_ret
        exact ⟨⟨-1, rfl, .inl (by omega), by omega, by omega⟩, b0⟩
    · go_enter Try.func5, Try.ntmps5
      go_wp2
      go_ret
      exact ⟨⟨-1, rfl, .inl (by omega), by omega, by omega⟩, b0⟩
  · go_enter Try.func5, Try.ntmps5
    go_wp2
    go_ret
    exact ⟨⟨-1, rfl, .inl (by omega), by omega, by omega⟩, b0⟩

set_option maxRecDepth 100000 in
set_option maxHeartbeats 1000000 in
theorem toRec_any (r : Rc) (w : World) : Calls Try.prog 8 #[r.v] w fun e w' => e = .returned r.v ∧ Below w.heap.size w w' := by
  unfold Rc.v
  go_enter Try.func8, Try.ntmps8
  go_wp2
  refine bodyPost_ret (v := .agg #[.int .i64 r.kind, .int .i64 r.valid, .int .i64 r.uid, .int .i64 r.next, .int .i64 r.flags, .string r.user, .string r.name, .string r.text]) (by simp [results, Try.results8, go_sem]) rfl ?_
  exact ⟨rfl, (((Below.refl _ _).alloc (Nat.le_refl _) _).alloc (by simp) _).alloc (by simp; omega) _⟩





end Go.Proofs.Ytmbmbnjbeofmaaa

/- Records and items that come in as arguments. -/
namespace Go.Proofs.Ytmbmbnjbeofmaaa
open Go.RowKit Go.ChangeShapes Go.WideShapes Go.ChangeAt Go.Deep Go.Joins

theorem list8 {α : Type} {l : List α} (h : l.length = 8) : ∃ v0 v1 v2 v3 v4 v5 v6 v7, l = [v0, v1, v2, v3, v4, v5, v6, v7] := by
  match l, h with
  | [v0, v1, v2, v3, v4, v5, v6, v7], _ => exact ⟨v0, v1, v2, v3, v4, v5, v6, v7, rfl⟩
theorem list9 {α : Type} {l : List α} (h : l.length = 9) : ∃ c v0 v1 v2 v3 v4 v5 v6 v7, l = c :: [v0, v1, v2, v3, v4, v5, v6, v7] := by
  match l, h with
  | [c, v0, v1, v2, v3, v4, v5, v6, v7], _ => exact ⟨c, v0, v1, v2, v3, v4, v5, v6, v7, rfl⟩

section
variable {H : Type} {enc : TypeId × Value → H} {P : Program} {w : World} {base : Nat} {spare : Nat → Bool} {held : Bool}

/-- The eight fields of a struct, each of one cell. -/
theorem trod_eight {t : TypeId} {f0 f1 f2 f3 f4 f5 f6 f7 : Field} {fuel : Nat} {cs : List Value} {x : DataW H × List MemPlace} (hs : P.underlying t = some (.struct #[f0, f1, f2, f3, f4, f5, f6, f7])) (hone : oneCellFields P #[f0, f1, f2, f3, f4, f5, f6, f7] = true) (hC : P.cellsOf t = 8)
    (h : DataW.trod enc P w base spare held fuel t cs = some x) :
    ∃ (v0 v1 v2 v3 v4 v5 v6 v7 : Value) (n : Nat), cs = [v0, v1, v2, v3, v4, v5, v6, v7] ∧ (∃ y, DataW.trod enc P w base spare held n f0.type [v0] = some y) ∧ (∃ y, DataW.trod enc P w base spare held n f1.type [v1] = some y) ∧ (∃ y, DataW.trod enc P w base spare held n f2.type [v2] = some y) ∧ (∃ y, DataW.trod enc P w base spare held n f3.type [v3] = some y) ∧ (∃ y, DataW.trod enc P w base spare held n f4.type [v4] = some y) ∧ (∃ y, DataW.trod enc P w base spare held n f5.type [v5] = some y) ∧ (∃ y, DataW.trod enc P w base spare held n f6.type [v6] = some y) ∧ (∃ y, DataW.trod enc P w base spare held n f7.type [v7] = some y) := by
  obtain ⟨xs, n, _, _, hl, hlen, hf⟩ := DataW.trod_struct hs h
  obtain ⟨v0, v1, v2, v3, v4, v5, v6, v7, rfl⟩ := list8 (hl.trans hC)
  have g : ∀ (i : Nat) (f : Field) (v : Value), #[f0, f1, f2, f3, f4, f5, f6, f7][i]? = some f → [v0, v1, v2, v3, v4, v5, v6, v7][i]? = some v → ∃ y, DataW.trod enc P w base spare held n f.type [v] = some y := by
    intro i f v hi hv
    obtain ⟨o, k⟩ := hone_of hone i f hi
    have hx := hf i f hi
    rw [o, k] at hx
    have e : (List.drop i [v0, v1, v2, v3, v4, v5, v6, v7]).take 1 = [v] := by
      rw [List.take_one, List.head?_drop, hv]; rfl
    rw [e] at hx
    have hi' : i < xs.length := by
      rw [hlen]
      exact (Array.getElem?_eq_some_iff.1 hi).1
    exact ⟨xs[i], by first | (rw [hx]; exact List.getElem?_eq_getElem hi') | (rw [List.getElem?_eq_getElem hi'] at hx; exact hx) | simpa [hi'] using hx⟩
  exact ⟨v0, v1, v2, v3, v4, v5, v6, v7, n, rfl, g 0 f0 v0 rfl rfl, g 1 f1 v1 rfl rfl, g 2 f2 v2 rfl rfl, g 3 f3 v3 rfl rfl, g 4 f4 v4 rfl rfl, g 5 f5 v5 rfl rfl, g 6 f6 v6 rfl rfl, g 7 f7 v7 rfl rfl⟩
end

/-- A record that came in: its texts are texts. -/
def RIn (v : Value) (r : Rc) : Prop := v = r.v ∧ r.user.size ≤ 9223372036854775807 ∧ r.name.size ≤ 9223372036854775807 ∧ r.text.size ≤ 9223372036854775807
/-- An item that came in. -/
def IIn (v : Value) (seq : Int) (r : Rc) : Prop := v = itV seq r ∧ r.user.size ≤ 9223372036854775807 ∧ r.name.size ≤ 9223372036854775807 ∧ r.text.size ≤ 9223372036854775807

section
variable {H : Type} {enc : TypeId × Value → H} {W : World}

set_option maxRecDepth 100000 in
theorem rec_form {fuel : Nat} {cs : List Value} {x : DataW H × List MemPlace} (h : DataW.trod enc Try.prog W 0 (fun _ => true) true fuel 26 cs = some x) :
    ∃ r : Rc, cs = r.cs.toList ∧ r.user.size ≤ 9223372036854775807 ∧ r.name.size ≤ 9223372036854775807 ∧ r.text.size ≤ 9223372036854775807 := by
  obtain ⟨v0, v1, v2, v3, v4, v5, v6, v7, n, rfl, ⟨y0, h0⟩, ⟨y1, h1⟩, ⟨y2, h2⟩, ⟨y3, h3⟩, ⟨y4, h4⟩, ⟨y5, h5⟩, ⟨y6, h6⟩, ⟨y7, h7⟩⟩ := trod_eight Try.underlying26 (by kernel_rfl) (by kernel_rfl) h
  obtain ⟨k0, hk0, _, _⟩ := DataW.trod_int Try.underlying3 h0
  obtain ⟨k1, hk1, _, _⟩ := DataW.trod_int Try.underlying3 h1
  obtain ⟨k2, hk2, _, _⟩ := DataW.trod_int Try.underlying3 h2
  obtain ⟨k3, hk3, _, _⟩ := DataW.trod_int Try.underlying3 h3
  obtain ⟨k4, hk4, _, _⟩ := DataW.trod_int Try.underlying3 h4
  obtain ⟨s5, hk5, _, z5⟩ := DataW.trod_string Try.underlying9 h5
  obtain ⟨s6, hk6, _, z6⟩ := DataW.trod_string Try.underlying9 h6
  obtain ⟨s7, hk7, _, z7⟩ := DataW.trod_string Try.underlying9 h7
  simp at hk0 hk1 hk2 hk3 hk4 hk5 hk6 hk7
  have hml : maxLen ≤ 9223372036854775807 := by decide
  exact ⟨⟨k0, k1, k2, k3, k4, s5, s6, s7⟩, by rw [hk0, hk1, hk2, hk3, hk4, hk5, hk6, hk7]; rfl, Nat.le_trans z5 hml, Nat.le_trans z6 hml, Nat.le_trans z7 hml⟩

set_option maxRecDepth 100000 in
theorem open_Rec {b0 : Nat} {r : Reach} {v : Value} {d : DataW H} {p : List MemPlace} (hv : Value.okWide Try.prog W r b0 26 v) (h : DataW.Trod enc Try.prog W 0 (fun _ => true) true 26 v d p) : ∃ D : Rc, RIn v D := by
  obtain ⟨cs, rfl, hsz⟩ := okWide_struct Try.underlying26 hv
  obtain ⟨fuel, hf⟩ := h
  obtain ⟨D, hD, z⟩ := rec_form hf
  refine ⟨D, ?_, z⟩
  obtain ⟨l⟩ := cs
  simp [Value.cells] at hD
  rw [hD]; rfl

end

end Go.Proofs.Ytmbmbnjbeofmaaa

/- What a value owns: its memory lies between two marks of the heap, and what is written elsewhere leaves it alone. -/
namespace Go.Proofs.Ytmbmbnjbeofmaaa
open Go.RowKit

/-- Whatever was there outside the blocks B .. T-1 is as it was. -/
structure Kept (B T : Nat) (w w' : World) : Prop where
  os : w'.os = w.os
  tape : w'.tape = w.tape
  output : w'.output = w.output
  size : w.heap.size ≤ w'.heap.size
  block : ∀ k, k < w.heap.size → (k < B ∨ T ≤ k) → w'.heap[k]? = w.heap[k]?

theorem Kept.of_below {w w' : World} (hb : Below w.heap.size w w') (B T : Nat) : Kept B T w w' := ⟨hb.os, hb.tape, hb.output, hb.size, fun k hk _ => hb.block k hk⟩
theorem Kept.of_grown {w w' : World} {r : Option Nat} {B T : Nat} (h : w.grownBy w' r) (hr : ∀ k, r = some k → B ≤ k ∧ k < T) : Kept B T w w' :=
  ⟨h.os, h.tape, h.output, h.size, fun k hk hout => h.block k hk (fun e => by have := hr k e.symm; omega)⟩
theorem Kept.trans {B T : Nat} {w w1 w2 : World} (h : Kept B T w w1) (h2 : Kept B T w1 w2) : Kept B T w w2 :=
  ⟨h2.os.trans h.os, h2.tape.trans h.tape, h2.output.trans h.output, Nat.le_trans h.size h2.size, fun k hk hout => (h2.block k (Nat.lt_of_lt_of_le hk h.size) hout).trans (h.block k hk hout)⟩
theorem Kept.below {B T B0 : Nat} {w0 w w' : World} (h : Kept B T w w') (hb : Below B0 w0 w) (h0 : B0 ≤ B) (hs : B0 ≤ w.heap.size) : Below B0 w0 w' :=
  ⟨h.os.trans hb.os, h.tape.trans hb.tape, h.output.trans hb.output, Nat.le_trans hb.size h.size, fun k hk => (h.block k (Nat.lt_of_lt_of_le hk hs) (.inl (Nat.lt_of_lt_of_le hk h0))).trans (hb.block k hk)⟩

variable {α : Type} {E : Enc α} {B T : Nat} {w w' : World} {v : Value} {l : List α}

/-- The slice v holds the elements l in a row of its own, in one of the blocks B .. T-1. -/
def LOwn (E : Enc α) (B T : Nat) (w : World) (v : Value) (l : List α) : Prop := RBuf E B w w v l ∧ T ≤ w.heap.size ∧ ∀ k, v.ownBlock = some k → k < T

theorem RBuf.lown {w0 : World} (h : RBuf E B w0 w v l) : LOwn E B w.heap.size w v l := ⟨h.here, Nat.le_refl _, fun k hk => (h.own.lt k hk).2⟩

theorem LOwn.kept {B' T' : Nat} (h : LOwn E B T w v l) (hk : Kept B' T' w w') (hd : T ≤ B' ∨ T' ≤ B) : LOwn E B T w' v l := by
  refine ⟨⟨⟨h.1.own.1, ?_⟩, Below.refl _ _, Nat.le_trans h.1.le hk.size⟩, Nat.le_trans h.2.1 hk.size, h.2.2⟩
  rcases h.1.own.2 with h1 | ⟨g, cap, cur, h1, h2, h3, h4⟩
  · exact .inl h1
  · have hg := h.2.2 g (by rw [h1]; rfl)
    refine .inr ⟨g, cap, cur, h1, h2, ?_, h4⟩
    rw [hk.block g (Nat.lt_of_lt_of_le hg h.2.1) (by omega)]
    exact h3

theorem LOwn.later (h : LOwn E B T w v l) (hb : Below w.heap.size w w') : LOwn E B T w' v l :=
  h.kept (Kept.of_below hb T T) (.inl (Nat.le_refl _))

theorem LOwn.wider {T' : Nat} (h : LOwn E B T w v l) (hT : T ≤ T') (hs : T' ≤ w.heap.size) : LOwn E B T' w v l := ⟨h.1, hs, fun k hk => Nat.lt_of_lt_of_le (h.2.2 k hk) hT⟩

theorem LOwn.deeper {B' : Nat} (h : LOwn E B T w v l) (hB : B' ≤ B) : LOwn E B' T w v l := ⟨h.1.down (Below.refl _ _) hB, h.2⟩

theorem LOwn.rows (h : LOwn E B T w v l) : Rows' E w v l := h.1.rows

/-- A store by another name leaves a row alone whose block is another. -/
theorem LOwn.grown {r : Option Nat} (h : LOwn E B T w v l) (hg : w.grownBy w' r) (hne : v.ownBlock = none ∨ v.ownBlock ≠ r) : LOwn E B T w' v l :=
  ⟨⟨h.1.own.kept hg hne, Below.refl _ _, Nat.le_trans h.1.le hg.size⟩, Nat.le_trans h.2.1 hg.size, h.2.2⟩

/-- A store below the row's base leaves it alone. -/
theorem LOwn.store (h : LOwn E B T w v l) (g i : Nat) (u : Value) (hg : g < B) : LOwn E B T (w.setCell ⟨g, i, none⟩ u) v l := by
  refine h.grown (stored_grown w g i u) ?_
  cases hv : v.ownBlock with
  | none => exact .inl rfl
  | some k => exact .inr (by intro e; have := (h.1.own.lt k hv).1; have := Option.some.inj e; omega)

theorem LOwn.storeHi (h : LOwn E B T w v l) (g i : Nat) (u : Value) (hg : T ≤ g) : LOwn E B T (w.setCell ⟨g, i, none⟩ u) v l := by
  refine h.grown (stored_grown w g i u) ?_
  cases hv : v.ownBlock with
  | none => exact .inl rfl
  | some k => exact .inr (by intro e; have := h.2.2 k hv; have := Option.some.inj e; omega)

end Go.Proofs.Ytmbmbnjbeofmaaa
