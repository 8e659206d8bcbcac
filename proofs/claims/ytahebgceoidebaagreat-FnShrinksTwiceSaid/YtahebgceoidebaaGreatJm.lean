/- Texts of our own, joined. -/
import Derived.Test.YtahebgceoidebaaGreatJl
import Derived.Test.YtahebgceoidebaaGreatJa
import Derived.Test.YtahebgceoidebaaGreatJg
import Derived.Test.YtahebgceoidebaaGreatJb
import Derived.Lib.SmallJoins
/- The records of a box gathered: one record more. -/
namespace Go.Proofs.YtahebgceoidebaaGreat
open Go.RowKit

/-- Records held against each other: by Next, then by Seq. -/
def nsC (x y : Itm) : Int := if Lib.compareInt x.2.next y.2.next ≠ 0 then Lib.compareInt x.2.next y.2.next else Lib.compareInt x.1 y.1
theorem nsC_pos (x y : Itm) : 0 < nsC x y ↔ aheadB (fun z => z.2.next) x y = true := by
  unfold nsC aheadB Lib.compareInt
  simp only [decide_eq_true_eq]
  by_cases h1 : x.2.next < y.2.next
  · simp [h1]; omega
  · by_cases h2 : y.2.next < x.2.next
    · simp [h1, h2]
    · have h3 : x.2.next = y.2.next := by omega
      simp only [h3, Int.lt_irrefl, if_false]
      by_cases h4 : x.1 < y.1
      · simp [h4]; omega
      · by_cases h5 : y.1 < x.1
        · simp [h4, h5]
        · simp [h4, h5]

set_option maxRecDepth 100000 in
set_option maxHeartbeats 2000000 in
theorem byNextAndSeq_any (x y : Itm) (w : World) : Calls Tryz.prog 55 #[itmV x, itmV y] w fun e w' => e = .returned (.int .i64 (nsC x y)) ∧ Below w.heap.size w w' := by
  have X0 := (Box.new w #[.int .i64 x.1, .int .i64 x.2.kind, .int .i64 x.2.valid, .int .i64 x.2.uid, .int .i64 x.2.next, .int .i64 x.2.flags, .string x.2.user, .string x.2.name, .string x.2.text] 49).later (belNew _ (.cells #[.int .i64 y.1, .int .i64 y.2.kind, .int .i64 y.2.valid, .int .i64 y.2.uid, .int .i64 y.2.next, .int .i64 y.2.flags, .string y.2.user, .string y.2.name, .string y.2.text] 49))
  have X1 := Box.new (w.alloc (.cells #[.int .i64 x.1, .int .i64 x.2.kind, .int .i64 x.2.valid, .int .i64 x.2.uid, .int .i64 x.2.next, .int .i64 x.2.flags, .string x.2.user, .string x.2.name, .string x.2.text] 49)) #[.int .i64 y.1, .int .i64 y.2.kind, .int .i64 y.2.valid, .int .i64 y.2.uid, .int .i64 y.2.next, .int .i64 y.2.flags, .string y.2.user, .string y.2.name, .string y.2.text] 49
  rw [show (w.alloc (.cells #[.int .i64 x.1, .int .i64 x.2.kind, .int .i64 x.2.valid, .int .i64 x.2.uid, .int .i64 x.2.next, .int .i64 x.2.flags, .string x.2.user, .string x.2.name, .string x.2.text] 49)).heap.size = w.heap.size + 1 from by simp] at X1
  have b1 : Below w.heap.size w ((w.alloc (.cells #[.int .i64 x.1, .int .i64 x.2.kind, .int .i64 x.2.valid, .int .i64 x.2.uid, .int .i64 x.2.next, .int .i64 x.2.flags, .string x.2.user, .string x.2.name, .string x.2.text] 49)).alloc (.cells #[.int .i64 y.1, .int .i64 y.2.kind, .int .i64 y.2.valid, .int .i64 y.2.uid, .int .i64 y.2.next, .int .i64 y.2.flags, .string y.2.user, .string y.2.name, .string y.2.text] 49)) := ((Below.refl _ _).alloc (Nat.le_refl _) _).alloc (by simp) _
  obtain ⟨D, hD⟩ : ∃ D, nsC x y = D := ⟨_, rfl⟩
  have HD := Lib.hid hD
  rw [hD]
  clear hD
  unfold itmV itV
  go_enter Tryz.func55, Tryz.ntmps55
  go_upto_region 1 with fail
  generalize (w.alloc (.cells #[.int .i64 x.1, .int .i64 x.2.kind, .int .i64 x.2.valid, .int .i64 x.2.uid, .int .i64 x.2.next, .int .i64 x.2.flags, .string x.2.user, .string x.2.name, .string x.2.text] 49)).alloc (.cells #[.int .i64 y.1, .int .i64 y.2.kind, .int .i64 y.2.valid, .int .i64 y.2.uid, .int .i64 y.2.next, .int .i64 y.2.flags, .string y.2.user, .string y.2.name, .string y.2.text] 49) = w1 at X0 X1 b1 ⊢
  obtain ⟨g1, hg1⟩ : ∃ g1, w.heap.size + 1 = g1 := ⟨_, rfl⟩
  rw [hg1] at X1 ⊢
  obtain ⟨g0, hg0⟩ : ∃ g0, w.heap.size = g0 := ⟨_, rfl⟩
  rw [hg0] at X0
  have r0 : ∀ X, Below w1.heap.size w1 X → X.cell? ⟨g0, 4, none⟩ = some (.int .i64 x.2.next) := fun X hb => (X0.later hb).cell 4 _ rfl
  have r1 : ∀ X, Below w1.heap.size w1 X → X.cell? ⟨g1, 4, none⟩ = some (.int .i64 y.2.next) := fun X hb => (X1.later hb).cell 4 _ rfl
  have r2 : ∀ X, Below w1.heap.size w1 X → X.cell? ⟨g0, 0, none⟩ = some (.int .i64 x.1) := fun X hb => (X0.later hb).cell 0 _ rfl
  have r3 : ∀ X, Below w1.heap.size w1 X → X.cell? ⟨g1, 0, none⟩ = some (.int .i64 y.1) := fun X hb => (X1.later hb).cell 0 _ rfl
  have HB := Lib.hid b1
  have HG0 := Lib.hid hg0
  have HG1 := Lib.hid hg1
  rw [hg0]
  clear X0 X1 b1 hg0 hg1
  refine wp_region_held_drew (S := fun x => Below w1.heap.size w1 x) (by kernel_rfl) ((Below.refl _ _).drew) (fun hHeld => ?_)
  refine takeL (i := 0) (v := .pointer (some ⟨g0, 1, none⟩)) rfl (by kernel_rfl) (by kernel_rfl) (by kernel_rfl) (fun _ _ _ h => h) (Or.inl ⟨by rfl, ?_⟩) (by assumption) ?_
  · intro x hSx; go_simp
  try simp only [Act.put, List.setIfInBounds_toArray, List.set_cons_zero, List.set_cons_succ]
  refine takeL (i := 1) (v := .pointer (some ⟨g0, 4, none⟩)) rfl (by kernel_rfl) (by kernel_rfl) (by kernel_rfl) (fun _ _ _ h => h) (Or.inl ⟨by rfl, ?_⟩) (by assumption) ?_
  · intro x hSx; go_simp
  try simp only [Act.put, List.setIfInBounds_toArray, List.set_cons_zero, List.set_cons_succ]
  refine takeL (i := 2) (v := .int .i64 x.2.next) rfl (by kernel_rfl) (by kernel_rfl) (by kernel_rfl) (fun _ _ _ h => h) (Or.inl ⟨by rfl, ?_⟩) (by assumption) ?_
  · intro x hSx; have q0 := r0 x hSx; go_simp
  try simp only [Act.put, List.setIfInBounds_toArray, List.set_cons_zero, List.set_cons_succ]
  refine takeL (i := 3) (v := .pointer (some ⟨g1, 1, none⟩)) rfl (by kernel_rfl) (by kernel_rfl) (by kernel_rfl) (fun _ _ _ h => h) (Or.inl ⟨by rfl, ?_⟩) (by assumption) ?_
  · intro x hSx; go_simp
  try simp only [Act.put, List.setIfInBounds_toArray, List.set_cons_zero, List.set_cons_succ]
  refine takeL (i := 4) (v := .pointer (some ⟨g1, 4, none⟩)) rfl (by kernel_rfl) (by kernel_rfl) (by kernel_rfl) (fun _ _ _ h => h) (Or.inl ⟨by rfl, ?_⟩) (by assumption) ?_
  · intro x hSx; go_simp
  try simp only [Act.put, List.setIfInBounds_toArray, List.set_cons_zero, List.set_cons_succ]
  refine takeL (i := 5) (v := .int .i64 y.2.next) rfl (by kernel_rfl) (by kernel_rfl) (by kernel_rfl) (fun _ _ _ h => h) (Or.inl ⟨by rfl, ?_⟩) (by assumption) ?_
  · intro x hSx; have q0 := r1 x hSx; go_simp
  try simp only [Act.put, List.setIfInBounds_toArray, List.set_cons_zero, List.set_cons_succ]
  refine takeL (i := 7) (v := .pointer (some ⟨g0, 0, none⟩)) rfl (by kernel_rfl) (by kernel_rfl) (by kernel_rfl) (fun _ _ _ h => h) (Or.inl ⟨by rfl, ?_⟩) (by assumption) ?_
  · intro x hSx; go_simp
  try simp only [Act.put, List.setIfInBounds_toArray, List.set_cons_zero, List.set_cons_succ]
  refine takeL (i := 8) (v := .int .i64 x.1) rfl (by kernel_rfl) (by kernel_rfl) (by kernel_rfl) (fun _ _ _ h => h) (Or.inl ⟨by rfl, ?_⟩) (by assumption) ?_
  · intro x hSx; have q0 := r2 x hSx; go_simp
  try simp only [Act.put, List.setIfInBounds_toArray, List.set_cons_zero, List.set_cons_succ]
  refine takeL (i := 9) (v := .pointer (some ⟨g1, 0, none⟩)) rfl (by kernel_rfl) (by kernel_rfl) (by kernel_rfl) (fun _ _ _ h => h) (Or.inl ⟨by rfl, ?_⟩) (by assumption) ?_
  · intro x hSx; go_simp
  try simp only [Act.put, List.setIfInBounds_toArray, List.set_cons_zero, List.set_cons_succ]
  refine takeL (i := 10) (v := .int .i64 y.1) rfl (by kernel_rfl) (by kernel_rfl) (by kernel_rfl) (fun _ _ _ h => h) (Or.inl ⟨by rfl, ?_⟩) (by assumption) ?_
  · intro x hSx; have q0 := r3 x hSx; go_simp
  try simp only [Act.put, List.setIfInBounds_toArray, List.set_cons_zero, List.set_cons_succ]
  refine wpAnyH_ready (rs := [6]) (by kernel_rfl) (by simp) ?_
  refine readyOne rfl (fun K' hK => ?_)
  go_simp
  refine (compare_any _ _ _).mono ?_
  rintro e wT ⟨rfl, rfl⟩
  go_wp2_with fail
  refine hK.out _ _ (hHeld) (fun hS2 => ?_)
  clear hK K' hHeld
  have hHeld := hS2
  clear hS2
  try simp only [Act.put, List.setIfInBounds_toArray, List.set_cons_zero, List.set_cons_succ]
  refine wpAnyH_ready (rs := [11]) (by kernel_rfl) (by simp) ?_
  refine readyOne rfl (fun K' hK => ?_)
  go_simp
  refine (compare_any _ _ _).mono ?_
  rintro e wT ⟨rfl, rfl⟩
  go_wp2_with fail
  refine hK.out _ _ (hHeld) (fun hS2 => ?_)
  clear hK K' hHeld
  have hHeld := hS2
  clear hS2
  try simp only [Act.put, List.setIfInBounds_toArray, List.set_cons_zero, List.set_cons_succ]
  refine wpAnyH_ready (rs := [12]) (by kernel_rfl) (by simp) ?_
  refine readyOne rfl (fun K' hK => ?_)
  go_simp
  refine hK.out _ _ (belNew0 w1 _) (fun hS2 => ?_)
  clear hK K' hHeld
  have hHeld := hS2
  clear hS2
  try simp only [Act.put, List.setIfInBounds_toArray, List.set_cons_zero, List.set_cons_succ]
  have XN := Box.new w1 #[.int .i64 (Lib.compareInt x.2.next y.2.next), .int .i64 (Lib.compareInt x.1 y.1)] 3
  have z0 : (w1.alloc (.cells #[.int .i64 (Lib.compareInt x.2.next y.2.next), .int .i64 (Lib.compareInt x.1 y.1)] 3)).drew.cell? ⟨w1.heap.size, 0, none⟩ = some (.int .i64 (Lib.compareInt x.2.next y.2.next)) := XN.cell 0 _ rfl
  have z1 : (w1.alloc (.cells #[.int .i64 (Lib.compareInt x.2.next y.2.next), .int .i64 (Lib.compareInt x.1 y.1)] 3)).drew.cell? ⟨w1.heap.size, 1, none⟩ = some (.int .i64 (Lib.compareInt x.1 y.1)) := XN.cell 1 _ rfl
  have HOR := Lib.hid (cmpOr_any _ _ _ _ z0 z1)
  clear XN z0 z1
  generalize (w1.alloc (.cells #[.int .i64 (Lib.compareInt x.2.next y.2.next), .int .i64 (Lib.compareInt x.1 y.1)] 3)).drew = w2 at HOR hHeld ⊢
  rw [show (if Lib.compareInt x.2.next y.2.next ≠ 0 then Lib.compareInt x.2.next y.2.next else Lib.compareInt x.1 y.1) = D from HD.out] at HOR
  refine wpAnyH_ready (rs := [13]) (by kernel_rfl) (by simp) ?_
  refine readyOne rfl (fun K' hK => ?_)
  go_simp
  refine HOR.out.mono ?_
  rintro e wT ⟨rfl, rfl⟩
  go_wp2_with fail
  refine hK.out _ _ hHeld (fun hS2 => ?_)
  clear hK K' hHeld
  have hHeld := hS2
  clear hS2
  try simp only [Act.put, List.setIfInBounds_toArray, List.set_cons_zero, List.set_cons_succ]
  refine takeL (i := 14) (v := .int .i64 D) rfl (by kernel_rfl) (by kernel_rfl) (by kernel_rfl) (fun _ _ _ h => h) (Or.inl ⟨by rfl, ?_⟩) (by assumption) ?_
  · intro x hSx; go_simp
  try simp only [Act.put, List.setIfInBounds_toArray, List.set_cons_zero, List.set_cons_succ]
  refine wpAnyH_done (by kernel_rfl) ?_ _
  go_wp2
  go_ret
  exact ⟨rfl, HB.out.trans (hHeld.mono HB.out.size)⟩

end Go.Proofs.YtahebgceoidebaaGreat

/- How numbers, texts and writes lie in memory. -/
namespace Go.Proofs.YtahebgceoidebaaGreat
open Go.RowKit

def strE : Enc ByteArray where
  ty := 9
  sty := 110
  sz := 1
  bytes := 16
  zero := .string ⟨#[]⟩
  f := fun s => [.string s]
  len := fun _ => rfl
  pos := by decide
  one := fun _ u hu => by simp at hu; subst hu; rfl
  und := Tryz.underlying110
  info := by kernel_rfl
  zc := rfl
  z0 := ⟨#[]⟩
  zf := rfl

def intE : Enc Int where
  ty := 3
  sty := 26
  sz := 1
  bytes := 8
  zero := .int .i64 0
  f := fun n => [.int .i64 n]
  len := fun _ => rfl
  pos := by decide
  one := fun _ u hu => by simp at hu; subst hu; rfl
  und := Tryz.underlying26
  info := by kernel_rfl
  zc := rfl
  z0 := 0
  zf := rfl

/-- A write: where, and what. -/
structure Wr where
  at_ : Int
  text : ByteArray



end Go.Proofs.YtahebgceoidebaaGreat

/- What a value owns: its memory lies between two marks of the heap, and what is written elsewhere leaves it alone. -/
namespace Go.Proofs.YtahebgceoidebaaGreat
open Go.RowKit

/-- Whatever was there outside the blocks B .. T-1 is as it was. -/
structure Kept (B T : Nat) (w w' : World) : Prop where
  os : w'.os = w.os
  tape : w'.tape = w.tape
  output : w'.output = w.output
  size : w.heap.size ≤ w'.heap.size
  block : ∀ k, k < w.heap.size → (k < B ∨ T ≤ k) → w'.heap[k]? = w.heap[k]?

theorem Kept.of_below {w w' : World} (hb : Below w.heap.size w w') (B T : Nat) : Kept B T w w' := ⟨hb.os, hb.tape, hb.output, hb.size, fun k hk _ => hb.block k hk⟩
theorem Kept.of_grown {w w' : World} {r : Option Nat} {B T : Nat} (h : w.grownBy w' r) (hr : ∀ k, r = some k → B ≤ k ∧ k < T) : Kept B T w w' :=
  ⟨h.os, h.tape, h.output, h.size, fun k hk hout => h.block k hk (fun e => by have := hr k e.symm; omega)⟩
theorem Kept.trans {B T : Nat} {w w1 w2 : World} (h : Kept B T w w1) (h2 : Kept B T w1 w2) : Kept B T w w2 :=
  ⟨h2.os.trans h.os, h2.tape.trans h.tape, h2.output.trans h.output, Nat.le_trans h.size h2.size, fun k hk hout => (h2.block k (Nat.lt_of_lt_of_le hk h.size) hout).trans (h.block k hk hout)⟩
theorem Kept.below {B T B0 : Nat} {w0 w w' : World} (h : Kept B T w w') (hb : Below B0 w0 w) (h0 : B0 ≤ B) (hs : B0 ≤ w.heap.size) : Below B0 w0 w' :=
  ⟨h.os.trans hb.os, h.tape.trans hb.tape, h.output.trans hb.output, Nat.le_trans hb.size h.size, fun k hk => (h.block k (Nat.lt_of_lt_of_le hk hs) (.inl (Nat.lt_of_lt_of_le hk h0))).trans (hb.block k hk)⟩

variable {α : Type} {E : Enc α} {B T : Nat} {w w' : World} {v : Value} {l : List α}

/-- The slice v holds the elements l in a row of its own, in one of the blocks B .. T-1. -/
def LOwn (E : Enc α) (B T : Nat) (w : World) (v : Value) (l : List α) : Prop := RBuf E B w w v l ∧ T ≤ w.heap.size ∧ ∀ k, v.ownBlock = some k → k < T

theorem RBuf.lown {w0 : World} (h : RBuf E B w0 w v l) : LOwn E B w.heap.size w v l := ⟨h.here, Nat.le_refl _, fun k hk => (h.own.lt k hk).2⟩

theorem LOwn.kept {B' T' : Nat} (h : LOwn E B T w v l) (hk : Kept B' T' w w') (hd : T ≤ B' ∨ T' ≤ B) : LOwn E B T w' v l := by
  refine ⟨⟨⟨h.1.own.1, ?_⟩, Below.refl _ _, Nat.le_trans h.1.le hk.size⟩, Nat.le_trans h.2.1 hk.size, h.2.2⟩
  rcases h.1.own.2 with h1 | ⟨g, cap, cur, h1, h2, h3, h4⟩
  · exact .inl h1
  · have hg := h.2.2 g (by rw [h1]; rfl)
    refine .inr ⟨g, cap, cur, h1, h2, ?_, h4⟩
    rw [hk.block g (Nat.lt_of_lt_of_le hg h.2.1) (by omega)]
    exact h3

theorem LOwn.later (h : LOwn E B T w v l) (hb : Below w.heap.size w w') : LOwn E B T w' v l :=
  h.kept (Kept.of_below hb T T) (.inl (Nat.le_refl _))

theorem LOwn.wider {T' : Nat} (h : LOwn E B T w v l) (hT : T ≤ T') (hs : T' ≤ w.heap.size) : LOwn E B T' w v l := ⟨h.1, hs, fun k hk => Nat.lt_of_lt_of_le (h.2.2 k hk) hT⟩

theorem LOwn.deeper {B' : Nat} (h : LOwn E B T w v l) (hB : B' ≤ B) : LOwn E B' T w v l := ⟨h.1.down (Below.refl _ _) hB, h.2⟩

theorem LOwn.rows (h : LOwn E B T w v l) : Rows' E w v l := h.1.rows

/-- A store by another name leaves a row alone whose block is another. -/
theorem LOwn.grown {r : Option Nat} (h : LOwn E B T w v l) (hg : w.grownBy w' r) (hne : v.ownBlock = none ∨ v.ownBlock ≠ r) : LOwn E B T w' v l :=
  ⟨⟨h.1.own.kept hg hne, Below.refl _ _, Nat.le_trans h.1.le hg.size⟩, Nat.le_trans h.2.1 hg.size, h.2.2⟩

/-- A store below the row's base leaves it alone. -/
theorem LOwn.store (h : LOwn E B T w v l) (g i : Nat) (u : Value) (hg : g < B) : LOwn E B T (w.setCell ⟨g, i, none⟩ u) v l := by
  refine h.grown (stored_grown w g i u) ?_
  cases hv : v.ownBlock with
  | none => exact .inl rfl
  | some k => exact .inr (by intro e; have := (h.1.own.lt k hv).1; have := Option.some.inj e; omega)

theorem LOwn.storeHi (h : LOwn E B T w v l) (g i : Nat) (u : Value) (hg : T ≤ g) : LOwn E B T (w.setCell ⟨g, i, none⟩ u) v l := by
  refine h.grown (stored_grown w g i u) ?_
  cases hv : v.ownBlock with
  | none => exact .inl rfl
  | some k => exact .inr (by intro e; have := h.2.2 k hv; have := Option.some.inj e; omega)

end Go.Proofs.YtahebgceoidebaaGreat

/- The records of a box gathered: one record more. -/
namespace Go.Proofs.YtahebgceoidebaaGreat
open Go.RowKit

theorem Box.twelve {w : World} {b : Nat} {u0 u1 u2 u3 u4 u5 u6 u7 u8 u9 u10 u11 : Value} {t : TypeId} (h : Box w b #[u0, u1, u2, u3, u4, u5, u6, u7, u8, u9, u10, u11] t) :
    w.cell? ⟨b, 0, none⟩ = some u0 ∧ w.cell? ⟨b, 1, none⟩ = some u1 ∧ w.cell? ⟨b, 2, none⟩ = some u2 ∧ w.cell? ⟨b, 3, none⟩ = some u3 ∧ w.cell? ⟨b, 4, none⟩ = some u4 ∧ w.cell? ⟨b, 5, none⟩ = some u5 ∧ w.cell? ⟨b, 6, none⟩ = some u6 ∧ w.cell? ⟨b, 7, none⟩ = some u7 ∧ w.cell? ⟨b, 8, none⟩ = some u8 ∧ w.cell? ⟨b, 9, none⟩ = some u9 ∧ w.cell? ⟨b, 10, none⟩ = some u10 ∧ w.cell? ⟨b, 11, none⟩ = some u11 :=
  ⟨h.cell 0 _ rfl, h.cell 1 _ rfl, h.cell 2 _ rfl, h.cell 3 _ rfl, h.cell 4 _ rfl, h.cell 5 _ rfl, h.cell 6 _ rfl, h.cell 7 _ rfl, h.cell 8 _ rfl, h.cell 9 _ rfl, h.cell 10 _ rfl, h.cell 11 _ rfl⟩
theorem Kept.of_alloc (w : World) (o : Obj) (B T : Nat) : Kept B T w (w.alloc o) := Kept.of_below (belNew w o) B T
theorem Kept.wider {B T B' T' : Nat} {w w' : World} (h : Kept B T w w') (hB : B' ≤ B) (hT : T ≤ T') : Kept B' T' w w' := ⟨h.os, h.tape, h.output, h.size, fun k hk ho => h.block k hk (by omega)⟩
theorem Kept.drew {B T : Nat} {w w' : World} (h : Kept B T w w') : Kept B T w w'.drew := ⟨h.os, h.tape, h.output, h.size, h.block⟩
theorem Kept.store {B T : Nat} {w w' : World} (h : Kept B T w w') (g i : Nat) (u : Value) (h1 : B ≤ g) (h2 : g < T) : Kept B T w (w'.setCell ⟨g, i, none⟩ u) :=
  h.trans (Kept.of_grown (stored_grown w' g i u) (fun k hk => by have := Option.some.inj hk; omega))
theorem TbAt.drew {w : World} {a n : Nat} {t : Tb} (h : TbAt w a n t) : TbAt w.drew a n t := ⟨h.box, h.adds.same rfl, h.flags.same rfl⟩
/-- The next number stored. -/
theorem TbAt.setNext {w : World} {a n : Nat} {t : Tb} (h : TbAt w a n t) (m : Int) : TbAt (w.setCell ⟨a + 2, 9, none⟩ (.int .i64 m)) a n ⟨t.named, m, t.adds, t.flags⟩ :=
  ⟨h.box.set 9 (.int .i64 m), h.adds.setCell (show a ≠ a + 2 by omega) _, h.flags.setCell (show a + 1 ≠ a + 2 by omega) _⟩
/-- Nine cells stored. -/
def put9 (w : World) (b : Nat) (x : Itm) : World := ((((((((w.setCell ⟨b, 0, none⟩ (.int .i64 x.1)).setCell ⟨b, 1, none⟩ (.int .i64 x.2.kind)).setCell ⟨b, 2, none⟩ (.int .i64 x.2.valid)).setCell ⟨b, 3, none⟩ (.int .i64 x.2.uid)).setCell ⟨b, 4, none⟩ (.int .i64 x.2.next)).setCell ⟨b, 5, none⟩ (.int .i64 x.2.flags)).setCell ⟨b, 6, none⟩ (.string x.2.user)).setCell ⟨b, 7, none⟩ (.string x.2.name)).setCell ⟨b, 8, none⟩ (.string x.2.text)
theorem put9_grown (w : World) (b : Nat) (x : Itm) : w.grownBy (put9 w b x) (some b) :=
  ((((((((stored_grown w b 0 _).trans (stored_grown _ b 1 _)).trans (stored_grown _ b 2 _)).trans (stored_grown _ b 3 _)).trans (stored_grown _ b 4 _)).trans (stored_grown _ b 5 _)).trans (stored_grown _ b 6 _)).trans (stored_grown _ b 7 _)).trans (stored_grown _ b 8 _)
theorem Box.put9 {w : World} {b : Nat} {u0 u1 u2 u3 u4 u5 u6 u7 u8 u9 u10 u11 : Value} {t : TypeId} (h : Box w b #[u0, u1, u2, u3, u4, u5, u6, u7, u8, u9, u10, u11] t) (x : Itm) :
    Box (Go.Proofs.YtahebgceoidebaaGreat.put9 w b x) b #[.int .i64 x.1, .int .i64 x.2.kind, .int .i64 x.2.valid, .int .i64 x.2.uid, .int .i64 x.2.next, .int .i64 x.2.flags, .string x.2.user, .string x.2.name, .string x.2.text, u9, u10, u11] t :=
  have a0 : Box (w.setCell ⟨b, 0, none⟩ (.int .i64 x.1)) b #[.int .i64 x.1, u1, u2, u3, u4, u5, u6, u7, u8, u9, u10, u11] t := h.set 0 (.int .i64 x.1)
  have a1 : Box ((w.setCell ⟨b, 0, none⟩ (.int .i64 x.1)).setCell ⟨b, 1, none⟩ (.int .i64 x.2.kind)) b #[.int .i64 x.1, .int .i64 x.2.kind, u2, u3, u4, u5, u6, u7, u8, u9, u10, u11] t := a0.set 1 (.int .i64 x.2.kind)
  have a2 : Box (((w.setCell ⟨b, 0, none⟩ (.int .i64 x.1)).setCell ⟨b, 1, none⟩ (.int .i64 x.2.kind)).setCell ⟨b, 2, none⟩ (.int .i64 x.2.valid)) b #[.int .i64 x.1, .int .i64 x.2.kind, .int .i64 x.2.valid, u3, u4, u5, u6, u7, u8, u9, u10, u11] t := a1.set 2 (.int .i64 x.2.valid)
  have a3 : Box ((((w.setCell ⟨b, 0, none⟩ (.int .i64 x.1)).setCell ⟨b, 1, none⟩ (.int .i64 x.2.kind)).setCell ⟨b, 2, none⟩ (.int .i64 x.2.valid)).setCell ⟨b, 3, none⟩ (.int .i64 x.2.uid)) b #[.int .i64 x.1, .int .i64 x.2.kind, .int .i64 x.2.valid, .int .i64 x.2.uid, u4, u5, u6, u7, u8, u9, u10, u11] t := a2.set 3 (.int .i64 x.2.uid)
  have a4 : Box (((((w.setCell ⟨b, 0, none⟩ (.int .i64 x.1)).setCell ⟨b, 1, none⟩ (.int .i64 x.2.kind)).setCell ⟨b, 2, none⟩ (.int .i64 x.2.valid)).setCell ⟨b, 3, none⟩ (.int .i64 x.2.uid)).setCell ⟨b, 4, none⟩ (.int .i64 x.2.next)) b #[.int .i64 x.1, .int .i64 x.2.kind, .int .i64 x.2.valid, .int .i64 x.2.uid, .int .i64 x.2.next, u5, u6, u7, u8, u9, u10, u11] t := a3.set 4 (.int .i64 x.2.next)
  have a5 : Box ((((((w.setCell ⟨b, 0, none⟩ (.int .i64 x.1)).setCell ⟨b, 1, none⟩ (.int .i64 x.2.kind)).setCell ⟨b, 2, none⟩ (.int .i64 x.2.valid)).setCell ⟨b, 3, none⟩ (.int .i64 x.2.uid)).setCell ⟨b, 4, none⟩ (.int .i64 x.2.next)).setCell ⟨b, 5, none⟩ (.int .i64 x.2.flags)) b #[.int .i64 x.1, .int .i64 x.2.kind, .int .i64 x.2.valid, .int .i64 x.2.uid, .int .i64 x.2.next, .int .i64 x.2.flags, u6, u7, u8, u9, u10, u11] t := a4.set 5 (.int .i64 x.2.flags)
  have a6 : Box (((((((w.setCell ⟨b, 0, none⟩ (.int .i64 x.1)).setCell ⟨b, 1, none⟩ (.int .i64 x.2.kind)).setCell ⟨b, 2, none⟩ (.int .i64 x.2.valid)).setCell ⟨b, 3, none⟩ (.int .i64 x.2.uid)).setCell ⟨b, 4, none⟩ (.int .i64 x.2.next)).setCell ⟨b, 5, none⟩ (.int .i64 x.2.flags)).setCell ⟨b, 6, none⟩ (.string x.2.user)) b #[.int .i64 x.1, .int .i64 x.2.kind, .int .i64 x.2.valid, .int .i64 x.2.uid, .int .i64 x.2.next, .int .i64 x.2.flags, .string x.2.user, u7, u8, u9, u10, u11] t := a5.set 6 (.string x.2.user)
  have a7 : Box ((((((((w.setCell ⟨b, 0, none⟩ (.int .i64 x.1)).setCell ⟨b, 1, none⟩ (.int .i64 x.2.kind)).setCell ⟨b, 2, none⟩ (.int .i64 x.2.valid)).setCell ⟨b, 3, none⟩ (.int .i64 x.2.uid)).setCell ⟨b, 4, none⟩ (.int .i64 x.2.next)).setCell ⟨b, 5, none⟩ (.int .i64 x.2.flags)).setCell ⟨b, 6, none⟩ (.string x.2.user)).setCell ⟨b, 7, none⟩ (.string x.2.name)) b #[.int .i64 x.1, .int .i64 x.2.kind, .int .i64 x.2.valid, .int .i64 x.2.uid, .int .i64 x.2.next, .int .i64 x.2.flags, .string x.2.user, .string x.2.name, u8, u9, u10, u11] t := a6.set 7 (.string x.2.name)
  have a8 : Box (((((((((w.setCell ⟨b, 0, none⟩ (.int .i64 x.1)).setCell ⟨b, 1, none⟩ (.int .i64 x.2.kind)).setCell ⟨b, 2, none⟩ (.int .i64 x.2.valid)).setCell ⟨b, 3, none⟩ (.int .i64 x.2.uid)).setCell ⟨b, 4, none⟩ (.int .i64 x.2.next)).setCell ⟨b, 5, none⟩ (.int .i64 x.2.flags)).setCell ⟨b, 6, none⟩ (.string x.2.user)).setCell ⟨b, 7, none⟩ (.string x.2.name)).setCell ⟨b, 8, none⟩ (.string x.2.text)) b #[.int .i64 x.1, .int .i64 x.2.kind, .int .i64 x.2.valid, .int .i64 x.2.uid, .int .i64 x.2.next, .int .i64 x.2.flags, .string x.2.user, .string x.2.name, .string x.2.text, u9, u10, u11] t := a7.set 8 (.string x.2.text)
  a8
theorem TbAt.setNamed {w : World} {a n : Nat} {t : Tb} (h : TbAt w a n t) (x : Itm) : TbAt (put9 w (a + 2) x) a n ⟨x, t.next, t.adds, t.flags⟩ :=
  ⟨h.box.put9 x, h.adds.kept (put9_grown w (a + 2) x) (fun e => by have := Option.some.inj e; omega), h.flags.kept (put9_grown w (a + 2) x) (fun e => by have := Option.some.inj e; omega)⟩

set_option maxRecDepth 100000 in
set_option maxHeartbeats 2000000 in
theorem take5 (t : Tb) (x : Itm) (a n : Nat) (w : World) (h : TbAt w a n t) (h5 : x.2.kind = 5) (hu : 1 ≤ x.2.uid ∧ x.2.uid ≤ 9999) :
    Calls Tryz.prog 84 #[ptrV (a + 2), itmV x] w fun e w' => e = .returned (.tuple #[]) ∧ TbAt w' a n ⟨t.named, max t.next (x.2.uid + 1), t.adds, t.flags⟩ ∧ Kept a (a + 3) w w' := by
  have X1 := Box.new w #[.int .i64 x.1, .int .i64 x.2.kind, .int .i64 x.2.valid, .int .i64 x.2.uid, .int .i64 x.2.next, .int .i64 x.2.flags, .string x.2.user, .string x.2.name, .string x.2.text] 49
  have T1 := h.later (belNew w (.cells #[.int .i64 x.1, .int .i64 x.2.kind, .int .i64 x.2.valid, .int .i64 x.2.uid, .int .i64 x.2.next, .int .i64 x.2.flags, .string x.2.user, .string x.2.name, .string x.2.text] 49))
  have K1 := Kept.of_alloc w (.cells #[.int .i64 x.1, .int .i64 x.2.kind, .int .i64 x.2.valid, .int .i64 x.2.uid, .int .i64 x.2.next, .int .i64 x.2.flags, .string x.2.user, .string x.2.name, .string x.2.text] 49) a (a + 3)
  have n1 : a + 2 ≠ w.heap.size := by have := h.box.lt; omega
  obtain ⟨sq, K, V, U, N, FL, US, NM, TX⟩ := x
  simp only at h5 hu X1 T1 K1 ⊢
  have h5 := h5.symm
  subst h5
  obtain ⟨q0, q1, q2, q3, q4, q5, q6, q7, q8, _⟩ := X1.nine
  obtain ⟨p0, p1, p2, p3, p4, p5, p6, p7, p8, p9, p10, p11⟩ := T1.box.twelve
  have f9 := T1.box.loose 9
  have HT := Lib.hid T1
  have HK := Lib.hid K1
  have HX := Lib.hid X1
  have HN := Lib.hid n1
  clear X1 T1 K1 h n1
  unfold ptrV itmV itV
  simp only
  go_enter Tryz.func84, Tryz.ntmps84
  go_upto_region 12 with fail
  go_region
  go_wp2
  go_end0
  exact ⟨rfl, (HT.out.setNext _).drew, (HK.out.store _ _ _ (by omega) (by omega)).drew⟩

set_option maxRecDepth 100000 in
set_option maxHeartbeats 2000000 in
theorem take2 (t : Tb) (x : Itm) (a n : Nat) (w : World) (h : TbAt w a n t) (h2 : x.2.kind = 2) :
    Calls Tryz.prog 84 #[ptrV (a + 2), itmV x] w fun e w' => e = .returned (.tuple #[]) ∧ TbAt w' a n t ∧ Kept a (a + 3) w w' := by
  have X1 := Box.new w #[.int .i64 x.1, .int .i64 x.2.kind, .int .i64 x.2.valid, .int .i64 x.2.uid, .int .i64 x.2.next, .int .i64 x.2.flags, .string x.2.user, .string x.2.name, .string x.2.text] 49
  have T1 := h.later (belNew w (.cells #[.int .i64 x.1, .int .i64 x.2.kind, .int .i64 x.2.valid, .int .i64 x.2.uid, .int .i64 x.2.next, .int .i64 x.2.flags, .string x.2.user, .string x.2.name, .string x.2.text] 49))
  have K1 := Kept.of_alloc w (.cells #[.int .i64 x.1, .int .i64 x.2.kind, .int .i64 x.2.valid, .int .i64 x.2.uid, .int .i64 x.2.next, .int .i64 x.2.flags, .string x.2.user, .string x.2.name, .string x.2.text] 49) a (a + 3)
  have n1 : a + 2 ≠ w.heap.size := by have := h.box.lt; omega
  obtain ⟨sq, K, V, U, N, FL, US, NM, TX⟩ := x
  simp only at h2 X1 T1 K1 ⊢
  have h2 := h2.symm
  subst h2
  obtain ⟨q0, q1, q2, q3, q4, q5, q6, q7, q8, _⟩ := X1.nine
  obtain ⟨p0, p1, p2, p3, p4, p5, p6, p7, p8, p9, p10, p11⟩ := T1.box.twelve
  have f9 := T1.box.loose 9
  have HT := Lib.hid T1
  have HK := Lib.hid K1
  have HX := Lib.hid X1
  have HN := Lib.hid n1
  clear X1 T1 K1 h n1
  unfold ptrV itmV itV
  simp only
  go_enter Tryz.func84, Tryz.ntmps84
  go_wp2
  go_end0
  exact ⟨rfl, HT.out, HK.out⟩

set_option maxRecDepth 100000 in
set_option maxHeartbeats 2000000 in
theorem take4 (t : Tb) (x : Itm) (a n : Nat) (w : World) (h : TbAt w a n t) (h4 : x.2.kind = 4) (hu : 1 ≤ x.2.uid ∧ x.2.uid ≤ 9999) (hn : n ≤ 1000000) :
    Calls Tryz.prog 84 #[ptrV (a + 2), itmV x] w fun e w' => e = .returned (.tuple #[]) ∧ TbAt w' a (n + 1) ⟨t.named, t.next, t.adds, keepL t.flags x⟩ ∧ Kept a (a + 3) w w' := by
  have X1 := Box.new w #[.int .i64 x.1, .int .i64 x.2.kind, .int .i64 x.2.valid, .int .i64 x.2.uid, .int .i64 x.2.next, .int .i64 x.2.flags, .string x.2.user, .string x.2.name, .string x.2.text] 49
  have T1 := h.later (belNew w (.cells #[.int .i64 x.1, .int .i64 x.2.kind, .int .i64 x.2.valid, .int .i64 x.2.uid, .int .i64 x.2.next, .int .i64 x.2.flags, .string x.2.user, .string x.2.name, .string x.2.text] 49))
  have K1 := Kept.of_alloc w (.cells #[.int .i64 x.1, .int .i64 x.2.kind, .int .i64 x.2.valid, .int .i64 x.2.uid, .int .i64 x.2.next, .int .i64 x.2.flags, .string x.2.user, .string x.2.name, .string x.2.text] 49) a (a + 3)
  have n1 : a + 2 ≠ w.heap.size := by have := h.box.lt; omega
  obtain ⟨sq, K, V, U, N, FL, US, NM, TX⟩ := x
  simp only at h4 hu X1 T1 K1 ⊢
  have HKL : Hid (∀ X, MapIs iK itmV X (a + 1) n t.flags → Calls Tryz.prog 89 #[.map (some (a + 1)), .agg #[.int .i64 sq, .int .i64 K, .int .i64 V, .int .i64 U, .int .i64 N, .int .i64 FL, .string US, .string NM, .string TX]] X fun e w' => e = .returned (.tuple #[]) ∧ MapIs iK itmV w' (a + 1) (n + 1) (keepL t.flags (sq, ⟨K, V, U, N, FL, US, NM, TX⟩)) ∧ X.grownBy w' (some (a + 1))) := fun X hX => keepLatest_any t.flags (sq, ⟨K, V, U, N, FL, US, NM, TX⟩) (a + 1) n X hX hn (wf_of (by show _ ≤ U; omega) (by show U ≤ _; omega))
  have h4 := h4.symm
  subst h4
  obtain ⟨q0, q1, q2, q3, q4, q5, q6, q7, q8, _⟩ := X1.nine
  obtain ⟨p0, p1, p2, p3, p4, p5, p6, p7, p8, p9, p10, p11⟩ := T1.box.twelve
  have f9 := T1.box.loose 9
  have HT := Lib.hid T1
  have HK := Lib.hid K1
  have HX := Lib.hid X1
  have HN := Lib.hid n1
  clear X1 T1 K1 h n1
  unfold ptrV itmV itV
  simp only
  go_enter Tryz.func84, Tryz.ntmps84
  go_upto_region 10 with fail
  go_region_with (go_at_call 89; refine (HKL.out (World.drew _) (HT.out.flags.same rfl)).mono ?_; rintro e w5 ⟨rfl, hM5, hg5⟩)
  all_goals
    go_wp2
    go_end0
    exact ⟨rfl, ⟨(hg5.block _ HT.out.drew.box.lt (fun e => by have := Option.some.inj e; omega)).trans HT.out.drew.box, (HT.out.drew.adds.kept hg5 (fun e => by have := Option.some.inj e; omega)).mono (by omega), hM5⟩, HK.out.drew.trans (Kept.of_grown hg5 (fun k hk => by have := Option.some.inj hk; omega))⟩

set_option maxRecDepth 100000 in
set_option maxHeartbeats 2000000 in
theorem take3 (t : Tb) (x : Itm) (a n : Nat) (w : World) (h : TbAt w a n t) (h3 : x.2.kind = 3) (hu : 1 ≤ x.2.uid ∧ x.2.uid ≤ 9999) (hn : n ≤ 1000000) :
    Calls Tryz.prog 84 #[ptrV (a + 2), itmV x] w fun e w' => e = .returned (.tuple #[]) ∧ TbAt w' a (n + 1) ⟨t.named, max t.next (x.2.uid + 1), keepL t.adds x, t.flags⟩ ∧ Kept a (a + 3) w w' := by
  have X1 := Box.new w #[.int .i64 x.1, .int .i64 x.2.kind, .int .i64 x.2.valid, .int .i64 x.2.uid, .int .i64 x.2.next, .int .i64 x.2.flags, .string x.2.user, .string x.2.name, .string x.2.text] 49
  have T1 := h.later (belNew w (.cells #[.int .i64 x.1, .int .i64 x.2.kind, .int .i64 x.2.valid, .int .i64 x.2.uid, .int .i64 x.2.next, .int .i64 x.2.flags, .string x.2.user, .string x.2.name, .string x.2.text] 49))
  have K1 := Kept.of_alloc w (.cells #[.int .i64 x.1, .int .i64 x.2.kind, .int .i64 x.2.valid, .int .i64 x.2.uid, .int .i64 x.2.next, .int .i64 x.2.flags, .string x.2.user, .string x.2.name, .string x.2.text] 49) a (a + 3)
  have n1 : a + 2 ≠ w.heap.size := by have := h.box.lt; omega
  obtain ⟨sq, K, V, U, N, FL, US, NM, TX⟩ := x
  simp only at h3 hu X1 T1 K1 ⊢
  have HKL : Hid (∀ X, MapIs iK itmV X a n t.adds → Calls Tryz.prog 89 #[.map (some a), .agg #[.int .i64 sq, .int .i64 K, .int .i64 V, .int .i64 U, .int .i64 N, .int .i64 FL, .string US, .string NM, .string TX]] X fun e w' => e = .returned (.tuple #[]) ∧ MapIs iK itmV w' a (n + 1) (keepL t.adds (sq, ⟨K, V, U, N, FL, US, NM, TX⟩)) ∧ X.grownBy w' (some a)) := fun X hX => keepLatest_any t.adds (sq, ⟨K, V, U, N, FL, US, NM, TX⟩) a n X hX hn (wf_of (by show _ ≤ U; omega) (by show U ≤ _; omega))
  have h3 := h3.symm
  subst h3
  obtain ⟨q0, q1, q2, q3, q4, q5, q6, q7, q8, _⟩ := X1.nine
  obtain ⟨p0, p1, p2, p3, p4, p5, p6, p7, p8, p9, p10, p11⟩ := T1.box.twelve
  have f9 := T1.box.loose 9
  have HT := Lib.hid T1
  have HK := Lib.hid K1
  have HX := Lib.hid X1
  have HN := Lib.hid n1
  clear X1 T1 K1 h n1
  unfold ptrV itmV itV
  simp only
  go_enter Tryz.func84, Tryz.ntmps84
  go_upto_region 7 with fail
  go_region
  have T2 := (HT.out.setNext (max t.next (U + 1))).drew
  have K2 := (HK.out.store (a + 2) 9 (.int .i64 (max t.next (U + 1))) (by omega) (by omega)).drew
  have X2 := HX.out.other (g := a + 2) (fun e => HN.out e.symm) 9 (.int .i64 (max t.next (U + 1)))
  clear q0 q1 q2 q3 q4 q5 q6 q7 q8 p0 p1 p2 p3 p4 p5 p6 p7 p8 p9 p10 p11 f9 HT HK HX
  go_upto_region 8 with fail
  generalize hW2 : (World.setCell _ ⟨a + 2, 9, none⟩ (.int .i64 (max t.next (U + 1)))).drew = W2 at T2 K2 ⊢
  have X2' : Box W2 w.heap.size #[.int .i64 sq, .int .i64 3, .int .i64 V, .int .i64 U, .int .i64 N, .int .i64 FL, .string US, .string NM, .string TX] 49 := by rw [← hW2]; exact X2
  clear hW2 X2
  obtain ⟨q0, q1, q2, q3, q4, q5, q6, q7, q8, _⟩ := X2'.nine
  obtain ⟨p0, p1, p2, p3, p4, p5, p6, p7, p8, p9, p10, p11⟩ := T2.box.twelve
  have HT := Lib.hid T2
  have HK := Lib.hid K2
  clear T2 K2 X2'
  go_region_with (go_at_call 89; refine (HKL.out (World.drew _) (HT.out.adds.same rfl)).mono ?_; rintro e w5 ⟨rfl, hM5, hg5⟩)
  all_goals
    go_wp2
    go_end0
    exact ⟨rfl, ⟨(hg5.block _ HT.out.drew.box.lt (fun e => by have := Option.some.inj e; omega)).trans HT.out.drew.box, hM5, (HT.out.drew.flags.kept hg5 (fun e => by have := Option.some.inj e; omega)).mono (by omega)⟩, HK.out.drew.trans (Kept.of_grown hg5 (fun k hk => by have := Option.some.inj hk; omega))⟩

set_option maxRecDepth 100000 in
set_option maxHeartbeats 4000000 in
theorem take1 (t : Tb) (x : Itm) (a n : Nat) (w : World) (h : TbAt w a n t) (h1 : x.2.kind = 1) :
    Calls Tryz.prog 84 #[ptrV (a + 2), itmV x] w fun e w' => e = .returned (.tuple #[]) ∧ TbAt w' a n ⟨if aheadB (fun y => y.2.next) x t.named then x else t.named, max t.next x.2.next, t.adds, t.flags⟩ ∧ Kept a (a + 3) w w' := by
  obtain ⟨D, hD⟩ : ∃ D, aheadB (fun y => y.2.next) x t.named = D := ⟨_, rfl⟩
  have HD := Lib.hid hD
  rw [hD]
  clear hD
  have X1 := Box.new w #[.int .i64 x.1, .int .i64 x.2.kind, .int .i64 x.2.valid, .int .i64 x.2.uid, .int .i64 x.2.next, .int .i64 x.2.flags, .string x.2.user, .string x.2.name, .string x.2.text] 49
  have T1 := h.later (belNew w (.cells #[.int .i64 x.1, .int .i64 x.2.kind, .int .i64 x.2.valid, .int .i64 x.2.uid, .int .i64 x.2.next, .int .i64 x.2.flags, .string x.2.user, .string x.2.name, .string x.2.text] 49))
  have K1 := Kept.of_alloc w (.cells #[.int .i64 x.1, .int .i64 x.2.kind, .int .i64 x.2.valid, .int .i64 x.2.uid, .int .i64 x.2.next, .int .i64 x.2.flags, .string x.2.user, .string x.2.name, .string x.2.text] 49) a (a + 3)
  have n1 : a + 2 ≠ w.heap.size := by have := h.box.lt; omega
  obtain ⟨sq, K, V, U, N, FL, US, NM, TX⟩ := x
  simp only at h1 HD X1 T1 K1 ⊢
  have HBN : Hid (∀ X, Calls Tryz.prog 55 #[.agg #[.int .i64 sq, .int .i64 K, .int .i64 V, .int .i64 U, .int .i64 N, .int .i64 FL, .string US, .string NM, .string TX], .agg #[.int .i64 t.named.1, .int .i64 t.named.2.kind, .int .i64 t.named.2.valid, .int .i64 t.named.2.uid, .int .i64 t.named.2.next, .int .i64 t.named.2.flags, .string t.named.2.user, .string t.named.2.name, .string t.named.2.text]] X fun e w' => e = .returned (.int .i64 (nsC (sq, ⟨K, V, U, N, FL, US, NM, TX⟩) t.named)) ∧ Below X.heap.size X w') := fun X => byNextAndSeq_any (sq, ⟨K, V, U, N, FL, US, NM, TX⟩) t.named X
  have HNS := Lib.hid (nsC_pos (sq, ⟨K, V, U, N, FL, US, NM, TX⟩) t.named)
  have h1 := h1.symm
  subst h1
  obtain ⟨q0, q1, q2, q3, q4, q5, q6, q7, q8, _⟩ := X1.nine
  obtain ⟨p0, p1, p2, p3, p4, p5, p6, p7, p8, p9, p10, p11⟩ := T1.box.twelve
  have f9 := T1.box.loose 9
  have HT := Lib.hid T1
  have HK := Lib.hid K1
  have HX := Lib.hid X1
  have HN := Lib.hid n1
  clear X1 T1 K1 h n1
  unfold ptrV itmV itV
  simp only
  go_enter Tryz.func84, Tryz.ntmps84
  go_upto_region 3 with fail
  go_region
  have T2 := (HT.out.setNext (max t.next N)).drew
  have K2 := (HK.out.store (a + 2) 9 (.int .i64 (max t.next N)) (by omega) (by omega)).drew
  have X2 := HX.out.other (g := a + 2) (fun e => HN.out e.symm) 9 (.int .i64 (max t.next N))
  clear q0 q1 q2 q3 q4 q5 q6 q7 q8 p0 p1 p2 p3 p4 p5 p6 p7 p8 p9 p10 p11 f9 HT HK HX
  go_upto_region 4 with fail
  generalize hW2 : (World.setCell _ ⟨a + 2, 9, none⟩ (.int .i64 (max t.next N))).drew = W2 at T2 K2 ⊢
  have X2' : Box W2 w.heap.size #[.int .i64 sq, .int .i64 1, .int .i64 V, .int .i64 U, .int .i64 N, .int .i64 FL, .string US, .string NM, .string TX] 49 := by rw [← hW2]; exact X2
  clear hW2 X2
  obtain ⟨q0, q1, q2, q3, q4, q5, q6, q7, q8, _⟩ := X2'.nine
  obtain ⟨p0, p1, p2, p3, p4, p5, p6, p7, p8, p9, p10, p11⟩ := T2.box.twelve
  have HT := Lib.hid T2
  have HK := Lib.hid K2
  have HX := Lib.hid X2'
  clear T2 K2 X2'
  generalize hC : nsC (sq, ⟨1, V, U, N, FL, US, NM, TX⟩) t.named = C at HBN HNS
  clear hC
  go_cut [26] (fun c wx => c = .bool D ∧ Below W2.heap.size W2 wx)
  case first =>
    go_region_with (go_at_call 55; refine (HBN.out (World.drew _)).mono ?_; rintro e w5 ⟨rfl, hb5⟩)
    all_goals
      have hCD : decide (0 < C) = D := by
        rw [← HD.out]
        by_cases c : 0 < C
        · rw [decide_eq_true c]; exact (HNS.out.1 c).symm
        · rw [decide_eq_false c]
          cases e : aheadB (fun y => y.2.next) (sq, ⟨1, V, U, N, FL, US, NM, TX⟩) t.named with
          | false => rfl
          | true => exact absurd (HNS.out.2 e) c
      go_wp2_with fail
      go_meet
      exact ⟨by rw [← hCD], (show Below W2.heap.size W2 W2.drew from (Below.refl _ _).drew).trans hb5⟩
  case rest =>
    obtain ⟨rfl, hb5⟩ := hcut
    have T5 := HT.out.later hb5
    have K5 := HK.out.trans (Kept.of_below hb5 a (a + 3))
    have X5 := HX.out.later hb5
    clear q0 q1 q2 q3 q4 q5 q6 q7 q8 p0 p1 p2 p3 p4 p5 p6 p7 p8 p9 p10 p11 HT HK HX hb5
    obtain ⟨q0, q1, q2, q3, q4, q5, q6, q7, q8, _⟩ := X5.nine
    obtain ⟨p0, p1, p2, p3, p4, p5, p6, p7, p8, p9, p10, p11⟩ := T5.box.twelve
    have f0 := T5.box.loose 0
    have f1 := T5.box.loose 1
    have f2 := T5.box.loose 2
    have f3 := T5.box.loose 3
    have f4 := T5.box.loose 4
    have f5 := T5.box.loose 5
    have f6 := T5.box.loose 6
    have f7 := T5.box.loose 7
    have f8 := T5.box.loose 8
    have HT := Lib.hid T5
    have HK := Lib.hid K5
    clear T5 K5 X5
    cases D with
    | true =>
      go_wp2
      go_end0
      exact ⟨rfl, HT.out.setNamed (sq, ⟨1, V, U, N, FL, US, NM, TX⟩), HK.out.trans (Kept.of_grown (put9_grown _ (a + 2) (sq, ⟨1, V, U, N, FL, US, NM, TX⟩)) (fun k hk => by have := Option.some.inj hk; omega))⟩
    | false =>
      go_wp2
      go_end0
      exact ⟨rfl, HT.out, HK.out⟩

end Go.Proofs.YtahebgceoidebaaGreat

/- The records of all boxes gathered. -/
namespace Go.Proofs.YtahebgceoidebaaGreat
open Go.RowKit

theorem ok_uid {x : Itm} (h : x.2.ok) (hk : 3 ≤ x.2.kind) : 1 ≤ x.2.uid ∧ x.2.uid ≤ 9999 := by
  have h1 := h.2.2.2.1
  rw [if_pos hk] at h1
  exact h1
theorem take_any (t : Tb) (x : Itm) (a n : Nat) (w : World) (h : TbAt w a n t) (hx : itOk x) (hn : n ≤ 1000000) :
    Calls Tryz.prog 84 #[ptrV (a + 2), itmV x] w fun e w' => e = .returned (.tuple #[]) ∧ TbAt w' a (n + 1) (takeT t x) ∧ Kept a (a + 3) w w' := by
  have hk := hx.2.1
  unfold takeT
  by_cases h1 : x.2.kind = 1
  · rw [if_pos h1]
    exact (take1 t x a n w h h1).mono fun e w' ⟨e1, e2, e3⟩ => ⟨e1, e2.mono (by omega), e3⟩
  rw [if_neg h1]
  by_cases h3 : x.2.kind = 3
  · rw [if_pos h3]
    exact take3 t x a n w h h3 (ok_uid hx.2 (by omega)) hn
  rw [if_neg h3]
  by_cases h4 : x.2.kind = 4
  · rw [if_pos h4]
    exact take4 t x a n w h h4 (ok_uid hx.2 (by omega)) hn
  rw [if_neg h4]
  by_cases h5 : x.2.kind = 5
  · rw [if_pos h5]
    exact (take5 t x a n w h h5 (ok_uid hx.2 (by omega))).mono fun e w' ⟨e1, e2, e3⟩ => ⟨e1, e2.mono (by omega), e3⟩
  rw [if_neg h5]
  exact (take2 t x a n w h (by omega)).mono fun e w' ⟨e1, e2, e3⟩ => ⟨e1, e2.mono (by omega), e3⟩

/-- All boxes gathered: a map in the block b, from a Valid to what is gathered of it. -/
structure ToldO (b n : Nat) (w : World) (T : Int → Option Tb) (P : Int → Option Nat) : Prop where
  map : MapIs iK ptrV w b n (fun v => (P v).map (fun a => a + 2))
  dom : ∀ v, (P v).isSome = (T v).isSome
  at' : ∀ v a t, P v = some a → T v = some t → TbAt w a n t
  low : ∀ v a, P v = some a → b < a
  apart : ∀ v v' a a', P v = some a → P v' = some a' → v ≠ v' → a + 3 ≤ a' ∨ a' + 3 ≤ a
theorem ToldO.later {b n : Nat} {w w' : World} {T : Int → Option Tb} {P : Int → Option Nat} (h : ToldO b n w T P) (hb : Below w.heap.size w w') : ToldO b n w' T P :=
  ⟨h.map.later hb, h.dom, fun v a t h1 h2 => (h.at' v a t h1 h2).later hb, h.low, h.apart⟩
theorem ToldO.get {b n : Nat} {w : World} {T : Int → Option Tb} {P : Int → Option Nat} (h : ToldO b n w T P) {v : Int} {a : Nat} (hp : P v = some a) : ∃ t, T v = some t := by
  have := h.dom v
  rw [hp] at this
  cases e : T v with
  | none => rw [e] at this; cases this
  | some t => exact ⟨t, rfl⟩
theorem ToldO.gone {b n : Nat} {w : World} {T : Int → Option Tb} {P : Int → Option Nat} (h : ToldO b n w T P) {v : Int} (hp : P v = none) : T v = none := by
  have := h.dom v
  rw [hp] at this
  cases e : T v with
  | none => rfl
  | some t => rw [e] at this; cases this
theorem ToldO.mono {b n n' : Nat} {w : World} {T : Int → Option Tb} {P : Int → Option Nat} (h : ToldO b n w T P) (hn : n ≤ n') : ToldO b n' w T P :=
  ⟨h.map.mono hn, h.dom, fun v a t h1 h2 => (h.at' v a t h1 h2).mono hn, h.low, h.apart⟩
/-- What is gathered of one box has turned. -/
theorem ToldO.turn {b n n' : Nat} {w w' : World} {T : Int → Option Tb} {P : Int → Option Nat} (h : ToldO b n w T P) {v : Int} {a : Nat} (hp : P v = some a) (t' : Tb) (hn : n ≤ n') (ht : TbAt w' a n' t') (hk : Kept a (a + 3) w w') :
    ToldO b n' w' (fun u => if u = v then some t' else T u) P := by
  refine ⟨(h.map.same (hk.block b h.map.lt (.inl (h.low v a hp)))).mono hn, fun u => ?_, fun u c t h1 h2 => ?_, h.low, h.apart⟩
  · by_cases e : u = v
    · subst e; simp [hp]
    · simp [e, h.dom u]
  · by_cases e : u = v
    · subst e
      rw [hp] at h1
      cases h1
      simp at h2
      cases h2
      exact ht
    · simp [e] at h2
      have q := h.at' u c t h1 h2
      have l0 := q.adds.lt
      have l1 := q.flags.lt
      have l2 := q.box.lt
      rcases h.apart u v c a h1 hp e with d | d
      · exact (q.same (hk.block c l0 (by omega)) (hk.block (c + 1) l1 (by omega)) (hk.block (c + 2) l2 (by omega))).mono hn
      · exact (q.same (hk.block c l0 (by omega)) (hk.block (c + 1) l1 (by omega)) (hk.block (c + 2) l2 (by omega))).mono hn
/-- One box more. -/
theorem ToldO.add {b n n' : Nat} {w w' : World} {T : Int → Option Tb} {P : Int → Option Nat} (h : ToldO b n w T P) {v : Int} (hp : P v = none) (a : Nat) (t' : Tb) (hn : n ≤ n')
    (hm : MapIs iK ptrV w' b n' (fun u => ((fun u => if u = v then some a else P u) u).map (fun c => c + 2))) (ht : TbAt w' a n' t') (hs : w.heap.size ≤ a) (hk : ∀ k, k < w.heap.size → k ≠ b → w'.heap[k]? = w.heap[k]?) :
    ToldO b n' w' (fun u => if u = v then some t' else T u) (fun u => if u = v then some a else P u) := by
  have hlt : ∀ {u : Int} {c : Nat}, P u = some c → c + 2 < w.heap.size ∧ b < c := fun {u c} hc => by
    obtain ⟨t, e⟩ := h.get hc
    exact ⟨(h.at' u c t hc e).box.lt, h.low u c hc⟩
  refine ⟨hm, fun u => ?_, fun u c t h1 h2 => ?_, fun u c h1 => ?_, fun u u' c c' h1 h2 hne => ?_⟩
  · by_cases e : u = v
    · simp [e]
    · simp [e, h.dom u]
  · by_cases e : u = v
    · subst e
      simp at h1 h2
      subst h1 h2
      exact ht
    · simp [e] at h1 h2
      have l := hlt h1
      exact ((h.at' u c t h1 h2).same (hk c (by omega) (by omega)) (hk (c + 1) (by omega) (by omega)) (hk (c + 2) (by omega) (by omega))).mono hn
  · by_cases e : u = v
    · simp [e] at h1
      have := h.map.lt
      omega
    · simp [e] at h1
      exact h.low u c h1
  · by_cases e : u = v
    · simp [e] at h1
      by_cases e' : u' = v
      · exact absurd (e.trans e'.symm) hne
      · simp [e'] at h2
        have := hlt h2
        omega
    · simp [e] at h1
      by_cases e' : u' = v
      · simp [e'] at h2
        have := hlt h1
        omega
      · simp [e'] at h2
        exact h.apart u u' c c' h1 h2 hne
theorem ToldO.congr {b n : Nat} {w : World} {T T' : Int → Option Tb} {P : Int → Option Nat} (h : ToldO b n w T P) (e : ∀ v, T v = T' v) : ToldO b n w T' P := by
  have : T = T' := funext e
  rw [← this]; exact h

set_option maxRecDepth 100000 in
theorem zero_ptr (w : World) : (zeroValue 102).run Tryz.prog w = .ok (.pointer none) w := by kernel_rfl

set_option maxRecDepth 100000 in
set_option maxHeartbeats 4000000 in
theorem toldBoxes_any (l : List Itm) (v : Value) (w : World) (h : Rows' itE w v l) (hok : ∀ x ∈ l, itOk x) (hl : l.length ≤ 1000) :
    Calls Tryz.prog 70 #[v] w fun e w' => ∃ (b : Nat) (P : Int → Option Nat), e = .returned (.map (some b)) ∧ w.heap.size ≤ b ∧ ToldO b l.length w' (toldT l) P ∧ Below w.heap.size w w' := by
  obtain ⟨ad, cap, rfl, hrow⟩ := h.items
  have HR := Lib.hid hrow
  have HOK := Lib.hid hok
  clear h hrow hok
  have hmm := @run_makeMap Tryz.prog
  have M0 : ToldO w.heap.size 0 (w.alloc (.map #[] 0)) (toldT (l.take 0)) (fun _ => none) := by
    refine ⟨MapIs.made _ _ _, fun u => ?_, fun u a t h1 => (by cases h1), fun u a h1 => (by cases h1), fun u u' a a' h1 => (by cases h1)⟩
    rw [List.take_zero, toldT_nil]; rfl
  have b0 := belNew w (.map #[] 0)
  go_enter Tryz.func70, Tryz.ntmps70
  go_wp2
  generalize w.alloc (.map #[] 0) = w1 at M0 b0 ⊢
  obtain ⟨g, hg⟩ : ∃ g, w.heap.size = g := ⟨_, rfl⟩
  rw [hg] at M0
  have hgle : Hid (w.heap.size ≤ g) := show _ ≤ _ by omega
  rw [hg]
  clear hg
  go_loopw [11] (fun iv wr => ∃ (i : Nat) (P : Int → Option Nat), i ≤ l.length ∧ iv = .int .i64 (i : Int) ∧ ToldO g i wr (toldT (l.take i)) P ∧ Below w.heap.size w wr) (fun iv _ => l.length - (intOf iv).toNat)
  case atStart => exact ⟨0, _, by omega, rfl, M0, b0⟩
  case round =>
    clear M0 b0
    obtain ⟨i, P, hi, rfl, hT, hb⟩ := hrel
    have HT := Lib.hid hT
    clear hT
    by_cases hlt : i < l.length
    · obtain ⟨x, hx⟩ : ∃ x, l[i]? = some x := ⟨_, List.getElem?_eq_getElem hlt⟩
      obtain ⟨ga, oa, rfl, a0, a1, a2, a3, a4, a5, a6, a7, a8⟩ := HR.out _ hb i _ hx
      have hxo := HOK.out x (List.mem_of_getElem? hx)
      have HST : Hid (∀ v, toldT (l.take (i + 1)) v = if v = x.2.valid then some (takeT ((toldT (l.take i) v).getD Tb.nil) x) else toldT (l.take i) v) := fun v => by
        rw [List.take_add_one, hx]; exact toldT_step hxo.1.1 hxo.2 v
      have hwf : iK.ok x.2.valid := wf_of (by have := hxo.2.2.1; omega) (by have := hxo.2.2.1; omega)
      have HXO := Lib.hid hxo
      have HWF := Lib.hid hwf
      clear hx hxo hwf
      have hi0 : (0 : Int) ≤ (i : Int) := by omega
      have hi1 : (i : Int) < (l.length : Int) := by omega
      have XB := Box.new wr #[.int .i64 x.1, .int .i64 x.2.kind, .int .i64 x.2.valid, .int .i64 x.2.uid, .int .i64 x.2.next, .int .i64 x.2.flags, .string x.2.user, .string x.2.name, .string x.2.text] 49
      have kA := belNew wr (.cells #[.int .i64 x.1, .int .i64 x.2.kind, .int .i64 x.2.valid, .int .i64 x.2.uid, .int .i64 x.2.next, .int .i64 x.2.flags, .string x.2.user, .string x.2.name, .string x.2.text] 49)
      have TA := HT.out.later kA
      have hbA := hb.trans (kA.mono hb.size)
      go_upto_region 5 with fail
      clear a0 a1 a2 a3 a4 a5 a6 a7 a8
      have hszA : wr.heap.size < (wr.alloc (.cells #[.int .i64 x.1, .int .i64 x.2.kind, .int .i64 x.2.valid, .int .i64 x.2.uid, .int .i64 x.2.next, .int .i64 x.2.flags, .string x.2.user, .string x.2.name, .string x.2.text] 49)).heap.size := by simp
      generalize wr.alloc (.cells #[.int .i64 x.1, .int .i64 x.2.kind, .int .i64 x.2.valid, .int .i64 x.2.uid, .int .i64 x.2.next, .int .i64 x.2.flags, .string x.2.user, .string x.2.name, .string x.2.text] 49) = wA at XB TA hbA hszA ⊢
      generalize wr.heap.size = gx at XB hszA ⊢
      clear hb kA HT
      obtain ⟨q0, q1, q2, q3, q4, q5, q6, q7, q8, _⟩ := XB.nine
      have HTA := Lib.hid TA
      have HXB := Lib.hid XB
      clear TA XB
      cases hp : P x.2.valid with
      | some a =>
        obtain ⟨t, ht⟩ := HTA.out.get hp
        have hlk := HTA.out.map.look_there (t := 99) Tryz.underlying99 (zero_ptr wA) HWF.out (show (P x.2.valid).map (fun a => a + 2) = some (a + 2) by rw [hp]; rfl) true
        have hlk : (Instr.lookup 99 (.map (some g)) (.int .i64 x.2.valid) true).run Tryz.prog wA = .ok (.tuple #[.pointer (some ⟨a + 2, 0, none⟩), .bool true]) wA := hlk
        have HP := Lib.hid hp
        have HTT := Lib.hid ht
        have HTK := Lib.hid (take_any t x a i wA (HTA.out.at' _ _ _ hp ht) HXO.out (by omega))
        unfold ptrV itmV itV at HTK
        clear hp ht
        go_wp2_with (go_at_call 84; refine HTK.out.mono ?_; rintro e w5 ⟨rfl, hT5, hK5⟩)
        go_roundw
        case rel =>
          refine ⟨i + 1, P, by omega, by go_num, (HTA.out.turn HP.out _ (by omega) hT5 hK5).congr (fun u => ?_), hK5.below hbA (Nat.le_trans hgle.out (Nat.le_of_lt (HTA.out.low _ _ HP.out))) hbA.size⟩
          · rw [HST.out u]
            by_cases e : u = x.2.valid
            · subst e; simp [HTT.out]
            · simp [e]
        case measure => simp [intOf]; omega
      | none =>
        have hT0 := HTA.out.gone hp
        have hlk := HTA.out.map.look_gone (t := 99) Tryz.underlying99 (zero_ptr wA) HWF.out (show (P x.2.valid).map (fun a => a + 2) = none by rw [hp]; rfl) true
        have hlk : (Instr.lookup 99 (.map (some g)) (.int .i64 x.2.valid) true).run Tryz.prog wA = .ok (.tuple #[.pointer none, .bool false]) wA := hlk
        have kB := belNew wA (.map #[] 0)
        have MA : MapIs iK itmV (wA.alloc (.map #[] 0)) wA.heap.size 0 (fun _ => none) := MapIs.made _ _ _
        have eB : (wA.alloc (.map #[] 0)).heap.size = wA.heap.size + 1 := by simp
        have kC := belNew (wA.alloc (.map #[] 0)) (.map #[] 0)
        have MB : MapIs iK itmV ((wA.alloc (.map #[] 0)).alloc (.map #[] 0)) (wA.heap.size + 1) 0 (fun _ => none) := by
          have := MapIs.made iK itmV (wA.alloc (.map #[] 0))
          rwa [eB] at this
        have eC : ((wA.alloc (.map #[] 0)).alloc (.map #[] 0)).heap.size = wA.heap.size + 2 := by simp
        have kD := belNew ((wA.alloc (.map #[] 0)).alloc (.map #[] 0)) (.cells (tbC wA.heap.size Tb.nil) 105)
        have BD : Box (((wA.alloc (.map #[] 0)).alloc (.map #[] 0)).alloc (.cells (tbC wA.heap.size Tb.nil) 105)) (wA.heap.size + 2) (tbC wA.heap.size Tb.nil) 105 := by
          have := Box.new ((wA.alloc (.map #[] 0)).alloc (.map #[] 0)) (tbC wA.heap.size Tb.nil) 105
          rwa [eC] at this
        have TD : TbAt (((wA.alloc (.map #[] 0)).alloc (.map #[] 0)).alloc (.cells (tbC wA.heap.size Tb.nil) 105)) wA.heap.size 0 Tb.nil := ⟨BD, (MA.later kC).later kD, MB.later kD⟩
        have jD : Below wA.heap.size wA (((wA.alloc (.map #[] 0)).alloc (.map #[] 0)).alloc (.cells (tbC wA.heap.size Tb.nil) 105)) := (kB.trans (kC.mono kB.size)).trans (kD.mono (by rw [eC]; omega))
        have HP := Lib.hid hp
        have HT0 := Lib.hid hT0
        have HTD := Lib.hid TD
        have HJD := Lib.hid jD
        clear hp hT0 MA MB BD TD jD kB kC kD eB eC
        go_upto_region 8 with fail
        generalize hwD : (((wA.alloc (.map #[] 0)).alloc (.map #[] 0)).alloc (.cells #[.int .i64 0, .int .i64 0, .int .i64 0, .int .i64 0, .int .i64 0, .int .i64 0, .string ⟨#[]⟩, .string ⟨#[]⟩, .string ⟨#[]⟩, .int .i64 0, .map (some wA.heap.size), .map (some (wA.heap.size + 1))] 105)) = wD
        have TD : TbAt wD wA.heap.size 0 Tb.nil := by rw [← hwD]; exact HTD.out
        have jD : Below wA.heap.size wA wD := by rw [← hwD]; exact HJD.out
        clear hwD HTD HJD q0 q1 q2 q3 q4 q5 q6 q7 q8 hlk
        obtain ⟨q0, q1, q2, q3, q4, q5, q6, q7, q8, _⟩ := (HXB.out.later jD).nine
        have MD := HTA.out.map.later jD
        have hga : g < wA.heap.size := HTA.out.map.lt
        have HTD := Lib.hid TD
        have HJD := Lib.hid jD
        have HMD := Lib.hid MD
        have HGA := Lib.hid hga
        clear TD jD MD hga
        have HTK : Hid (∀ X, wD.grownBy X (some g) → Calls Tryz.prog 84 #[.pointer (some ⟨wA.heap.size + 1 + 1, 0, none⟩), .agg #[.int .i64 x.1, .int .i64 x.2.kind, .int .i64 x.2.valid, .int .i64 x.2.uid, .int .i64 x.2.next, .int .i64 x.2.flags, .string x.2.user, .string x.2.name, .string x.2.text]] X fun e w' => e = .returned (.tuple #[]) ∧ TbAt w' wA.heap.size (i + 1) (takeT Tb.nil x) ∧ Kept wA.heap.size (wA.heap.size + 3) X w') := fun X hX => take_any Tb.nil x wA.heap.size i X ((HTD.out.kept hX (fun e => by have := Option.some.inj e; have := HGA.out; omega) (fun e => by have := Option.some.inj e; have := HGA.out; omega) (fun e => by have := Option.some.inj e; have := HGA.out; omega)).mono (by omega)) HXO.out (by omega)
        have HXG : Hid (∀ X, wD.grownBy X (some g) → Box X gx #[.int .i64 x.1, .int .i64 x.2.kind, .int .i64 x.2.valid, .int .i64 x.2.uid, .int .i64 x.2.next, .int .i64 x.2.flags, .string x.2.user, .string x.2.name, .string x.2.text] 49) := fun X hX => (hX.block gx (HXB.out.later HJD.out).lt (fun e => (HTA.out.map.notBox HXB.out) (Option.some.inj e).symm)).trans (HXB.out.later HJD.out)
        go_wp2_with (first | (at_mapUpdate; refine wpList_put rfl _ _ _ _ rfl iK ptrV ptrV_inj _ Tryz.underlying99 g i (fun v => (P v).map (fun a => a + 2)) rfl HMD.out (by unfold maxLen; omega) x.2.valid (wA.heap.size + 2) rfl rfl HWF.out ?_; intro w8 hM8 hg8 hs8; obtain ⟨y0, y1, y2, y3, y4, y5, y6, y7, y8, _⟩ := (HXG.out w8 hg8).nine) | (go_at_call 84; refine (HTK.out _ hg8).mono ?_; rintro e w5 ⟨rfl, hT5, hK5⟩))
        go_roundw
        case rel =>
          have hle : wA.heap.size ≤ wD.heap.size := HJD.out.size
          refine ⟨i + 1, (fun u => if u = x.2.valid then some wA.heap.size else P u), by omega, by go_num, (HTA.out.add HP.out wA.heap.size (takeT Tb.nil x) (by omega) ?_ hT5 (Nat.le_refl _) ?_).congr (fun u => ?_), hK5.below ((hbA.trans (HJD.out.mono hbA.size)).grown hg8 (Nat.le_trans hbA.size hle) (fun k hk => by have := Option.some.inj hk; have := hgle.out; omega)) hbA.size (Nat.le_trans hbA.size (by omega))⟩
          · refine (hM8.same (hK5.block g hM8.lt (.inl HGA.out))).congr (fun u _ => ?_)
            by_cases e : u = x.2.valid
            · simp [e]
            · simp [e]
          · intro k hk hne
            rw [hK5.block k (by omega) (.inl hk), hg8.block k (by omega) (fun e => hne (Option.some.inj e)), HJD.out.block k hk]
          · rw [HST.out u]
            by_cases e : u = x.2.valid
            · subst e; simp [HT0.out]
            · simp [e]
        case measure => simp [intOf]; omega
    · go_wp2
      go_ret
      have e : i = l.length := by omega
      subst e
      have h1 := HT.out
      rw [List.take_length] at h1
      exact ⟨g, P, rfl, hgle.out, h1, hb⟩

end Go.Proofs.YtahebgceoidebaaGreat
