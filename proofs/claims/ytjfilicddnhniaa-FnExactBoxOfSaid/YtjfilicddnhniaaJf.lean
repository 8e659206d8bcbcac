/- Texts of our own, joined. -/
import Derived.Test.YtjfilicddnhniaaJd
import Derived.Test.YtjfilicddnhniaaJe
import Derived.Test.YtjfilicddnhniaaJc
import Derived.Test.YtjfilicddnhniaaJa
import Derived.Test.YtjfilicddnhniaaJb
import Derived.Lib.SmallJoins
import Derived.Deep.RegionHeld3
/- slices.Clone at mails. -/
namespace Go.Proofs.Ytjfilicddnhniaa
open Go.RowKit

theorem cloneM_any (l : List Ml) (v : Value) (w : World) (h : Rows' mlE w v l) (hl : l.length ≤ 1073741824) :
    Calls Try.prog 76 #[v] w fun e w' => ∃ v', e = .returned v' ∧ RBuf mlE w.heap.size w w' v' l := by
  have q : ∀ (w : World) (a : Option Addr) (n c n' c' : Nat), (binOp .eql 30 (.slice a n c) (.slice none n' c')).run Try.prog w = .ok (.bool a.isNone) w := fun w a n c n' c' => Lib.run_eql_slice_nil w _ _ a n c n' c' Try.underlying30
  have hv : ∃ (a : Option Addr) (c : Nat), v = .slice a l.length c ∧ (a = none → l = []) := by
    rcases h with ⟨rfl, a, c, rfl⟩ | ⟨g, off, cap, rfl, _⟩
    · exact ⟨a, c, rfl, fun _ => rfl⟩
    · exact ⟨_, _, rfl, fun e => by cases e⟩
  obtain ⟨a, c, rfl, hn⟩ := hv
  cases a with
  | none =>
    obtain rfl := hn rfl
    clear h hn
    go_enter Try.func76, Try.ntmps76
    go_wp2
    go_ret
    exact ⟨_, rfl, RBuf.nil mlE w⟩
  | some p =>
    clear hn
    have hb := (RBuf.fresh mlE w).here
    have hx := Lib.hid (h.later (belNew w (.cells #[] mlE.ty)))
    clear h
    go_enter Try.func76, Try.ntmps76
    go_wp2_with (at_builtin; refine wpList_append_rd rfl _ _ mlE rfl w.heap.size _ [] rfl hb _ l rfl hx.out (by simp [mlE]; omega) ?_; intro v1 w1 r1 g1 _; obtain ⟨a1, c1, rfl⟩ := r1.form)
    go_ret
    rw [List.nil_append] at r1
    exact ⟨_, rfl, ⟨r1.own, ((Below.refl w.heap.size w).alloc (Nat.le_refl _) _).grown g1 (by simp) (fun k hk => by have : w.heap.size = k := Option.some.inj hk; omega), r1.le⟩⟩

end Go.Proofs.Ytjfilicddnhniaa

/- How numbers, texts and writes lie in memory. -/
namespace Go.Proofs.Ytjfilicddnhniaa
open Go.RowKit

def strE : Enc ByteArray where
  ty := 9
  sty := 44
  sz := 1
  bytes := 16
  zero := .string ⟨#[]⟩
  f := fun s => [.string s]
  len := fun _ => rfl
  pos := by decide
  one := fun _ u hu => by simp at hu; subst hu; rfl
  und := Try.underlying44
  info := by kernel_rfl
  zc := rfl
  z0 := ⟨#[]⟩
  zf := rfl

def intE : Enc Int where
  ty := 3
  sty := 85
  sz := 1
  bytes := 8
  zero := .int .i64 0
  f := fun n => [.int .i64 n]
  len := fun _ => rfl
  pos := by decide
  one := fun _ u hu => by simp at hu; subst hu; rfl
  und := Try.underlying85
  info := by kernel_rfl
  zc := rfl
  z0 := 0
  zf := rfl

/-- A write: where, and what. -/
structure Wr where
  at_ : Int
  text : ByteArray



end Go.Proofs.Ytjfilicddnhniaa

/- What a value owns: its memory lies between two marks of the heap, and what is written elsewhere leaves it alone. -/
namespace Go.Proofs.Ytjfilicddnhniaa
open Go.RowKit

/-- Whatever was there outside the blocks B .. T-1 is as it was. -/
structure Kept (B T : Nat) (w w' : World) : Prop where
  os : w'.os = w.os
  tape : w'.tape = w.tape
  output : w'.output = w.output
  size : w.heap.size ≤ w'.heap.size
  block : ∀ k, k < w.heap.size → (k < B ∨ T ≤ k) → w'.heap[k]? = w.heap[k]?

theorem Kept.of_below {w w' : World} (hb : Below w.heap.size w w') (B T : Nat) : Kept B T w w' := ⟨hb.os, hb.tape, hb.output, hb.size, fun k hk _ => hb.block k hk⟩
theorem Kept.of_grown {w w' : World} {r : Option Nat} {B T : Nat} (h : w.grownBy w' r) (hr : ∀ k, r = some k → B ≤ k ∧ k < T) : Kept B T w w' :=
  ⟨h.os, h.tape, h.output, h.size, fun k hk hout => h.block k hk (fun e => by have := hr k e.symm; omega)⟩
theorem Kept.trans {B T : Nat} {w w1 w2 : World} (h : Kept B T w w1) (h2 : Kept B T w1 w2) : Kept B T w w2 :=
  ⟨h2.os.trans h.os, h2.tape.trans h.tape, h2.output.trans h.output, Nat.le_trans h.size h2.size, fun k hk hout => (h2.block k (Nat.lt_of_lt_of_le hk h.size) hout).trans (h.block k hk hout)⟩
theorem Kept.below {B T B0 : Nat} {w0 w w' : World} (h : Kept B T w w') (hb : Below B0 w0 w) (h0 : B0 ≤ B) (hs : B0 ≤ w.heap.size) : Below B0 w0 w' :=
  ⟨h.os.trans hb.os, h.tape.trans hb.tape, h.output.trans hb.output, Nat.le_trans hb.size h.size, fun k hk => (h.block k (Nat.lt_of_lt_of_le hk hs) (.inl (Nat.lt_of_lt_of_le hk h0))).trans (hb.block k hk)⟩

variable {α : Type} {E : Enc α} {B T : Nat} {w w' : World} {v : Value} {l : List α}

/-- The slice v holds the elements l in a row of its own, in one of the blocks B .. T-1. -/
def LOwn (E : Enc α) (B T : Nat) (w : World) (v : Value) (l : List α) : Prop := RBuf E B w w v l ∧ T ≤ w.heap.size ∧ ∀ k, v.ownBlock = some k → k < T

theorem RBuf.lown {w0 : World} (h : RBuf E B w0 w v l) : LOwn E B w.heap.size w v l := ⟨h.here, Nat.le_refl _, fun k hk => (h.own.lt k hk).2⟩

theorem LOwn.kept {B' T' : Nat} (h : LOwn E B T w v l) (hk : Kept B' T' w w') (hd : T ≤ B' ∨ T' ≤ B) : LOwn E B T w' v l := by
  refine ⟨⟨⟨h.1.own.1, ?_⟩, Below.refl _ _, Nat.le_trans h.1.le hk.size⟩, Nat.le_trans h.2.1 hk.size, h.2.2⟩
  rcases h.1.own.2 with h1 | ⟨g, cap, cur, h1, h2, h3, h4⟩
  · exact .inl h1
  · have hg := h.2.2 g (by rw [h1]; rfl)
    refine .inr ⟨g, cap, cur, h1, h2, ?_, h4⟩
    rw [hk.block g (Nat.lt_of_lt_of_le hg h.2.1) (by omega)]
    exact h3

theorem LOwn.later (h : LOwn E B T w v l) (hb : Below w.heap.size w w') : LOwn E B T w' v l :=
  h.kept (Kept.of_below hb T T) (.inl (Nat.le_refl _))

theorem LOwn.wider {T' : Nat} (h : LOwn E B T w v l) (hT : T ≤ T') (hs : T' ≤ w.heap.size) : LOwn E B T' w v l := ⟨h.1, hs, fun k hk => Nat.lt_of_lt_of_le (h.2.2 k hk) hT⟩

theorem LOwn.deeper {B' : Nat} (h : LOwn E B T w v l) (hB : B' ≤ B) : LOwn E B' T w v l := ⟨h.1.down (Below.refl _ _) hB, h.2⟩

theorem LOwn.rows (h : LOwn E B T w v l) : Rows' E w v l := h.1.rows

/-- A store by another name leaves a row alone whose block is another. -/
theorem LOwn.grown {r : Option Nat} (h : LOwn E B T w v l) (hg : w.grownBy w' r) (hne : v.ownBlock = none ∨ v.ownBlock ≠ r) : LOwn E B T w' v l :=
  ⟨⟨h.1.own.kept hg hne, Below.refl _ _, Nat.le_trans h.1.le hg.size⟩, Nat.le_trans h.2.1 hg.size, h.2.2⟩

/-- A store below the row's base leaves it alone. -/
theorem LOwn.store (h : LOwn E B T w v l) (g i : Nat) (u : Value) (hg : g < B) : LOwn E B T (w.setCell ⟨g, i, none⟩ u) v l := by
  refine h.grown (stored_grown w g i u) ?_
  cases hv : v.ownBlock with
  | none => exact .inl rfl
  | some k => exact .inr (by intro e; have := (h.1.own.lt k hv).1; have := Option.some.inj e; omega)

theorem LOwn.storeHi (h : LOwn E B T w v l) (g i : Nat) (u : Value) (hg : T ≤ g) : LOwn E B T (w.setCell ⟨g, i, none⟩ u) v l := by
  refine h.grown (stored_grown w g i u) ?_
  cases hv : v.ownBlock with
  | none => exact .inl rfl
  | some k => exact .inr (by intro e; have := h.2.2 k hv; have := Option.some.inj e; omega)

end Go.Proofs.Ytjfilicddnhniaa

/- copyBox: a copy of a box, in memory of its own. -/
namespace Go.Proofs.Ytjfilicddnhniaa
open Go.RowKit

theorem setCell_self {w : World} {g i : Nat} {v : Value} (h : w.cell? ⟨g, i, none⟩ = some v) : w.setCell ⟨g, i, none⟩ v = w := by
  have : w.heap.modify g (fun
      | .cells c elem frozen => .cells (if (none : Option Nat).isSome then c else c.setIfInBounds i v) elem frozen
      | o => o) = w.heap := by
    apply Array.ext_getElem?
    intro k
    rw [Array.getElem?_modify]
    by_cases hk : g = k
    · subst hk
      rw [if_pos rfl]
      unfold World.cell? at h
      cases ho : w.heap[g]? with
      | none => rfl
      | some o =>
        rw [ho] at h
        cases o <;> simp_all
        rename_i c _ _
        apply Array.ext_getElem?
        intro j
        rw [Array.getElem?_setIfInBounds]
        by_cases hj : i = j
        · subst hj; simp_all; exact (Array.getElem?_eq_some_iff.1 h).1
        · simp [hj]
    · rw [if_neg hk]
  show { w with heap := _ } = w
  exact congrArg (fun hp => { w with heap := hp }) this

theorem Box.set5' {w : World} {b : Nat} {u0 u1 u2 u3 u4 : Value} {t : TypeId} (h : Box w b #[u0, u1, u2, u3, u4] t) (v0 v1 v2 v3 v4 : Value) : Box (((((w.setCell ⟨b, 0, none⟩ v0).setCell ⟨b, 1, none⟩ v1).setCell ⟨b, 2, none⟩ v2).setCell ⟨b, 3, none⟩ v3).setCell ⟨b, 4, none⟩ v4) b #[v0, v1, v2, v3, v4] t := ((((h.set 0 v0).set 1 v1).set 2 v2).set 3 v3).set 4 v4
theorem RBuf.aside2 {α : Type} {E : Enc α} {B : Nat} {w : World} {v : Value} {l : List α} {g : Nat} (h : RBuf E B w w v l) (hne : v.ownBlock ≠ some g) (i : Nat) (u : Value) : RBuf E B (w.setCell ⟨g, i, none⟩ u) (w.setCell ⟨g, i, none⟩ u) v l := h.shift (stored_grown w g i u) (.inr hne)
theorem RBuf.under {α : Type} {E1 : Enc α} {B g : Nat} {w0 x : World} {v : Value} {l : List α} (h : RBuf E1 B w0 x v l) (hg : g < B) : v.ownBlock ≠ some g := fun e => by have := (h.own.lt g e).1; omega
theorem RBuf.above {α : Type} {E1 : Enc α} {B g : Nat} {w0 x : World} {v : Value} {l : List α} (h : RBuf E1 B w0 x v l) (hg : x.heap.size ≤ g) : v.ownBlock ≠ some g := fun e => by have := (h.own.lt g e).2; omega
theorem RBuf.at0 {α : Type} {E1 : Enc α} {B B0 : Nat} {w0 x : World} {v : Value} {l : List α} (h : RBuf E1 B w0 x v l) (hB : B0 ≤ B) : RBuf E1 B0 x x v l := h.here.lower hB

set_option maxRecDepth 100000 in
set_option maxHeartbeats 8000000 in
theorem copyBox_any (b : Bx) (a1 : Option Addr) (c1 : Nat) (w : World) (h : Rows' mlE w (.slice a1 b.mails.length c1) b.mails) (hl : b.mails.length ≤ 1048576) (hu : b.user.size ≤ 1099511627776) (hn : b.name.size ≤ 1099511627776) (ht : ∀ m ∈ b.mails, m.text.size ≤ 1099511627776) :
    Calls Try.prog 42 #[.agg #[.int .i64 b.valid, .string b.user, .string b.name, .int .i64 b.next, .slice a1 b.mails.length c1]] w fun e w' => ∃ v, e = .returned (.agg #[.int .i64 b.valid, .string b.user, .string b.name, .int .i64 b.next, v]) ∧ RBuf mlE w.heap.size w' w' v b.mails ∧ Below w.heap.size w w' := by
  have b1 : Below w.heap.size w ((w.alloc (.cells #[.int .i64 b.valid, .string b.user, .string b.name, .int .i64 b.next, .slice a1 b.mails.length c1] 32)).alloc (.cells #[.int .i64 0, .string ⟨#[]⟩, .string ⟨#[]⟩, .int .i64 0, .slice none 0 0] 32)) := ((Below.refl _ _).alloc (Nat.le_refl _) _).alloc (by simp) _
  have X1 := (Box.new w #[.int .i64 b.valid, .string b.user, .string b.name, .int .i64 b.next, .slice a1 b.mails.length c1] 32).later (belNew _ (.cells #[.int .i64 0, .string ⟨#[]⟩, .string ⟨#[]⟩, .int .i64 0, .slice none 0 0] 32))
  have X2 : Box ((w.alloc (.cells #[.int .i64 b.valid, .string b.user, .string b.name, .int .i64 b.next, .slice a1 b.mails.length c1] 32)).alloc (.cells #[.int .i64 0, .string ⟨#[]⟩, .string ⟨#[]⟩, .int .i64 0, .slice none 0 0] 32)) (w.heap.size + 1) #[.int .i64 0, .string ⟨#[]⟩, .string ⟨#[]⟩, .int .i64 0, .slice none 0 0] 32 := by
    have := Box.new (w.alloc (.cells #[.int .i64 b.valid, .string b.user, .string b.name, .int .i64 b.next, .slice a1 b.mails.length c1] 32)) #[.int .i64 0, .string ⟨#[]⟩, .string ⟨#[]⟩, .int .i64 0, .slice none 0 0] 32
    rwa [show (w.alloc (.cells #[.int .i64 b.valid, .string b.user, .string b.name, .int .i64 b.next, .slice a1 b.mails.length c1] 32)).heap.size = w.heap.size + 1 from by simp] at this
  have R1 := h.later b1
  go_enter Try.func42, Try.ntmps42
  go_upto_region 1 with fail
  generalize (w.alloc (.cells #[.int .i64 b.valid, .string b.user, .string b.name, .int .i64 b.next, .slice a1 b.mails.length c1] 32)).alloc (.cells #[.int .i64 0, .string ⟨#[]⟩, .string ⟨#[]⟩, .int .i64 0, .slice none 0 0] 32) = w1 at b1 X1 X2 R1 ⊢
  have HR : Hid (∀ x, Below w1.heap.size w1 x → Rows' mlE x (.slice a1 b.mails.length c1) b.mails) := fun x hx => R1.later hx
  have HC : Hid (∀ x, Below w1.heap.size w1 x → x.cell? ⟨w.heap.size, 0, none⟩ = some (.int .i64 b.valid) ∧ x.cell? ⟨w.heap.size, 1, none⟩ = some (.string b.user) ∧ x.cell? ⟨w.heap.size, 2, none⟩ = some (.string b.name) ∧ x.cell? ⟨w.heap.size, 3, none⟩ = some (.int .i64 b.next) ∧ x.cell? ⟨w.heap.size, 4, none⟩ = some (.slice a1 b.mails.length c1)) := fun x hx => (X1.later hx).five
  have H2 : Hid (∀ x, Below w1.heap.size w1 x → Box x (w.heap.size + 1) #[.int .i64 0, .string ⟨#[]⟩, .string ⟨#[]⟩, .int .i64 0, .slice none 0 0] 32) := fun x hx => X2.later hx
  have HB1 := Lib.hid b1
  clear X1 X2 R1 h b1
  go_cut [3] (fun p wx => ∃ (g : Nat) (pR : Option Addr) (qR : Nat), p = .pointer (some ⟨g, 0, none⟩) ∧ Box wx g #[.int .i64 b.valid, .string b.user, .string b.name, .int .i64 b.next, .slice pR b.mails.length qR] 32 ∧ RBuf mlE w1.heap.size wx wx (.slice pR b.mails.length qR) b.mails ∧ (Value.slice pR b.mails.length qR).ownBlock ≠ some g ∧ w1.heap.size ≤ g ∧ Below w1.heap.size w1 wx)
  case first =>
    refine wp_region_held_drew (S := fun x => Below w1.heap.size w1 x) (by kernel_rfl) ((Below.refl _ _).drew) (fun hHeld => ?_)
    refine takeL (i := 0) (v := .pointer (some ⟨w.heap.size, 0, none⟩)) rfl (by kernel_rfl) (by kernel_rfl) (by kernel_rfl) (fun _ _ _ h => h) (Or.inl ⟨by rfl, ?_⟩) (by assumption) ?_
    · intro x hSx; go_simp
    try simp only [Act.put, List.setIfInBounds_toArray, List.set_cons_zero, List.set_cons_succ]
    refine takeL (i := 1) (v := .int .i64 b.valid) rfl (by kernel_rfl) (by kernel_rfl) (by kernel_rfl) (fun _ _ _ h => h) (Or.inl ⟨by rfl, ?_⟩) (by assumption) ?_
    · intro x hSx; obtain ⟨d0, d1, d2, d3, d4⟩ := HC.out x hSx; go_simp
    try simp only [Act.put, List.setIfInBounds_toArray, List.set_cons_zero, List.set_cons_succ]
    refine takeL (i := 2) (v := .pointer (some ⟨w.heap.size, 1, none⟩)) rfl (by kernel_rfl) (by kernel_rfl) (by kernel_rfl) (fun _ _ _ h => h) (Or.inl ⟨by rfl, ?_⟩) (by assumption) ?_
    · intro x hSx; go_simp
    try simp only [Act.put, List.setIfInBounds_toArray, List.set_cons_zero, List.set_cons_succ]
    refine takeL (i := 3) (v := .string b.user) rfl (by kernel_rfl) (by kernel_rfl) (by kernel_rfl) (fun _ _ _ h => h) (Or.inl ⟨by rfl, ?_⟩) (by assumption) ?_
    · intro x hSx; obtain ⟨d0, d1, d2, d3, d4⟩ := HC.out x hSx; go_simp
    try simp only [Act.put, List.setIfInBounds_toArray, List.set_cons_zero, List.set_cons_succ]
    refine takeL (i := 5) (v := .pointer (some ⟨w.heap.size, 2, none⟩)) rfl (by kernel_rfl) (by kernel_rfl) (by kernel_rfl) (fun _ _ _ h => h) (Or.inl ⟨by rfl, ?_⟩) (by assumption) ?_
    · intro x hSx; go_simp
    try simp only [Act.put, List.setIfInBounds_toArray, List.set_cons_zero, List.set_cons_succ]
    refine takeL (i := 6) (v := .string b.name) rfl (by kernel_rfl) (by kernel_rfl) (by kernel_rfl) (fun _ _ _ h => h) (Or.inl ⟨by rfl, ?_⟩) (by assumption) ?_
    · intro x hSx; obtain ⟨d0, d1, d2, d3, d4⟩ := HC.out x hSx; go_simp
    try simp only [Act.put, List.setIfInBounds_toArray, List.set_cons_zero, List.set_cons_succ]
    refine takeL (i := 8) (v := .pointer (some ⟨w.heap.size, 3, none⟩)) rfl (by kernel_rfl) (by kernel_rfl) (by kernel_rfl) (fun _ _ _ h => h) (Or.inl ⟨by rfl, ?_⟩) (by assumption) ?_
    · intro x hSx; go_simp
    try simp only [Act.put, List.setIfInBounds_toArray, List.set_cons_zero, List.set_cons_succ]
    refine takeL (i := 9) (v := .int .i64 b.next) rfl (by kernel_rfl) (by kernel_rfl) (by kernel_rfl) (fun _ _ _ h => h) (Or.inl ⟨by rfl, ?_⟩) (by assumption) ?_
    · intro x hSx; obtain ⟨d0, d1, d2, d3, d4⟩ := HC.out x hSx; go_simp
    try simp only [Act.put, List.setIfInBounds_toArray, List.set_cons_zero, List.set_cons_succ]
    refine takeL (i := 10) (v := .pointer (some ⟨w.heap.size, 4, none⟩)) rfl (by kernel_rfl) (by kernel_rfl) (by kernel_rfl) (fun _ _ _ h => h) (Or.inl ⟨by rfl, ?_⟩) (by assumption) ?_
    · intro x hSx; go_simp
    try simp only [Act.put, List.setIfInBounds_toArray, List.set_cons_zero, List.set_cons_succ]
    refine takeL (i := 11) (v := .slice a1 b.mails.length c1) rfl (by kernel_rfl) (by kernel_rfl) (by kernel_rfl) (fun _ _ _ h => h) (Or.inl ⟨by rfl, ?_⟩) (by assumption) ?_
    · intro x hSx; obtain ⟨d0, d1, d2, d3, d4⟩ := HC.out x hSx; go_simp
    try simp only [Act.put, List.setIfInBounds_toArray, List.set_cons_zero, List.set_cons_succ]
    generalize w1.drew = X0 at hHeld ⊢
    refine wpAnyH_ready (rs := [4, 14]) (by kernel_rfl) (by simp) ?_
    refine readyTwo rfl rfl (fun K' hK => ?_) (fun K' hK => ?_)
    · skip
      go_simp
      refine (clone_any _ _ (by omega)).mono ?_
      rintro e w4 ⟨rfl, kw4⟩
      go_wp2_with fail
      refine hK.out _ _ (hHeld.trans (kw4.mono hHeld.size)) (fun hS2 => ?_)
      clear hK K' hHeld
      have hHeld := hS2
      clear hS2
      try simp only [Act.put, List.setIfInBounds_toArray, List.set_cons_zero, List.set_cons_succ]
      clear kw4
      refine wpAnyH_ready (rs := [7, 14]) (by kernel_rfl) (by simp) ?_
      refine readyTwo rfl rfl (fun K' hK => ?_) (fun K' hK => ?_)
      · skip
        go_simp
        refine (clone_any _ _ (by omega)).mono ?_
        rintro e w7 ⟨rfl, kw7⟩
        go_wp2_with fail
        refine hK.out _ _ (hHeld.trans (kw7.mono hHeld.size)) (fun hS2 => ?_)
        clear hK K' hHeld
        have hHeld := hS2
        clear hS2
        try simp only [Act.put, List.setIfInBounds_toArray, List.set_cons_zero, List.set_cons_succ]
        clear kw7
        refine wpAnyH_ready (rs := [12, 14]) (by kernel_rfl) (by simp) ?_
        refine readyTwo rfl rfl (fun K' hK => ?_) (fun K' hK => ?_)
        · skip
          go_simp
          refine (cloneM_any b.mails _ _ (HR.out _ hHeld) (by omega)).mono ?_
          rintro e wR ⟨vR, rfl, R⟩
          have kR := R.bel
          obtain ⟨pR, qR, rfl⟩ := R.form
          go_wp2_with fail
          have hzR := Lib.hid hHeld.size
          refine hK.out _ _ (hHeld.trans (kR.mono hHeld.size)) (fun hS2 => ?_)
          clear hK K' hHeld
          have hHeld := hS2
          clear hS2
          try simp only [Act.put, List.setIfInBounds_toArray, List.set_cons_zero, List.set_cons_succ]
          replace R := R.at0 hzR.out
          clear kR hzR
          refine takeL (i := 13) (v := .agg #[.int .i64 b.valid, .string b.user, .string b.name, .int .i64 b.next, .slice pR b.mails.length qR]) rfl (by kernel_rfl) (by kernel_rfl) (by kernel_rfl) (fun _ _ _ h => h) (Or.inl ⟨by rfl, ?_⟩) (by assumption) ?_
          · intro x hSx; go_simp
          try simp only [Act.put, List.setIfInBounds_toArray, List.set_cons_zero, List.set_cons_succ]
          refine wpAnyH_ready (rs := [14]) (by kernel_rfl) (by simp) ?_
          refine readyOne rfl (fun K' hK => ?_)
          go_simp
          have hne := R.above (Nat.le_refl wR.heap.size)
          have hgA := Lib.hid hHeld.size
          refine hK.out _ _ (hHeld.trans ((belNew wR (.cells #[.int .i64 0, .string ⟨#[]⟩, .string ⟨#[]⟩, .int .i64 0, .slice none 0 0] 32)).mono hHeld.size)) (fun hS2 => ?_)
          clear hK K' hHeld
          have hHeld := hS2
          clear hS2
          try simp only [Act.put, List.setIfInBounds_toArray, List.set_cons_zero, List.set_cons_succ]
          have B := Box.new wR #[.int .i64 0, .string ⟨#[]⟩, .string ⟨#[]⟩, .int .i64 0, .slice none 0 0] 32
          replace R := (R.later (belNew wR (.cells #[.int .i64 0, .string ⟨#[]⟩, .string ⟨#[]⟩, .int .i64 0, .slice none 0 0] 32))).here
          generalize wR.alloc (.cells #[.int .i64 0, .string ⟨#[]⟩, .string ⟨#[]⟩, .int .i64 0, .slice none 0 0] 32) = XA at hHeld B R ⊢
          generalize wR.heap.size = gA at B hgA hne ⊢
          refine wpAnyH_ready (rs := [15]) (by kernel_rfl) (by simp) ?_
          refine readyOne rfl (fun K' hK => ?_)
          obtain ⟨z0, z1, z2, z3, z4⟩ := B.five
          have f0 := B.loose 0
          have f1 := B.loose 1
          have f2 := B.loose 2
          have f3 := B.loose 3
          have f4 := B.loose 4
          go_simp
          clear z0 z1 z2 z3 z4 f0 f1 f2 f3 f4
          have FB := B.set5' (.int .i64 b.valid) (.string b.user) (.string b.name) (.int .i64 b.next) (.slice pR b.mails.length qR)
          have FR := (((((R.aside2 hne 0 (.int .i64 b.valid)).aside2 hne 1 (.string b.user)).aside2 hne 2 (.string b.name)).aside2 hne 3 (.int .i64 b.next)).aside2 hne 4 (.slice pR b.mails.length qR))
          refine hK.out _ _ ((((((hHeld.setCell (p := ⟨gA, 0, none⟩) hgA.out (.int .i64 b.valid)).setCell (p := ⟨gA, 1, none⟩) hgA.out (.string b.user)).setCell (p := ⟨gA, 2, none⟩) hgA.out (.string b.name)).setCell (p := ⟨gA, 3, none⟩) hgA.out (.int .i64 b.next)).setCell (p := ⟨gA, 4, none⟩) hgA.out (.slice pR b.mails.length qR))) (fun hS2 => ?_)
          clear hK K' hHeld
          have hHeld := hS2
          clear hS2
          try simp only [Act.put, List.setIfInBounds_toArray, List.set_cons_zero, List.set_cons_succ]
          refine wpAnyH_done (by kernel_rfl) ?_ _
          go_wp2_with fail
          go_meet
          exact ⟨gA, pR, qR, rfl, FB, FR, hne, hgA.out, hHeld⟩
        · skip
          go_simp
          have hgA := Lib.hid hHeld.size
          refine hK.out _ _ (hHeld.trans ((belNew w7 (.cells #[.int .i64 0, .string ⟨#[]⟩, .string ⟨#[]⟩, .int .i64 0, .slice none 0 0] 32)).mono hHeld.size)) (fun hS2 => ?_)
          clear hK K' hHeld
          have hHeld := hS2
          clear hS2
          try simp only [Act.put, List.setIfInBounds_toArray, List.set_cons_zero, List.set_cons_succ]
          have B := Box.new w7 #[.int .i64 0, .string ⟨#[]⟩, .string ⟨#[]⟩, .int .i64 0, .slice none 0 0] 32
          generalize w7.alloc (.cells #[.int .i64 0, .string ⟨#[]⟩, .string ⟨#[]⟩, .int .i64 0, .slice none 0 0] 32) = XA at hHeld B ⊢
          generalize w7.heap.size = gA at B hgA ⊢
          refine wpAnyH_ready (rs := [12]) (by kernel_rfl) (by simp) ?_
          refine readyOne rfl (fun K' hK => ?_)
          go_simp
          refine (cloneM_any b.mails _ _ (HR.out _ hHeld) (by omega)).mono ?_
          rintro e wR ⟨vR, rfl, R⟩
          have kR := R.bel
          obtain ⟨pR, qR, rfl⟩ := R.form
          go_wp2_with fail
          have hne := R.under B.lt
          have hzR := Lib.hid hHeld.size
          refine hK.out _ _ (hHeld.trans (kR.mono hHeld.size)) (fun hS2 => ?_)
          clear hK K' hHeld
          have hHeld := hS2
          clear hS2
          try simp only [Act.put, List.setIfInBounds_toArray, List.set_cons_zero, List.set_cons_succ]
          replace B := B.later kR
          replace R := R.at0 hzR.out
          clear kR hzR
          refine takeL (i := 13) (v := .agg #[.int .i64 b.valid, .string b.user, .string b.name, .int .i64 b.next, .slice pR b.mails.length qR]) rfl (by kernel_rfl) (by kernel_rfl) (by kernel_rfl) (fun _ _ _ h => h) (Or.inl ⟨by rfl, ?_⟩) (by assumption) ?_
          · intro x hSx; go_simp
          try simp only [Act.put, List.setIfInBounds_toArray, List.set_cons_zero, List.set_cons_succ]
          refine wpAnyH_ready (rs := [15]) (by kernel_rfl) (by simp) ?_
          refine readyOne rfl (fun K' hK => ?_)
          obtain ⟨z0, z1, z2, z3, z4⟩ := B.five
          have f0 := B.loose 0
          have f1 := B.loose 1
          have f2 := B.loose 2
          have f3 := B.loose 3
          have f4 := B.loose 4
          go_simp
          clear z0 z1 z2 z3 z4 f0 f1 f2 f3 f4
          have FB := B.set5' (.int .i64 b.valid) (.string b.user) (.string b.name) (.int .i64 b.next) (.slice pR b.mails.length qR)
          have FR := (((((R.aside2 hne 0 (.int .i64 b.valid)).aside2 hne 1 (.string b.user)).aside2 hne 2 (.string b.name)).aside2 hne 3 (.int .i64 b.next)).aside2 hne 4 (.slice pR b.mails.length qR))
          refine hK.out _ _ ((((((hHeld.setCell (p := ⟨gA, 0, none⟩) hgA.out (.int .i64 b.valid)).setCell (p := ⟨gA, 1, none⟩) hgA.out (.string b.user)).setCell (p := ⟨gA, 2, none⟩) hgA.out (.string b.name)).setCell (p := ⟨gA, 3, none⟩) hgA.out (.int .i64 b.next)).setCell (p := ⟨gA, 4, none⟩) hgA.out (.slice pR b.mails.length qR))) (fun hS2 => ?_)
          clear hK K' hHeld
          have hHeld := hS2
          clear hS2
          try simp only [Act.put, List.setIfInBounds_toArray, List.set_cons_zero, List.set_cons_succ]
          refine wpAnyH_done (by kernel_rfl) ?_ _
          go_wp2_with fail
          go_meet
          exact ⟨gA, pR, qR, rfl, FB, FR, hne, hgA.out, hHeld⟩
      · skip
        go_simp
        have hgA := Lib.hid hHeld.size
        refine hK.out _ _ (hHeld.trans ((belNew w4 (.cells #[.int .i64 0, .string ⟨#[]⟩, .string ⟨#[]⟩, .int .i64 0, .slice none 0 0] 32)).mono hHeld.size)) (fun hS2 => ?_)
        clear hK K' hHeld
        have hHeld := hS2
        clear hS2
        try simp only [Act.put, List.setIfInBounds_toArray, List.set_cons_zero, List.set_cons_succ]
        have B := Box.new w4 #[.int .i64 0, .string ⟨#[]⟩, .string ⟨#[]⟩, .int .i64 0, .slice none 0 0] 32
        generalize w4.alloc (.cells #[.int .i64 0, .string ⟨#[]⟩, .string ⟨#[]⟩, .int .i64 0, .slice none 0 0] 32) = XA at hHeld B ⊢
        generalize w4.heap.size = gA at B hgA ⊢
        refine wpAnyH_ready (rs := [7]) (by kernel_rfl) (by simp) ?_
        refine readyOne rfl (fun K' hK => ?_)
        go_simp
        refine (clone_any _ _ (by omega)).mono ?_
        rintro e w7 ⟨rfl, kw7⟩
        go_wp2_with fail
        refine hK.out _ _ (hHeld.trans (kw7.mono hHeld.size)) (fun hS2 => ?_)
        clear hK K' hHeld
        have hHeld := hS2
        clear hS2
        try simp only [Act.put, List.setIfInBounds_toArray, List.set_cons_zero, List.set_cons_succ]
        replace B := B.later kw7
        clear kw7
        refine wpAnyH_ready (rs := [12]) (by kernel_rfl) (by simp) ?_
        refine readyOne rfl (fun K' hK => ?_)
        go_simp
        refine (cloneM_any b.mails _ _ (HR.out _ hHeld) (by omega)).mono ?_
        rintro e wR ⟨vR, rfl, R⟩
        have kR := R.bel
        obtain ⟨pR, qR, rfl⟩ := R.form
        go_wp2_with fail
        have hne := R.under B.lt
        have hzR := Lib.hid hHeld.size
        refine hK.out _ _ (hHeld.trans (kR.mono hHeld.size)) (fun hS2 => ?_)
        clear hK K' hHeld
        have hHeld := hS2
        clear hS2
        try simp only [Act.put, List.setIfInBounds_toArray, List.set_cons_zero, List.set_cons_succ]
        replace B := B.later kR
        replace R := R.at0 hzR.out
        clear kR hzR
        refine takeL (i := 13) (v := .agg #[.int .i64 b.valid, .string b.user, .string b.name, .int .i64 b.next, .slice pR b.mails.length qR]) rfl (by kernel_rfl) (by kernel_rfl) (by kernel_rfl) (fun _ _ _ h => h) (Or.inl ⟨by rfl, ?_⟩) (by assumption) ?_
        · intro x hSx; go_simp
        try simp only [Act.put, List.setIfInBounds_toArray, List.set_cons_zero, List.set_cons_succ]
        refine wpAnyH_ready (rs := [15]) (by kernel_rfl) (by simp) ?_
        refine readyOne rfl (fun K' hK => ?_)
        obtain ⟨z0, z1, z2, z3, z4⟩ := B.five
        have f0 := B.loose 0
        have f1 := B.loose 1
        have f2 := B.loose 2
        have f3 := B.loose 3
        have f4 := B.loose 4
        go_simp
        clear z0 z1 z2 z3 z4 f0 f1 f2 f3 f4
        have FB := B.set5' (.int .i64 b.valid) (.string b.user) (.string b.name) (.int .i64 b.next) (.slice pR b.mails.length qR)
        have FR := (((((R.aside2 hne 0 (.int .i64 b.valid)).aside2 hne 1 (.string b.user)).aside2 hne 2 (.string b.name)).aside2 hne 3 (.int .i64 b.next)).aside2 hne 4 (.slice pR b.mails.length qR))
        refine hK.out _ _ ((((((hHeld.setCell (p := ⟨gA, 0, none⟩) hgA.out (.int .i64 b.valid)).setCell (p := ⟨gA, 1, none⟩) hgA.out (.string b.user)).setCell (p := ⟨gA, 2, none⟩) hgA.out (.string b.name)).setCell (p := ⟨gA, 3, none⟩) hgA.out (.int .i64 b.next)).setCell (p := ⟨gA, 4, none⟩) hgA.out (.slice pR b.mails.length qR))) (fun hS2 => ?_)
        clear hK K' hHeld
        have hHeld := hS2
        clear hS2
        try simp only [Act.put, List.setIfInBounds_toArray, List.set_cons_zero, List.set_cons_succ]
        refine wpAnyH_done (by kernel_rfl) ?_ _
        go_wp2_with fail
        go_meet
        exact ⟨gA, pR, qR, rfl, FB, FR, hne, hgA.out, hHeld⟩
    · skip
      go_simp
      have hgA := Lib.hid hHeld.size
      refine hK.out _ _ (hHeld.trans ((belNew X0 (.cells #[.int .i64 0, .string ⟨#[]⟩, .string ⟨#[]⟩, .int .i64 0, .slice none 0 0] 32)).mono hHeld.size)) (fun hS2 => ?_)
      clear hK K' hHeld
      have hHeld := hS2
      clear hS2
      try simp only [Act.put, List.setIfInBounds_toArray, List.set_cons_zero, List.set_cons_succ]
      have B := Box.new X0 #[.int .i64 0, .string ⟨#[]⟩, .string ⟨#[]⟩, .int .i64 0, .slice none 0 0] 32
      generalize X0.alloc (.cells #[.int .i64 0, .string ⟨#[]⟩, .string ⟨#[]⟩, .int .i64 0, .slice none 0 0] 32) = XA at hHeld B ⊢
      generalize X0.heap.size = gA at B hgA ⊢
      refine wpAnyH_ready (rs := [4]) (by kernel_rfl) (by simp) ?_
      refine readyOne rfl (fun K' hK => ?_)
      go_simp
      refine (clone_any _ _ (by omega)).mono ?_
      rintro e w4 ⟨rfl, kw4⟩
      go_wp2_with fail
      refine hK.out _ _ (hHeld.trans (kw4.mono hHeld.size)) (fun hS2 => ?_)
      clear hK K' hHeld
      have hHeld := hS2
      clear hS2
      try simp only [Act.put, List.setIfInBounds_toArray, List.set_cons_zero, List.set_cons_succ]
      replace B := B.later kw4
      clear kw4
      refine wpAnyH_ready (rs := [7]) (by kernel_rfl) (by simp) ?_
      refine readyOne rfl (fun K' hK => ?_)
      go_simp
      refine (clone_any _ _ (by omega)).mono ?_
      rintro e w7 ⟨rfl, kw7⟩
      go_wp2_with fail
      refine hK.out _ _ (hHeld.trans (kw7.mono hHeld.size)) (fun hS2 => ?_)
      clear hK K' hHeld
      have hHeld := hS2
      clear hS2
      try simp only [Act.put, List.setIfInBounds_toArray, List.set_cons_zero, List.set_cons_succ]
      replace B := B.later kw7
      clear kw7
      refine wpAnyH_ready (rs := [12]) (by kernel_rfl) (by simp) ?_
      refine readyOne rfl (fun K' hK => ?_)
      go_simp
      refine (cloneM_any b.mails _ _ (HR.out _ hHeld) (by omega)).mono ?_
      rintro e wR ⟨vR, rfl, R⟩
      have kR := R.bel
      obtain ⟨pR, qR, rfl⟩ := R.form
      go_wp2_with fail
      have hne := R.under B.lt
      have hzR := Lib.hid hHeld.size
      refine hK.out _ _ (hHeld.trans (kR.mono hHeld.size)) (fun hS2 => ?_)
      clear hK K' hHeld
      have hHeld := hS2
      clear hS2
      try simp only [Act.put, List.setIfInBounds_toArray, List.set_cons_zero, List.set_cons_succ]
      replace B := B.later kR
      replace R := R.at0 hzR.out
      clear kR hzR
      refine takeL (i := 13) (v := .agg #[.int .i64 b.valid, .string b.user, .string b.name, .int .i64 b.next, .slice pR b.mails.length qR]) rfl (by kernel_rfl) (by kernel_rfl) (by kernel_rfl) (fun _ _ _ h => h) (Or.inl ⟨by rfl, ?_⟩) (by assumption) ?_
      · intro x hSx; go_simp
      try simp only [Act.put, List.setIfInBounds_toArray, List.set_cons_zero, List.set_cons_succ]
      refine wpAnyH_ready (rs := [15]) (by kernel_rfl) (by simp) ?_
      refine readyOne rfl (fun K' hK => ?_)
      obtain ⟨z0, z1, z2, z3, z4⟩ := B.five
      have f0 := B.loose 0
      have f1 := B.loose 1
      have f2 := B.loose 2
      have f3 := B.loose 3
      have f4 := B.loose 4
      go_simp
      clear z0 z1 z2 z3 z4 f0 f1 f2 f3 f4
      have FB := B.set5' (.int .i64 b.valid) (.string b.user) (.string b.name) (.int .i64 b.next) (.slice pR b.mails.length qR)
      have FR := (((((R.aside2 hne 0 (.int .i64 b.valid)).aside2 hne 1 (.string b.user)).aside2 hne 2 (.string b.name)).aside2 hne 3 (.int .i64 b.next)).aside2 hne 4 (.slice pR b.mails.length qR))
      refine hK.out _ _ ((((((hHeld.setCell (p := ⟨gA, 0, none⟩) hgA.out (.int .i64 b.valid)).setCell (p := ⟨gA, 1, none⟩) hgA.out (.string b.user)).setCell (p := ⟨gA, 2, none⟩) hgA.out (.string b.name)).setCell (p := ⟨gA, 3, none⟩) hgA.out (.int .i64 b.next)).setCell (p := ⟨gA, 4, none⟩) hgA.out (.slice pR b.mails.length qR))) (fun hS2 => ?_)
      clear hK K' hHeld
      have hHeld := hS2
      clear hS2
      try simp only [Act.put, List.setIfInBounds_toArray, List.set_cons_zero, List.set_cons_succ]
      refine wpAnyH_done (by kernel_rfl) ?_ _
      go_wp2_with fail
      go_meet
      exact ⟨gA, pR, qR, rfl, FB, FR, hne, hgA.out, hHeld⟩
  case rest =>
    obtain ⟨g, pR, qR, rfl, FB, FR, hne, hg, k2⟩ := hcut
    have HFB : Hid (∀ x, Below wc.heap.size wc x → Box x g #[.int .i64 b.valid, .string b.user, .string b.name, .int .i64 b.next, .slice pR b.mails.length qR] 32) := fun x hx => FB.later hx
    have HFR : Hid (∀ x, Below wc.heap.size wc x → RBuf mlE w1.heap.size x x (.slice pR b.mails.length qR) b.mails) := fun x hx => (FR.later hx).here
    have HK := Lib.hid k2
    have HG := Lib.hid hg
    have HNE := Lib.hid hne
    have HT := Lib.hid ht
    clear HR HC k2 hg hne ht
    have m4 := FB.cell 4 (.slice pR b.mails.length qR) rfl
    clear FB FR
    go_wp2
    go_loopw [22] (fun iv wr => ∃ i : Nat, i ≤ b.mails.length ∧ iv = .int .i64 (i : Int) ∧ Below wc.heap.size wc wr) (fun iv _ => b.mails.length - (intOf iv).toNat)
    case atStart => exact ⟨0, by omega, rfl, Below.refl _ _⟩
    case round =>
      clear m4
      obtain ⟨i, hi, rfl, hbr⟩ := hrel
      by_cases hlt : i < b.mails.length
      · have hi0 : (0 : Int) ≤ (i : Int) := by omega
        have hi1 : (i : Int) < (b.mails.length : Int) := by omega
        have E1 := HFR.out _ hbr
        have E2 := HFB.out _ hbr
        obtain ⟨g1, rfl⟩ : ∃ g1 : Nat, pR = some ⟨g1, 0, none⟩ := by
          rcases E1.own.2 with ⟨_, e⟩ | ⟨g, cap, cur, e, _⟩
          · omega
          · simp only [Value.slice.injEq] at e; exact ⟨g, e.1⟩
        have hat := List.getElem?_eq_getElem hlt
        have cS : wr.cell? ⟨g1, i * 3 + 2, none⟩ = some (.string b.mails[i].text) := E1.cell rfl i _ hat 2 _ rfl
        have fS : wr.frozen? ⟨g1, i * 3 + 2, none⟩ = false := E1.loose _
        have k0 := E2.cell 4 (.slice (some ⟨g1, 0, none⟩) b.mails.length qR) rfl
        have htz := HT.out _ (List.getElem_mem hlt)
        clear hat E1 E2
        generalize b.mails[i].text = t at *
        have HK0 : Hid (wr.drew.cell? ⟨g, 4, none⟩ = some (.slice (some ⟨g1, 0, none⟩) b.mails.length qR) ∧ wr.drew.cell? ⟨g1, i * 3 + 2, none⟩ = some (.string t) ∧ wr.drew.frozen? ⟨g1, i * 3 + 2, none⟩ = false ∧ Below wr.heap.size wr wr.drew) := ⟨k0, cS, fS, (Below.refl _ _).drew⟩
        have HK1 : Hid (∀ x y : World, (x.cell? ⟨g, 4, none⟩ = some (.slice (some ⟨g1, 0, none⟩) b.mails.length qR) ∧ x.cell? ⟨g1, i * 3 + 2, none⟩ = some (.string t) ∧ x.frozen? ⟨g1, i * 3 + 2, none⟩ = false ∧ Below wr.heap.size wr x) → Below x.heap.size x y → (y.cell? ⟨g, 4, none⟩ = some (.slice (some ⟨g1, 0, none⟩) b.mails.length qR) ∧ y.cell? ⟨g1, i * 3 + 2, none⟩ = some (.string t) ∧ y.frozen? ⟨g1, i * 3 + 2, none⟩ = false ∧ Below wr.heap.size wr y)) :=
          fun x y h hb => ⟨(hb.cell (p := ⟨g, 4, none⟩) (World.block_lt_of_cell? _ _ h.1)).trans h.1, (hb.cell (p := ⟨g1, i * 3 + 2, none⟩) (World.block_lt_of_cell? _ _ h.2.1)).trans h.2.1, (hb.frozen (p := ⟨g1, i * 3 + 2, none⟩) (World.block_lt_of_cell? _ _ h.2.1)).trans h.2.2.1, h.2.2.2.trans (hb.mono h.2.2.2.size)⟩
        have HK2 : Hid (∀ x : World, (x.cell? ⟨g, 4, none⟩ = some (.slice (some ⟨g1, 0, none⟩) b.mails.length qR) ∧ x.cell? ⟨g1, i * 3 + 2, none⟩ = some (.string t) ∧ x.frozen? ⟨g1, i * 3 + 2, none⟩ = false ∧ Below wr.heap.size wr x) → ((x.setCell ⟨g1, i * 3 + 2, none⟩ (.string t)).cell? ⟨g, 4, none⟩ = some (.slice (some ⟨g1, 0, none⟩) b.mails.length qR) ∧ (x.setCell ⟨g1, i * 3 + 2, none⟩ (.string t)).cell? ⟨g1, i * 3 + 2, none⟩ = some (.string t) ∧ (x.setCell ⟨g1, i * 3 + 2, none⟩ (.string t)).frozen? ⟨g1, i * 3 + 2, none⟩ = false ∧ Below wr.heap.size wr (x.setCell ⟨g1, i * 3 + 2, none⟩ (.string t)))) :=
          fun x h => by rw [setCell_self h.2.1]; exact h
        go_wp2
        go_region_held3 (fun x => x.cell? ⟨g, 4, none⟩ = some (.slice (some ⟨g1, 0, none⟩) b.mails.length qR) ∧ x.cell? ⟨g1, i * 3 + 2, none⟩ = some (.string t) ∧ x.frozen? ⟨g1, i * 3 + 2, none⟩ = false ∧ Below wr.heap.size wr x)
          (first | exact HK0.out | exact HK1.out _ _ (by assumption) k1 | exact HK2.out _ (by assumption))
          (first | (go_at_call 45; refine (clone_any _ _ (by omega)).mono ?_; rintro e w1 ⟨rfl, k1⟩))
        all_goals
          rename_i hHeld
          have BH := Lib.hid hHeld.2.2.2
          clear hHeld HK0 HK1 HK2
          go_wp2
          go_roundw
          case rel => exact ⟨i + 1, by omega, by go_num, hbr.trans (BH.out.mono hbr.size)⟩
          case measure => simp [intOf]; omega
      · have E1 := Lib.hid (HFR.out _ hbr)
        have E2 := HFB.out _ hbr
        have kE := Lib.hid (HK.out.trans (hbr.mono HK.out.size))
        have X2 := H2.out _ kE.out
        have hlt2 : Hid (w.heap.size + 1 < w1.heap.size) := (H2.out _ (Below.refl _ _)).lt
        have hneg : Hid (w.heap.size + 1 ≠ g) := by have := HG.out; have := hlt2.out; show _ ≠ _; omega
        clear HFR HFB HK HT H2
        obtain ⟨y0, y1, y2, y3, y4⟩ := E2.five
        obtain ⟨u0, u1, u2, u3, u4⟩ := X2.five
        have f0 := X2.loose 0
        have f1 := X2.loose 1
        have f2 := X2.loose 2
        have f3 := X2.loose 3
        have f4 := X2.loose 4
        have L5 := X2.set5' (.int .i64 b.valid) (.string b.user) (.string b.name) (.int .i64 b.next) (.slice pR b.mails.length qR)
        obtain ⟨z0, z1, z2, z3, z4⟩ := L5.five
        have hrn : Hid ((Value.slice pR b.mails.length qR).ownBlock ≠ some (w.heap.size + 1)) := fun e => by have h5 := (E1.out.own.lt _ e).1; have := hlt2.out; omega
        clear L5 X2 E2
        go_wp2
        refine bodyPost_ret (v := .agg #[.int .i64 b.valid, .string b.user, .string b.name, .int .i64 b.next, .slice pR b.mails.length qR]) (by simp [results, Try.results42, go_sem, z0, z1, z2, z3, z4]) rfl ⟨_, rfl, ?_, ?_⟩
        · exact (((((E1.out.aside2 hrn.out 0 _).aside2 hrn.out 1 _).aside2 hrn.out 2 _).aside2 hrn.out 3 _).aside2 hrn.out 4 _).lower (by have := hlt2.out; omega)
        · have hle : w.heap.size ≤ w.heap.size + 1 := by omega
          have hbb := HB1.out.trans (kE.out.mono HB1.out.size)
          exact ((((hbb.setCell (p := ⟨w.heap.size + 1, 0, none⟩) hle _).setCell (p := ⟨w.heap.size + 1, 1, none⟩) hle _).setCell (p := ⟨w.heap.size + 1, 2, none⟩) hle _).setCell (p := ⟨w.heap.size + 1, 3, none⟩) hle _).setCell (p := ⟨w.heap.size + 1, 4, none⟩) hle _

end Go.Proofs.Ytjfilicddnhniaa

/- What records tell: the program's BoxOf. -/
namespace Go.Proofs.Ytjfilicddnhniaa
open Go.RowKit

set_option maxRecDepth 100000 in
set_option maxHeartbeats 2000000 in
theorem implBoxOf_any (ps : List Bx) (va : Value) (u nm : ByteArray) (w : World) (ha : BRd w va ps) (hla : ps.length ≤ 1048576) (hma : ∀ b ∈ ps, b.mails.length ≤ 1048576 ∧ b.user.size ≤ 1099511627776 ∧ b.name.size ≤ 1099511627776 ∧ ∀ m ∈ b.mails, m.text.size ≤ 1099511627776) :
    Calls Try.prog 10 #[.agg #[va], .string u, .string nm] w fun e w' => ((boxOf ps u nm = none ∧ e = .returned (.tuple #[.agg #[.int .i64 0, .string ⟨#[]⟩, .string ⟨#[]⟩, .int .i64 0, .slice none 0 0], .bool false])) ∨ ∃ (x : Bx) (v : Value), boxOf ps u nm = some x ∧ e = .returned (.tuple #[.agg #[.int .i64 x.valid, .string x.user, .string x.name, .int .i64 x.next, v], .bool true]) ∧ RBuf mlE w.heap.size w' w' v x.mails) ∧ Below w.heap.size w w' := by
  obtain ⟨ad, cap, rfl, hrowa⟩ := ha.boxes
  have HA := Lib.hid hrowa
  have HMA := Lib.hid hma
  clear ha hrowa hma
  obtain ⟨n, hn⟩ : ∃ n, ps.length = n := ⟨_, rfl⟩
  have HN := Lib.hid hn
  rw [hn] at hla ⊢
  clear hn
  obtain ⟨D, hD⟩ : ∃ D, boxOf ps u nm = D := ⟨_, rfl⟩
  have HD := Lib.hid hD
  rw [hD]
  clear hD
  have b1 : Below w.heap.size w ((w.alloc (.cells #[.slice ad n cap] 28)).alloc (.cells #[.int .i64 0, .string ⟨#[]⟩, .string ⟨#[]⟩, .int .i64 0, .slice none 0 0] 32)) := ((Below.refl _ _).alloc (Nat.le_refl _) _).alloc (by simp) _
  have X2 := (Box.new w #[.slice ad n cap] 28).later (belNew _ (.cells #[.int .i64 0, .string ⟨#[]⟩, .string ⟨#[]⟩, .int .i64 0, .slice none 0 0] 32))
  have X3 : Box ((w.alloc (.cells #[.slice ad n cap] 28)).alloc (.cells #[.int .i64 0, .string ⟨#[]⟩, .string ⟨#[]⟩, .int .i64 0, .slice none 0 0] 32)) (w.heap.size + 1) #[.int .i64 0, .string ⟨#[]⟩, .string ⟨#[]⟩, .int .i64 0, .slice none 0 0] 32 := by
    have := Box.new (w.alloc (.cells #[.slice ad n cap] 28)) #[.int .i64 0, .string ⟨#[]⟩, .string ⟨#[]⟩, .int .i64 0, .slice none 0 0] 32
    rwa [show (w.alloc (.cells #[.slice ad n cap] 28)).heap.size = w.heap.size + 1 from by simp] at this
  go_enter Try.func10, Try.ntmps10
  go_upto_region 1 with fail
  generalize (w.alloc (.cells #[.slice ad n cap] 28)).alloc (.cells #[.int .i64 0, .string ⟨#[]⟩, .string ⟨#[]⟩, .int .i64 0, .slice none 0 0] 32) = w1 at b1 X2 X3 ⊢
  have BW := Lib.hid b1
  have H2 := Lib.hid X2
  have H3 := Lib.hid X3
  have Y2 : w1.cell? ⟨w.heap.size, 0, none⟩ = some (.slice ad n cap) := H2.out.cell 0 _ rfl
  clear b1 X2 X3
  go_wp2
  go_loopw [13] (fun iv wr => ∃ i : Nat, i ≤ n ∧ iv = .int .i64 (i : Int) ∧ (∀ (j : Nat) (y : Bx), ps[j]? = some y → j < i → ¬ (y.user = u ∧ y.name = nm)) ∧ Below w1.heap.size w1 wr) (fun iv _ => n - (intOf iv).toNat)
  case atStart => exact ⟨0, by omega, rfl, fun j y _ hj => by omega, Below.refl _ _⟩
  case round =>
    obtain ⟨i, hi, rfl, hU, hbr⟩ := hrel
    clear Y2
    have BR := Lib.hid (BW.out.trans (hbr.mono BW.out.size))
    have HU := Lib.hid hU
    clear hU
    by_cases hlt : i < n
    · obtain ⟨x, hgx⟩ : ∃ x, ps[i]? = some x := ⟨_, List.getElem?_eq_getElem (by rw [HN.out]; exact hlt)⟩
      have hmx := HMA.out x (List.mem_of_getElem? hgx)
      obtain ⟨gp, op, a1, n1, c1, rfl, p0, p1, p2, p3, p4, ra⟩ := HA.out _ BR.out i _ hgx
      obtain ⟨hn1, _⟩ := ra.mails
      subst hn1
      have HRA := Lib.hid ((ra.later BR.out).later (belNew wr (.cells #[.int .i64 x.valid, .string x.user, .string x.name, .int .i64 x.next, .slice a1 x.mails.length c1] 32)))
      have NB := Lib.hid (Box.new wr #[.int .i64 x.valid, .string x.user, .string x.name, .int .i64 x.next, .slice a1 x.mails.length c1] 32)
      have NK := Lib.hid (hbr.trans ((belNew wr (.cells #[.int .i64 x.valid, .string x.user, .string x.name, .int .i64 x.next, .slice a1 x.mails.length c1] 32)).mono hbr.size))
      have HX := Lib.hid hgx
      have hi0 : (0 : Int) ≤ (i : Int) := by omega
      have hi1 : (i : Int) < (n : Int) := by omega
      clear hgx ra
      have HSK : Hid (∀ (h : ¬ (x.user = u ∧ x.name = nm)), ∀ (j : Nat) (y : Bx), ps[j]? = some y → j < i + 1 → ¬ (y.user = u ∧ y.name = nm)) := by
        intro h j y hj hji
        by_cases c : j = i
        · subst c; have := HX.out; rw [hj] at this; cases this; exact h
        · exact HU.out j y hj (by omega)
      by_cases hu : x.user = u
      · subst hu
        by_cases hm : x.name = nm
        · subst hm
          have HE : Hid (D = some x) := by rw [← HD.out]; exact boxOf_at HX.out ⟨rfl, rfl⟩ HU.out
          clear HSK
          go_upto_region 4 with fail
          generalize wr.alloc (.cells #[.int .i64 x.valid, .string x.user, .string x.name, .int .i64 x.next, .slice a1 x.mails.length c1] 32) = wn at HRA NB NK ⊢
          generalize wr.heap.size = gn at NB ⊢
          obtain ⟨r0, r1, r2, r3, r4⟩ := NB.out.five
          have N3 := Lib.hid (H3.out.later NK.out)
          have BW := Lib.hid (BW.out.trans (NK.out.mono BW.out.size))
          have LT := Lib.hid (Nat.lt_of_lt_of_le H3.out.lt NK.out.size)
          obtain ⟨hm1, hm2, hm3, hm4⟩ := hmx
          go_wp2_with (go_at_call 42; refine (copyBox_any x a1 c1 wn HRA.out hm1 hm2 hm3 hm4).mono ?_; rintro e w2 ⟨v, rfl, hv, k2⟩; obtain ⟨pv, cv, rfl⟩ := hv.form; have HV := Lib.hid hv; have HK2 := Lib.hid k2; have HL := Lib.hid (N3.out.later k2); obtain ⟨u0, u1, u2, u3, u4⟩ := HL.out.five; have f0 := HL.out.loose 0; have f1 := HL.out.loose 1; have f2 := HL.out.loose 2; have f3 := HL.out.loose 3; have f4 := HL.out.loose 4; have L5 : Box (set5 w2 (w.heap.size + 1) (.int .i64 x.valid) (.string x.user) (.string x.name) (.int .i64 x.next) (.slice pv x.mails.length cv)) (w.heap.size + 1) #[.int .i64 x.valid, .string x.user, .string x.name, .int .i64 x.next, .slice pv x.mails.length cv] 32 := ((((HL.out.set 0 _).set 1 _).set 2 _).set 3 _).set 4 _; unfold set5 at L5; obtain ⟨z0, z1, z2, z3, z4⟩ := L5.five; clear L5 hv k2)
          refine bodyPost_ret (v := .tuple #[.agg #[.int .i64 x.valid, .string x.user, .string x.name, .int .i64 x.next, .slice pv x.mails.length cv], .bool true]) (by simp [results, Try.results10, go_sem, z0, z1, z2, z3, z4]) rfl ⟨.inr ⟨x, _, HE.out, rfl, ?_⟩, ?_⟩
          · have hq := LT.out
            exact (((((HV.out.aside _ 0 _ hq).aside _ 1 _ hq).aside _ 2 _ hq).aside _ 3 _ hq).aside _ 4 _ hq).lower BW.out.size
          · exact (((((BW.out.trans (HK2.out.mono BW.out.size)).setCell (p := ⟨w.heap.size + 1, 0, none⟩) (by simp) _).setCell (p := ⟨w.heap.size + 1, 1, none⟩) (by simp) _).setCell (p := ⟨w.heap.size + 1, 2, none⟩) (by simp) _).setCell (p := ⟨w.heap.size + 1, 3, none⟩) (by simp) _).setCell (p := ⟨w.heap.size + 1, 4, none⟩) (by simp) _
        · have hm' : (x.name.toList == nm.toList) = false := by rw [beq_eq_false_iff_ne]; exact fun h => hm ((ba_same' _ _).1 h)
          have HK := Lib.hid (HSK.out (fun h => hm h.2))
          clear HSK hmx
          go_upto_region 4 with fail
          generalize wr.alloc (.cells #[.int .i64 x.valid, .string x.user, .string x.name, .int .i64 x.next, .slice a1 x.mails.length c1] 32) = wn at HRA NB NK ⊢
          generalize wr.heap.size = gn at NB ⊢
          obtain ⟨r0, r1, r2, r3, r4⟩ := NB.out.five
          go_wp2
          go_roundw
          case rel => exact ⟨i + 1, by omega, by go_num, HK.out, NK.out⟩
          case measure => simp [intOf]; omega
      · have hu' : (x.user.toList == u.toList) = false := by rw [beq_eq_false_iff_ne]; exact fun h => hu ((ba_same' _ _).1 h)
        have HK := Lib.hid (HSK.out (fun h => hu h.1))
        clear HSK hmx
        go_upto_region 4 with fail
        generalize wr.alloc (.cells #[.int .i64 x.valid, .string x.user, .string x.name, .int .i64 x.next, .slice a1 x.mails.length c1] 32) = wn at HRA NB NK ⊢
        generalize wr.heap.size = gn at NB ⊢
        obtain ⟨r0, r1, r2, r3, r4⟩ := NB.out.five
        go_wp2
        go_roundw
        case rel => exact ⟨i + 1, by omega, by go_num, HK.out, NK.out⟩
        case measure => simp [intOf]; omega
    · have HE : Hid (D = none) := by rw [← HD.out]; exact boxOf_none (fun j y hj => HU.out j y hj (by have := (List.getElem?_eq_some_iff.1 hj).1; have := HN.out; omega))
      have H3 := Lib.hid (H3.out.later hbr)
      have BW := BR
      obtain ⟨u0, u1, u2, u3, u4⟩ := H3.out.five
      have f0 := H3.out.loose 0
      have f1 := H3.out.loose 1
      have f2 := H3.out.loose 2
      have f3 := H3.out.loose 3
      have f4 := H3.out.loose 4
      have L5 : Box (set5 wr (w.heap.size + 1) (.int .i64 0) (.string ⟨#[]⟩) (.string ⟨#[]⟩) (.int .i64 0) (.slice none 0 0)) (w.heap.size + 1) #[.int .i64 0, .string ⟨#[]⟩, .string ⟨#[]⟩, .int .i64 0, .slice none 0 0] 32 := ((((H3.out.set 0 _).set 1 _).set 2 _).set 3 _).set 4 _
      unfold set5 at L5
      obtain ⟨z0, z1, z2, z3, z4⟩ := L5.five
      clear L5
      go_wp2
      refine bodyPost_ret (v := .tuple #[.agg #[.int .i64 0, .string ⟨#[]⟩, .string ⟨#[]⟩, .int .i64 0, .slice none 0 0], .bool false]) (by simp [results, Try.results10, go_sem, z0, z1, z2, z3, z4]) rfl ⟨.inl ⟨HE.out, rfl⟩, ?_⟩
      exact ((((BW.out.setCell (p := ⟨w.heap.size + 1, 0, none⟩) (by simp) _).setCell (p := ⟨w.heap.size + 1, 1, none⟩) (by simp) _).setCell (p := ⟨w.heap.size + 1, 2, none⟩) (by simp) _).setCell (p := ⟨w.heap.size + 1, 3, none⟩) (by simp) _).setCell (p := ⟨w.heap.size + 1, 4, none⟩) (by simp) _

end Go.Proofs.Ytjfilicddnhniaa

/- What BoxOf of either side hands back, in one word: a box, and whether there is one. -/
namespace Go.Proofs.Ytjfilicddnhniaa
open Go.RowKit

noncomputable def bxO (ps : List Bx) (u nm : ByteArray) : Bx := (boxOf ps u nm).getD ⟨0, ⟨#[]⟩, ⟨#[]⟩, 0, []⟩
noncomputable def bxY (ps : List Bx) (u nm : ByteArray) : Bool := (boxOf ps u nm).isSome

theorem box_ans {ps : List Bx} {u nm : ByteArray} {w w' : World} {e : Ending}
    (h : ((boxOf ps u nm = none ∧ e = .returned (.tuple #[.agg #[.int .i64 0, .string ⟨#[]⟩, .string ⟨#[]⟩, .int .i64 0, .slice none 0 0], .bool false])) ∨ ∃ (x : Bx) (v : Value), boxOf ps u nm = some x ∧ e = .returned (.tuple #[.agg #[.int .i64 x.valid, .string x.user, .string x.name, .int .i64 x.next, v], .bool true]) ∧ RBuf mlE w.heap.size w' w' v x.mails) ∧ Below w.heap.size w w') :
    ∃ (a : Option Addr) (c : Nat), e = .returned (.tuple #[.agg #[.int .i64 (bxO ps u nm).valid, .string (bxO ps u nm).user, .string (bxO ps u nm).name, .int .i64 (bxO ps u nm).next, .slice a (bxO ps u nm).mails.length c], .bool (bxY ps u nm)]) ∧ RBuf mlE w.heap.size w' w' (.slice a (bxO ps u nm).mails.length c) (bxO ps u nm).mails ∧ Below w.heap.size w w' := by
  obtain ⟨h, hb⟩ := h
  rcases h with ⟨hn, rfl⟩ | ⟨x, v, hs, rfl, hr⟩
  · have e1 : bxO ps u nm = ⟨0, ⟨#[]⟩, ⟨#[]⟩, 0, []⟩ := by unfold bxO; rw [hn]; rfl
    have e2 : bxY ps u nm = false := by unfold bxY; rw [hn]; rfl
    rw [e1, e2]
    exact ⟨none, 0, rfl, (RBuf.nil mlE w').lower hb.size, hb⟩
  · have e1 : bxO ps u nm = x := by unfold bxO; rw [hs]; rfl
    have e2 : bxY ps u nm = true := by unfold bxY; rw [hs]; rfl
    rw [e1, e2]
    obtain ⟨a, c, rfl⟩ := hr.form
    exact ⟨a, c, rfl, hr, hb⟩

/-- It is no longer than the longest that is there. -/
theorem bxO_small {ps : List Bx} {u nm : ByteArray} {N : Nat} (h : ∀ b ∈ ps, b.mails.length ≤ N) : (bxO ps u nm).mails.length ≤ N := by
  unfold bxO
  cases hb : boxOf ps u nm with
  | none => simp
  | some x => exact h x (List.mem_of_find?_eq_some hb)

end Go.Proofs.Ytjfilicddnhniaa

/- Marks of one box. -/
namespace Go.Proofs.Ytjfilicddnhniaa
open Go.RowKit

set_option maxRecDepth 100000 in
theorem markBox_any (x0 : Int) (x1 x2 : ByteArray) (x3 : Int) (a1 : Option Addr) (c1 : Nat) (l : List Ml) (k B : Nat) (w : World) (hb : RBuf mlE B w w (.slice a1 l.length c1) l) (hk : 1 ≤ k) (hk2 : k + 3 * l.length ≤ 1099511627776) :
    Calls Try.prog 32 #[.agg #[.int .i64 x0, .string x1, .string x2, .int .i64 x3, .slice a1 l.length c1], .int .i64 (k : Int)] w fun e w' => e = .returned (.int .i64 ((k + 3 * l.length : Nat) : Int)) ∧ RBuf mlE B w' w' (.slice a1 l.length c1) (marksL k l.length) ∧ w.grownBy w' (Value.slice a1 l.length c1).ownBlock := by
  have X := Box.new w #[.int .i64 x0, .string x1, .string x2, .int .i64 x3, .slice a1 l.length c1] 32
  have hg0 := Lib.hid (World.grownBy_alloc w (.cells #[.int .i64 x0, .string x1, .string x2, .int .i64 x3, .slice a1 l.length c1] 32) (Value.slice a1 l.length c1).ownBlock)
  have hb1 := Lib.hid (hb.alloc (.cells #[.int .i64 x0, .string x1, .string x2, .int .i64 x3, .slice a1 l.length c1] 32)).here
  have y4 := X.cell 4 _ rfl
  clear hb X
  go_enter Try.func32, Try.ntmps32
  go_upto_region 1 with fail
  generalize w.alloc (.cells #[.int .i64 x0, .string x1, .string x2, .int .i64 x3, .slice a1 l.length c1] 32) = w1 at y4 hg0 hb1 ⊢
  generalize w.heap.size = g0 at y4 ⊢
  go_wp2_with fail
  refine (markMailS_any l _ k B _ _ hb1.out hk hk2).mono ?_
  rintro e w2 ⟨rfl, R2, g2⟩
  clear y4
  go_wp2
  go_ret
  exact ⟨rfl, R2.here, hg0.out.trans g2⟩

set_option maxRecDepth 100000 in
theorem heldBox_any (x0 : Int) (x1 x2 : ByteArray) (x3 : Int) (a1 : Option Addr) (c1 : Nat) (n k : Nat) (w : World) (hb : Rows' mlE w (.slice a1 n c1) (marksL k n)) (hk : 1 ≤ k) (hk2 : k + 3 * n ≤ 1099511627776) :
    Calls Try.prog 33 #[.agg #[.int .i64 x0, .string x1, .string x2, .int .i64 x3, .slice a1 n c1], .int .i64 (k : Int)] w fun e w' => e = .returned (.int .i64 ((k + 3 * n : Nat) : Int)) ∧ Below w.heap.size w w' := by
  have X := Box.new w #[.int .i64 x0, .string x1, .string x2, .int .i64 x3, .slice a1 n c1] 32
  have k0 := Lib.hid (belNew w (.cells #[.int .i64 x0, .string x1, .string x2, .int .i64 x3, .slice a1 n c1] 32))
  have hb1 := Lib.hid (hb.later k0.out)
  have y4 := X.cell 4 _ rfl
  clear hb X
  go_enter Try.func33, Try.ntmps33
  go_upto_region 1 with fail
  generalize w.alloc (.cells #[.int .i64 x0, .string x1, .string x2, .int .i64 x3, .slice a1 n c1] 32) = w1 at y4 k0 hb1 ⊢
  generalize w.heap.size = g0 at y4 ⊢
  go_wp2_with fail
  refine (heldMailS_any n _ k _ hb1.out hk hk2).mono ?_
  rintro e w2 ⟨rfl, k2⟩
  clear y4
  obtain ⟨K, hK⟩ : ∃ K, ((k + 3 * n : Nat) : Int) = K := ⟨_, rfl⟩
  have hnn : ¬ K < 0 := by omega
  have HK := Lib.hid hK
  rw [hK]
  clear hK
  go_wp2
  go_ret
  exact ⟨by rw [HK.out]; rfl, k0.out.trans (k2.mono k0.out.size)⟩

end Go.Proofs.Ytjfilicddnhniaa

/- Boxes in memory of their own: what leaves them as they are. -/
namespace Go.Proofs.Ytjfilicddnhniaa
open Go.RowKit

/-- What leaves the boxes' and the mails' blocks alone leaves them as they are. -/
theorem StO.shift {B : Nat} {w w' : World} {v : Value} {bs : List Bx} {hs : List BxH} {r : Option Nat} (h : StO B w v bs hs) (hg : w.grownBy w' r) (h1 : ∀ k, r = some k → v.ownBlock ≠ some k ∧ ∀ (j : Nat) (x : BxH), hs[j]? = some x → x.mv.ownBlock ≠ some k) : StO B w' v bs hs := by
  have sh : ∀ {α : Type} {E : Enc α} {m : Value} {l : List α}, RBuf E B w w m l → (∀ k, r = some k → m.ownBlock ≠ some k) → RBuf E B w' w' m l := fun {α E m l} hm hf => by
    refine hm.shift hg ?_
    cases hb : m.ownBlock with
    | none => exact .inl rfl
    | some k => exact .inr (fun e => hf k e.symm hb)
  exact ⟨sh h.row (fun k hk => (h1 k hk).1), h.len, fun j x b e1 e2 => ⟨(h.at' j x b e1 e2).1, sh (h.at' j x b e1 e2).2 (fun k hk => (h1 k hk).2 j x e1)⟩, h.far, h.apart⟩
/-- Where they lie: from B on, and below the heap's end. -/
theorem StO.where' {B : Nat} {w : World} {v : Value} {bs : List Bx} {hs : List BxH} (h : StO B w v bs hs) : (∀ k, v.ownBlock = some k → B ≤ k ∧ k < w.heap.size) ∧ ∀ (j : Nat) (x : BxH), hs[j]? = some x → ∀ k, x.mv.ownBlock = some k → B ≤ k ∧ k < w.heap.size := by
  refine ⟨fun k hk => h.row.own.lt k hk, fun j x hj k hk => ?_⟩
  have hl : j < hs.length := (List.getElem?_eq_some_iff.1 hj).1
  have hb : bs[j]? = some (bs[j]'(by rw [← h.len]; exact hl)) := List.getElem?_eq_getElem _
  exact (h.at' j x _ hj hb).2.own.lt k hk
/-- What is written from B' on, above them, leaves them. -/
theorem StO.under {B C : Nat} {w w' : World} {v : Value} {bs : List Bx} {hs : List BxH} (h : StO B w v bs hs) (hb : Below C w w') (h1 : ∀ k, v.ownBlock = some k → k < C) (h2 : ∀ (j : Nat) (x : BxH), hs[j]? = some x → ∀ k, x.mv.ownBlock = some k → k < C) : StO B w' v bs hs := by
  have sh : ∀ {α : Type} {E : Enc α} {m : Value} {l : List α}, RBuf E B w w m l → (∀ k, m.ownBlock = some k → k < C) → RBuf E B w' w' m l := fun {α E m l} hm hf => by
    refine ⟨⟨hm.own.1, ?_⟩, Below.refl _ _, Nat.le_trans hm.le hb.size⟩
    rcases hm.own.2 with e | ⟨g, cap, cur, rfl, hg, hh, hrest⟩
    · exact .inl e
    · exact .inr ⟨g, cap, cur, rfl, hg, (hb.block g (hf g rfl)).trans hh, hrest⟩
  exact ⟨sh h.row h1, h.len, fun j x b e1 e2 => ⟨(h.at' j x b e1 e2).1, sh (h.at' j x b e1 e2).2 (h2 j x e1)⟩, h.far, h.apart⟩
theorem StO.lower {B B0 : Nat} {w : World} {v : Value} {bs : List Bx} {hs : List BxH} (h : StO B w v bs hs) (hB : B0 ≤ B) : StO B0 w v bs hs :=
  ⟨h.row.lower hB, h.len, fun j x b h1 h2 => ⟨(h.at' j x b h1 h2).1, (h.at' j x b h1 h2).2.lower hB⟩, h.far, h.apart⟩

end Go.Proofs.Ytjfilicddnhniaa
