/- Texts of our own, joined. -/
import Derived.Test.YtieenkloiicnkaaGreatDoorJd
import Derived.Test.YtieenkloiicnkaaGreatDoorJg
import Derived.Test.YtieenkloiicnkaaGreatDoorJa
import Derived.WalkKit
import Derived.Laws.BitsAllLaws
import Derived.Test.YtieenkloiicnkaaGreatDoorJe
/- Segments: whether one is in use, and its frames: SegGen, the model's and the program's. -/
namespace Go.Proofs.YtieenkloiicnkaaGreatDoor
open Go.RowKit

/-- The Body of the frame that a segment in use begins with. -/
def segB : ByteArray := ⟨#[115, 101, 103]⟩

/-- The Gen of a text's first frame, when it tells a segment; else 0. -/
def sgG (t : ByteArray) : Int := match rf fourOf t 0 with
  | some (f, _) => if f.body = segB then f.gen else 0
  | none => 0
theorem sgG_none {t : ByteArray} (h : rf fourOf t 0 = none) : sgG t = 0 := by unfold sgG; rw [h]
theorem sgG_yes {t : ByteArray} {f : Fr} {e : Nat} (h : rf fourOf t 0 = some (f, e)) (hb : f.body = segB) : sgG t = f.gen := by unfold sgG; rw [h]; exact if_pos hb
theorem sgG_no {t : ByteArray} {f : Fr} {e : Nat} (h : rf fourOf t 0 = some (f, e)) (hb : ¬ f.body = segB) : sgG t = 0 := by unfold sgG; rw [h]; exact if_neg hb

/-- Where there is a Gen there is a first frame. -/
theorem scan_head {t : ByteArray} (h : ¬ sgG t = 0) : ∃ (f : Fr) (l : List Fr), scanL t (sgG t) = f :: l := by
  cases hr : rf fourOf t 0 with
  | none => exact absurd (sgG_none hr) h
  | some x =>
    obtain ⟨f, e⟩ := x
    by_cases hb : f.body = segB
    · have hg := sgG_yes hr hb
      have := sq_yes (Nat.zero_le _) hr hg.symm
      refine ⟨f, (sq fourOf t (sgG t) e).map (·.1), ?_⟩
      unfold scanL scan
      rw [this]; rfl
    · exact absurd (sgG_no hr hb) h

theorem segB_list : segB.toList = [115, 101, 103] := by rw [Go.ByteArray.toList_eq]; rfl
theorem seg_beq (b : ByteArray) : (b.toList == [115, 101, 103]) = decide (b = segB) := by rw [← segB_list]; exact texts_beq b segB

set_option maxRecDepth 100000 in
set_option maxHeartbeats 1000000 in
theorem genOf_any (t : ByteArray) (w : World) (hs : t.size ≤ 1099511627776) (htab : SumTab w) :
    Calls Tryz.prog 74 #[.string t] w fun e w' => e = .returned (.int .i64 (sgG t)) ∧ Below w.heap.size w w' := by
  cases hr : rf fourOf t 0 with
  | none =>
    have HR := Lib.hid (rfT_none ((rfA_nat (Nat.zero_le t.size)).trans hr))
    rw [sgG_none hr]
    clear hr
    go_enter Tryz.func74, Tryz.ntmps74
    go_wp2_with (go_at_call 112; refine (implReadFrame_any t (0 : Nat) _ hs htab).mono ?_; rintro e w1 ⟨rfl, k1⟩; rw [HR.out]; unfold zeroFr Fr.v)
    go_ret
    exact ⟨rfl, k1.alloc k1.size _⟩
  | some x =>
    obtain ⟨f, e⟩ := x
    have HR := Lib.hid (rfT_some ((rfA_nat (Nat.zero_le t.size)).trans hr))
    by_cases hb : f.body = segB
    · rw [sgG_yes hr hb]
      have e1 : (f.body.toList == [115, 101, 103]) = true := by rw [seg_beq]; exact decide_eq_true hb
      clear hr hb
      go_enter Tryz.func74, Tryz.ntmps74
      go_wp2_with (go_at_call 112; refine (implReadFrame_any t (0 : Nat) _ hs htab).mono ?_; rintro e w1 ⟨rfl, k1⟩; rw [HR.out]; unfold Fr.v)
      go_ret
      exact ⟨rfl, k1.alloc k1.size _⟩
    · rw [sgG_no hr hb]
      have e1 : (f.body.toList == [115, 101, 103]) = false := by rw [seg_beq]; exact decide_eq_false hb
      clear hr hb
      go_enter Tryz.func74, Tryz.ntmps74
      go_wp2_with (go_at_call 112; refine (implReadFrame_any t (0 : Nat) _ hs htab).mono ?_; rintro e w1 ⟨rfl, k1⟩; rw [HR.out]; unfold Fr.v)
      go_ret
      exact ⟨rfl, k1.alloc k1.size _⟩

set_option maxRecDepth 100000 in
set_option maxHeartbeats 1000000 in
theorem implSegGen_any (d : Dk) (v : Value) (s : Int) (w : World) (h : DRd w v d) (hs : d.small) (ht : ∀ s ∈ d.sec, s.size ≤ 137438953472) (hu : ∀ x ∈ d.cache, x.text.size ≤ 137438953472) (htab : SumTab w) :
    Calls Tryz.prog 33 #[v, .int .i64 s] w fun e w' => e = .returned (.int .i64 (sgG (sgT d s))) ∧ Below w.heap.size w w' := by
  obtain ⟨aa, ab, ca, cb, rfl, _, _⟩ := h.form
  have hx := Box.new w #[.slice aa d.sec.length ca, .slice ab d.cache.length cb] 33
  have b0 : Below w.heap.size w (w.alloc (.cells #[.slice aa d.sec.length ca, .slice ab d.cache.length cb] 33)) := (Below.refl _ _).alloc (Nat.le_refl _) _
  have h' := h.later b0
  have c0 := hx.cell 0 (.slice aa d.sec.length ca) rfl
  have c1 := hx.cell 1 (.slice ab d.cache.length cb) rfl
  have hz := sgT_size ht hu s
  have HT : Hid (∀ x, Below w.heap.size w x → SumTab x) := fun x hb => htab.later hb
  have HM : Hid ((∀ s ∈ d.sec, s.size ≤ 1099511627776) ∧ ∀ x ∈ d.cache, x.text.size ≤ 1099511627776) := ⟨fun s hs => by have := ht s hs; omega, fun x hx => by have := hu x hx; omega⟩
  clear h htab ht hu
  go_enter Tryz.func33, Tryz.ntmps33
  go_wp2_with (first
    | (go_at_call 73; refine (implSegText_any d _ s _ h' hs HM.out.1 HM.out.2).mono ?_; rintro e w1 ⟨rfl, k1⟩)
    | (go_at_call 74; refine (genOf_any _ _ (by omega) (HT.out _ (b0.trans (k1.mono b0.size)))).mono ?_; rintro e w2 ⟨rfl, k2⟩))
  go_ret
  have b1 := b0.trans (k1.mono b0.size)
  exact ⟨rfl, b1.trans (k2.mono b1.size)⟩

set_option maxRecDepth 100000 in
set_option maxHeartbeats 1000000 in
theorem specSegGen_any (d : Dk) (v : Value) (s : Int) (w : World) (h : DRd w v d) (hs : d.small) (ht : ∀ s ∈ d.sec, s.size ≤ 137438953472) (hu : ∀ x ∈ d.cache, x.text.size ≤ 137438953472) :
    Calls Tryz.prog 70 #[v, .int .i64 s] w fun e w' => e = .returned (.int .i64 (sgG (sgT d s))) ∧ Below w.heap.size w w' := by
  obtain ⟨aa, ab, ca, cb, rfl, _, _⟩ := h.form
  have hx := Box.new w #[.slice aa d.sec.length ca, .slice ab d.cache.length cb] 33
  have b0 : Below w.heap.size w (w.alloc (.cells #[.slice aa d.sec.length ca, .slice ab d.cache.length cb] 33)) := (Below.refl _ _).alloc (Nat.le_refl _) _
  have h' := h.later b0
  have c0 := hx.cell 0 (.slice aa d.sec.length ca) rfl
  have c1 := hx.cell 1 (.slice ab d.cache.length cb) rfl
  have hz := sgT_size ht hu s
  have HM : Hid ((∀ s ∈ d.sec, s.size ≤ 1099511627776) ∧ ∀ x ∈ d.cache, x.text.size ≤ 1099511627776) := ⟨fun s hs => by have := ht s hs; omega, fun x hx => by have := hu x hx; omega⟩
  clear h ht hu
  have FIN : Hid (∀ x y, Below (w.alloc (.cells #[.slice aa d.sec.length ca, .slice ab d.cache.length cb] 33)).heap.size (w.alloc (.cells #[.slice aa d.sec.length ca, .slice ab d.cache.length cb] 33)) x → Below x.heap.size x y → ∀ o, Below w.heap.size w (y.alloc o)) := by
    intro x y k1 k2 o
    have b1 := b0.trans (k1.mono b0.size)
    have b2 := b1.trans (k2.mono b1.size)
    exact b2.alloc b2.size _
  obtain ⟨t, ht0⟩ : ∃ t, sgT d s = t := ⟨_, rfl⟩
  have HTT := Lib.hid ht0
  rw [ht0] at hz ⊢
  clear ht0
  cases hr : rf fourOf t 0 with
  | none =>
    have HR := Lib.hid (rfT_none ((rfA_nat (Nat.zero_le t.size)).trans hr))
    rw [sgG_none hr]
    clear hr
    go_enter Tryz.func70, Tryz.ntmps70
    go_wp2_with (first
      | (go_at_call 107; refine (specSegText_any d _ s _ h' hs HM.out.1 HM.out.2).mono ?_; rintro e w1 ⟨rfl, k1⟩; rw [HTT.out])
      | (go_at_call 108; refine (specReadFrame_any t (0 : Nat) _ (by omega)).mono ?_; rintro e w2 ⟨rfl, k2⟩; rw [HR.out]; unfold zeroFr Fr.v))
    go_ret
    exact ⟨rfl, FIN.out _ _ k1 k2 _⟩
  | some x =>
    obtain ⟨f, e⟩ := x
    have HR := Lib.hid (rfT_some ((rfA_nat (Nat.zero_le t.size)).trans hr))
    by_cases hb : f.body = segB
    · rw [sgG_yes hr hb]
      have e1 : (f.body.toList == [115, 101, 103]) = true := by rw [seg_beq]; exact decide_eq_true hb
      clear hr hb
      go_enter Tryz.func70, Tryz.ntmps70
      go_wp2_with (first
        | (go_at_call 107; refine (specSegText_any d _ s _ h' hs HM.out.1 HM.out.2).mono ?_; rintro e w1 ⟨rfl, k1⟩; rw [HTT.out])
        | (go_at_call 108; refine (specReadFrame_any t (0 : Nat) _ (by omega)).mono ?_; rintro e w2 ⟨rfl, k2⟩; rw [HR.out]; unfold Fr.v))
      go_ret
      exact ⟨rfl, FIN.out _ _ k1 k2 _⟩
    · rw [sgG_no hr hb]
      have e1 : (f.body.toList == [115, 101, 103]) = false := by rw [seg_beq]; exact decide_eq_false hb
      clear hr hb
      go_enter Tryz.func70, Tryz.ntmps70
      go_wp2_with (first
        | (go_at_call 107; refine (specSegText_any d _ s _ h' hs HM.out.1 HM.out.2).mono ?_; rintro e w1 ⟨rfl, k1⟩; rw [HTT.out])
        | (go_at_call 108; refine (specReadFrame_any t (0 : Nat) _ (by omega)).mono ?_; rintro e w2 ⟨rfl, k2⟩; rw [HR.out]; unfold Fr.v))
      go_ret
      exact ⟨rfl, FIN.out _ _ k1 k2 _⟩

end Go.Proofs.YtieenkloiicnkaaGreatDoor

/- Segments: their frames: SegFrames, the model's and the program's; the program's list stands behind the first frame, in a row of the call's own. -/
namespace Go.Proofs.YtieenkloiicnkaaGreatDoor
open Go.RowKit

/-- The frames of a segment, but for the first one; and the place behind them. -/
def sfL (t : ByteArray) : List Fr := if sgG t = 0 then [] else (scanL t (sgG t)).drop 1
def sfE (t : ByteArray) : Nat := if sgG t = 0 then 0 else scanE t (sgG t)
theorem sfL_le (t : ByteArray) : (sfL t).length ≤ t.size := by
  unfold sfL
  split
  · exact Nat.zero_le _
  · rw [List.length_drop]; have := scanL_le t (sgG t); omega

/-- The list l stands in a row of the call's own, behind some other elements. -/
def Tail (B : Nat) (w0 w : World) (v : Value) (l : List Fr) : Prop :=
  ∃ (g off cap c0 : Nat) (pre : List Fr), v = .slice (some ⟨g, off, none⟩) l.length cap ∧ l.length ≤ cap ∧ (l ≠ [] → off = pre.length * 3) ∧ RBuf frE B w0 w (.slice (some ⟨g, 0, none⟩) (pre ++ l).length c0) (pre ++ l)

theorem Tail.later {B : Nat} {w0 w w' : World} {v : Value} {l : List Fr} (h : Tail B w0 w v l) (hb : Below w.heap.size w w') : Tail B w0 w' v l := by
  obtain ⟨g, off, cap, c0, pre, h1, h2, h3, h4⟩ := h
  exact ⟨g, off, cap, c0, pre, h1, h2, h3, h4.later hb⟩
theorem Tail.bel {B : Nat} {w0 w : World} {v : Value} {l : List Fr} (h : Tail B w0 w v l) : Below B w0 w := by
  obtain ⟨g, off, cap, c0, pre, h1, h2, h3, h4⟩ := h
  exact h4.bel
theorem Tail.le {B : Nat} {w0 w : World} {v : Value} {l : List Fr} (h : Tail B w0 w v l) : B ≤ w.heap.size := by
  obtain ⟨g, off, cap, c0, pre, h1, h2, h3, h4⟩ := h
  exact h4.le
theorem Tail.rows {B : Nat} {w0 w : World} {v : Value} {l : List Fr} (h : Tail B w0 w v l) : Rows' frE w v l := by
  obtain ⟨g, off, cap, c0, pre, rfl, h2, h3, h4⟩ := h
  by_cases hl : l = []
  · subst hl; exact .inl ⟨rfl, _, _, rfl⟩
  · refine .inr ⟨g, off, cap, rfl, h2, (h4.own.lt g rfl).2, fun j x hj k u hk => ?_⟩
    have hj2 : (pre ++ l)[pre.length + j]? = some x := by rw [List.getElem?_append_right (by omega)]; simpa using hj
    have := h4.cell rfl _ _ hj2 k u hk
    rw [h3 hl]
    rw [Nat.add_mul, Nat.add_assoc] at this
    rw [Nat.add_assoc]
    exact this

/-- Whatever stands in front of a list in a row of the call's own, the list behind it. -/
theorem Tail.of_row {B : Nat} {w0 w : World} {f : Fr} {l : List Fr} {g c : Nat} (h : RBuf frE B w0 w (.slice (some ⟨g, 0, none⟩) (f :: l).length c) (f :: l)) (hc : (f :: l).length ≤ c) : Tail B w0 w (.slice (some ⟨g, if c = 1 then 0 else 3, none⟩) l.length (c - 1)) l := by
  refine ⟨g, _, _, c, [f], rfl, by simp at hc; omega, fun hl => ?_, h⟩
  have : 0 < l.length := List.length_pos_iff.2 hl
  simp at hc
  rw [if_neg (by omega)]; rfl

theorem Tail.of_fresh {B : Nat} {w0 w : World} {g : Nat} (h : RBuf frE B w0 w (.slice (some ⟨g, 0, none⟩) 0 0) []) : Tail B w0 w (.slice (some ⟨g, 0, none⟩) 0 0) [] :=
  ⟨g, 0, 0, 0, [], rfl, by simp, fun h => absurd rfl h, h⟩

theorem RBuf.cons_form {B : Nat} {w0 w : World} {v : Value} {f : Fr} {l : List Fr} (h : RBuf frE B w0 w v (f :: l)) : ∃ g c : Nat, v = .slice (some ⟨g, 0, none⟩) (f :: l).length c ∧ (f :: l).length ≤ c := by
  rcases h.own.2 with ⟨_, h0⟩ | ⟨g, cap, cur, hv, _, _, hnc, _⟩
  · cases h0
  · exact ⟨g, cap, hv, hnc⟩

/-- The cells of a list that can be read, one behind the other. -/
theorem Rows'.rowAt {α : Type} {E : Enc α} {w : World} {g off c : Nat} {l : List α} (h : Rows' E w (.slice (some ⟨g, off, none⟩) l.length c) l) (j : Nat) (u : Value) (hj : (E.row l)[j]? = some u) : w.cell? ⟨g, off + j, none⟩ = some u := by
  have hjl : j < l.length * E.sz := by rw [← E.row_length]; exact (List.getElem?_eq_some_iff.1 hj).1
  rcases h with ⟨rfl, _⟩ | ⟨g', off', cap, hv, hc, hg, hcl⟩
  · simp at hjl
  · simp only [Value.slice.injEq, Option.some.injEq, Addr.mk.injEq, and_true, true_and] at hv
    obtain ⟨⟨rfl, rfl⟩, rfl⟩ := hv
    have hdm : j / E.sz * E.sz + j % E.sz = j := Nat.div_add_mod' j E.sz
    have hq : j / E.sz < l.length := (Nat.div_lt_iff_lt_mul E.pos).2 hjl
    have hk : j % E.sz < E.sz := Nat.mod_lt _ E.pos
    have h1 := List.getElem?_eq_getElem hq
    have h2 := E.row_at l _ _ h1 _ hk
    rw [hdm, hj] at h2
    have := hcl _ _ h1 _ _ h2.symm
    rw [Nat.add_assoc, hdm] at this
    exact this

/-- What SegFrames hands back: the model's, the program's. -/
def SfR (t : ByteArray) (w : World) (e : Ending) (w' : World) : Prop := ∃ v, e = .returned (.tuple #[v, .int .i64 (sfE t : Int)]) ∧ RBuf frE w.heap.size w w' v (sfL t)
def SfT (t : ByteArray) (w : World) (e : Ending) (w' : World) : Prop := ∃ v, e = .returned (.tuple #[v, .int .i64 (sfE t : Int)]) ∧ Tail w.heap.size w w' v (sfL t)

set_option maxRecDepth 100000 in
set_option maxHeartbeats 1000000 in
theorem implSegFrames_any (d : Dk) (v : Value) (s : Int) (w : World) (h : DRd w v d) (hs : d.small) (ht : ∀ s ∈ d.sec, s.size ≤ 137438953472) (hu : ∀ x ∈ d.cache, x.text.size ≤ 137438953472) (htab : SumTab w) :
    Calls Tryz.prog 32 #[v, .int .i64 s] w fun e w' => SfT (sgT d s) w e w' := by
  obtain ⟨aa, ab, ca, cb, rfl, _, _⟩ := h.form
  have hx := Box.new w #[.slice aa d.sec.length ca, .slice ab d.cache.length cb] 33
  have b0 : Below w.heap.size w (w.alloc (.cells #[.slice aa d.sec.length ca, .slice ab d.cache.length cb] 33)) := (Below.refl _ _).alloc (Nat.le_refl _) _
  have h' := h.later b0
  have c0 := hx.cell 0 (.slice aa d.sec.length ca) rfl
  have c1 := hx.cell 1 (.slice ab d.cache.length cb) rfl
  have hz := sgT_size ht hu s
  have HT : Hid (∀ x, Below w.heap.size w x → SumTab x) := fun x hb => htab.later hb
  have HM : Hid ((∀ s ∈ d.sec, s.size ≤ 1099511627776) ∧ ∀ x ∈ d.cache, x.text.size ≤ 1099511627776) := ⟨fun s hs => by have := ht s hs; omega, fun x hx => by have := hu x hx; omega⟩
  clear h htab ht hu
  obtain ⟨t, ht0⟩ : ∃ t, sgT d s = t := ⟨_, rfl⟩
  have HTT := Lib.hid ht0
  rw [ht0] at hz ⊢
  clear ht0
  by_cases hg : sgG t = 0
  · have HG := Lib.hid hg
    have E1 : Hid (sfL t = [] ∧ sfE t = 0) := ⟨if_pos hg, if_pos hg⟩
    go_enter Tryz.func32, Tryz.ntmps32
    go_wp2_with (first
      | (go_at_call 73; refine (implSegText_any d _ s _ h' hs HM.out.1 HM.out.2).mono ?_; rintro e w1 ⟨rfl, k1⟩; rw [HTT.out])
      | (go_at_call 74; refine (genOf_any t _ (by omega) (HT.out _ (b0.trans (k1.mono b0.size)))).mono ?_; rintro e w2 ⟨rfl, k2⟩; rw [HG.out]))
    go_ret2
    have b1 := b0.trans (k1.mono b0.size)
    have b2 := b1.trans (k2.mono b1.size)
    have hf := (RBuf.fresh frE w2).down (b2.alloc b2.size _) b2.size
    exact ⟨_, by rw [E1.out.2]; rfl, by rw [E1.out.1]; exact Tail.of_fresh hf⟩
  · obtain ⟨f, l, hfl⟩ := scan_head hg
    obtain ⟨gn, hgn⟩ : ∃ gn, sgG t = gn := ⟨_, rfl⟩
    obtain ⟨en, hen⟩ : ∃ en, scanE t gn = en := ⟨_, rfl⟩
    rw [hgn] at hfl hg
    have E1 : Hid (sfL t = l ∧ sfE t = en) := by
      unfold sfL sfE
      rw [hgn, if_neg hg, if_neg hg, hfl, hen]; exact ⟨rfl, rfl⟩
    have HG := Lib.hid hgn
    have HL := Lib.hid hfl
    have HE := Lib.hid hen
    clear hgn hfl hen
    go_enter Tryz.func32, Tryz.ntmps32
    go_wp2_with (first
      | (go_at_call 73; refine (implSegText_any d _ s _ h' hs HM.out.1 HM.out.2).mono ?_; rintro e w1 ⟨rfl, k1⟩; rw [HTT.out])
      | (go_at_call 74; refine (genOf_any t _ (by omega) (HT.out _ (b0.trans (k1.mono b0.size)))).mono ?_; rintro e w2 ⟨rfl, k2⟩; rw [HG.out])
      | (go_at_call 75; refine (implScanFrames_any t gn _ (by omega) (HT.out _ ((b0.trans (k1.mono b0.size)).trans (k2.mono (b0.trans (k1.mono b0.size)).size)))).mono ?_; rintro e w3 ⟨v3, rfl, r3⟩; rw [HL.out] at r3; rw [HE.out]; obtain ⟨g, c, rfl, hc⟩ := r3.cons_form; rw [List.length_cons]))
    all_goals
      go_ret2
      have b1 := b0.trans (k1.mono b0.size)
      have b2 := b1.trans (k2.mono b1.size)
      have r4 := r3.down (b2.trans (r3.bel.mono b2.size)) b2.size
      refine ⟨_, by rw [E1.out.2]; rfl, ?_⟩
      rw [E1.out.1]
      have t4 := Tail.of_row r4 hc
      first
        | (have hc1 : c = 1 := by omega
           subst hc1
           rw [if_pos rfl] at t4
           exact t4)
        | (rw [if_neg (by omega)] at t4; exact t4)

set_option maxRecDepth 100000 in
set_option maxHeartbeats 1000000 in
theorem specSegFrames_any (d : Dk) (v : Value) (s : Int) (w : World) (h : DRd w v d) (hs : d.small) (ht : ∀ s ∈ d.sec, s.size ≤ 137438953472) (hu : ∀ x ∈ d.cache, x.text.size ≤ 137438953472) :
    Calls Tryz.prog 69 #[v, .int .i64 s] w fun e w' => SfR (sgT d s) w e w' := by
  obtain ⟨aa, ab, ca, cb, rfl, _, _⟩ := h.form
  have hx := Box.new w #[.slice aa d.sec.length ca, .slice ab d.cache.length cb] 33
  have b0 : Below w.heap.size w (w.alloc (.cells #[.slice aa d.sec.length ca, .slice ab d.cache.length cb] 33)) := (Below.refl _ _).alloc (Nat.le_refl _) _
  have hz := sgT_size ht hu s
  have h' := h.later b0
  have HM : Hid ((∀ s ∈ d.sec, s.size ≤ 1099511627776) ∧ ∀ x ∈ d.cache, x.text.size ≤ 1099511627776) := ⟨fun s hs => by have := ht s hs; omega, fun x hx => by have := hu x hx; omega⟩
  have HM2 := Lib.hid (And.intro ht hu)
  clear h ht hu
  obtain ⟨t, ht0⟩ : ∃ t, sgT d s = t := ⟨_, rfl⟩
  have HTT := Lib.hid ht0
  rw [ht0] at hz ⊢
  clear ht0
  have c0 := hx.cell 0 (.slice aa d.sec.length ca) rfl
  have c1 := hx.cell 1 (.slice ab d.cache.length cb) rfl
  by_cases hg : sgG t = 0
  · have HG := Lib.hid hg
    have E1 : Hid (sfL t = [] ∧ sfE t = 0) := ⟨if_pos hg, if_pos hg⟩
    go_enter Tryz.func69, Tryz.ntmps69
    go_wp2_with (go_at_call 70; refine (specSegGen_any d _ s _ h' hs HM2.out.1 HM2.out.2).mono ?_; rintro e w1 ⟨rfl, k1⟩; rw [HTT.out, HG.out])
    go_ret2
    have b1 := b0.trans (k1.mono b0.size)
    have hf := (RBuf.fresh frE w1).down (b1.alloc b1.size _) b1.size
    exact ⟨_, by rw [E1.out.2]; rfl, by rw [E1.out.1]; exact hf⟩
  · obtain ⟨f, l, hfl⟩ := scan_head hg
    have hll := scanL_le t (sgG t)
    obtain ⟨gn, hgn⟩ : ∃ gn, sgG t = gn := ⟨_, rfl⟩
    obtain ⟨en, hen⟩ : ∃ en, scanE t gn = en := ⟨_, rfl⟩
    rw [hgn] at hfl hg hll
    rw [hfl] at hll
    have E1 : Hid (sfL t = l ∧ sfE t = en) := by
      unfold sfL sfE
      rw [hgn, if_neg hg, if_neg hg, hfl, hen]; exact ⟨rfl, rfl⟩
    have HG := Lib.hid hgn
    have HL := Lib.hid hfl
    have HE := Lib.hid hen
    clear hgn hfl hen
    have hl0 : Hid (([] : List Fr).length + l.length ≤ 1099511627776) := by simp at hll ⊢; show _ ≤ _; omega
    clear hll
    go_enter Tryz.func69, Tryz.ntmps69
    go_upto_region 5 with (first
      | (go_at_call 70; refine (specSegGen_any d _ s _ h' hs HM2.out.1 HM2.out.2).mono ?_; rintro e w1 ⟨rfl, k1⟩; rw [HTT.out, HG.out]; clear c0 c1; have c0 := (hx.later k1).cell 0 (.slice aa d.sec.length ca) rfl; have c1 := (hx.later k1).cell 1 (.slice ab d.cache.length cb) rfl)
      | (go_at_call 107; refine (specSegText_any d _ s _ (h'.later k1) hs HM.out.1 HM.out.2).mono ?_; rintro e w2 ⟨rfl, k2⟩; rw [HTT.out])
      | (go_at_call 106; refine (specScanFrames_any t gn _ (by omega)).mono ?_; rintro e w3 ⟨v3, rfl, r3⟩; rw [HL.out] at r3; rw [HE.out]; obtain ⟨g, c, rfl, hc⟩ := r3.cons_form; rw [List.length_cons]))
    have b1 := b0.trans (k1.mono b0.size)
    have b2 := b1.trans (k2.mono b1.size)
    have b3 := Lib.hid (b2.trans (r3.bel.mono b2.size))
    have HF3 := Lib.hid (RBuf.fresh frE w3)
    have HTL := Lib.hid (Tail.of_row r3 hc)
    have HLT : Hid (g < w3.heap.size) := (r3.own.lt g rfl).2
    have HLL : Hid ((([] : List Fr).length + l.length) * (frE.bytes + 1) ≤ 140737488355328) := by
      have := hl0.out
      simp only [List.length_nil, Nat.zero_add] at this
      show _ ≤ _
      simp only [List.length_nil, Nat.zero_add, frE]
      omega
    clear r3 b1 b2 c0 c1 hl0
    by_cases hc1 : c = 1
    · subst hc1
      obtain rfl : l = [] := List.length_eq_zero_iff.1 (by have := hc; rw [List.length_cons] at this; omega)
      go_wp2_with (at_builtin; refine wpList_append_row rfl _ _ frE rfl w3.heap.size _ ([] : List Fr) rfl HF3.out ⟨g, 0, none⟩ [] 0 rfl ?c1 ?c2 ?_)
      case c1 => intro j u hj; cases hj
      intro v4 w4 hb4 _ _
      go_wp2
      go_ret2
      exact ⟨_, by rw [E1.out.2]; rfl, by rw [E1.out.1]; exact hb4.down (b3.out.trans (hb4.bel.mono b3.out.size)) b3.out.size⟩
    · go_wp2_with (at_builtin; refine wpList_append_row rfl _ _ frE rfl w3.heap.size _ ([] : List Fr) rfl HF3.out ⟨g, 3, none⟩ l (c - 1) rfl ?d1 ?d2 ?_)
      case d1 =>
        intro j u hj
        have hr := HTL.out.rows
        rw [if_neg hc1] at hr
        rw [Addr.add_lit, World.cell?_alloc_lt _ _ _ HLT.out]
        exact hr.rowAt j u hj
      case d2 => exact HLL.out
      intro v4 w4 hb4 _ _
      go_wp2
      go_ret2
      exact ⟨_, by rw [E1.out.2]; rfl, by rw [E1.out.1]; exact hb4.down (b3.out.trans (hb4.bel.mono b3.out.size)) b3.out.size⟩

end Go.Proofs.YtieenkloiicnkaaGreatDoor

/- Plain facts on the values of figures, with no program in them. -/
namespace Go.Proofs.YtieenkloiicnkaaGreatDoor

/-- The value of a figure of a base (16: a to f too). -/
def digV (sixteen : Bool) (c : UInt8) : Option Nat :=
  if 48 ≤ c.toNat ∧ c.toNat ≤ 57 then some (c.toNat - 48) else if sixteen = true ∧ 97 ≤ c.toNat ∧ c.toNat ≤ 102 then some (c.toNat - 87) else none

/-- The values of the figures of a text, as far as they are figures. -/
def valsOf (x : Bool) : List UInt8 → List UInt8
  | [] => []
  | c :: cs => match digV x c with
    | some v => UInt8.ofNat v :: valsOf x cs
    | none => []

theorem digV_lt {x : Bool} {c : UInt8} {v : Nat} (h : digV x c = some v) : v < 16 := by
  unfold digV at h
  split at h
  · simp at h; omega
  · split at h
    · simp at h; omega
    · simp at h

theorem valsOf_le (x : Bool) (l : List UInt8) : (valsOf x l).length ≤ l.length := by
  induction l with
  | nil => simp [valsOf]
  | cons c cs ih =>
    unfold valsOf
    split
    · simp; exact ih
    · simp

theorem valsOf_none {x : Bool} : ∀ {l : List UInt8} {k : Nat}, k ≤ (valsOf x l).length → (h : k < l.length) → digV x l[k] = none → (valsOf x l).length = k := by
  intro l
  induction l with
  | nil => intro k _ h; simp at h
  | cons c cs ih =>
    intro k hk h hd
    cases hv : digV x c with
    | none =>
      simp only [valsOf, hv, List.length_nil] at hk ⊢
      omega
    | some v =>
      simp only [valsOf, hv, List.length_cons] at hk ⊢
      cases k with
      | zero => simp [hv] at hd
      | succ k =>
        have := ih (k := k) (by omega) (by simpa using h) (by simpa using hd)
        omega

theorem valsOf_some {x : Bool} : ∀ {l : List UInt8} {k v : Nat}, k ≤ (valsOf x l).length → (h : k < l.length) → digV x l[k] = some v → (valsOf x l)[k]? = some (UInt8.ofNat v) := by
  intro l
  induction l with
  | nil => intro k _ _ h; simp at h
  | cons c cs ih =>
    intro k w hk h hd
    cases hv : digV x c with
    | none =>
      simp only [valsOf, hv, List.length_nil] at hk
      obtain rfl : k = 0 := by omega
      simp [hv] at hd
    | some v =>
      simp only [valsOf, hv, List.length_cons] at hk ⊢
      cases k with
      | zero => simp [hv] at hd; simp [hd]
      | succ k =>
        have := ih (k := k) (v := w) (by omega) (by simpa using h) (by simpa using hd)
        simpa using this

theorem valsOf_lt16 {x : Bool} : ∀ {l : List UInt8} {c : UInt8}, c ∈ valsOf x l → c.toNat < 16 := by
  intro l
  induction l with
  | nil => intro c h; simp [valsOf] at h
  | cons a cs ih =>
    intro c h
    unfold valsOf at h
    split at h
    · rename_i v hv
      rcases List.mem_cons.1 h with rfl | h
      · have := digV_lt hv
        rw [UInt8.toNat_ofNat']; omega
      · exact ih h
    · simp at h

theorem take_next {l : List UInt8} {k : Nat} {v : UInt8} (h : l[k]? = some v) : l.take (k + 1) = l.take k ++ [v] := by
  rw [List.take_add_one, h]; rfl

/-- Two values to a byte. -/
def pairsOf : List UInt8 → List UInt8
  | a :: b :: r => UInt8.ofNat (16 * a.toNat + b.toNat) :: pairsOf r
  | _ => []

theorem pairsOf_append : ∀ (j : Nat) (l : List UInt8) (a b : UInt8), l.length = 2 * j → pairsOf (l ++ [a, b]) = pairsOf l ++ [UInt8.ofNat (16 * a.toNat + b.toNat)] := by
  intro j
  induction j with
  | zero => intro l a b h; obtain rfl := List.length_eq_zero_iff.1 h; rfl
  | succ j ih =>
    intro l a b h
    match l, h with
    | x :: y :: r, h =>
      have := ih r a b (by simp at h; omega)
      simp only [List.cons_append, pairsOf, this]

theorem pairsOf_length : ∀ (j : Nat) (l : List UInt8), l.length = 2 * j → (pairsOf l).length = j := by
  intro j
  induction j with
  | zero => intro l h; obtain rfl := List.length_eq_zero_iff.1 h; rfl
  | succ j ih =>
    intro l h
    match l, h with
    | x :: y :: r, h =>
      have := ih r (by simp at h; omega)
      simp only [pairsOf, List.length_cons, this]

theorem pairs_next {l : List UInt8} {j : Nat} {a b : UInt8} (h1 : l[2 * j]? = some a) (h2 : l[2 * j + 1]? = some b) :
    pairsOf (l.take (2 * (j + 1))) = pairsOf (l.take (2 * j)) ++ [UInt8.ofNat (16 * a.toNat + b.toNat)] := by
  have hl : 2 * j + 1 < l.length := (List.getElem?_eq_some_iff.1 h2).1
  rw [show 2 * (j + 1) = 2 * j + 1 + 1 by omega, take_next h2, take_next h1, List.append_assoc]
  exact pairsOf_append j _ _ _ (by simp; omega)

theorem pair_toNat {a b : Nat} (ha : a < 16) (hb : b < 16) : (UInt8.ofNat (16 * a + b)).toNat = 16 * a + b := by
  rw [UInt8.toNat_ofNat']; omega

theorem shl_or (a b : Nat) (ha : a < 16) (hb : b < 16) : bits .or .u8 ((a : Int) * 16) (b : Int) = ((16 * a + b : Nat) : Int) := by
  have e : (a : Int) * 16 = ((16 * a : Nat) : Int) := by omega
  rw [e, u8_or_nat (16 * a) b (by omega) (by omega)]
  have := Nat.shiftLeft_add_eq_or_of_lt (i := 4) (b := b) (by omega) a
  rw [Nat.shiftLeft_eq, show a * 2 ^ 4 = 16 * a by omega] at this
  rw [this]

/-- The value of a figure as a number, -1 of what is none. -/
def valN (c : Nat) : Int := if 48 ≤ c ∧ c ≤ 57 then (c : Int) - 48 else if 97 ≤ c ∧ c ≤ 102 then (c : Int) - 87 else -1

theorem valN_some {c : UInt8} {v : Nat} (h : digV true c = some v) : valN c.toNat = (v : Int) := by
  unfold digV at h
  unfold valN
  split at h
  · rename_i h1
    simp at h
    rw [if_pos h1]; omega
  · rename_i h1
    split at h
    · rename_i h2
      simp at h
      rw [if_neg h1, if_pos h2.2]; omega
    · simp at h

theorem valN_none {c : UInt8} (h : digV true c = none) : valN c.toNat = -1 := by
  unfold digV at h
  unfold valN
  split at h
  · simp at h
  · rename_i h1
    split at h
    · simp at h
    · rename_i h2
      rw [if_neg h1, if_neg (fun h3 => h2 ⟨rfl, h3⟩)]

/-- Whether a text is the figures of some bytes. -/
abbrev isHex (l : List UInt8) : Prop := l.length ≤ 40000 ∧ l.length % 2 = 0 ∧ (valsOf true l).length = l.length

theorem digV_dec {x : Bool} {c : UInt8} (h1 : 48 ≤ c.toNat) (h2 : c.toNat ≤ 57) : digV x c = some (c.toNat - 48) := by rw [digV, if_pos ⟨h1, h2⟩]
theorem digV_hex {c : UInt8} (h1 : 97 ≤ c.toNat) (h2 : c.toNat ≤ 102) : digV true c = some (c.toNat - 87) := by
  rw [digV, if_neg (by omega), if_pos ⟨rfl, h1, h2⟩]
theorem digV_bad {x : Bool} {c : UInt8} (h1 : ¬ (48 ≤ c.toNat ∧ c.toNat ≤ 57)) (h2 : ¬ (x = true ∧ 97 ≤ c.toNat ∧ c.toNat ≤ 102)) : digV x c = none := by
  rw [digV, if_neg h1, if_neg h2]

end Go.Proofs.YtieenkloiicnkaaGreatDoor

/- Plain facts, with no program in them: what is written is read back. -/
namespace Go.Proofs.YtieenkloiicnkaaGreatDoor

theorem rg_vt : ∀ (f n i m : Nat) (rest : List UInt8), n < 128 ^ (f + 1) → rg (f + 1) (vt n ++ rest) i m = some (m + n * 128 ^ i, i + (vt n).length) := by
  intro f
  induction f with
  | zero =>
    intro n i m rest h
    have hn : n ≤ 127 := by simpa using Nat.le_of_lt_succ h
    rw [vt_small hn]
    simp only [List.cons_append, List.nil_append, rg, loByte_toNat (show n < 256 by omega)]
    rw [if_pos (by omega), Nat.mod_eq_of_lt (by omega)]
    rfl
  | succ f ih =>
    intro n i m rest h
    by_cases hn : n ≤ 127
    · rw [vt_small hn]
      simp only [List.cons_append, List.nil_append, rg, loByte_toNat (show n < 256 by omega)]
      rw [if_pos (by omega), Nat.mod_eq_of_lt (by omega)]
      rfl
    · rw [vt_big (by omega), List.cons_append, rg, hiByte_toNat, if_neg (by omega), ih (n / 128) _ _ _ (by rw [Nat.pow_succ] at h; omega)]
      have e1 : (n % 128 + 128) % 128 = n % 128 := by omega
      have e2 : n / 128 * 128 ^ (i + 1) = n / 128 * 128 * 128 ^ i := by rw [Nat.pow_succ, Nat.mul_comm (128 ^ i) 128, Nat.mul_assoc]
      have e3 : n * 128 ^ i = n % 128 * 128 ^ i + n / 128 * 128 * 128 ^ i := by
        rw [← Nat.add_mul]; congr 1; omega
      rw [e1, e2, e3]
      simp only [Option.some.injEq, Prod.mk.injEq, List.length_cons]
      omega

/-- A number's bytes behind others, and ahead of others, are read. -/
theorem rv_back (pre rest : List UInt8) (n : Nat) (h : n ≤ 1000000000) : rv (pre ++ (vt n ++ rest)) pre.length = some (n, pre.length + (vt n).length) := by
  have hd : (pre ++ (vt n ++ rest)).drop pre.length = vt n ++ rest := by simp
  have hr : rg 5 ((pre ++ (vt n ++ rest)).drop pre.length) 0 0 = some (n, (vt n).length) := by
    rw [hd, rg_vt 4 n 0 0 rest (by omega)]
    simp
  refine rv_yes hr h ?_
  rw [hd]
  simp

theorem val_digs : ∀ (n m : Nat), m ≤ n → val (digs m) = m := by
  intro n
  induction n with
  | zero => intro m h; obtain rfl : m = 0 := by omega
            rfl
  | succ n ih =>
    intro m h
    by_cases h0 : m = 0
    · subst h0; rfl
    · rw [digs_step h0, val_snoc, ih (m / 10) (by omega), figD_toNat (by omega)]
      omega

theorem allDig_digs : ∀ (n m : Nat), m ≤ n → allDig (digs m) := by
  intro n
  induction n with
  | zero => intro m h c hc; obtain rfl : m = 0 := by omega
            simp [digs_zero] at hc
  | succ n ih =>
    intro m h
    by_cases h0 : m = 0
    · subst h0; intro c hc; simp [digs_zero] at hc
    · rw [digs_step h0]
      intro c hc
      rcases List.mem_append.1 hc with h1 | h1
      · exact ih (m / 10) (by omega) c h1
      · simp at h1
        subst h1
        rw [figD_toNat (by omega)]
        omega

theorem digs_short : ∀ (k m : Nat), m < 10 ^ k → (digs m).length ≤ k := by
  intro k
  induction k with
  | zero => intro m h; obtain rfl : m = 0 := by simpa using h
            simp [digs_zero]
  | succ k ih =>
    intro m h
    by_cases h0 : m = 0
    · subst h0; simp [digs_zero]
    · rw [digs_step h0]
      have := ih (m / 10) (by rw [Nat.pow_succ] at h; omega)
      simp
      exact this

/-- The figures of a number tell it. -/
theorem dec_back (n : Nat) (h : n ≤ 1000000000) : (dec n).length ≤ 10 ∧ allDig (dec n) ∧ val (dec n) = n := by
  by_cases h0 : n = 0
  · subst h0
    refine ⟨by decide, ?_, by decide⟩
    intro c hc
    have : dec 0 = [48] := rfl
    rw [this] at hc
    simp at hc
    subst hc
    decide
  · rw [dec, if_neg h0]
    exact ⟨digs_short 10 n (by omega), allDig_digs n n (Nat.le_refl _), val_digs n n (Nat.le_refl _)⟩

theorem digV_fig : ∀ x, x < 16 → digV true (fig x) = some x := by decide +kernel

theorem valsOf_hex : ∀ l : List UInt8, valsOf true (hexOf l) = l.flatMap fun c => [UInt8.ofNat (c.toNat / 16), UInt8.ofNat (c.toNat % 16)] := by
  intro l
  induction l with
  | nil => rfl
  | cons c l ih =>
    have hc : c.toNat < 256 := UInt8.toNat_lt _
    have e : hexOf (c :: l) = fig (c.toNat / 16) :: fig (c.toNat % 16) :: hexOf l := rfl
    rw [e, valsOf, digV_fig _ (by omega)]
    simp only
    rw [valsOf, digV_fig _ (by omega)]
    simp only [List.flatMap_cons, List.cons_append, List.nil_append, ih]

theorem pairs_hex : ∀ l : List UInt8, pairsOf (l.flatMap fun c => [UInt8.ofNat (c.toNat / 16), UInt8.ofNat (c.toNat % 16)]) = l := by
  intro l
  induction l with
  | nil => rfl
  | cons c l ih =>
    have hc : c.toNat < 256 := UInt8.toNat_lt _
    simp only [List.flatMap_cons, List.cons_append, List.nil_append, pairsOf, ih]
    congr 1
    apply UInt8.toNat_inj.1
    rw [UInt8.toNat_ofNat', UInt8.toNat_ofNat', UInt8.toNat_ofNat']
    omega

/-- Figures written are read back. -/
theorem hex_back (l : List UInt8) (h : l.length ≤ 20000) : isHex (hexOf l) ∧ pairsOf (valsOf true (hexOf l)) = l := by
  have h1 := hexOf_length l
  have h2 : (valsOf true (hexOf l)).length = (hexOf l).length := by
    rw [valsOf_hex, h1]
    clear h h1
    induction l with
    | nil => rfl
    | cons c l ih => simp only [List.flatMap_cons, List.length_append, List.length_cons, List.length_nil]; omega
  exact ⟨⟨by omega, by omega, h2⟩, by rw [valsOf_hex, pairs_hex]⟩

end Go.Proofs.YtieenkloiicnkaaGreatDoor

/- Plain facts on records: what is right, their texts, and that they come back from them. -/
namespace Go.Proofs.YtieenkloiicnkaaGreatDoor

/-- A record. -/
structure Rc where
  kind : Int
  valid : Int
  uid : Int
  next : Int
  flags : Int
  user : ByteArray
  name : ByteArray
  text : ByteArray

/-- A word: 1 to 8 letters. -/
def wdOk (s : ByteArray) : Prop := (1 ≤ s.size ∧ s.size ≤ 8) ∧ ∀ b ∈ s.data.toList, 97 ≤ b.toNat ∧ b.toNat ≤ 122
instance decWdOk (s : ByteArray) : Decidable (wdOk s) := by unfold wdOk; infer_instance

def emp : ByteArray := ⟨#[]⟩

/-- A right record. -/
def Rc.ok (r : Rc) : Prop := (1 ≤ r.kind ∧ r.kind ≤ 5) ∧ (1 ≤ r.valid ∧ r.valid ≤ 9999) ∧
  (if r.kind = 1 then wdOk r.user ∧ wdOk r.name ∧ 1 ≤ r.next ∧ r.next ≤ 10000 else r.user = emp ∧ r.name = emp ∧ r.next = 0) ∧
  (if 3 ≤ r.kind then 1 ≤ r.uid ∧ r.uid ≤ 9999 else r.uid = 0) ∧
  (if r.kind = 3 ∨ r.kind = 4 then 0 ≤ r.flags ∧ r.flags ≤ 7 else r.flags = 0) ∧
  (if r.kind = 3 then r.text.size ≤ 100 else r.text = emp)
instance decRcOk (r : Rc) : Decidable r.ok := by unfold Rc.ok; infer_instance

/-- The bytes of a record's text. -/
def Rc.tl (r : Rc) : List UInt8 := UInt8.ofNat r.kind.toNat :: (vt r.valid.toNat ++ (vt r.uid.toNat ++ (vt r.next.toNat ++ (vt r.flags.toNat ++ ((vt r.user.size ++ r.user.data.toList) ++ ((vt r.name.size ++ r.name.data.toList) ++ (vt r.text.size ++ r.text.data.toList)))))))
def Rc.tx (r : Rc) : ByteArray := ⟨r.tl.toArray⟩
theorem Rc.tx_list (r : Rc) : r.tx.data.toList = r.tl := by simp [Rc.tx]

/-- What is right has small numbers and short texts. -/
theorem Rc.ok_small {r : Rc} (h : r.ok) : (1 ≤ r.kind ∧ r.kind ≤ 5) ∧ (0 ≤ r.valid ∧ r.valid ≤ 9999) ∧ (0 ≤ r.uid ∧ r.uid ≤ 9999) ∧ (0 ≤ r.next ∧ r.next ≤ 10000) ∧ (0 ≤ r.flags ∧ r.flags ≤ 7) ∧ r.user.size ≤ 8 ∧ r.name.size ≤ 8 ∧ r.text.size ≤ 100 := by
  obtain ⟨h1, h2, h3, h4, h5, h6⟩ := h
  have he : emp.size = 0 := rfl
  have a3 : (0 ≤ r.next ∧ r.next ≤ 10000) ∧ r.user.size ≤ 8 ∧ r.name.size ≤ 8 := by
    split at h3
    · exact ⟨by omega, h3.1.1.2, h3.2.1.1.2⟩
    · rw [h3.1, h3.2.1, he]; omega
  have a4 : 0 ≤ r.uid ∧ r.uid ≤ 9999 := by split at h4 <;> omega
  have a5 : 0 ≤ r.flags ∧ r.flags ≤ 7 := by split at h5 <;> omega
  have a6 : r.text.size ≤ 100 := by
    split at h6
    · exact h6
    · rw [h6, he]; omega
  exact ⟨h1, by omega, a4, a3.1, a5, a3.2.1, a3.2.2, a6⟩

theorem tl_len (s : ByteArray) : s.data.toList.length = s.size := by rw [Array.length_toList]; rfl

theorem vt_two' {n : Nat} (h : n ≤ 10000) : (vt n).length ≤ 2 := vt_short 1 n (by omega)
theorem Rc.tl_le {r : Rc} (h : r.ok) : r.tl.length ≤ 131 ∧ 1 ≤ r.tl.length := by
  obtain ⟨_, h2, h3, h4, h5, h6, h7, h8⟩ := r.ok_small h
  have a1 := vt_two' (n := r.valid.toNat) (by omega)
  have a2 := vt_two' (n := r.uid.toNat) (by omega)
  have a3 := vt_two' (n := r.next.toNat) (by omega)
  have a4 := vt_two' (n := r.flags.toNat) (by omega)
  have a5 := vt_two' (n := r.user.size) (by omega)
  have a6 := vt_two' (n := r.name.size) (by omega)
  have a7 := vt_two' (n := r.text.size) (by omega)
  unfold Rc.tl
  simp only [List.length_cons, List.length_append, tl_len]
  omega
theorem Rc.tx_le {r : Rc} (h : r.ok) : r.tx.size ≤ 131 ∧ 1 ≤ r.tx.size := by
  have := r.tl_le h
  have e : r.tx.size = r.tl.length := by rw [← tl_len, r.tx_list]
  rw [e]; exact this

/-- A short text read. -/
def rsO (s : ByteArray) (k : Nat) : Option (ByteArray × Nat) :=
  match rv s.data.toList k with
  | some (n, b) => if n ≤ 20000 ∧ n + b ≤ s.size then some (s.extract b (b + n), b + n) else none
  | none => none

/-- A record's fields read, one behind the other. -/
def prs (t : ByteArray) : Option Rc :=
  match t.data.toList with
  | [] => none
  | k :: _ => match rv t.data.toList 1 with
    | none => none
    | some (v, a) => match rv t.data.toList a with
      | none => none
      | some (u, b) => match rv t.data.toList b with
        | none => none
        | some (n, c) => match rv t.data.toList c with
          | none => none
          | some (f, d) => match rsO t d with
            | none => none
            | some (x, e) => match rsO t e with
              | none => none
              | some (y, g) => match rsO t g with
                | none => none
                | some (z, _) => some ⟨k.toNat, v, u, n, f, x, y, z⟩

/-- The right record whose text this is. -/
def rrO (t : ByteArray) : Option Rc := match prs t with
  | some r => if r.ok ∧ r.tx = t then some r else none
  | none => none

theorem rrO_some {t : ByteArray} {r : Rc} (h : rrO t = some r) : r.ok ∧ r.tx = t := by
  unfold rrO at h
  split at h
  · split at h
    · rename_i hc; cases h; exact hc
    · cases h
  · cases h

theorem ext_mid (pre l rest : List UInt8) : (⟨(pre ++ (l ++ rest)).toArray⟩ : ByteArray).extract pre.length (pre.length + l.length) = ⟨l.toArray⟩ := by
  obtain ⟨x, hx⟩ : ∃ x : ByteArray, x = (⟨(pre ++ (l ++ rest)).toArray⟩ : ByteArray).extract pre.length (pre.length + l.length) := ⟨_, rfl⟩
  have : x.data.toList = l := by
    rw [hx, ByteArray.data_extract, Array.toList_extract, List.extract_eq_take_drop]
    simp
  rw [← hx]
  obtain ⟨⟨y⟩⟩ := x
  simp at this
  rw [this]

/-- A short text that was written is read. -/
theorem rsO_back (pre rest : List UInt8) (s : ByteArray) (h : s.size ≤ 20000) : rsO ⟨(pre ++ ((vt s.size ++ s.data.toList) ++ rest)).toArray⟩ pre.length = some (s, pre.length + (vt s.size).length + s.size) := by
  have e0 : (⟨(pre ++ ((vt s.size ++ s.data.toList) ++ rest)).toArray⟩ : ByteArray).data.toList = pre ++ (vt s.size ++ (s.data.toList ++ rest)) := by simp
  have e1 := rv_back pre (s.data.toList ++ rest) s.size (by omega)
  unfold rsO
  rw [e0, e1]
  have hz : (⟨(pre ++ ((vt s.size ++ s.data.toList) ++ rest)).toArray⟩ : ByteArray).size = pre.length + (vt s.size).length + s.size + rest.length := by
    rw [← tl_len, e0]
    simp; omega
  simp only [hz]
  rw [if_pos ⟨h, by omega⟩]
  have e2 := ext_mid (pre ++ vt s.size) s.data.toList rest
  rw [List.length_append, tl_len] at e2
  have e3 : (pre ++ ((vt s.size ++ s.data.toList) ++ rest)) = (pre ++ vt s.size ++ (s.data.toList ++ rest)) := by simp
  rw [e3, e2]

theorem rv_at {L pre rest : List UInt8} {n p : Nat} (hL : L = pre ++ (vt n ++ rest)) (hp : p = pre.length) (hn : n ≤ 1000000000) : rv L p = some (n, p + (vt n).length) := by
  rw [hL, hp]; exact rv_back pre rest n hn
theorem rs_at {t s : ByteArray} {pre rest : List UInt8} {p : Nat} (hL : t.data.toList = pre ++ ((vt s.size ++ s.data.toList) ++ rest)) (hp : p = pre.length) (hn : s.size ≤ 20000) : rsO t p = some (s, p + (vt s.size).length + s.size) := by
  have e : t = ⟨(pre ++ ((vt s.size ++ s.data.toList) ++ rest)).toArray⟩ := by
    obtain ⟨⟨l⟩⟩ := t
    simp only at hL
    rw [hL]
  rw [e, hp]; exact rsO_back pre rest s hn

/-- A right record comes back from its text. -/
theorem prs_back {r : Rc} (h : r.ok) : prs r.tx = some r := by
  obtain ⟨h1, h2, h3, h4, h5, h6, h7, h8⟩ := r.ok_small h
  obtain ⟨kind, valid, uid, next, flags, user, name, text⟩ := r
  simp only at h1 h2 h3 h4 h5 h6 h7 h8
  obtain ⟨V, rfl⟩ := Int.eq_ofNat_of_zero_le h2.1
  obtain ⟨U, rfl⟩ := Int.eq_ofNat_of_zero_le h3.1
  obtain ⟨N, rfl⟩ := Int.eq_ofNat_of_zero_le h4.1
  obtain ⟨F, rfl⟩ := Int.eq_ofNat_of_zero_le h5.1
  obtain ⟨K, rfl⟩ := Int.eq_ofNat_of_zero_le (show 0 ≤ kind by omega)
  have hk : (UInt8.ofNat K).toNat = K := by
    rw [show (UInt8.ofNat K).toNat = K % 256 from rfl]; omega
  obtain ⟨t, ht⟩ : ∃ t, Rc.tx ⟨K, V, U, N, F, user, name, text⟩ = t := ⟨_, rfl⟩
  obtain ⟨L, hL⟩ : ∃ L, t.data.toList = L := ⟨_, rfl⟩
  have hLL : L = UInt8.ofNat K :: (vt V ++ (vt U ++ (vt N ++ (vt F ++ ((vt user.size ++ user.data.toList) ++ ((vt name.size ++ name.data.toList) ++ (vt text.size ++ text.data.toList))))))) := by
    rw [← hL, ← ht, Rc.tx_list]; rfl
  rw [ht]
  have s1 : rv L 1 = _ := rv_at (pre := [UInt8.ofNat K]) (n := V) (by rw [hLL]; rfl) rfl (by omega)
  have s2 : rv L (1 + (vt V).length) = _ := rv_at (pre := [UInt8.ofNat K] ++ vt V) (n := U) (by rw [hLL]; simp only [List.append_assoc]; rfl) (by simp; omega) (by omega)
  have s3 : rv L (1 + (vt V).length + (vt U).length) = _ := rv_at (pre := [UInt8.ofNat K] ++ vt V ++ vt U) (n := N) (by rw [hLL]; simp only [List.append_assoc]; rfl) (by simp; omega) (by omega)
  have s4 : rv L (1 + (vt V).length + (vt U).length + (vt N).length) = _ := rv_at (pre := [UInt8.ofNat K] ++ vt V ++ vt U ++ vt N) (n := F) (by rw [hLL]; simp only [List.append_assoc]; rfl) (by simp; omega) (by omega)
  have s5 : rsO t (1 + (vt V).length + (vt U).length + (vt N).length + (vt F).length) = _ := rs_at (pre := [UInt8.ofNat K] ++ vt V ++ vt U ++ vt N ++ vt F) (s := user) (by rw [hL, hLL]; simp only [List.append_assoc]; rfl) (by simp; omega) (by omega)
  have s6 : rsO t (1 + (vt V).length + (vt U).length + (vt N).length + (vt F).length + (vt user.size).length + user.size) = _ := rs_at (pre := [UInt8.ofNat K] ++ vt V ++ vt U ++ vt N ++ vt F ++ (vt user.size ++ user.data.toList)) (s := name) (by rw [hL, hLL]; simp only [List.append_assoc]; rfl) (by simp; omega) (by omega)
  have s7 : rsO t (1 + (vt V).length + (vt U).length + (vt N).length + (vt F).length + (vt user.size).length + user.size + (vt name.size).length + name.size) = _ := rs_at (pre := [UInt8.ofNat K] ++ vt V ++ vt U ++ vt N ++ vt F ++ (vt user.size ++ user.data.toList) ++ (vt name.size ++ name.data.toList)) (s := text) (rest := []) (by rw [hL, hLL]; simp only [List.append_assoc, List.append_nil]; rfl) (by simp; omega) (by omega)
  unfold prs
  rw [hL]
  rw [hLL] at s1 s2 s3 s4 ⊢
  simp only [s1, s2, s3, s4, s5, s6, s7, hk]

theorem rrO_back {r : Rc} (h : r.ok) : rrO r.tx = some r := by
  unfold rrO
  rw [prs_back h]
  exact if_pos ⟨h, rfl⟩

/-- Nothing else is read of a text than the right record whose text it is. -/
theorem rrO_none {t : ByteArray} (h : rrO t = none) (r : Rc) (hr : r.ok) : r.tx ≠ t := fun e => by rw [← e, rrO_back hr] at h; cases h

end Go.Proofs.YtieenkloiicnkaaGreatDoor
