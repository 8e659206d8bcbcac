/- Texts of our own, joined. -/
import Derived.Test.YtmlhpjkijpbinaqDoorJg
import Derived.Test.YtmlhpjkijpbinaqDoorJa
import Derived.Test.YtmlhpjkijpbinaqDoorJd
import Derived.Test.YtmlhpjkijpbinaqDoorJe
import Derived.ProofKit
import Derived.LaidMore
/- Segments: their frames: SegFrames, the model's and the program's; the program's list stands behind the first frame, in a row of the call's own. -/
namespace Go.Proofs.YtmlhpjkijpbinaqDoor
open Go.RowKit

/-- The frames of a segment, but for the first one; and the place behind them. -/
def sfL (t : ByteArray) : List Fr := if sgG t = 0 then [] else (scanL t (sgG t)).drop 1
def sfE (t : ByteArray) : Nat := if sgG t = 0 then 0 else scanE t (sgG t)
theorem sfL_le (t : ByteArray) : (sfL t).length ≤ t.size := by
  unfold sfL
  split
  · exact Nat.zero_le _
  · rw [List.length_drop]; have := scanL_le t (sgG t); omega

/-- The list l stands in a row of the call's own, behind some other elements. -/
def Tail (B : Nat) (w0 w : World) (v : Value) (l : List Fr) : Prop :=
  ∃ (g off cap c0 : Nat) (pre : List Fr), v = .slice (some ⟨g, off, none⟩) l.length cap ∧ l.length ≤ cap ∧ (l ≠ [] → off = pre.length * 3) ∧ RBuf frE B w0 w (.slice (some ⟨g, 0, none⟩) (pre ++ l).length c0) (pre ++ l)

theorem Tail.later {B : Nat} {w0 w w' : World} {v : Value} {l : List Fr} (h : Tail B w0 w v l) (hb : Below w.heap.size w w') : Tail B w0 w' v l := by
  obtain ⟨g, off, cap, c0, pre, h1, h2, h3, h4⟩ := h
  exact ⟨g, off, cap, c0, pre, h1, h2, h3, h4.later hb⟩
theorem Tail.bel {B : Nat} {w0 w : World} {v : Value} {l : List Fr} (h : Tail B w0 w v l) : Below B w0 w := by
  obtain ⟨g, off, cap, c0, pre, h1, h2, h3, h4⟩ := h
  exact h4.bel
theorem Tail.le {B : Nat} {w0 w : World} {v : Value} {l : List Fr} (h : Tail B w0 w v l) : B ≤ w.heap.size := by
  obtain ⟨g, off, cap, c0, pre, h1, h2, h3, h4⟩ := h
  exact h4.le
theorem Tail.rows {B : Nat} {w0 w : World} {v : Value} {l : List Fr} (h : Tail B w0 w v l) : Rows' frE w v l := by
  obtain ⟨g, off, cap, c0, pre, rfl, h2, h3, h4⟩ := h
  by_cases hl : l = []
  · subst hl; exact .inl ⟨rfl, _, _, rfl⟩
  · refine .inr ⟨g, off, cap, rfl, h2, (h4.own.lt g rfl).2, fun j x hj k u hk => ?_⟩
    have hj2 : (pre ++ l)[pre.length + j]? = some x := by rw [List.getElem?_append_right (by omega)]; simpa using hj
    have := h4.cell rfl _ _ hj2 k u hk
    rw [h3 hl]
    rw [Nat.add_mul, Nat.add_assoc] at this
    rw [Nat.add_assoc]
    exact this

/-- Whatever stands in front of a list in a row of the call's own, the list behind it. -/
theorem Tail.of_row {B : Nat} {w0 w : World} {f : Fr} {l : List Fr} {g c : Nat} (h : RBuf frE B w0 w (.slice (some ⟨g, 0, none⟩) (f :: l).length c) (f :: l)) (hc : (f :: l).length ≤ c) : Tail B w0 w (.slice (some ⟨g, if c = 1 then 0 else 3, none⟩) l.length (c - 1)) l := by
  refine ⟨g, _, _, c, [f], rfl, by simp at hc; omega, fun hl => ?_, h⟩
  have : 0 < l.length := List.length_pos_iff.2 hl
  simp at hc
  rw [if_neg (by omega)]; rfl

theorem Tail.of_fresh {B : Nat} {w0 w : World} {g : Nat} (h : RBuf frE B w0 w (.slice (some ⟨g, 0, none⟩) 0 0) []) : Tail B w0 w (.slice (some ⟨g, 0, none⟩) 0 0) [] :=
  ⟨g, 0, 0, 0, [], rfl, by simp, fun h => absurd rfl h, h⟩

theorem RBuf.cons_form {B : Nat} {w0 w : World} {v : Value} {f : Fr} {l : List Fr} (h : RBuf frE B w0 w v (f :: l)) : ∃ g c : Nat, v = .slice (some ⟨g, 0, none⟩) (f :: l).length c ∧ (f :: l).length ≤ c := by
  rcases h.own.2 with ⟨_, h0⟩ | ⟨g, cap, cur, hv, _, _, hnc, _⟩
  · cases h0
  · exact ⟨g, cap, hv, hnc⟩

/-- The cells of a list that can be read, one behind the other. -/
theorem Rows'.rowAt {α : Type} {E : Enc α} {w : World} {g off c : Nat} {l : List α} (h : Rows' E w (.slice (some ⟨g, off, none⟩) l.length c) l) (j : Nat) (u : Value) (hj : (E.row l)[j]? = some u) : w.cell? ⟨g, off + j, none⟩ = some u := by
  have hjl : j < l.length * E.sz := by rw [← E.row_length]; exact (List.getElem?_eq_some_iff.1 hj).1
  rcases h with ⟨rfl, _⟩ | ⟨g', off', cap, hv, hc, hg, hcl⟩
  · simp at hjl
  · simp only [Value.slice.injEq, Option.some.injEq, Addr.mk.injEq, and_true, true_and] at hv
    obtain ⟨⟨rfl, rfl⟩, rfl⟩ := hv
    have hdm : j / E.sz * E.sz + j % E.sz = j := Nat.div_add_mod' j E.sz
    have hq : j / E.sz < l.length := (Nat.div_lt_iff_lt_mul E.pos).2 hjl
    have hk : j % E.sz < E.sz := Nat.mod_lt _ E.pos
    have h1 := List.getElem?_eq_getElem hq
    have h2 := E.row_at l _ _ h1 _ hk
    rw [hdm, hj] at h2
    have := hcl _ _ h1 _ _ h2.symm
    rw [Nat.add_assoc, hdm] at this
    exact this

/-- What SegFrames hands back: the model's, the program's. -/
def SfR (t : ByteArray) (w : World) (e : Ending) (w' : World) : Prop := ∃ v, e = .returned (.tuple #[v, .int .i64 (sfE t : Int)]) ∧ RBuf frE w.heap.size w w' v (sfL t)
def SfT (t : ByteArray) (w : World) (e : Ending) (w' : World) : Prop := ∃ v, e = .returned (.tuple #[v, .int .i64 (sfE t : Int)]) ∧ Tail w.heap.size w w' v (sfL t)

set_option maxRecDepth 100000 in
set_option maxHeartbeats 1000000 in
theorem implSegFrames_any (d : Dk) (v : Value) (s : Int) (w : World) (h : DRd w v d) (hs : d.small) (ht : ∀ s ∈ d.sec, s.size ≤ 137438953472) (hu : ∀ x ∈ d.cache, x.text.size ≤ 137438953472) (htab : SumTab w) :
    Calls Tryd.prog 22 #[v, .int .i64 s] w fun e w' => SfT (sgT d s) w e w' := by
  obtain ⟨aa, ab, ca, cb, rfl, _, _⟩ := h.form
  have hx := Box.new w #[.slice aa d.sec.length ca, .slice ab d.cache.length cb] 43
  have b0 : Below w.heap.size w (w.alloc (.cells #[.slice aa d.sec.length ca, .slice ab d.cache.length cb] 43)) := (Below.refl _ _).alloc (Nat.le_refl _) _
  have h' := h.later b0
  have c0 := hx.cell 0 (.slice aa d.sec.length ca) rfl
  have c1 := hx.cell 1 (.slice ab d.cache.length cb) rfl
  have hz := sgT_size ht hu s
  have HT : Hid (∀ x, Below w.heap.size w x → SumTab x) := fun x hb => htab.later hb
  have HM : Hid ((∀ s ∈ d.sec, s.size ≤ 1099511627776) ∧ ∀ x ∈ d.cache, x.text.size ≤ 1099511627776) := ⟨fun s hs => by have := ht s hs; omega, fun x hx => by have := hu x hx; omega⟩
  clear h htab ht hu
  obtain ⟨t, ht0⟩ : ∃ t, sgT d s = t := ⟨_, rfl⟩
  have HTT := Lib.hid ht0
  rw [ht0] at hz ⊢
  clear ht0
  by_cases hg : sgG t = 0
  · have HG := Lib.hid hg
    have E1 : Hid (sfL t = [] ∧ sfE t = 0) := ⟨if_pos hg, if_pos hg⟩
    go_enter Tryd.func22, Tryd.ntmps22
    go_wp2_with (first
      | (go_at_call 36; refine (implSegText_any d _ s _ h' hs HM.out.1 HM.out.2).mono ?_; rintro e w1 ⟨rfl, k1⟩; rw [HTT.out])
      | (go_at_call 35; refine (genOf_any t _ (by omega) (HT.out _ (b0.trans (k1.mono b0.size)))).mono ?_; rintro e w2 ⟨rfl, k2⟩; rw [HG.out]))
    go_ret2
    have b1 := b0.trans (k1.mono b0.size)
    have b2 := b1.trans (k2.mono b1.size)
    have hf := (RBuf.fresh frE w2).down (b2.alloc b2.size _) b2.size
    exact ⟨_, by rw [E1.out.2]; rfl, by rw [E1.out.1]; exact Tail.of_fresh hf⟩
  · obtain ⟨f, l, hfl⟩ := scan_head hg
    obtain ⟨gn, hgn⟩ : ∃ gn, sgG t = gn := ⟨_, rfl⟩
    obtain ⟨en, hen⟩ : ∃ en, scanE t gn = en := ⟨_, rfl⟩
    rw [hgn] at hfl hg
    have E1 : Hid (sfL t = l ∧ sfE t = en) := by
      unfold sfL sfE
      rw [hgn, if_neg hg, if_neg hg, hfl, hen]; exact ⟨rfl, rfl⟩
    have HG := Lib.hid hgn
    have HL := Lib.hid hfl
    have HE := Lib.hid hen
    clear hgn hfl hen
    go_enter Tryd.func22, Tryd.ntmps22
    go_wp2_with (first
      | (go_at_call 36; refine (implSegText_any d _ s _ h' hs HM.out.1 HM.out.2).mono ?_; rintro e w1 ⟨rfl, k1⟩; rw [HTT.out])
      | (go_at_call 35; refine (genOf_any t _ (by omega) (HT.out _ (b0.trans (k1.mono b0.size)))).mono ?_; rintro e w2 ⟨rfl, k2⟩; rw [HG.out])
      | (go_at_call 8; refine (implScanFrames_any t gn _ (by omega) (HT.out _ ((b0.trans (k1.mono b0.size)).trans (k2.mono (b0.trans (k1.mono b0.size)).size)))).mono ?_; rintro e w3 ⟨v3, rfl, r3⟩; rw [HL.out] at r3; rw [HE.out]; obtain ⟨g, c, rfl, hc⟩ := r3.cons_form; rw [List.length_cons]))
    all_goals
      go_ret2
      have b1 := b0.trans (k1.mono b0.size)
      have b2 := b1.trans (k2.mono b1.size)
      have r4 := r3.down (b2.trans (r3.bel.mono b2.size)) b2.size
      refine ⟨_, by rw [E1.out.2]; rfl, ?_⟩
      rw [E1.out.1]
      have t4 := Tail.of_row r4 hc
      first
        | (have hc1 : c = 1 := by omega
           subst hc1
           rw [if_pos rfl] at t4
           exact t4)
        | (rw [if_neg (by omega)] at t4; exact t4)

set_option maxRecDepth 100000 in
set_option maxHeartbeats 1000000 in
theorem specSegFrames_any (d : Dk) (v : Value) (s : Int) (w : World) (h : DRd w v d) (hs : d.small) (ht : ∀ s ∈ d.sec, s.size ≤ 137438953472) (hu : ∀ x ∈ d.cache, x.text.size ≤ 137438953472) :
    Calls Tryd.prog 21 #[v, .int .i64 s] w fun e w' => SfR (sgT d s) w e w' := by
  obtain ⟨aa, ab, ca, cb, rfl, _, _⟩ := h.form
  have hx := Box.new w #[.slice aa d.sec.length ca, .slice ab d.cache.length cb] 43
  have b0 : Below w.heap.size w (w.alloc (.cells #[.slice aa d.sec.length ca, .slice ab d.cache.length cb] 43)) := (Below.refl _ _).alloc (Nat.le_refl _) _
  have hz := sgT_size ht hu s
  have h' := h.later b0
  have HM : Hid ((∀ s ∈ d.sec, s.size ≤ 1099511627776) ∧ ∀ x ∈ d.cache, x.text.size ≤ 1099511627776) := ⟨fun s hs => by have := ht s hs; omega, fun x hx => by have := hu x hx; omega⟩
  have HM2 := Lib.hid (And.intro ht hu)
  clear h ht hu
  obtain ⟨t, ht0⟩ : ∃ t, sgT d s = t := ⟨_, rfl⟩
  have HTT := Lib.hid ht0
  rw [ht0] at hz ⊢
  clear ht0
  have c0 := hx.cell 0 (.slice aa d.sec.length ca) rfl
  have c1 := hx.cell 1 (.slice ab d.cache.length cb) rfl
  by_cases hg : sgG t = 0
  · have HG := Lib.hid hg
    have E1 : Hid (sfL t = [] ∧ sfE t = 0) := ⟨if_pos hg, if_pos hg⟩
    go_enter Tryd.func21, Tryd.ntmps21
    go_wp2_with (go_at_call 17; refine (specSegGen_any d _ s _ h' hs HM2.out.1 HM2.out.2).mono ?_; rintro e w1 ⟨rfl, k1⟩; rw [HTT.out, HG.out])
    go_ret2
    have b1 := b0.trans (k1.mono b0.size)
    have hf := (RBuf.fresh frE w1).down (b1.alloc b1.size _) b1.size
    exact ⟨_, by rw [E1.out.2]; rfl, by rw [E1.out.1]; exact hf⟩
  · obtain ⟨f, l, hfl⟩ := scan_head hg
    have hll := scanL_le t (sgG t)
    obtain ⟨gn, hgn⟩ : ∃ gn, sgG t = gn := ⟨_, rfl⟩
    obtain ⟨en, hen⟩ : ∃ en, scanE t gn = en := ⟨_, rfl⟩
    rw [hgn] at hfl hg hll
    rw [hfl] at hll
    have E1 : Hid (sfL t = l ∧ sfE t = en) := by
      unfold sfL sfE
      rw [hgn, if_neg hg, if_neg hg, hfl, hen]; exact ⟨rfl, rfl⟩
    have HG := Lib.hid hgn
    have HL := Lib.hid hfl
    have HE := Lib.hid hen
    clear hgn hfl hen
    have hl0 : Hid (([] : List Fr).length + l.length ≤ 1099511627776) := by simp at hll ⊢; show _ ≤ _; omega
    clear hll
    go_enter Tryd.func21, Tryd.ntmps21
    go_upto_region 5 with (first
      | (go_at_call 17; refine (specSegGen_any d _ s _ h' hs HM2.out.1 HM2.out.2).mono ?_; rintro e w1 ⟨rfl, k1⟩; rw [HTT.out, HG.out]; clear c0 c1; have c0 := (hx.later k1).cell 0 (.slice aa d.sec.length ca) rfl; have c1 := (hx.later k1).cell 1 (.slice ab d.cache.length cb) rfl)
      | (go_at_call 32; refine (specSegText_any d _ s _ (h'.later k1) hs HM.out.1 HM.out.2).mono ?_; rintro e w2 ⟨rfl, k2⟩; rw [HTT.out])
      | (go_at_call 7; refine (specScanFrames_any t gn _ (by omega)).mono ?_; rintro e w3 ⟨v3, rfl, r3⟩; rw [HL.out] at r3; rw [HE.out]; obtain ⟨g, c, rfl, hc⟩ := r3.cons_form; rw [List.length_cons]))
    have b1 := b0.trans (k1.mono b0.size)
    have b2 := b1.trans (k2.mono b1.size)
    have b3 := Lib.hid (b2.trans (r3.bel.mono b2.size))
    have HF3 := Lib.hid (RBuf.fresh frE w3)
    have HTL := Lib.hid (Tail.of_row r3 hc)
    have HLT : Hid (g < w3.heap.size) := (r3.own.lt g rfl).2
    have HLL : Hid ((([] : List Fr).length + l.length) * (frE.bytes + 1) ≤ 140737488355328) := by
      have := hl0.out
      simp only [List.length_nil, Nat.zero_add] at this
      show _ ≤ _
      simp only [List.length_nil, Nat.zero_add, frE]
      omega
    clear r3 b1 b2 c0 c1 hl0
    by_cases hc1 : c = 1
    · subst hc1
      obtain rfl : l = [] := List.length_eq_zero_iff.1 (by have := hc; rw [List.length_cons] at this; omega)
      go_wp2_with (at_builtin; refine wpList_append_row rfl _ _ frE rfl w3.heap.size _ ([] : List Fr) rfl HF3.out ⟨g, 0, none⟩ [] 0 rfl ?c1 ?c2 ?_)
      case c1 => intro j u hj; cases hj
      intro v4 w4 hb4 _ _
      go_wp2
      go_ret2
      exact ⟨_, by rw [E1.out.2]; rfl, by rw [E1.out.1]; exact hb4.down (b3.out.trans (hb4.bel.mono b3.out.size)) b3.out.size⟩
    · go_wp2_with (at_builtin; refine wpList_append_row rfl _ _ frE rfl w3.heap.size _ ([] : List Fr) rfl HF3.out ⟨g, 3, none⟩ l (c - 1) rfl ?d1 ?d2 ?_)
      case d1 =>
        intro j u hj
        have hr := HTL.out.rows
        rw [if_neg hc1] at hr
        rw [Addr.add_lit, World.cell?_alloc_lt _ _ _ HLT.out]
        exact hr.rowAt j u hj
      case d2 => exact HLL.out
      intro v4 w4 hb4 _ _
      go_wp2
      go_ret2
      exact ⟨_, by rw [E1.out.2]; rfl, by rw [E1.out.1]; exact hb4.down (b3.out.trans (hb4.bel.mono b3.out.size)) b3.out.size⟩

end Go.Proofs.YtmlhpjkijpbinaqDoor

/- The marks of a list of frames that stands behind some other ones. -/
namespace Go.Proofs.YtmlhpjkijpbinaqDoor
open Go.RowKit

theorem app_set {α : Type} (pre l : List α) (i : Nat) (x : α) : (pre ++ l).set (pre.length + i) x = pre ++ l.set i x := by
  rw [List.set_append_right _ _ (by omega)]; simp

set_option maxRecDepth 100000 in
set_option maxHeartbeats 2000000 in
theorem markFrameS_tail (l : List Fr) (v : Value) (k B : Nat) (w0 w : World) (ht : Tail B w0 w v l) (hk : 1 ≤ k) (hk2 : k + 3 * l.length ≤ 1099511627776) :
    Calls Tryd.prog 10 #[v, .int .i64 (k : Int)] w fun e w' => e = .returned (.int .i64 ((k + 3 * l.length : Nat) : Int)) ∧ Tail B w0 w' v (marksF k l.length) ∧ Kept B w.heap.size w w' := by
  obtain ⟨g, off, cap, c0, pre, rfl, hcap, hoff, hb⟩ := ht
  by_cases hne : l = []
  · subst hne
    go_enter Tryd.func10, Tryd.ntmps10
    go_wp2
    go_loop [1, 5] (fun kv iv => kv = .int .i64 (k : Int) ∧ iv = .int .i64 0) (fun _ _ => 0)
    case atStart => exact ⟨rfl, rfl⟩
    case round =>
      obtain ⟨rfl, rfl⟩ := hrel
      go_wp2
      go_ret
      exact ⟨rfl, ⟨g, off, cap, c0, pre, rfl, Nat.zero_le _, fun h => absurd rfl h, hb⟩, Kept.of_below (Below.refl _ _) _ _⟩
  · have ho := hoff hne
    have HO := Lib.hid ho
    have hle : l.length ≤ 1099511627776 := by omega
    have hgB : B ≤ g ∧ g < w.heap.size := hb.own.lt g rfl
    clear ho hoff
    go_enter Tryd.func10, Tryd.ntmps10
    go_wp2
    go_loopw [1, 5] (fun kv iv wr => ∃ i : Nat, i ≤ l.length ∧ iv = .int .i64 (i : Int) ∧ kv = .int .i64 ((k + 3 * i : Nat) : Int) ∧ RBuf frE B w0 wr (.slice (some ⟨g, 0, none⟩) (pre ++ l).length c0) (pre ++ putTo (markF k) l i) ∧ w.grownBy wr (some g)) (fun _ iv _ => l.length - (intOf iv).toNat)
    case atStart => exact ⟨0, by omega, rfl, rfl, by rw [putTo_zero]; exact hb, World.grownBy.refl _ _⟩
    case round =>
      obtain ⟨i, hi, rfl, rfl, hbr, hgr⟩ := hrel
      by_cases hlt : i < l.length
      · have hi0 : (0 : Int) ≤ (i : Int) := by omega
        have hi1 : (i : Int) < (l.length : Int) := by omega
        have hml := putTo_length (m := markF k) hi
        have hat := putTo_at (m := markF k) hlt
        have hms := Lib.hid (putTo_set (m := markF k) hlt)
        have hpl : (pre ++ l).length = (pre ++ putTo (markF k) l i).length := by rw [List.length_append, List.length_append, hml]
        rw [hpl] at hbr
        obtain ⟨K, hK⟩ : ∃ K : Nat, K = k + 3 * i := ⟨_, rfl⟩
        have HK := Lib.hid hK
        rw [← hK]
        have hK1 : K + 2 ≤ 4611686018427387904 := by omega
        have hK2 : 1 ≤ K := by omega
        clear hK
        generalize l[i] = x at hat
        have hatP : (pre ++ putTo (markF k) l i)[pre.length + i]? = some x := by rw [List.getElem?_append_right (by omega)]; simpa using hat
        have ea : ∀ j, (pre.length + i) * frE.sz + j = off + i * 3 + j := fun j => by rw [HO.out]; show (pre.length + i) * 3 + j = _; omega
        obtain ⟨Q, hQ⟩ : ∃ Q, putTo (markF k) l i = Q := ⟨_, rfl⟩
        rw [hQ] at hbr hatP hat hpl hml
        have HQ := Lib.hid hQ
        clear hQ
        have c0' : wr.cell? ⟨g, off + i * 3, none⟩ = some (.int .i64 x.gen) := by have := hbr.cell rfl _ _ hatP 0 _ rfl; rw [ea 0] at this; exact this
        have f0 := hbr.loose (off + i * 3)
        have st0 : RBuf frE B w0 (wr.setCell ⟨g, off + i * 3, none⟩ (.int .i64 (K : Int))) (.slice (some ⟨g, 0, none⟩) (pre ++ Q).length c0) ((pre ++ Q).set (pre.length + i) ⟨(K : Int), x.seq, x.body⟩) := by
          have := hbr.stored _ _ ⟨(K : Int), x.seq, x.body⟩ hatP 0 (by decide) (.int .i64 (K : Int)) rfl
          rw [ea 0] at this; exact this
        have hQl : pre.length + i < (pre ++ Q).length := by rw [List.length_append]; omega
        have hat0 : ((pre ++ Q).set (pre.length + i) ⟨(K : Int), x.seq, x.body⟩)[pre.length + i]? = some ⟨(K : Int), x.seq, x.body⟩ := List.getElem?_set_self hQl
        have hl0 : ((pre ++ Q).set (pre.length + i) ⟨(K : Int), x.seq, x.body⟩).length = (pre ++ Q).length := by simp
        rw [← hl0] at st0
        have c1 : (wr.setCell ⟨g, off + i * 3, none⟩ (.int .i64 (K : Int))).cell? ⟨g, off + i * 3 + 1, none⟩ = some (.int .i64 x.seq) := by have := st0.cell rfl _ _ hat0 1 _ rfl; rw [ea 1] at this; exact this
        have f1 := st0.loose (off + i * 3 + 1)
        have st1 : RBuf frE B w0 ((wr.setCell ⟨g, off + i * 3, none⟩ (.int .i64 (K : Int))).setCell ⟨g, off + i * 3 + 1, none⟩ (.int .i64 ((K : Int) + 1))) (.slice (some ⟨g, 0, none⟩) (pre ++ Q).length c0) ((pre ++ Q).set (pre.length + i) ⟨(K : Int), (K : Int) + 1, x.body⟩) := by
          have := st0.stored _ _ ⟨(K : Int), (K : Int) + 1, x.body⟩ hat0 1 (by decide) (.int .i64 ((K : Int) + 1)) rfl
          rw [List.set_set, hl0, ea 1] at this; exact this
        have hg0 : wr.grownBy ((wr.setCell ⟨g, off + i * 3, none⟩ (.int .i64 (K : Int))).setCell ⟨g, off + i * 3 + 1, none⟩ (.int .i64 ((K : Int) + 1))) (some g) := (grownBy_store wr g (off + i * 3) (.int .i64 (K : Int))).trans (grownBy_store _ g (off + i * 3 + 1) (.int .i64 ((K : Int) + 1)))
        have HF : Hid (∀ w1, Below ((wr.setCell ⟨g, off + i * 3, none⟩ (.int .i64 (K : Int))).setCell ⟨g, off + i * 3 + 1, none⟩ (.int .i64 ((K : Int) + 1))).heap.size ((wr.setCell ⟨g, off + i * 3, none⟩ (.int .i64 (K : Int))).setCell ⟨g, off + i * 3 + 1, none⟩ (.int .i64 ((K : Int) + 1))) w1 →
            (∃ t, w1.cell? ⟨g, off + i * 3 + 2, none⟩ = some (.string t)) ∧ w1.frozen? ⟨g, off + i * 3 + 2, none⟩ = false ∧
            RBuf frE B w0 (w1.setCell ⟨g, off + i * 3 + 2, none⟩ (.string (mark (K + 2)))) (.slice (some ⟨g, 0, none⟩) (pre ++ l).length c0) (pre ++ putTo (markF k) l (i + 1)) ∧ w.grownBy (w1.setCell ⟨g, off + i * 3 + 2, none⟩ (.string (mark (K + 2)))) (some g)) := by
          intro w1 hb1
          have st2 := st1.later hb1
          have hat1 : ((pre ++ Q).set (pre.length + i) ⟨(K : Int), (K : Int) + 1, x.body⟩)[pre.length + i]? = some ⟨(K : Int), (K : Int) + 1, x.body⟩ := List.getElem?_set_self hQl
          have hl1 : ((pre ++ Q).set (pre.length + i) ⟨(K : Int), (K : Int) + 1, x.body⟩).length = (pre ++ Q).length := by simp
          rw [← hl1] at st2
          have c2 := st2.cell rfl _ _ hat1 2 _ rfl
          rw [ea 2] at c2
          have st3 := st2.stored _ _ ⟨(K : Int), (K : Int) + 1, mark (K + 2)⟩ hat1 2 (by decide) (.string (mark (K + 2))) rfl
          rw [List.set_set, hl1, ea 2, app_set, ← hpl] at st3
          have e : (⟨(K : Int), (K : Int) + 1, mark (K + 2)⟩ : Fr) = markF k i := by rw [HK.out]; rfl
          rw [e, ← HQ.out, hms.out] at st3
          exact ⟨⟨_, c2⟩, st2.loose _, st3, ((hgr.trans hg0).trans (grownBy_of_below hb1 _)).trans (grownBy_store _ _ _ _)⟩
        clear hbr hat hatP st0 st1 hg0 hgr hat0 hl0 hpl hml hQl
        go_wp2_with (go_at_call 27; refine (markText_at _ (K + 2) _ (by omega) (by omega) (by omega)).mono ?_; rintro e w1 ⟨rfl, hb1⟩; obtain ⟨⟨t, hc1⟩, hf1, hst, hgr⟩ := HF.out w1 hb1)
        go_roundw
        case rel => exact ⟨i + 1, by omega, by go_num, by rw [HK.out]; go_num, hst, hgr⟩
        case measure => simp [intOf]; omega
      · have hfin : Hid (i = l.length) := by show i = l.length; omega
        go_wp2
        go_ret
        refine ⟨?_, ?_, Kept.of_grown hgr (fun k hk => by have := Option.some.inj hk; omega)⟩
        · rw [← hfin.out]; rfl
        · have := hbr
          rw [hfin.out, putTo_all] at this
          have hml : (marksF k l.length).length = l.length := marksF_length _ _
          refine ⟨g, off, cap, c0, pre, by rw [hml], by rw [hml]; exact hcap, fun _ => HO.out, ?_⟩
          have e2 : (pre ++ marksF k l.length).length = (pre ++ l).length := by rw [List.length_append, List.length_append, hml]
          rw [e2]
          exact this

end Go.Proofs.YtmlhpjkijpbinaqDoor

/- The table of sixteen words, where the row lays it. -/
namespace Go.Proofs.YtmlhpjkijpbinaqDoor
open Go.ChangeShapes Go.WideShapes Go.ChangeAt Go.RowKit
open Go.ChangeMaps (open_string shut_string)
set_option linter.unusedVariables false

theorem sumTabData : (Rows.laid_loop_example_g00287_impl_sumTable : DataW Unit) = Lib.tabData .u32 sumTabI := by rfl

theorem sumTab_of_laid {W : World} (h : laidMetH Tryd.prog [("loop.example/g00287/impl.sumTable", Rows.laid_loop_example_g00287_impl_sumTable)] W) : SumTab W := by
  rw [MakeChecks.laidMetH_plain _ _ _ (by kernel_rfl)] at h
  obtain ⟨ps, ⟨g0, t0, cs0, f0, p0, q0, hg0, ht0, hv0, hd0, _, _⟩, _⟩ := h
  have hg : Tryd.prog.globalNamed "loop.example/g00287/impl.sumTable" = some 0 := by kernel_rfl
  have ht : (Tryd.prog.globals[0]?).map (·.type) = some 112 := by kernel_rfl
  obtain rfl := Option.some.inj (hg.symm.trans hg0)
  obtain rfl := Option.some.inj (ht.symm.trans ht0)
  unfold SumTab Lib.TabIs
  rw [sumTabData] at hd0
  rw [hv0, ← Lib.cells_of_tab (P := Tryd.prog) Tryd.underlying112 Tryd.underlying89 (by kernel_rfl) (by kernel_rfl) hd0]

end Go.Proofs.YtmlhpjkijpbinaqDoor
