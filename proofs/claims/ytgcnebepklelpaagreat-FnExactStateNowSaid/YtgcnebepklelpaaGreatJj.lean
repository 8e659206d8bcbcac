/- Texts of our own, joined. -/
import Derived.Test.YtgcnebepklelpaaGreatJa
import Derived.Maps.AppendAt
import Derived.Test.YtgcnebepklelpaaGreatJc
import Derived.Lib.Hide
import Derived.Test.YtgcnebepklelpaaGreatJd
import Derived.Test.YtgcnebepklelpaaGreatJh
/- What a list of numbers is that a call builds in memory of its own, and the laws by which it grows, is read and is written. -/
namespace Go.Proofs.YtgcnebepklelpaaGreat
open Go.RowKit

theorem Tryz.info_int : (Tryz.prog.info? 3).map (fun i => (i.zero, i.size, i.bytes)) = some (some (.int .i64 0), 1, 8) := by kernel_rfl

def intV (l : List Int) : List Value := l.map fun c => .int .i64 c
structure IBuf (B : Nat) (w0 w : World) (v : Value) (l : List Int) : Prop where
  own : w.ownsRow B 3 1 v l.length (intV l)
  bel : Below B w0 w
  le : B ≤ w.heap.size

theorem IBuf.alloc {B : Nat} {w0 w : World} {v : Value} {l : List Int} (h : IBuf B w0 w v l) (o : Obj) : IBuf B w0 (w.alloc o) v l :=
  ⟨h.own.alloc o, h.bel.alloc h.le o, by have := h.le; simp; omega⟩
theorem IBuf.drew {B : Nat} {w0 w : World} {v : Value} {l : List Int} (h : IBuf B w0 w v l) : IBuf B w0 w.drew v l :=
  ⟨h.own.drew, h.bel.drew, h.le⟩
theorem IBuf.fresh (w : World) : IBuf w.heap.size w (w.alloc (.cells #[] 3)) (.slice (some ⟨w.heap.size, 0, none⟩) 0 0) [] :=
  ⟨World.ownsRow_made w #[] 0 (Nat.le_refl _) (by decide) rfl, (Below.refl _ _).alloc (Nat.le_refl _) _, by simp⟩

theorem IBuf.later {B : Nat} {w0 w w' : World} {v : Value} {l : List Int} (h : IBuf B w0 w v l) (hb : Below w.heap.size w w') : IBuf B w0 w' v l := by
  have hg : w.grownBy w' none := ⟨hb.os, hb.tape, hb.output, hb.size, fun k hk _ => hb.block k hk⟩
  refine ⟨h.own.kept hg ?_, h.bel.trans (hb.mono h.le), Nat.le_trans h.le hb.size⟩
  cases hv : v.ownBlock with
  | none => exact .inl rfl
  | some k => exact .inr (by simp)

theorem wpList_append_int {w0 w : World} {ops : Array Oper} {rest : List Oper} {o : Oper} {a : Act} {Q : Exit → Act → World → Prop} (hgd : o.guard = none) (s x : Operand)
    (ho : o.op = .call { callee := .builtin .append, args := #[s, x], argTypes := #[29, 29] })
    (B : Nat) (v : Value) (l : List Int) (hs : a.eval s = v) (hb : IBuf B w0 w v l)
    (ad : Addr) (t : Int) (hx : a.eval x = .slice (some ad) 1 1)
    (hnews : ∀ j u, [Value.int .i64 t][j]? = some u → w.cell? (ad.add j) = some u)
    (hlen : l.length + 1 ≤ 8796093022208)
    (h : ∀ v' w', IBuf B w0 w' v' (l ++ [t]) → wpList Tryz.prog ops Q rest (a.put o.dst v') w') : wpList Tryz.prog ops Q (o :: rest) a w := by
  obtain ⟨i0, hi, hz0, hz1, hz2⟩ := info_parts Tryz.info_int
  refine wpList_append_own _ hgd s x 29 ho B 3 i0 (.int .i64 0) 1 8 Tryz.underlying29 hi hz0 hz1 hz2 rfl (by decide) v l.length (intV l) hs hb.own ad 1 1 [.int .i64 t] hx (by simp) hnews ?_ (by unfold maxLen; omega) (by omega) hb.le ?_
  · intro u hu
    simp at hu
    subst hu
    rfl
  · intro v' w' hown hgrow _
    refine h v' w' ⟨?_, hb.bel.grown hgrow hb.le (fun k hk => (hb.own.lt k hk).1), Nat.le_trans hb.le hgrow.size⟩
    have e1 : (l ++ [t]).length = l.length + 1 := by simp
    have e2 : intV (l ++ [t]) = intV l ++ [.int .i64 t] := by simp [intV]
    rw [e1, e2]
    exact hown

theorem IBuf.form {B : Nat} {w0 w : World} {v : Value} {l : List Int} (h : IBuf B w0 w v l) : ∃ (a : Option Addr) (cap : Nat), v = .slice a l.length cap := by
  rcases h.own.2 with ⟨rfl, h0⟩ | ⟨g, cap, cur, rfl, _⟩
  · exact ⟨none, 0, by rw [h0]⟩
  · exact ⟨_, _, rfl⟩

def Ints (w : World) (v : Value) (l : List Int) : Prop :=
  (l = [] ∧ ∃ (a : Option Addr) (cap : Nat), v = .slice a 0 cap) ∨
  ∃ g cap : Nat, v = .slice (some ⟨g, 0, none⟩) l.length cap ∧ l.length ≤ cap ∧ g < w.heap.size ∧ ∀ j b, l[j]? = some b → w.cell? ⟨g, j, none⟩ = some (.int .i64 b)

theorem IBuf.ints {B : Nat} {w0 w : World} {v : Value} {l : List Int} (h : IBuf B w0 w v l) : Ints w v l := by
  rcases h.own.2 with ⟨rfl, h0⟩ | ⟨g, cap, cur, rfl, hg, hh, hnc, hcp, hcs, htake⟩
  · exact .inl ⟨List.length_eq_zero_iff.1 h0, _, _, rfl⟩
  · refine .inr ⟨g, cap, rfl, hnc, (h.own.lt g rfl).2, fun j b hj => ?_⟩
    have hlt : j < l.length := (List.getElem?_eq_some_iff.1 hj).1
    rw [h.own.cellAt j (by omega)]
    simp [intV, hj]

theorem Ints.later {w w' : World} {v : Value} {l : List Int} (h : Ints w v l) (hb : Below w.heap.size w w') : Ints w' v l := by
  rcases h with h | ⟨g, cap, hv, hc, hg, hcl⟩
  · exact .inl h
  · exact .inr ⟨g, cap, hv, hc, Nat.lt_of_lt_of_le hg hb.size, fun j b hj => (hb.cell (p := ⟨g, j, none⟩) hg).trans (hcl j b hj)⟩

theorem IBuf.stored {B : Nat} {w0 w : World} {g cap : Nat} {l : List Int} (h : IBuf B w0 w (.slice (some ⟨g, 0, none⟩) l.length cap) l) (j : Nat) (t : Int) :
    IBuf B w0 (w.setCell ⟨g, j, none⟩ (.int .i64 t)) (.slice (some ⟨g, 0, none⟩) l.length cap) (l.set j t) := by
  have hst := h.own.stored j (.int .i64 t)
  have e : intV (l.set j t) = (intV l).set j (.int .i64 t) := by simp [intV, List.map_set]
  refine ⟨?_, h.bel.setCell (h.own.lt g rfl).1 _, by have := h.le; simpa using this⟩
  have hl : (l.set j t).length = l.length := by simp
  rw [hl, e]
  exact hst.1

theorem IBuf.under {w0 w1 w : World} {v : Value} {l : List Int} (hb : Below w0.heap.size w0 w1) (h : IBuf w1.heap.size w1 w v l) : IBuf w0.heap.size w0 w v l := by
  refine ⟨⟨h.own.1, ?_⟩, hb.trans (h.bel.mono hb.size), Nat.le_trans hb.size h.le⟩
  rcases h.own.2 with h1 | ⟨g, cap, cur, h1, h2, h3⟩
  · exact .inl h1
  · exact .inr ⟨g, cap, cur, h1, Nat.le_trans hb.size h2, h3⟩

end Go.Proofs.YtgcnebepklelpaaGreat

/- What records tell: the model's numbers in their order. -/
namespace Go.Proofs.YtgcnebepklelpaaGreat
open Go.RowKit

theorem filt_yes {p : Int → Bool} {l : List Int} {i : Nat} {b : Int} (h : l[i]? = some b) (hp : p b = true) : (l.take (i + 1)).filter p = (l.take i).filter p ++ [b] := by
  rw [List.take_add_one, h, List.filter_append]
  simp [hp]
theorem filt_no {p : Int → Bool} {l : List Int} {i : Nat} {b : Int} (h : l[i]? = some b) (hp : p b = false) : (l.take (i + 1)).filter p = (l.take i).filter p := by
  rw [List.take_add_one, h, List.filter_append]
  simp [hp]
theorem filt_len (p : Int → Bool) (l : List Int) (i : Nat) : ((l.take i).filter p).length ≤ l.length :=
  Nat.le_trans (List.length_filter_le _ _) (List.length_take_le' _ _)
theorem one_intS (w : World) (t : Int) : ∀ j u, [Value.int .i64 t][j]? = some u → (w.alloc (.cells #[.int .i64 t] 3)).cell? ((⟨w.heap.size, 0, none⟩ : Addr).add j) = some u := by
  intro j u hj
  have : j = 0 := by have := (List.getElem?_eq_some_iff.1 hj).1; simp at this; exact this
  subst this
  simp at hj
  subst hj
  simp [Addr.add]

set_option maxRecDepth 100000 in
set_option maxHeartbeats 2000000 in
theorem specSorted_any (l : List Int) (v : Value) (x : Int) (w : World) (h : Ints w v l) (hl : l.length ≤ 1000000) :
    Calls Tryz.prog 32 #[v, .int .i64 x] w fun e w' => ∃ v', e = .returned v' ∧ IBuf w.heap.size w w' v' (insI l x) := by
  obtain ⟨ad, cap, rfl, hrow⟩ : ∃ (ad : Option Addr) (cap : Nat), v = .slice ad l.length cap ∧ ∀ X, Below w.heap.size w X → ∀ i b, l[i]? = some b → ∃ g, ad = some ⟨g, 0, none⟩ ∧ X.cell? ⟨g, i, none⟩ = some (.int .i64 b) := by
    rcases h with ⟨rfl, a, c, rfl⟩ | ⟨g, c, rfl, hc, hg, hcl⟩
    · exact ⟨a, c, rfl, fun X _ i x hi => by cases hi⟩
    · exact ⟨_, c, rfl, fun X hb i b hi => ⟨g, rfl, (hb.cell (p := ⟨g, i, none⟩) hg).trans (hcl i b hi)⟩⟩
  have HR := Lib.hid hrow
  clear h hrow
  have hst := IBuf.fresh w
  go_enter Tryz.func32, Tryz.ntmps32
  go_wp2
  go_loopw [5, 6] (fun ov iv wr => ∃ i : Nat, i ≤ l.length ∧ iv = .int .i64 (i : Int) ∧ IBuf w.heap.size w wr ov ((l.take i).filter (fun y => decide (y < x)))) (fun _ iv _ => l.length - (intOf iv).toNat)
  case atStart => exact ⟨0, by omega, rfl, hst⟩
  case round =>
    clear hst
    obtain ⟨i, hi, rfl, hb⟩ := hrel
    have hfl := filt_len (fun y => decide (y < x)) l i
    obtain ⟨oa, oc, rfl⟩ := hb.form
    by_cases hlt : i < l.length
    · have hgx : l[i]? = some l[i] := List.getElem?_eq_getElem hlt
      obtain ⟨g, rfl, c0⟩ := HR.out _ hb.bel i _ hgx
      generalize l[i] = b at *
      have hi0 : (0 : Int) ≤ (i : Int) := by omega
      have hi1 : (i : Int) < (l.length : Int) := by omega
      by_cases hbx : b < x
      · have HE := Lib.hid (filt_yes (p := fun y => decide (y < x)) hgx (decide_eq_true hbx))
        clear hgx
        generalize (l.take i).filter (fun y => decide (y < x)) = L at *
        have HB := Lib.hid hb
        clear hb
        go_wp2_with (at_builtin; refine wpList_append_int rfl _ _ rfl _ _ L rfl (HB.out.alloc _) ⟨wr.heap.size, 0, none⟩ b rfl ?c1 ?c2 ?_)
        case c1 => exact one_intS _ _
        case c2 => omega
        intro v' w4 hb4
        have HB4 := Lib.hid hb4
        clear hb4 c0
        go_wp2
        exact ⟨⟨i + 1, by omega, by simp, by rw [HE.out]; exact HB4.out⟩, by first | omega | (simp [intOf]; omega)⟩
      · have HE := Lib.hid (filt_no (p := fun y => decide (y < x)) hgx (decide_eq_false hbx))
        clear hgx
        generalize (l.take i).filter (fun y => decide (y < x)) = L at *
        have HB := Lib.hid hb
        clear hb
        go_wp2
        exact ⟨⟨i + 1, by omega, by simp, by rw [HE.out]; exact HB.out⟩, by first | omega | (simp [intOf]; omega)⟩
    · have hie : i = l.length := by omega
      subst hie
      rw [List.take_length] at hb hfl ⊢
      have HF : Hid (l.filter (fun y => decide (y < x)) ++ (x :: l.filter (fun y => decide (x < y))) = insI l x) := rfl
      generalize l.filter (fun y => decide (y < x)) = L at *
      have HB := Lib.hid hb
      clear hb
      go_wp2_with (at_builtin; refine wpList_append_int rfl _ _ rfl _ _ L rfl (HB.out.alloc _) ⟨wr.heap.size, 0, none⟩ x rfl ?c1 ?c2 ?_)
      case c1 => exact one_intS _ _
      case c2 => omega
      intro v' w4 hb4
      have HB4 := Lib.hid hb4
      clear HB hb4
      go_wp2
      go_loopw [5, 7] (fun ov iv wr => ∃ i : Nat, i ≤ l.length ∧ iv = .int .i64 (i : Int) ∧ IBuf w.heap.size w wr ov (L ++ [x] ++ (l.take i).filter (fun y => decide (x < y)))) (fun _ iv _ => l.length - (intOf iv).toNat)
      case atStart => exact ⟨0, by omega, rfl, by simpa using HB4.out⟩
      case round =>
        clear HB4
        obtain ⟨i, hi, rfl, hb⟩ := hrel
        have hfl2 := filt_len (fun y => decide (x < y)) l i
        by_cases hlt : i < l.length
        · have hgx : l[i]? = some l[i] := List.getElem?_eq_getElem hlt
          obtain ⟨g, rfl, c0⟩ := HR.out _ hb.bel i _ hgx
          generalize l[i] = b at *
          have hi0 : (0 : Int) ≤ (i : Int) := by omega
          have hi1 : (i : Int) < (l.length : Int) := by omega
          by_cases hbx : x < b
          · have HE := Lib.hid (filt_yes (p := fun y => decide (x < y)) hgx (decide_eq_true hbx))
            clear hgx
            generalize (l.take i).filter (fun y => decide (x < y)) = M at *
            have hml : (L ++ [x] ++ M).length ≤ 2000001 := by simp; omega
            have HB := Lib.hid hb
            clear hb
            generalize hK : L ++ [x] ++ M = K at *
            go_wp2_with (at_builtin; refine wpList_append_int rfl _ _ rfl _ _ K rfl (HB.out.alloc _) ⟨wr.heap.size, 0, none⟩ b rfl ?c1 ?c2 ?_)
            case c1 => exact one_intS _ _
            case c2 => omega
            intro v' w5 hb5
            have HB5 := Lib.hid hb5
            clear hb5 c0
            go_wp2
            exact ⟨⟨i + 1, by omega, by simp, by rw [HE.out, ← List.append_assoc, hK]; exact HB5.out⟩, by first | omega | (simp [intOf]; omega)⟩
          · have HE := Lib.hid (filt_no (p := fun y => decide (x < y)) hgx (decide_eq_false hbx))
            clear hgx
            generalize (l.take i).filter (fun y => decide (x < y)) = M at *
            have HB := Lib.hid hb
            clear hb
            go_wp2
            exact ⟨⟨i + 1, by omega, by simp, by rw [HE.out]; exact HB.out⟩, by first | omega | (simp [intOf]; omega)⟩
        · have hie : i = l.length := by omega
          subst hie
          rw [List.take_length] at hb
          have HB := Lib.hid hb
          clear hb
          go_wp2
          go_ret
          have e : L ++ [x] ++ l.filter (fun y => decide (x < y)) = insI l x := by rw [← HF.out]; simp
          have hb' := HB.out
          rw [e] at hb'
          exact ⟨_, rfl, hb'⟩

end Go.Proofs.YtgcnebepklelpaaGreat

/- What records tell: the model's mails of a box. -/
namespace Go.Proofs.YtgcnebepklelpaaGreat
open Go.RowKit

theorem uidK_yes {valid : Int} {l : List Itm} {x : Itm} (h1 : x.2.kind = 3) (h2 : x.2.valid = valid) (h3 : bestR 5 valid x.2.uid l = none) : uidK valid l x = some x.2.uid := if_pos ⟨h1, h2, h3⟩
theorem uidK_no {valid : Int} {l : List Itm} {x : Itm} (h : ¬ (x.2.kind = 3 ∧ x.2.valid = valid ∧ bestR 5 valid x.2.uid l = none)) : uidK valid l x = none := if_neg h
theorem up_yes {f : Itm → Option Int} {l : List Itm} {i : Nat} {x : Itm} {us : List Int} {n : Int} (hst : upOf f (l.take (i + 1)) = match f x with | some n => insI us n | none => us) (h : f x = some n) : upOf f (l.take (i + 1)) = insI us n := by rw [hst, h]
theorem up_no {f : Itm → Option Int} {l : List Itm} {i : Nat} {x : Itm} {us : List Int} (hst : upOf f (l.take (i + 1)) = match f x with | some n => insI us n | none => us) (h : f x = none) : upOf f (l.take (i + 1)) = us := by rw [hst, h]
theorem mailK_own {valid u : Int} {l : List Itm} (h : bestR 4 valid u l = none) : mailK valid l u = ⟨u, (bestX (bestR 3 valid u l)).2.flags, (bestX (bestR 3 valid u l)).2.text⟩ := by
  unfold mailK; rw [h]
  cases bestR 3 valid u l <;> rfl
theorem mailK_flag {valid u : Int} {l : List Itm} {y : Itm} (h : bestR 4 valid u l = some y) : mailK valid l u = ⟨u, y.2.flags, (bestX (bestR 3 valid u l)).2.text⟩ := by
  unfold mailK; rw [h]
  cases bestR 3 valid u l <;> rfl

set_option maxRecDepth 100000 in
set_option maxHeartbeats 4000000 in
theorem specMails_any (l : List Itm) (v : Value) (valid : Int) (w : World) (h : Rows' itE w v l) (hl : l.length ≤ 1000) :
    Calls Tryz.prog 35 #[v, .int .i64 valid] w fun e w' => ∃ v', e = .returned v' ∧ RBuf mlE w.heap.size w w' v' (mailsOf valid l) := by
  obtain ⟨ad, cap, rfl, hrow⟩ := h.items
  have HR := Lib.hid hrow
  have HW : Hid (∀ X, Below w.heap.size w X → Rows' itE X (.slice ad l.length cap) l) := fun X hb => h.later hb
  clear h hrow
  have I0 := IBuf.fresh w
  have HU : Hid (∀ i, (upOf (uidK valid l) (l.take i)).length ≤ 1000 ∨ l.length < i) := fun i => by
    by_cases c : i ≤ l.length
    · have := upOf_len (uidK valid l) l i; exact .inl (by omega)
    · exact .inr (by omega)
  go_enter Tryz.func35, Tryz.ntmps35
  go_wp2
  go_loopw [5, 6] (fun uv iv wr => ∃ i : Nat, i ≤ l.length ∧ iv = .int .i64 (i : Int) ∧ IBuf w.heap.size w wr uv (upOf (uidK valid l) (l.take i))) (fun _ iv _ => l.length - (intOf iv).toNat)
  case atStart => exact ⟨0, by omega, rfl, I0⟩
  case round =>
    clear I0
    obtain ⟨i, hi, rfl, I⟩ := hrel
    by_cases hlt : i < l.length
    · have hgx : l[i]? = some l[i] := List.getElem?_eq_getElem hlt
      have hst := upOf_take (f := uidK valid l) hgx
      obtain ⟨ga, oa, rfl, a0, a1, a2, a3, a4, a5, a6, a7, a8⟩ := HR.out _ I.bel i _ hgx
      generalize l[i] = x at *
      obtain ⟨sq, K, V, U, N, FL, US, NM, TX⟩ := x
      simp only at a0 a1 a2 a3 a4 a5 a6 a7 a8
      have hlu : (upOf (uidK valid l) (l.take i)).length ≤ 1000 := by rcases HU.out i with c | c; exact c; omega
      generalize upOf (uidK valid l) (l.take i) = us at *
      have HST := Lib.hid hst
      have hi0 : (0 : Int) ≤ (i : Int) := by omega
      have hi1 : (i : Int) < (l.length : Int) := by omega
      clear hst hgx
      have J1 := I.alloc (.cells #[.int .i64 K, .int .i64 V, .int .i64 U, .int .i64 N, .int .i64 FL, .string US, .string NM, .string TX] 67)
      have X1 := Box.new wr #[.int .i64 K, .int .i64 V, .int .i64 U, .int .i64 N, .int .i64 FL, .string US, .string NM, .string TX] 67
      obtain ⟨o, ho⟩ : ∃ o, bestR 5 valid U l = o := ⟨_, rfl⟩
      have HO := Lib.hid ho
      obtain ⟨z0, z1, z2, z3, z4, z5, z6, z7, _⟩ := X1.eight
      clear I
      go_wp2_with fail
      clear a0 a1 a2 a3 a4 a5 a6 a7 a8 z0 z1 z2 z3 z4 z5 z6 z7
      generalize wr.alloc (.cells #[.int .i64 K, .int .i64 V, .int .i64 U, .int .i64 N, .int .i64 FL, .string US, .string NM, .string TX] 67) = w1 at J1 X1 ⊢
      generalize wr.heap.size = g7 at X1 ⊢
      refine (specBest_any l _ 5 valid U _ (HW.out _ J1.bel) (by omega)).mono ?_
      rintro e w2 ⟨rfl, k2⟩
      rw [bestT_eq, ho]
      unfold itV
      have J2 := (J1.later k2).alloc (.cells #[.int .i64 (bestX o).1, .int .i64 (bestX o).2.kind, .int .i64 (bestX o).2.valid, .int .i64 (bestX o).2.uid, .int .i64 (bestX o).2.next, .int .i64 (bestX o).2.flags, .string (bestX o).2.user, .string (bestX o).2.name, .string (bestX o).2.text] 69)
      have X2 := (X1.later k2).later (belNew w2 (.cells #[.int .i64 (bestX o).1, .int .i64 (bestX o).2.kind, .int .i64 (bestX o).2.valid, .int .i64 (bestX o).2.uid, .int .i64 (bestX o).2.next, .int .i64 (bestX o).2.flags, .string (bestX o).2.user, .string (bestX o).2.name, .string (bestX o).2.text] 69))
      clear J1 X1 k2 ho
      go_upto_region 7 with fail
      generalize w2.alloc (.cells #[.int .i64 (bestX o).1, .int .i64 (bestX o).2.kind, .int .i64 (bestX o).2.valid, .int .i64 (bestX o).2.uid, .int .i64 (bestX o).2.next, .int .i64 (bestX o).2.flags, .string (bestX o).2.user, .string (bestX o).2.name, .string (bestX o).2.text] 69) = w3 at J2 X2 ⊢
      generalize w2.heap.size = g8
      obtain ⟨z0, z1, z2, z3, z4, z5, z6, z7, _⟩ := X2.eight
      by_cases hK : K = 3
      · subst hK
        by_cases hV : V = valid
        · subst hV
          cases o with
          | none =>
            have HE : Hid (upOf (uidK V l) (l.take (i + 1)) = insI us U) := up_yes HST.out (uidK_yes (x := (sq, ⟨3, V, U, N, FL, US, NM, TX⟩)) rfl rfl HO.out)
            have hn : (none : Option Itm).isSome = false := rfl
            go_wp2_with fail
            refine (specSorted_any us _ U _ J2.ints (by omega)).mono ?_
            rintro e w4 ⟨v4, rfl, J4⟩
            have J5 := IBuf.under J2.bel J4
            clear J4 J2 X2 z0 z1 z2 z3 z4 z5 z6 z7
            go_wp2
            exact ⟨⟨i + 1, by omega, by simp, by rw [HE.out]; exact J5⟩, by first | omega | (simp [intOf]; omega)⟩
          | some y =>
            have HE : Hid (upOf (uidK V l) (l.take (i + 1)) = us) := up_no HST.out (uidK_no (x := (sq, ⟨3, V, U, N, FL, US, NM, TX⟩)) (fun c => by have := c.2.2; simp only at this; rw [HO.out] at this; cases this))
            have hn : (some y : Option Itm).isSome = true := rfl
            clear X2
            go_wp2
            exact ⟨⟨i + 1, by omega, by simp, by rw [HE.out]; exact J2⟩, by first | omega | (simp [intOf]; omega)⟩
        · have HE : Hid (upOf (uidK valid l) (l.take (i + 1)) = us) := up_no HST.out (uidK_no (x := (sq, ⟨3, V, U, N, FL, US, NM, TX⟩)) (fun c => hV c.2.1))
          have hV2 : (V == valid) = false := beq_eq_false_iff_ne.2 hV
          clear X2
          go_wp2
          exact ⟨⟨i + 1, by omega, by simp, by rw [HE.out]; exact J2⟩, by first | omega | (simp [intOf]; omega)⟩
      · have HE : Hid (upOf (uidK valid l) (l.take (i + 1)) = us) := up_no HST.out (uidK_no (x := (sq, ⟨K, V, U, N, FL, US, NM, TX⟩)) (fun c => hK c.1))
        have hK2 : (K == 3) = false := beq_eq_false_iff_ne.2 hK
        clear X2
        go_wp2
        exact ⟨⟨i + 1, by omega, by simp, by rw [HE.out]; exact J2⟩, by first | omega | (simp [intOf]; omega)⟩
    · have hge : ¬ (i : Int) < (l.length : Int) := by omega
      have hil : i = l.length := by omega
      have hlu : (upOf (uidK valid l) (l.take i)).length ≤ 1000 := by rcases HU.out i with c | c; exact c; omega
      have HM : Hid (mailsOf valid l = (upOf (uidK valid l) (l.take i)).map (mailK valid l)) := by
        show mailsOf valid l = _
        rw [hil, List.take_length]; rfl
      generalize upOf (uidK valid l) (l.take i) = us at *
      clear hil HU hi
      obtain ⟨wa, hwa⟩ : ∃ wa, wa = wr := ⟨_, rfl⟩
      subst hwa
      have hbw := I.bel
      have hiu := I.ints
      obtain ⟨ua, uc, rfl, hur⟩ : ∃ (ua : Option Addr) (uc : Nat), u5 = .slice ua us.length uc ∧ ∀ X, Below wa.heap.size wa X → ∀ j b, us[j]? = some b → ∃ g, ua = some ⟨g, 0, none⟩ ∧ g < wa.heap.size ∧ X.cell? ⟨g, j, none⟩ = some (.int .i64 b) := by
        rcases hiu with ⟨rfl, a, c, rfl⟩ | ⟨g, c, rfl, hc, hg, hcl⟩
        · exact ⟨a, c, rfl, fun X _ i x hi => by cases hi⟩
        · exact ⟨_, c, rfl, fun X hb i b hi => ⟨g, rfl, hg, (hb.cell (p := ⟨g, i, none⟩) hg).trans (hcl i b hi)⟩⟩
      have HUR := Lib.hid hur
      have R0 := RBuf.fresh mlE wa
      clear hur hiu I
      go_wp2
      clear hge
      go_loopw [10, 11] (fun ov iv wr => ∃ j : Nat, j ≤ us.length ∧ iv = .int .i64 (j : Int) ∧ RBuf mlE wa.heap.size wa wr ov ((us.take j).map (mailK valid l))) (fun _ iv _ => us.length - (intOf iv).toNat)
      case atStart => exact ⟨0, by omega, rfl, R0⟩
      case round =>
        clear R0
        obtain ⟨j, hj, rfl, I⟩ := hrel
        by_cases hlj : j < us.length
        · have hgu : us[j]? = some us[j] := List.getElem?_eq_getElem hlj
          have htk : (us.take (j + 1)).map (mailK valid l) = (us.take j).map (mailK valid l) ++ [mailK valid l us[j]] := by
            rw [List.take_add_one, hgu, List.map_append]; rfl
          have hur := HUR.out
          obtain ⟨ug, rfl, hug, c0⟩ := hur _ I.bel j _ hgu
          have HCU : Hid (∀ X, Below wa.heap.size wa X → X.cell? ⟨ug, j, none⟩ = some (.int .i64 us[j])) := fun X hb => by
            obtain ⟨g2, e2, _, c2⟩ := HUR.out X hb j _ hgu
            cases e2
            exact c2
          generalize us[j] = u at *
          clear hur hgu
          have hj0 : (0 : Int) ≤ (j : Int) := by omega
          have hj1 : (j : Int) < (us.length : Int) := by omega
          obtain ⟨o3, ho3⟩ : ∃ o, bestR 3 valid u l = o := ⟨_, rfl⟩
          obtain ⟨o4, ho4⟩ : ∃ o, bestR 4 valid u l = o := ⟨_, rfl⟩
          have HO4 := Lib.hid ho4
          have HO3 := Lib.hid ho3
          have HTK := Lib.hid htk
          clear htk
          go_wp2_with fail
          clear c0
          refine (specBest_any l _ 3 valid u _ (HW.out _ (hbw.trans (I.bel.mono hbw.size))) (by omega)).mono ?_
          rintro e w1 ⟨rfl, k1⟩
          rw [bestT_eq, ho3]
          unfold itV
          have I2 := (I.later k1).alloc (.cells #[.int .i64 (bestX o3).1, .int .i64 (bestX o3).2.kind, .int .i64 (bestX o3).2.valid, .int .i64 (bestX o3).2.uid, .int .i64 (bestX o3).2.next, .int .i64 (bestX o3).2.flags, .string (bestX o3).2.user, .string (bestX o3).2.name, .string (bestX o3).2.text] 69)
          have X2 := Box.new w1 #[.int .i64 (bestX o3).1, .int .i64 (bestX o3).2.kind, .int .i64 (bestX o3).2.valid, .int .i64 (bestX o3).2.uid, .int .i64 (bestX o3).2.next, .int .i64 (bestX o3).2.flags, .string (bestX o3).2.user, .string (bestX o3).2.name, .string (bestX o3).2.text] 69
          clear I k1
          go_upto_region 14 with fail
          generalize w1.alloc (.cells #[.int .i64 (bestX o3).1, .int .i64 (bestX o3).2.kind, .int .i64 (bestX o3).2.valid, .int .i64 (bestX o3).2.uid, .int .i64 (bestX o3).2.next, .int .i64 (bestX o3).2.flags, .string (bestX o3).2.user, .string (bestX o3).2.name, .string (bestX o3).2.text] 69) = w2 at I2 X2 ⊢
          generalize w1.heap.size = gi at X2 ⊢
          obtain ⟨y3, hy3⟩ : ∃ y3, bestX o3 = y3 := ⟨_, rfl⟩
          rw [hy3] at X2 ⊢
          have HY3 := Lib.hid hy3
          clear hy3
          have c0 := HCU.out _ I2.bel
          obtain ⟨p0, p1, p2, p3, p4, p5, p6, p7, p8, _⟩ := X2.nine
          have c0 : w2.drew.cell? ⟨ug, j, none⟩ = some (.int .i64 u) := HCU.out _ (I2.bel.trans ((Below.refl w2.heap.size w2).drew.mono I2.le))
          have p5 : w2.drew.cell? ⟨gi, 5, none⟩ = some (.int .i64 y3.2.flags) := p5
          have p8 : w2.drew.cell? ⟨gi, 8, none⟩ = some (.string y3.2.text) := p8
          have n1 := World.new_ne _ _ c0
          have n2 := World.new_ne _ _ p5
          go_region_held3 (fun X => X.cell? ⟨ug, j, none⟩ = some (.int .i64 u) ∧ X.cell? ⟨gi, 5, none⟩ = some (.int .i64 y3.2.flags) ∧ X.cell? ⟨gi, 8, none⟩ = some (.string y3.2.text)) (go_keep) (fail)
          rename_i hHeld
          clear hHeld p0 p1 p2 p3 p4 p5 p6 p7 p8 n1 n2 c0
          have I3 := (I2.alloc (.cells #[.int .i64 u, .int .i64 y3.2.flags, .string y3.2.text] 110)).drew
          have X3 : Box (w2.alloc (.cells #[.int .i64 u, .int .i64 y3.2.flags, .string y3.2.text] 110)).drew w2.heap.size #[.int .i64 u, .int .i64 y3.2.flags, .string y3.2.text] 110 := Box.new w2 #[.int .i64 u, .int .i64 y3.2.flags, .string y3.2.text] 110
          have HLE : Hid (wa.heap.size ≤ w2.heap.size ∧ (u10.ownBlock = none ∨ u10.ownBlock ≠ some w2.heap.size)) := ⟨I2.le, by
            cases hv : u10.ownBlock with
            | none => exact .inl rfl
            | some k => exact .inr (fun e => by cases e; have := (I2.own.lt _ hv).2; omega)⟩
          clear I2 X2
          generalize (w2.alloc (.cells #[.int .i64 u, .int .i64 y3.2.flags, .string y3.2.text] 110)).drew = w3 at I3 X3 ⊢
          have HGB : Hid (wa.heap.size ≤ w2.heap.size) := Nat.le_trans HLE.out.1 (Nat.le_refl _)
          have HNB : Hid (u10.ownBlock = none ∨ u10.ownBlock ≠ some w2.heap.size) := HLE.out.2
          generalize w2.heap.size = gm at X3 HGB HNB ⊢
          have c0 := HCU.out _ I3.bel
          go_wp2_with fail
          clear c0
          refine (specBest_any l _ 4 valid u _ (HW.out _ (hbw.trans (I3.bel.mono hbw.size))) (by omega)).mono ?_
          rintro e w4 ⟨rfl, k4⟩
          rw [bestT_eq, ho4]
          unfold itV
          have I5 := (I3.later k4).alloc (.cells #[.int .i64 (bestX o4).1, .int .i64 (bestX o4).2.kind, .int .i64 (bestX o4).2.valid, .int .i64 (bestX o4).2.uid, .int .i64 (bestX o4).2.next, .int .i64 (bestX o4).2.flags, .string (bestX o4).2.user, .string (bestX o4).2.name, .string (bestX o4).2.text] 69)
          have X5 := Box.new w4 #[.int .i64 (bestX o4).1, .int .i64 (bestX o4).2.kind, .int .i64 (bestX o4).2.valid, .int .i64 (bestX o4).2.uid, .int .i64 (bestX o4).2.next, .int .i64 (bestX o4).2.flags, .string (bestX o4).2.user, .string (bestX o4).2.name, .string (bestX o4).2.text] 69
          have Y5 := (X3.later k4).later (belNew w4 (.cells #[.int .i64 (bestX o4).1, .int .i64 (bestX o4).2.kind, .int .i64 (bestX o4).2.valid, .int .i64 (bestX o4).2.uid, .int .i64 (bestX o4).2.next, .int .i64 (bestX o4).2.flags, .string (bestX o4).2.user, .string (bestX o4).2.name, .string (bestX o4).2.text] 69))
          have hne5 : gm ≠ w4.heap.size := by have := (X3.later k4).lt; omega
          clear I3 X3 k4
          go_upto_region 16 with fail
          generalize w4.alloc (.cells #[.int .i64 (bestX o4).1, .int .i64 (bestX o4).2.kind, .int .i64 (bestX o4).2.valid, .int .i64 (bestX o4).2.uid, .int .i64 (bestX o4).2.next, .int .i64 (bestX o4).2.flags, .string (bestX o4).2.user, .string (bestX o4).2.name, .string (bestX o4).2.text] 69) = w5 at I5 X5 Y5 ⊢
          generalize w4.heap.size = gj at X5 hne5 ⊢
          cases o4 with
          | none =>
            have HE : Hid (mailK valid l u = ⟨u, y3.2.flags, y3.2.text⟩) := by rw [← HY3.out, ← HO3.out]; exact mailK_own HO4.out
            have hn : (none : Option Itm).isSome = false := rfl
            obtain ⟨m0, m1, m2, _, _, _⟩ := Y5.three
            clear X5 Y5
            have R6 := (I5.alloc (.cells #[.int .i64 u, .int .i64 y3.2.flags, .string y3.2.text] 110)).here
            have L6 := RBuf.lit1 mlE w5 ⟨u, y3.2.flags, y3.2.text⟩
            have HR6 := Lib.hid R6
            have HL6 := Lib.hid L6
            have HI5 := Lib.hid (I5.alloc (.cells #[.int .i64 u, .int .i64 y3.2.flags, .string y3.2.text] 110))
            have hll : ((us.take j).map (mailK valid l)).length ≤ 1000 := by simp; omega
            clear R6 L6 I5
            go_wp2_with (at_builtin; refine wpList_append_rows rfl _ _ mlE rfl wa.heap.size _ _ rfl HR6.out w5.heap.size _ [⟨u, y3.2.flags, y3.2.text⟩] rfl HL6.out (by show _ * 33 ≤ _; simp only [List.length_cons, List.length_nil]; omega) ?_; intro v6 w6 r6 g6 at6)
            exact ⟨⟨j + 1, by omega, by simp, by rw [HTK.out, HE.out]; exact ⟨r6.own, HI5.out.bel.grown g6 HI5.out.le (fun k hk => (HI5.out.own.lt k hk).1), r6.le⟩⟩, by first | omega | (simp [intOf]; omega)⟩
          | some y4 =>
            have HE : Hid (mailK valid l u = ⟨u, y4.2.flags, y3.2.text⟩) := by rw [← HY3.out, ← HO3.out]; exact mailK_flag HO4.out
            have hn : (some y4 : Option Itm).isSome = true := rfl
            have hbx : bestX (some y4) = y4 := rfl
            rw [hbx] at X5
            obtain ⟨q0, q1, q2, q3, q4, q5, q6, q7, q8, _⟩ := X5.nine
            obtain ⟨m0, m1, m2, mf0, mf1, mf2⟩ := Y5.three
            have Z5 : Box (w5.setCell ⟨gm, 1, none⟩ (.int .i64 y4.2.flags)) gm #[.int .i64 u, .int .i64 y4.2.flags, .string y3.2.text] 110 := Y5.set 1 _
            have hgB : wa.heap.size ≤ gm := HGB.out
            have J5 : RBuf mlE wa.heap.size wa (w5.setCell ⟨gm, 1, none⟩ (.int .i64 y4.2.flags)) u10 ((us.take j).map (mailK valid l)) := I5.grown (stored_grown w5 gm 1 _) (HNB.out) (fun k hk => by cases hk; exact hgB)
            go_upto_region 18 with fail
            clear X5 Y5 q0 q1 q2 q3 q4 q5 q6 q7 q8 m0 m1 m2 mf0 mf1 mf2 I5
            generalize w5.setCell ⟨gm, 1, none⟩ (.int .i64 y4.2.flags) = w7 at J5 Z5 ⊢
            have I5 := J5
            clear J5
            obtain ⟨m0, m1, m2, _, _, _⟩ := Z5.three
            clear Z5
            have R6 := (I5.alloc (.cells #[.int .i64 u, .int .i64 y4.2.flags, .string y3.2.text] 110)).here
            have L6 := RBuf.lit1 mlE w7 ⟨u, y4.2.flags, y3.2.text⟩
            have HR6 := Lib.hid R6
            have HL6 := Lib.hid L6
            have HI5 := Lib.hid (I5.alloc (.cells #[.int .i64 u, .int .i64 y4.2.flags, .string y3.2.text] 110))
            have hll : ((us.take j).map (mailK valid l)).length ≤ 1000 := by simp; omega
            clear R6 L6 I5
            go_wp2_with (at_builtin; refine wpList_append_rows rfl _ _ mlE rfl wa.heap.size _ _ rfl HR6.out w7.heap.size _ [⟨u, y4.2.flags, y3.2.text⟩] rfl HL6.out (by show _ * 33 ≤ _; simp only [List.length_cons, List.length_nil]; omega) ?_; intro v6 w6 r6 g6 at6)
            exact ⟨⟨j + 1, by omega, by simp, by rw [HTK.out, HE.out]; exact ⟨r6.own, HI5.out.bel.grown g6 HI5.out.le (fun k hk => (HI5.out.own.lt k hk).1), r6.le⟩⟩, by first | omega | (simp [intOf]; omega)⟩
        · have hge : ¬ (j : Int) < (us.length : Int) := by omega
          have hjl : j = us.length := by omega
          rw [hjl, List.take_length, ← HM.out] at I
          have HI := Lib.hid (I.down (hbw.trans (I.bel.mono hbw.size)) hbw.size)
          clear I
          go_wp2
          go_ret
          exact ⟨_, rfl, HI.out⟩

end Go.Proofs.YtgcnebepklelpaaGreat

/- What records tell: the model's choice of what tells a box. -/
namespace Go.Proofs.YtgcnebepklelpaaGreat
open Go.RowKit

theorem tell_yes {p : Itm → Bool} {o : Option Itm} {x : Itm} (h : p x = true) (h2 : o = none ∨ (bestX o).2.next < x.2.next ∨ (x.2.next = (bestX o).2.next ∧ (bestX o).1 < x.1)) : bestStep (fun x => x.2.next) p o x = some x := by
  unfold bestStep; rw [if_pos h]
  cases o with
  | none => rfl
  | some y =>
    have : y.2.next < x.2.next ∨ (x.2.next = y.2.next ∧ y.1 < x.1) := by rcases h2 with h2 | h2; cases h2; exact h2
    exact if_pos (decide_eq_true this)
theorem tell_old {p : Itm → Bool} {o : Option Itm} {x : Itm} (h : p x = true) (h1 : o ≠ none) (h2 : ¬ ((bestX o).2.next < x.2.next ∨ (x.2.next = (bestX o).2.next ∧ (bestX o).1 < x.1))) : bestStep (fun x => x.2.next) p o x = o := by
  unfold bestStep; rw [if_pos h]
  cases o with
  | none => exact absurd rfl h1
  | some y => exact if_neg (fun c => h2 (of_decide_eq_true c))
theorem best_zero {k : Itm → Int} {p : Itm → Bool} {l : List Itm} {i : Nat} (hpos : ∀ x ∈ l, x.1 ≠ 0) (h : (bestX (bestO k p (l.take i))).1 = 0) : bestO k p (l.take i) = none := by
  have hI := bestO_I k p (l.take i)
  cases ho : bestO k p (l.take i) with
  | none => rfl
  | some y =>
    rw [ho] at hI h
    exact absurd h (hpos y (List.mem_of_mem_take hI.1))

set_option maxRecDepth 100000 in
set_option maxHeartbeats 2000000 in
theorem specTell_any (l : List Itm) (v : Value) (valid : Int) (w : World) (h : Rows' itE w v l) (hl : l.length ≤ 1099511627776) (hpos : ∀ x ∈ l, x.1 ≠ 0) :
    Calls Tryz.prog 33 #[v, .int .i64 valid] w fun e w' => e = .returned (itV (bestX (tellO valid l)).1 (bestX (tellO valid l)).2) ∧ Below w.heap.size w w' := by
  obtain ⟨ad, cap, rfl, hrow⟩ : ∃ (ad : Option Addr) (cap : Nat), v = .slice ad l.length cap ∧ ∀ X, Below w.heap.size w X → ∀ i x, l[i]? = some x → ∃ g off, ad = some ⟨g, off, none⟩ ∧ X.cell? ⟨g, off + i * 9, none⟩ = some (.int .i64 x.1) ∧ X.cell? ⟨g, off + i * 9 + 1, none⟩ = some (.int .i64 x.2.kind) ∧ X.cell? ⟨g, off + i * 9 + 2, none⟩ = some (.int .i64 x.2.valid) ∧ X.cell? ⟨g, off + i * 9 + 3, none⟩ = some (.int .i64 x.2.uid) ∧ X.cell? ⟨g, off + i * 9 + 4, none⟩ = some (.int .i64 x.2.next) ∧ X.cell? ⟨g, off + i * 9 + 5, none⟩ = some (.int .i64 x.2.flags) ∧ X.cell? ⟨g, off + i * 9 + 6, none⟩ = some (.string x.2.user) ∧ X.cell? ⟨g, off + i * 9 + 7, none⟩ = some (.string x.2.name) ∧ X.cell? ⟨g, off + i * 9 + 8, none⟩ = some (.string x.2.text) := by
    rcases h.ways with ⟨rfl, a, c, rfl⟩ | ⟨hne, g, off, c, rfl, hc, hg, hcl⟩
    · exact ⟨a, c, rfl, fun X _ i x hi => by cases hi⟩
    · exact ⟨_, c, rfl, fun X hb i x hi => ⟨g, off, rfl, it_cells hcl hg hb i x hi⟩⟩
  have HR := Lib.hid hrow
  clear h hrow
  obtain ⟨p, hp⟩ : ∃ p : Itm → Bool, p = fun x => decide (x.2.kind = 1 ∧ x.2.valid = valid) := ⟨_, rfl⟩
  have hpx : ∀ x, p x = decide (x.2.kind = 1 ∧ x.2.valid = valid) := fun x => by rw [hp]
  have HPX := Lib.hid hpx
  have HZ : Hid (∀ i, (bestX (bestO (fun x => x.2.next) p (l.take i))).1 = 0 → bestO (fun x => x.2.next) p (l.take i) = none) := fun i => best_zero hpos
  have HB : Hid (tellO valid l = bestO (fun x => x.2.next) p (l.take l.length)) := by rw [hp, List.take_length]; rfl
  clear hp hpx hpos
  have I0 : BsI w w.heap.size (w.heap.size + 1) (bestX (bestO (fun x => x.2.next) p (l.take 0))) ((w.alloc (.cells #[.int .i64 0, .int .i64 0, .int .i64 0, .int .i64 0, .int .i64 0, .int .i64 0, .string ⟨#[]⟩, .string ⟨#[]⟩, .string ⟨#[]⟩] 69)).alloc (.cells #[.int .i64 0, .int .i64 0, .int .i64 0, .int .i64 0, .int .i64 0, .int .i64 0, .string ⟨#[]⟩, .string ⟨#[]⟩, .string ⟨#[]⟩] 69)) := by
    have hb := (belNew w (.cells #[.int .i64 0, .int .i64 0, .int .i64 0, .int .i64 0, .int .i64 0, .int .i64 0, .string ⟨#[]⟩, .string ⟨#[]⟩, .string ⟨#[]⟩] 69)).trans ((belNew (w.alloc (.cells #[.int .i64 0, .int .i64 0, .int .i64 0, .int .i64 0, .int .i64 0, .int .i64 0, .string ⟨#[]⟩, .string ⟨#[]⟩, .string ⟨#[]⟩] 69)) (.cells #[.int .i64 0, .int .i64 0, .int .i64 0, .int .i64 0, .int .i64 0, .int .i64 0, .string ⟨#[]⟩, .string ⟨#[]⟩, .string ⟨#[]⟩] 69)).mono (by simp))
    have h2 := Box.new (w.alloc (.cells #[.int .i64 0, .int .i64 0, .int .i64 0, .int .i64 0, .int .i64 0, .int .i64 0, .string ⟨#[]⟩, .string ⟨#[]⟩, .string ⟨#[]⟩] 69)) #[.int .i64 0, .int .i64 0, .int .i64 0, .int .i64 0, .int .i64 0, .int .i64 0, .string ⟨#[]⟩, .string ⟨#[]⟩, .string ⟨#[]⟩] 69
    have e : (w.alloc (.cells #[.int .i64 0, .int .i64 0, .int .i64 0, .int .i64 0, .int .i64 0, .int .i64 0, .string ⟨#[]⟩, .string ⟨#[]⟩, .string ⟨#[]⟩] 69)).heap.size = w.heap.size + 1 := by simp
    rw [e] at h2
    exact ⟨(Box.new w _ _).later (belNew _ _), h2, hb, Nat.le_refl _, by omega, by omega⟩
  go_enter Tryz.func33, Tryz.ntmps33
  go_wp2
  generalize (w.alloc (.cells #[.int .i64 0, .int .i64 0, .int .i64 0, .int .i64 0, .int .i64 0, .int .i64 0, .string ⟨#[]⟩, .string ⟨#[]⟩, .string ⟨#[]⟩] 69)).alloc (.cells #[.int .i64 0, .int .i64 0, .int .i64 0, .int .i64 0, .int .i64 0, .int .i64 0, .string ⟨#[]⟩, .string ⟨#[]⟩, .string ⟨#[]⟩] 69) = W at I0 ⊢
  obtain ⟨g1, hg1⟩ : ∃ g1, w.heap.size + 1 = g1 := ⟨_, rfl⟩
  rw [hg1] at I0 ⊢
  clear hg1
  go_loopw [6] (fun iv wr => ∃ i : Nat, i ≤ l.length ∧ iv = .int .i64 (i : Int) ∧ BsI w w.heap.size g1 (bestX (bestO (fun x => x.2.next) p (l.take i))) wr) (fun iv _ => l.length - (intOf iv).toNat)
  case atStart => exact ⟨0, by omega, rfl, I0⟩
  case round =>
    clear I0
    obtain ⟨i, hi, rfl, I⟩ := hrel
    by_cases hlt : i < l.length
    · have hgx : l[i]? = some l[i] := List.getElem?_eq_getElem hlt
      have hst := bestO_take (k := fun x => x.2.next) (p := p) hgx
      have hpx := HPX.out l[i]
      have hz := HZ.out i
      obtain ⟨ga, oa, rfl, a0, a1, a2, a3, a4, a5, a6, a7, a8⟩ := HR.out _ I.bel i _ hgx
      generalize l[i] = x at *
      obtain ⟨sq, K, V, U, N, FL, US, NM, TX⟩ := x
      simp only at a0 a1 a2 a3 a4 a5 a6 a7 a8 hpx
      generalize bestO (fun x => x.2.next) p (l.take i) = o at *
      have HST := Lib.hid hst
      have HZI := Lib.hid hz
      have hi0 : (0 : Int) ≤ (i : Int) := by omega
      have hi1 : (i : Int) < (l.length : Int) := by omega
      clear hst hgx hz
      by_cases hk : K = 1
      · subst hk
        by_cases hv : V = valid
        · have hv := hv.symm
          subst hv
          by_cases hz : (bestX o).1 = 0
          · have J := I.later (belNew wr (.cells #[.int .i64 sq, .int .i64 1, .int .i64 valid, .int .i64 U, .int .i64 N, .int .i64 FL, .string US, .string NM, .string TX] 69))
            obtain ⟨u0, u1, u2, u3, u4, u5, u6, u7, u8, v0, v1, v2, v3, v4, v5, v6, v7, v8⟩ := J.out.nine
            have HJ := Lib.hid J
            clear I J
            have HE : Hid (bestO (fun x => x.2.next) p (l.take (i + 1)) = some (sq, ⟨1, valid, U, N, FL, US, NM, TX⟩)) := by rw [HST.out]; exact tell_yes (by rw [hpx]; exact decide_eq_true ⟨rfl, rfl⟩) (.inl (HZI.out hz))
            clear hpx
            go_wp2
            exact ⟨⟨i + 1, by omega, by simp, by rw [HE.out]; exact HJ.out.put (sq, ⟨1, valid, U, N, FL, US, NM, TX⟩)⟩, by first | omega | (simp [intOf]; omega)⟩
          · have hon : o ≠ none := fun e => hz (by rw [e]; rfl)
            by_cases hn : (bestX o).2.next < N
            · have J := I.later (belNew wr (.cells #[.int .i64 sq, .int .i64 1, .int .i64 valid, .int .i64 U, .int .i64 N, .int .i64 FL, .string US, .string NM, .string TX] 69))
              obtain ⟨u0, u1, u2, u3, u4, u5, u6, u7, u8, v0, v1, v2, v3, v4, v5, v6, v7, v8⟩ := J.out.nine
              have HJ := Lib.hid J
              clear I J
              have HE : Hid (bestO (fun x => x.2.next) p (l.take (i + 1)) = some (sq, ⟨1, valid, U, N, FL, US, NM, TX⟩)) := by rw [HST.out]; exact tell_yes (by rw [hpx]; exact decide_eq_true ⟨rfl, rfl⟩) (.inr (.inl hn))
              clear hpx
              go_wp2
              exact ⟨⟨i + 1, by omega, by simp, by rw [HE.out]; exact HJ.out.put (sq, ⟨1, valid, U, N, FL, US, NM, TX⟩)⟩, by first | omega | (simp [intOf]; omega)⟩
            · by_cases he : N = (bestX o).2.next
              · subst he
                by_cases hs : (bestX o).1 < sq
                · have J := I.later (belNew wr (.cells #[.int .i64 sq, .int .i64 1, .int .i64 valid, .int .i64 U, .int .i64 (bestX o).2.next, .int .i64 FL, .string US, .string NM, .string TX] 69))
                  obtain ⟨u0, u1, u2, u3, u4, u5, u6, u7, u8, v0, v1, v2, v3, v4, v5, v6, v7, v8⟩ := J.out.nine
                  have HJ := Lib.hid J
                  clear I J
                  have HE : Hid (bestO (fun x => x.2.next) p (l.take (i + 1)) = some (sq, ⟨1, valid, U, (bestX o).2.next, FL, US, NM, TX⟩)) := by rw [HST.out]; exact tell_yes (by rw [hpx]; exact decide_eq_true ⟨rfl, rfl⟩) (.inr (.inr ⟨rfl, hs⟩))
                  clear hpx
                  go_wp2
                  exact ⟨⟨i + 1, by omega, by simp, by rw [HE.out]; exact HJ.out.put (sq, ⟨1, valid, U, (bestX o).2.next, FL, US, NM, TX⟩)⟩, by first | omega | (simp [intOf]; omega)⟩
                · have J := I.later (belNew wr (.cells #[.int .i64 sq, .int .i64 1, .int .i64 valid, .int .i64 U, .int .i64 (bestX o).2.next, .int .i64 FL, .string US, .string NM, .string TX] 69))
                  obtain ⟨u0, u1, u2, u3, u4, u5, u6, u7, u8, v0, v1, v2, v3, v4, v5, v6, v7, v8⟩ := J.out.nine
                  have HJ := Lib.hid J
                  clear I J
                  have HE : Hid (bestO (fun x => x.2.next) p (l.take (i + 1)) = o) := by rw [HST.out]; exact tell_old (by rw [hpx]; exact decide_eq_true ⟨rfl, rfl⟩) hon (fun c => by rcases c with c | c; exact hn c; exact hs c.2)
                  clear hpx
                  go_wp2
                  exact ⟨⟨i + 1, by omega, by simp, by rw [HE.out]; exact HJ.out⟩, by first | omega | (simp [intOf]; omega)⟩
              · have J := I.later (belNew wr (.cells #[.int .i64 sq, .int .i64 1, .int .i64 valid, .int .i64 U, .int .i64 N, .int .i64 FL, .string US, .string NM, .string TX] 69))
                obtain ⟨u0, u1, u2, u3, u4, u5, u6, u7, u8, v0, v1, v2, v3, v4, v5, v6, v7, v8⟩ := J.out.nine
                have HJ := Lib.hid J
                clear I J
                have HE : Hid (bestO (fun x => x.2.next) p (l.take (i + 1)) = o) := by rw [HST.out]; exact tell_old (by rw [hpx]; exact decide_eq_true ⟨rfl, rfl⟩) hon (fun c => by rcases c with c | c; exact hn c; exact he c.1)
                clear hpx
                go_wp2
                exact ⟨⟨i + 1, by omega, by simp, by rw [HE.out]; exact HJ.out⟩, by first | omega | (simp [intOf]; omega)⟩
        · have J := I.later (belNew wr (.cells #[.int .i64 sq, .int .i64 1, .int .i64 V, .int .i64 U, .int .i64 N, .int .i64 FL, .string US, .string NM, .string TX] 69))
          obtain ⟨u0, u1, u2, u3, u4, u5, u6, u7, u8, v0, v1, v2, v3, v4, v5, v6, v7, v8⟩ := J.out.nine
          have HJ := Lib.hid J
          clear I J
          have HE : Hid (bestO (fun x => x.2.next) p (l.take (i + 1)) = o) := by rw [HST.out]; exact bestStep_no (by rw [hpx]; exact decide_eq_false (fun c => hv c.2))
          clear hpx
          go_wp2
          exact ⟨⟨i + 1, by omega, by simp, by rw [HE.out]; exact HJ.out⟩, by first | omega | (simp [intOf]; omega)⟩
      · have J := I.later (belNew wr (.cells #[.int .i64 sq, .int .i64 K, .int .i64 V, .int .i64 U, .int .i64 N, .int .i64 FL, .string US, .string NM, .string TX] 69))
        obtain ⟨u0, u1, u2, u3, u4, u5, u6, u7, u8, v0, v1, v2, v3, v4, v5, v6, v7, v8⟩ := J.out.nine
        have HJ := Lib.hid J
        clear I J
        have HE : Hid (bestO (fun x => x.2.next) p (l.take (i + 1)) = o) := by rw [HST.out]; exact bestStep_no (by rw [hpx]; exact decide_eq_false (fun c => hk c.1))
        clear hpx
        go_wp2
        exact ⟨⟨i + 1, by omega, by simp, by rw [HE.out]; exact HJ.out⟩, by first | omega | (simp [intOf]; omega)⟩
    · have hie : i = l.length := by omega
      subst hie
      obtain ⟨u0, u1, u2, u3, u4, u5, u6, u7, u8, v0, v1, v2, v3, v4, v5, v6, v7, v8⟩ := I.out.nine
      obtain ⟨y0, y1, y2, y3, y4, y5, y6, y7, y8, f0, f1, f2, f3, f4, f5, f6, f7, f8⟩ := I.res.nine
      have BB := Lib.hid I.bel
      clear I HZ
      generalize hoo : bestO (fun x => x.2.next) p (l.take l.length) = o at *
      have HO : Hid (tellO valid l = o) := HB.out
      clear hoo HB
      go_wp2
      refine bodyPost_ret (v := .agg #[.int .i64 (bestX o).1, .int .i64 (bestX o).2.kind, .int .i64 (bestX o).2.valid, .int .i64 (bestX o).2.uid, .int .i64 (bestX o).2.next, .int .i64 (bestX o).2.flags, .string (bestX o).2.user, .string (bestX o).2.name, .string (bestX o).2.text]) (by simp [results, Tryz.results33, go_sem, y0, y1, y2, y3, y4, y5, y6, y7, y8]) rfl ?_
      exact ⟨by rw [HO.out]; rfl, below_set9 BB.out (Nat.le_refl _) _ _ _ _ _ _ _ _ _⟩

end Go.Proofs.YtgcnebepklelpaaGreat

/- What records tell: the model's number of the next mail. -/
namespace Go.Proofs.YtgcnebepklelpaaGreat
open Go.RowKit

theorem mostOf_take {b : Int} {f : Itm → Int} {l : List Itm} {i : Nat} {x : Itm} (h : l[i]? = some x) : mostOf b f (l.take (i + 1)) = if mostOf b f (l.take i) < f x then f x else mostOf b f (l.take i) := by
  unfold mostOf
  rw [List.take_add_one, h, List.foldl_append]
  rfl

set_option maxRecDepth 100000 in
set_option maxHeartbeats 2000000 in
theorem specNext_any (l : List Itm) (v : Value) (valid : Int) (w : World) (h : Rows' itE w v l) (hl : l.length ≤ 1099511627776) (hok : ∀ x ∈ l, x.2.ok) :
    Calls Tryz.prog 34 #[v, .int .i64 valid] w fun e w' => e = .returned (.int .i64 (nextOf valid l)) ∧ Below w.heap.size w w' := by
  obtain ⟨ad, cap, rfl, hrow⟩ : ∃ (ad : Option Addr) (cap : Nat), v = .slice ad l.length cap ∧ ∀ X, Below w.heap.size w X → ∀ i x, l[i]? = some x → ∃ g off, ad = some ⟨g, off, none⟩ ∧ X.cell? ⟨g, off + i * 9, none⟩ = some (.int .i64 x.1) ∧ X.cell? ⟨g, off + i * 9 + 1, none⟩ = some (.int .i64 x.2.kind) ∧ X.cell? ⟨g, off + i * 9 + 2, none⟩ = some (.int .i64 x.2.valid) ∧ X.cell? ⟨g, off + i * 9 + 3, none⟩ = some (.int .i64 x.2.uid) ∧ X.cell? ⟨g, off + i * 9 + 4, none⟩ = some (.int .i64 x.2.next) ∧ X.cell? ⟨g, off + i * 9 + 5, none⟩ = some (.int .i64 x.2.flags) ∧ X.cell? ⟨g, off + i * 9 + 6, none⟩ = some (.string x.2.user) ∧ X.cell? ⟨g, off + i * 9 + 7, none⟩ = some (.string x.2.name) ∧ X.cell? ⟨g, off + i * 9 + 8, none⟩ = some (.string x.2.text) := by
    rcases h.ways with ⟨rfl, a, c, rfl⟩ | ⟨hne, g, off, c, rfl, hc, hg, hcl⟩
    · exact ⟨a, c, rfl, fun X _ i x hi => by cases hi⟩
    · exact ⟨_, c, rfl, fun X hb i x hi => ⟨g, off, rfl, it_cells hcl hg hb i x hi⟩⟩
  have HR := Lib.hid hrow
  have HOK := Lib.hid hok
  have HM : Hid (∀ i, 1 ≤ mostOf 1 (nextK valid) (l.take i)) := fun i => (mostFold (nextK valid) (l.take i) 1).1
  have HB : Hid (nextOf valid l = mostOf 1 (nextK valid) (l.take l.length)) := by rw [List.take_length]; rfl
  clear h hrow hok
  go_enter Tryz.func34, Tryz.ntmps34
  go_wp2
  go_loopw [5, 6] (fun nv iv wr => ∃ i : Nat, i ≤ l.length ∧ iv = .int .i64 (i : Int) ∧ nv = .int .i64 (mostOf 1 (nextK valid) (l.take i)) ∧ Below w.heap.size w wr) (fun _ iv _ => l.length - (intOf iv).toNat)
  case atStart => exact ⟨0, by omega, rfl, rfl, Below.refl _ _⟩
  case round =>
    obtain ⟨i, hi, rfl, rfl, hb⟩ := hrel
    by_cases hlt : i < l.length
    · have hgx : l[i]? = some l[i] := List.getElem?_eq_getElem hlt
      have hst := mostOf_take (b := 1) (f := nextK valid) hgx
      have hm := HM.out i
      have hsm := Rc.ok_small (HOK.out l[i] (List.getElem_mem hlt))
      obtain ⟨ga, oa, rfl, a0, a1, a2, a3, a4, a5, a6, a7, a8⟩ := HR.out _ hb i _ hgx
      generalize l[i] = x at *
      obtain ⟨sq, K, V, U, N, FL, US, NM, TX⟩ := x
      simp only at a0 a1 a2 a3 a4 a5 a6 a7 a8 hsm
      obtain ⟨_, _, hU, _, _⟩ := hsm
      generalize mostOf 1 (nextK valid) (l.take i) = n at *
      have HST := Lib.hid hst
      have hi0 : (0 : Int) ≤ (i : Int) := by omega
      have hi1 : (i : Int) < (l.length : Int) := by omega
      clear hst hgx
      by_cases hv : V = valid
      · have hv := hv.symm
        subst hv
        by_cases k1 : K = 1
        · subst k1
          by_cases hn : n < N
          · have BJ := Lib.hid (hb.trans ((belNew wr (.cells #[.int .i64 1, .int .i64 valid, .int .i64 U, .int .i64 N, .int .i64 FL, .string US, .string NM, .string TX] 67)).mono hb.size))
            clear hb
            have HE : Hid (mostOf 1 (nextK valid) (l.take (i + 1)) = N) := by rw [HST.out]; rw [show nextK valid (sq, ⟨1, valid, U, N, FL, US, NM, TX⟩) = N from by simp [nextK]]; exact if_pos hn
            go_wp2
            exact ⟨⟨i + 1, by omega, by simp, by rw [HE.out], BJ.out⟩, by first | omega | (simp [intOf]; omega)⟩
          · have BJ := Lib.hid (hb.trans ((belNew wr (.cells #[.int .i64 1, .int .i64 valid, .int .i64 U, .int .i64 N, .int .i64 FL, .string US, .string NM, .string TX] 67)).mono hb.size))
            clear hb
            have HE : Hid (mostOf 1 (nextK valid) (l.take (i + 1)) = n) := by rw [HST.out]; rw [show nextK valid (sq, ⟨1, valid, U, N, FL, US, NM, TX⟩) = N from by simp [nextK]]; exact if_neg hn
            go_wp2
            exact ⟨⟨i + 1, by omega, by simp, by rw [HE.out], BJ.out⟩, by first | omega | (simp [intOf]; omega)⟩
        · by_cases k3 : K = 3
          · subst k3
            by_cases hn : n < U + 1
            · have BJ := Lib.hid (hb.trans ((belNew wr (.cells #[.int .i64 3, .int .i64 valid, .int .i64 U, .int .i64 N, .int .i64 FL, .string US, .string NM, .string TX] 67)).mono hb.size))
              clear hb
              have HE : Hid (mostOf 1 (nextK valid) (l.take (i + 1)) = U + 1) := by rw [HST.out]; rw [show nextK valid (sq, ⟨3, valid, U, N, FL, US, NM, TX⟩) = U + 1 from by simp [nextK]]; exact if_pos hn
              go_wp2
              exact ⟨⟨i + 1, by omega, by simp, by rw [HE.out], BJ.out⟩, by first | omega | (simp [intOf]; omega)⟩
            · have BJ := Lib.hid (hb.trans ((belNew wr (.cells #[.int .i64 3, .int .i64 valid, .int .i64 U, .int .i64 N, .int .i64 FL, .string US, .string NM, .string TX] 67)).mono hb.size))
              clear hb
              have HE : Hid (mostOf 1 (nextK valid) (l.take (i + 1)) = n) := by rw [HST.out]; rw [show nextK valid (sq, ⟨3, valid, U, N, FL, US, NM, TX⟩) = U + 1 from by simp [nextK]]; exact if_neg hn
              go_wp2
              exact ⟨⟨i + 1, by omega, by simp, by rw [HE.out], BJ.out⟩, by first | omega | (simp [intOf]; omega)⟩
          · by_cases k5 : K = 5
            · subst k5
              by_cases hn : n < U + 1
              · have BJ := Lib.hid (hb.trans ((belNew wr (.cells #[.int .i64 5, .int .i64 valid, .int .i64 U, .int .i64 N, .int .i64 FL, .string US, .string NM, .string TX] 67)).mono hb.size))
                clear hb
                have HE : Hid (mostOf 1 (nextK valid) (l.take (i + 1)) = U + 1) := by rw [HST.out]; rw [show nextK valid (sq, ⟨5, valid, U, N, FL, US, NM, TX⟩) = U + 1 from by simp [nextK]]; exact if_pos hn
                go_wp2
                exact ⟨⟨i + 1, by omega, by simp, by rw [HE.out], BJ.out⟩, by first | omega | (simp [intOf]; omega)⟩
              · have BJ := Lib.hid (hb.trans ((belNew wr (.cells #[.int .i64 5, .int .i64 valid, .int .i64 U, .int .i64 N, .int .i64 FL, .string US, .string NM, .string TX] 67)).mono hb.size))
                clear hb
                have HE : Hid (mostOf 1 (nextK valid) (l.take (i + 1)) = n) := by rw [HST.out]; rw [show nextK valid (sq, ⟨5, valid, U, N, FL, US, NM, TX⟩) = U + 1 from by simp [nextK]]; exact if_neg hn
                go_wp2
                exact ⟨⟨i + 1, by omega, by simp, by rw [HE.out], BJ.out⟩, by first | omega | (simp [intOf]; omega)⟩
            · have BJ := Lib.hid (hb.trans ((belNew wr (.cells #[.int .i64 K, .int .i64 valid, .int .i64 U, .int .i64 N, .int .i64 FL, .string US, .string NM, .string TX] 67)).mono hb.size))
              clear hb
              have HE : Hid (mostOf 1 (nextK valid) (l.take (i + 1)) = n) := by rw [HST.out]; rw [show nextK valid (sq, ⟨K, valid, U, N, FL, US, NM, TX⟩) = 0 from by simp [nextK, k1, k3, k5]]; exact if_neg (by omega)
              go_wp2
              exact ⟨⟨i + 1, by omega, by simp, by rw [HE.out], BJ.out⟩, by first | omega | (simp [intOf]; omega)⟩
      · have BJ := Lib.hid (hb.trans ((belNew wr (.cells #[.int .i64 K, .int .i64 V, .int .i64 U, .int .i64 N, .int .i64 FL, .string US, .string NM, .string TX] 67)).mono hb.size))
        clear hb
        have HE : Hid (mostOf 1 (nextK valid) (l.take (i + 1)) = n) := by rw [HST.out]; rw [show nextK valid (sq, ⟨K, V, U, N, FL, US, NM, TX⟩) = 0 from by simp [nextK, hv]]; exact if_neg (by omega)
        go_wp2
        exact ⟨⟨i + 1, by omega, by simp, by rw [HE.out], BJ.out⟩, by first | omega | (simp [intOf]; omega)⟩
    · have hie : i = l.length := by omega
      subst hie
      go_wp2
      go_ret
      exact ⟨by rw [HB.out]; rfl, hb⟩

end Go.Proofs.YtgcnebepklelpaaGreat
