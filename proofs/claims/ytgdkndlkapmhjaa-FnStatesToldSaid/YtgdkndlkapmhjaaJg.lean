/- Texts of our own, joined. -/
import Derived.Test.YtgdkndlkapmhjaaJe
import Derived.Test.YtgdkndlkapmhjaaJc
import Derived.Test.YtgdkndlkapmhjaaJf
import Derived.Test.YtgdkndlkapmhjaaJb
/- What is drawn for the chapter on what records tell: right items. -/
namespace Go.Proofs.Ytgdkndlkapmhjaa
open Go.RowKit

/-- Items that are drawn in a row: Seqs from 2 on, right records. -/
def ItsUp (l : List Itm) : Prop := ∀ (j : Nat) (x : Itm), l[j]? = some x → x.1 = 2 + (j : Int) ∧ (x.2.ok ∧ x.2.slim) ∧ x.2.valid ≤ 3
theorem ItsUp.nil : ItsUp [] := by intro j x h; simp at h
theorem ItsUp.push {l : List Itm} (h : ItsUp l) {r : Rc} (hr : (r.ok ∧ r.slim) ∧ r.valid ≤ 3) : ItsUp (l ++ [(2 + (l.length : Int), r)]) := by
  intro j x hx
  by_cases c : j < l.length
  · rw [List.getElem?_append_left c] at hx
    exact h j x hx
  · rw [List.getElem?_append_right (by omega)] at hx
    have hj : j - l.length = 0 := by
      have := (List.getElem?_eq_some_iff.1 hx).1
      simp at this; omega
    rw [hj] at hx
    have e : j = l.length := by omega
    simp at hx
    subst hx e
    exact ⟨rfl, hr⟩

/-- Items that are drawn. -/
def ItsD (l : List Itm) : Prop := itemsOk l ∧ l.length ≤ 23 ∧ (∀ x ∈ l, x.2.slim) ∧ ∀ x ∈ l, x.1 ≤ 24 ∧ x.2.valid ≤ 3
theorem ItsUp.uniq {l : List Itm} (h : ItsUp l) : Uniq l := by
  intro x hx y hy e
  obtain ⟨i, hi⟩ := List.getElem?_of_mem hx
  obtain ⟨j, hj⟩ := List.getElem?_of_mem hy
  have h1 := (h i x hi).1
  have h2 := (h j y hj).1
  have : i = j := by omega
  subst this
  rw [hi] at hj
  exact Option.some.inj hj
theorem ItsUp.done {l : List Itm} (h : ItsUp l) (hl : l.length ≤ 22) : ItsD l := by
  refine ⟨⟨fun x hx => ?_, h.uniq, by omega⟩, by omega, fun x hx => ?_, fun x hx => ?_⟩
  · obtain ⟨i, hi⟩ := List.getElem?_of_mem hx
    have h1 := h i x hi
    have := (List.getElem?_eq_some_iff.1 hi).1
    exact ⟨by omega, h1.2.1.1⟩
  · obtain ⟨i, hi⟩ := List.getElem?_of_mem hx
    exact (h i x hi).2.1.2
  · obtain ⟨i, hi⟩ := List.getElem?_of_mem hx
    have h1 := (h i x hi).1
    have := (List.getElem?_eq_some_iff.1 hi).1
    exact ⟨by omega, (h i x hi).2.2⟩
theorem ItsUp.twice {l : List Itm} (h : ItsUp l) (hl : l.length ≤ 22) {j : Nat} {x : Itm} (hj : l[j]? = some x) : ItsD (l ++ [x]) := by
  have hm : x ∈ l := List.mem_of_getElem? hj
  have hall : ∀ y ∈ l ++ [x], y ∈ l := fun y hy => by
    rcases List.mem_append.1 hy with h | h
    · exact h
    · simp at h; rw [h]; exact hm
  obtain ⟨⟨a1, a2, _⟩, _, a5, a6⟩ := h.done hl
  exact ⟨⟨fun y hy => a1 y (hall y hy), fun y hy z hz => a2 y (hall y hy) z (hall z hz), by simp; omega⟩, by simp; omega, fun y hy => a5 y (hall y hy), fun y hy => a6 y (hall y hy)⟩

set_option maxRecDepth 100000 in
set_option maxHeartbeats 4000000 in
theorem items_any (pc : Nat) (a : Option Addr) (len cap : Nat) (w : World) (hc : Cur w pc a len cap) :
    Calls Try.prog 19 #[.pointer (some ⟨pc, 0, none⟩)] w fun e w' => ∃ (l : List Itm) (v : Value), ItsD l ∧ e = .returned v ∧ RBuf itE w.heap.size w' w' v l ∧ InRow v l.length ∧ Cur w' pc a len cap ∧ w.grownBy w' (some pc) := by
  have hst : RBuf itE w.heap.size w (w.alloc (.cells #[] 49)) (.slice (some ⟨w.heap.size, 0, none⟩) 0 0) [] := RBuf.fresh itE w
  have hpc := hc.lt
  have hcl := Lib.hid hc.codeLt
  have hc0 := hc.alloc (.cells #[] 49)
  have hg0 : w.grownBy (w.alloc (.cells #[] 49)) (some pc) := World.grownBy_alloc _ _ _
  go_enter Try.func19, Try.ntmps19
  go_wp2
  go_loopw [3, 4] (fun v iv wr => ∃ (l : List Itm) (i : Nat), i ≤ 22 ∧ l.length = i ∧ iv = .int .i64 (i : Int) ∧ ItsUp l ∧ RBuf itE w.heap.size wr wr v l ∧ InRow v l.length ∧ Cur wr pc a len cap ∧ w.grownBy wr (some pc)) (fun _ iv _ => (22 - intOf iv).toNat)
  case atStart => exact ⟨[], 0, by omega, rfl, rfl, ItsUp.nil, hst.here, ⟨_, _, rfl, Nat.le_refl _⟩, hc0, hg0⟩
  case round =>
    clear hst hc0 hg0 hc
    obtain ⟨l, i, hi, hli, rfl, hall, hb, hrow, hcr, hgr⟩ := hrel
    have HA := Lib.hid hall
    have HR := Lib.hid hrow
    clear hall hrow
    go_wp2_with fail
    refine (below_any 22 pc a len cap _ hcr (by omega)).mono ?_
    rintro e w3 ⟨y, hy, _, rfl, hc3, hg3⟩
    have hy2 := hy (by omega)
    have hgr3 := hgr.trans hg3
    have hb3 := hb.cursor hg3 hpc
    clear hy hg3 hcr hb hgr
    by_cases hlt : (i : Int) < (y : Int)
    · go_wp2_with fail
      refine (recThree_any pc a len cap _ hc3).mono ?_
      rintro e w4 ⟨r, hr, rfl, hc4, hg4⟩
      have HRr := Lib.hid hr
      have hgr4 := hgr3.trans hg4
      have hb4 := hb3.cursor hg4 hpc
      have hw2 : IntKind.i64.wrap (2 + (i : Int)) = 2 + (i : Int) := IntWalk.i64_in _ ⟨by omega, by omega⟩
      obtain ⟨z, hz⟩ : ∃ z : Itm, ((2 + (i : Int), r) : Itm) = z := ⟨_, rfl⟩
      have HZ := Lib.hid hz
      have hb5 := Lib.hid (hb4.alloc (.cells #[.int .i64 (2 + (i : Int)), .int .i64 r.kind, .int .i64 r.valid, .int .i64 r.uid, .int .i64 r.next, .int .i64 r.flags, .string r.user, .string r.name, .string r.text] 49))
      have hnew : Hid (∀ j u, (itE.row [z])[j]? = some u → (w4.alloc (.cells #[.int .i64 (2 + (i : Int)), .int .i64 r.kind, .int .i64 r.valid, .int .i64 r.uid, .int .i64 r.next, .int .i64 r.flags, .string r.user, .string r.name, .string r.text] 49)).cell? ((⟨w4.heap.size, 0, none⟩ : Addr).add j) = some u) := by rw [← hz]; exact row_new itE w4 (2 + (i : Int), r)
      have hl0 : Hid ((l.length + [z].length) * (itE.bytes + 1) ≤ 140737488355328) := by show _ ≤ _; simp only [itE, List.length_cons, List.length_nil]; omega
      have hc5 := hc4.alloc (.cells #[.int .i64 (2 + (i : Int)), .int .i64 r.kind, .int .i64 r.valid, .int .i64 r.uid, .int .i64 r.next, .int .i64 r.flags, .string r.user, .string r.name, .string r.text] 49)
      have hg5 := hgr4.trans (World.grownBy_alloc w4 (.cells #[.int .i64 (2 + (i : Int)), .int .i64 r.kind, .int .i64 r.valid, .int .i64 r.uid, .int .i64 r.next, .int .i64 r.flags, .string r.user, .string r.name, .string r.text] 49) (some pc))
      clear hz hr hg4 hc3 hb3 hgr3 hc4 hgr4
      unfold Rc.v
      go_wp2_with (at_builtin; refine wpList_append_row rfl _ _ itE rfl w.heap.size _ l rfl hb5.out ⟨w4.heap.size, 0, none⟩ [z] 1 rfl ?c1 ?c2 ?_)
      case c1 => exact hnew.out
      case c2 => exact hl0.out
      intro v8 w8 hb8 hg8 _
      have hb7 : RBuf itE w.heap.size (w4.alloc (.cells #[.int .i64 (2 + (i : Int)), .int .i64 r.kind, .int .i64 r.valid, .int .i64 r.uid, .int .i64 r.next, .int .i64 r.flags, .string r.user, .string r.name, .string r.text] 49)) w8 v8 (l ++ [z]) := by
        have hle := hb4.le
        refine ⟨hb8.own, (Below.refl _ _).grown hg8 (by simp; omega) (fun k hk => (hb4.own.lt k hk).1), hb8.le⟩
      have hc8 : Cur w8 pc a len cap := hc5.below hb7.bel hpc hcl.out
      have hg9 : w.grownBy w8 (some pc) := grownBy_below hg5 hb7.bel (Nat.le_refl _)
      clear hb5 hnew hl0 hc5 hg5 hg8 hb4 hb7
      go_wp2
      go_roundw
      case rel => exact ⟨l ++ [z], i + 1, by omega, by simp [hli], by go_num, by
        have h1 := HA.out.push HRr.out
        rw [hli] at h1
        rw [← HZ.out]; exact h1, hb8.here, hb8.inRow (by simp), hc8, hg9⟩
      case measure => simp [intOf]; omega
    · clear hy2
      subst hli
      by_cases h1 : (1 : Int) < (l.length : Int)
      · obtain ⟨g, cap2, rfl, hcap2⟩ := HR.out
        go_wp2_with fail
        refine (once_any 3 pc a len cap _ hc3 (by omega)).mono ?_
        rintro e w4 ⟨he, hc4, hg4⟩
        have hgr4 := hgr3.trans hg4
        have hb4 := hb3.cursor hg4 hpc
        clear hg4 hc3 hb3 hgr3
        rcases he with rfl | rfl
        · go_wp2_with fail
          refine (below_any (l.length : Int) pc a len cap _ hc4 (by omega)).mono ?_
          rintro e w5 ⟨j, hj, _, rfl, hc5, hg5⟩
          have hj2 := hj (by omega)
          have hgr5 := hgr4.trans hg5
          have hb5 := hb4.cursor hg5 hpc
          clear hj hg5 hc4 hb4 hgr4
          have hjl : l[j]? = some (l[j]'(by omega)) := List.getElem?_eq_getElem (by omega)
          generalize l[j]'(by omega) = z at hjl
          obtain ⟨sq, r⟩ := z
          have HJ := Lib.hid hjl
          have hcell : ∀ k u, (itE.f (sq, r))[k]? = some u → w5.cell? ⟨g, j * 9 + k, none⟩ = some u := fun k u hu => hb5.cell rfl j _ hjl k u hu
          have d0 := hcell 0 _ rfl
          have d1 := hcell 1 _ rfl
          have d2 := hcell 2 _ rfl
          have d3 := hcell 3 _ rfl
          have d4 := hcell 4 _ rfl
          have d5 := hcell 5 _ rfl
          have d6 := hcell 6 _ rfl
          have d7 := hcell 7 _ rfl
          have d8 := hcell 8 _ rfl
          dsimp only at d0 d1 d2 d3 d4 d5 d6 d7 d8
          simp only [Nat.add_zero] at d0
          have hj3 : (j : Int) < (l.length : Int) := by omega
          have hb6 := Lib.hid (hb5.alloc (.cells #[.int .i64 sq, .int .i64 r.kind, .int .i64 r.valid, .int .i64 r.uid, .int .i64 r.next, .int .i64 r.flags, .string r.user, .string r.name, .string r.text] 49))
          have hnew : Hid (∀ j u, (itE.row [((sq, r) : Itm)])[j]? = some u → (w5.alloc (.cells #[.int .i64 sq, .int .i64 r.kind, .int .i64 r.valid, .int .i64 r.uid, .int .i64 r.next, .int .i64 r.flags, .string r.user, .string r.name, .string r.text] 49)).cell? ((⟨w5.heap.size, 0, none⟩ : Addr).add j) = some u) := row_new itE w5 (sq, r)
          have hl0 : Hid ((l.length + [((sq, r) : Itm)].length) * (itE.bytes + 1) ≤ 140737488355328) := by show _ ≤ _; simp only [itE, List.length_cons, List.length_nil]; omega
          have hc6 := hc5.alloc (.cells #[.int .i64 sq, .int .i64 r.kind, .int .i64 r.valid, .int .i64 r.uid, .int .i64 r.next, .int .i64 r.flags, .string r.user, .string r.name, .string r.text] 49)
          have hg6 := hgr5.trans (World.grownBy_alloc w5 (.cells #[.int .i64 sq, .int .i64 r.kind, .int .i64 r.valid, .int .i64 r.uid, .int .i64 r.next, .int .i64 r.flags, .string r.user, .string r.name, .string r.text] 49) (some pc))
          clear hcell hc5 hgr5 hjl
          go_wp2_with (at_builtin; refine wpList_append_row rfl _ _ itE rfl w.heap.size _ l rfl hb6.out ⟨w5.heap.size, 0, none⟩ [((sq, r) : Itm)] 1 rfl ?c1 ?c2 ?_)
          case c1 => exact hnew.out
          case c2 => exact hl0.out
          intro v8 w8 hb8 hg8 _
          have hb7 : Below w.heap.size (w5.alloc (.cells #[.int .i64 sq, .int .i64 r.kind, .int .i64 r.valid, .int .i64 r.uid, .int .i64 r.next, .int .i64 r.flags, .string r.user, .string r.name, .string r.text] 49)) w8 := by
            have hle := hb5.le
            exact (Below.refl _ _).grown hg8 (by simp; omega) (fun k hk => (hb5.own.lt k hk).1)
          have hc8 : Cur w8 pc a len cap := hc6.below hb7 hpc hcl.out
          have hg9 : w.grownBy w8 (some pc) := grownBy_below hg6 hb7 (Nat.le_refl _)
          clear hb6 hnew hl0 hc6 hg6 hg8 hb5 hb7 d0 d1 d2 d3 d4 d5 d6 d7 d8
          go_wp2
          go_ret
          exact ⟨l ++ [(sq, r)], v8, HA.out.twice (by omega) HJ.out, rfl, hb8.here, hb8.inRow (by simp), hc8, hg9⟩
        · go_wp2
          go_ret
          exact ⟨l, _, HA.out.done (by omega), rfl, hb4, ⟨_, _, rfl, by omega⟩, hc4, hgr4⟩
      · obtain ⟨g, cap2, rfl, hcap2⟩ := HR.out
        go_wp2
        go_ret
        exact ⟨l, HA.out.done (by omega), _, rfl, hb3, ⟨_, _, rfl, by omega⟩, hc3, hgr3⟩


end Go.Proofs.Ytgdkndlkapmhjaa

/- What is drawn for the chapter on records: any record, and the draws of the chapter. -/
namespace Go.Proofs.Ytgdkndlkapmhjaa
open Go.RowKit

set_option maxRecDepth 100000 in
set_option maxHeartbeats 1000000 in
theorem recAny_any (pc : Nat) (a : Option Addr) (len cap : Nat) (w : World) (hc : Cur w pc a len cap) :
    Calls Try.prog 42 #[.pointer (some ⟨pc, 0, none⟩)] w fun e w' => RcR Rc.slim pc a len cap w e w' := by
  have hx := Box.new w #[.int .i64 0, .int .i64 0, .int .i64 0, .int .i64 0, .int .i64 0, .string ⟨#[]⟩, .string ⟨#[]⟩, .string ⟨#[]⟩] 47
  have hg0 : w.grownBy (w.alloc (.cells #[.int .i64 0, .int .i64 0, .int .i64 0, .int .i64 0, .int .i64 0, .string ⟨#[]⟩, .string ⟨#[]⟩, .string ⟨#[]⟩] 47)) (some pc) := World.grownBy_alloc _ _ _
  have hc0 := hc.alloc (.cells #[.int .i64 0, .int .i64 0, .int .i64 0, .int .i64 0, .int .i64 0, .string ⟨#[]⟩, .string ⟨#[]⟩, .string ⟨#[]⟩] 47)
  have hpc := hc.lt
  have hz0 : w.heap.size < (w.alloc (.cells #[.int .i64 0, .int .i64 0, .int .i64 0, .int .i64 0, .int .i64 0, .string ⟨#[]⟩, .string ⟨#[]⟩, .string ⟨#[]⟩] 47)).heap.size := by simp
  go_enter Try.func42, Try.ntmps42
  go_wp2_with fail
  generalize w.alloc (.cells #[.int .i64 0, .int .i64 0, .int .i64 0, .int .i64 0, .int .i64 0, .string ⟨#[]⟩, .string ⟨#[]⟩, .string ⟨#[]⟩] 47) = W at *
  refine (below_any 14 pc a len cap _ hc0 (by omega)).mono ?_
  rintro e w1 ⟨k, hk, _, rfl, hc1, hg1⟩
  go_wp2_with fail
  refine (below_any 60 pc a len cap _ hc1 (by omega)).mono ?_
  rintro e w2 ⟨x, hxx, _, rfl, hc2, hg2⟩
  have hx60 := hxx (by omega)
  go_wp2_with fail
  refine (recDrawn_any pc a len cap _ hc2).mono ?_
  rintro e w3 ⟨r, ⟨_, hsl⟩, rfl, hc3, hg3⟩
  have hz3 := (hg1.trans (hg2.trans hg3)).size
  have I : RcI pc a len cap w w3.heap.size #[.int .i64 r.kind, .int .i64 r.valid, .int .i64 r.uid, .int .i64 r.next, .int .i64 r.flags, .string r.user, .string r.name, .string r.text] (w3.alloc (.cells #[.int .i64 r.kind, .int .i64 r.valid, .int .i64 r.uid, .int .i64 r.next, .int .i64 r.flags, .string r.user, .string r.name, .string r.text] 47)) :=
    ⟨hc3.alloc _, (hg0.trans (hg1.trans (hg2.trans hg3))).trans (World.grownBy_alloc _ _ _), (hx.cur (hg1.trans (hg2.trans hg3)) (by omega)).later (belNew _ _), Box.new w3 _ _, by omega, by omega, hpc⟩
  have HC := Lib.hid hc
  have HS := Lib.hid hsl
  clear hk hxx hx hg0 hg1 hg2 hg3 hc0 hc1 hc2 hc3 hz0 hc hsl
  unfold Rc.v
  go_upto_region 4 with fail
  generalize w3.alloc (.cells #[.int .i64 r.kind, .int .i64 r.valid, .int .i64 r.uid, .int .i64 r.next, .int .i64 r.flags, .string r.user, .string r.name, .string r.text] 47) = X at I ⊢
  generalize w3.heap.size = b at I ⊢
  clear hz3
  obtain ⟨y0, y1, y2, y3, y4, y5, y6, y7, f0, f1, f2, f3, f4, f5, f6, f7⟩ := I.rcd.eight
  have hlt := I.lt
  have hneb : w.heap.size ≠ b := by omega
  have hneb' : b ≠ w.heap.size := by omega
  clear hlt
  rcases (show k = 0 ∨ k = 1 ∨ k = 2 ∨ k = 3 ∨ k = 4 ∨ k = 5 ∨ k = 6 ∨ (k ≠ 0 ∧ k ≠ 1 ∧ k ≠ 2 ∧ k ≠ 3 ∧ k ≠ 4 ∧ k ≠ 5 ∧ k ≠ 6) by omega) with rfl | rfl | rfl | rfl | rfl | rfl | rfl | ⟨n0, n1, n2, n3, n4, n5, n6⟩
  · go_upto_region 19 with fail
    replace I : RcI pc a len cap w b #[.int .i64 ((x : Int) % 7), .int .i64 r.valid, .int .i64 r.uid, .int .i64 r.next, .int .i64 r.flags, .string r.user, .string r.name, .string r.text] _ := I.put HC.out 0 (.int .i64 ((x : Int) % 7))
    generalize X.setCell ⟨b, 0, none⟩ (.int .i64 ((x : Int) % 7)) = X2 at I ⊢
    clear y0 y1 y2 y3 y4 y5 y6 y7 f0 f1 f2 f3 f4 f5 f6 f7
    obtain ⟨d0, d1, d2, d3, d4, d5, d6, d7, g0, g1, g2, g3, g4, g5, g6, g7⟩ := I.res.eight
    obtain ⟨p0, p1, p2, p3, p4, p5, p6, p7, _⟩ := I.rcd.eight
    obtain ⟨q0, q1, q2, q3, q4, q5, q6, q7, _⟩ := (I.res.set8 (.int .i64 ((x : Int) % 7)) (.int .i64 r.valid) (.int .i64 r.uid) (.int .i64 r.next) (.int .i64 r.flags) (.string r.user) (.string r.name) (.string r.text)).eight
    unfold set8 at q0 q1 q2 q3 q4 q5 q6 q7
    have HF : Hid (Cur (set8 X2 w.heap.size (.int .i64 ((x : Int) % 7)) (.int .i64 r.valid) (.int .i64 r.uid) (.int .i64 r.next) (.int .i64 r.flags) (.string r.user) (.string r.name) (.string r.text)) pc a len cap ∧ w.grownBy (set8 X2 w.heap.size (.int .i64 ((x : Int) % 7)) (.int .i64 r.valid) (.int .i64 r.uid) (.int .i64 r.next) (.int .i64 r.flags) (.string r.user) (.string r.name) (.string r.text)) (some pc)) := ⟨I.cur.new8 HC.out (Nat.le_refl _) _ _ _ _ _ _ _ _, grownBy_new8 I.grown (Nat.le_refl _) _ _ _ _ _ _ _ _⟩
    clear I
    go_wp2
    refine bodyPost_ret (v := Rc.v ⟨((x : Int) % 7), r.valid, r.uid, r.next, r.flags, r.user, r.name, r.text⟩) (by simp [results, Try.results42, go_sem, q0, q1, q2, q3, q4, q5, q6, q7, Rc.v]) rfl ?_
    exact ⟨⟨((x : Int) % 7), r.valid, r.uid, r.next, r.flags, r.user, r.name, r.text⟩, HS.out, rfl, HF.out.1, HF.out.2⟩
  · obtain ⟨i, hxi⟩ : ∃ i : Nat, x % 3 = i := ⟨_, rfl⟩
    have hi : i < 3 := by omega
    have hxm : (x : Int) % 3 = (i : Int) := by omega
    have hi2 : (i : Int) < 3 := by omega
    have hcl := ints_cell' X [0, 9999, 10000] 3 i hi
    simp only [List.map_cons, List.map_nil] at hcl
    generalize ([0, 9999, 10000] : List Int)[i]'hi = yv at hcl
    clear hxi
    replace I := I.later (belNew X (.cells #[.int .i64 0, .int .i64 9999, .int .i64 10000] 3))
    clear y0 y1 y2 y3 y4 y5 y6 y7 f0 f1 f2 f3 f4 f5 f6 f7
    obtain ⟨y0, y1, y2, y3, y4, y5, y6, y7, f0, f1, f2, f3, f4, f5, f6, f7⟩ := I.rcd.eight
    go_upto_region 19 with fail
    replace I : RcI pc a len cap w b #[.int .i64 r.kind, .int .i64 yv, .int .i64 r.uid, .int .i64 r.next, .int .i64 r.flags, .string r.user, .string r.name, .string r.text] _ := I.put HC.out 1 (.int .i64 yv)
    generalize (X.alloc (.cells #[.int .i64 0, .int .i64 9999, .int .i64 10000] 3)).setCell ⟨b, 1, none⟩ (.int .i64 yv) = X2 at I ⊢
    clear y0 y1 y2 y3 y4 y5 y6 y7 f0 f1 f2 f3 f4 f5 f6 f7
    obtain ⟨d0, d1, d2, d3, d4, d5, d6, d7, g0, g1, g2, g3, g4, g5, g6, g7⟩ := I.res.eight
    obtain ⟨p0, p1, p2, p3, p4, p5, p6, p7, _⟩ := I.rcd.eight
    obtain ⟨q0, q1, q2, q3, q4, q5, q6, q7, _⟩ := (I.res.set8 (.int .i64 r.kind) (.int .i64 yv) (.int .i64 r.uid) (.int .i64 r.next) (.int .i64 r.flags) (.string r.user) (.string r.name) (.string r.text)).eight
    unfold set8 at q0 q1 q2 q3 q4 q5 q6 q7
    have HF : Hid (Cur (set8 X2 w.heap.size (.int .i64 r.kind) (.int .i64 yv) (.int .i64 r.uid) (.int .i64 r.next) (.int .i64 r.flags) (.string r.user) (.string r.name) (.string r.text)) pc a len cap ∧ w.grownBy (set8 X2 w.heap.size (.int .i64 r.kind) (.int .i64 yv) (.int .i64 r.uid) (.int .i64 r.next) (.int .i64 r.flags) (.string r.user) (.string r.name) (.string r.text)) (some pc)) := ⟨I.cur.new8 HC.out (Nat.le_refl _) _ _ _ _ _ _ _ _, grownBy_new8 I.grown (Nat.le_refl _) _ _ _ _ _ _ _ _⟩
    clear I
    go_wp2
    refine bodyPost_ret (v := Rc.v ⟨r.kind, yv, r.uid, r.next, r.flags, r.user, r.name, r.text⟩) (by simp [results, Try.results42, go_sem, q0, q1, q2, q3, q4, q5, q6, q7, Rc.v]) rfl ?_
    exact ⟨⟨r.kind, yv, r.uid, r.next, r.flags, r.user, r.name, r.text⟩, HS.out, rfl, HF.out.1, HF.out.2⟩
  · obtain ⟨i, hxi⟩ : ∃ i : Nat, x % 4 = i := ⟨_, rfl⟩
    have hi : i < 4 := by omega
    have hxm : (x : Int) % 4 = (i : Int) := by omega
    have hi2 : (i : Int) < 4 := by omega
    have hcl := ints_cell' X [0, 9999, 10000, (-1)] 3 i hi
    simp only [List.map_cons, List.map_nil] at hcl
    generalize ([0, 9999, 10000, (-1)] : List Int)[i]'hi = yv at hcl
    clear hxi
    replace I := I.later (belNew X (.cells #[.int .i64 0, .int .i64 9999, .int .i64 10000, .int .i64 (-1)] 3))
    clear y0 y1 y2 y3 y4 y5 y6 y7 f0 f1 f2 f3 f4 f5 f6 f7
    obtain ⟨y0, y1, y2, y3, y4, y5, y6, y7, f0, f1, f2, f3, f4, f5, f6, f7⟩ := I.rcd.eight
    go_upto_region 19 with fail
    replace I : RcI pc a len cap w b #[.int .i64 r.kind, .int .i64 r.valid, .int .i64 yv, .int .i64 r.next, .int .i64 r.flags, .string r.user, .string r.name, .string r.text] _ := I.put HC.out 2 (.int .i64 yv)
    generalize (X.alloc (.cells #[.int .i64 0, .int .i64 9999, .int .i64 10000, .int .i64 (-1)] 3)).setCell ⟨b, 2, none⟩ (.int .i64 yv) = X2 at I ⊢
    clear y0 y1 y2 y3 y4 y5 y6 y7 f0 f1 f2 f3 f4 f5 f6 f7
    obtain ⟨d0, d1, d2, d3, d4, d5, d6, d7, g0, g1, g2, g3, g4, g5, g6, g7⟩ := I.res.eight
    obtain ⟨p0, p1, p2, p3, p4, p5, p6, p7, _⟩ := I.rcd.eight
    obtain ⟨q0, q1, q2, q3, q4, q5, q6, q7, _⟩ := (I.res.set8 (.int .i64 r.kind) (.int .i64 r.valid) (.int .i64 yv) (.int .i64 r.next) (.int .i64 r.flags) (.string r.user) (.string r.name) (.string r.text)).eight
    unfold set8 at q0 q1 q2 q3 q4 q5 q6 q7
    have HF : Hid (Cur (set8 X2 w.heap.size (.int .i64 r.kind) (.int .i64 r.valid) (.int .i64 yv) (.int .i64 r.next) (.int .i64 r.flags) (.string r.user) (.string r.name) (.string r.text)) pc a len cap ∧ w.grownBy (set8 X2 w.heap.size (.int .i64 r.kind) (.int .i64 r.valid) (.int .i64 yv) (.int .i64 r.next) (.int .i64 r.flags) (.string r.user) (.string r.name) (.string r.text)) (some pc)) := ⟨I.cur.new8 HC.out (Nat.le_refl _) _ _ _ _ _ _ _ _, grownBy_new8 I.grown (Nat.le_refl _) _ _ _ _ _ _ _ _⟩
    clear I
    go_wp2
    refine bodyPost_ret (v := Rc.v ⟨r.kind, r.valid, yv, r.next, r.flags, r.user, r.name, r.text⟩) (by simp [results, Try.results42, go_sem, q0, q1, q2, q3, q4, q5, q6, q7, Rc.v]) rfl ?_
    exact ⟨⟨r.kind, r.valid, yv, r.next, r.flags, r.user, r.name, r.text⟩, HS.out, rfl, HF.out.1, HF.out.2⟩
  · go_upto_region 19 with fail
    replace I : RcI pc a len cap w b #[.int .i64 r.kind, .int .i64 r.valid, .int .i64 r.uid, .int .i64 r.next, .int .i64 ((x : Int) % 10 - 1), .string r.user, .string r.name, .string r.text] _ := I.put HC.out 4 (.int .i64 ((x : Int) % 10 - 1))
    generalize X.setCell ⟨b, 4, none⟩ (.int .i64 ((x : Int) % 10 - 1)) = X2 at I ⊢
    clear y0 y1 y2 y3 y4 y5 y6 y7 f0 f1 f2 f3 f4 f5 f6 f7
    obtain ⟨d0, d1, d2, d3, d4, d5, d6, d7, g0, g1, g2, g3, g4, g5, g6, g7⟩ := I.res.eight
    obtain ⟨p0, p1, p2, p3, p4, p5, p6, p7, _⟩ := I.rcd.eight
    obtain ⟨q0, q1, q2, q3, q4, q5, q6, q7, _⟩ := (I.res.set8 (.int .i64 r.kind) (.int .i64 r.valid) (.int .i64 r.uid) (.int .i64 r.next) (.int .i64 ((x : Int) % 10 - 1)) (.string r.user) (.string r.name) (.string r.text)).eight
    unfold set8 at q0 q1 q2 q3 q4 q5 q6 q7
    have HF : Hid (Cur (set8 X2 w.heap.size (.int .i64 r.kind) (.int .i64 r.valid) (.int .i64 r.uid) (.int .i64 r.next) (.int .i64 ((x : Int) % 10 - 1)) (.string r.user) (.string r.name) (.string r.text)) pc a len cap ∧ w.grownBy (set8 X2 w.heap.size (.int .i64 r.kind) (.int .i64 r.valid) (.int .i64 r.uid) (.int .i64 r.next) (.int .i64 ((x : Int) % 10 - 1)) (.string r.user) (.string r.name) (.string r.text)) (some pc)) := ⟨I.cur.new8 HC.out (Nat.le_refl _) _ _ _ _ _ _ _ _, grownBy_new8 I.grown (Nat.le_refl _) _ _ _ _ _ _ _ _⟩
    clear I
    go_wp2
    refine bodyPost_ret (v := Rc.v ⟨r.kind, r.valid, r.uid, r.next, ((x : Int) % 10 - 1), r.user, r.name, r.text⟩) (by simp [results, Try.results42, go_sem, q0, q1, q2, q3, q4, q5, q6, q7, Rc.v]) rfl ?_
    exact ⟨⟨r.kind, r.valid, r.uid, r.next, ((x : Int) % 10 - 1), r.user, r.name, r.text⟩, HS.out, rfl, HF.out.1, HF.out.2⟩
  · obtain ⟨i, hxi⟩ : ∃ i : Nat, x % 3 = i := ⟨_, rfl⟩
    have hi : i < 3 := by omega
    have hxm : (x : Int) % 3 = (i : Int) := by omega
    have hi2 : (i : Int) < 3 := by omega
    have hcl := strs_cell' X [⟨#[]⟩, ⟨#[65]⟩, ⟨#[110, 105, 110, 101, 98, 121, 116, 101, 115]⟩] 9 i hi
    simp only [List.map_cons, List.map_nil] at hcl
    have HY : Hid ((([⟨#[]⟩, ⟨#[65]⟩, ⟨#[110, 105, 110, 101, 98, 121, 116, 101, 115]⟩] : List ByteArray)[i]'hi).size ≤ 200) := by
      have hall : ∀ y ∈ ([⟨#[]⟩, ⟨#[65]⟩, ⟨#[110, 105, 110, 101, 98, 121, 116, 101, 115]⟩] : List ByteArray), y.size ≤ 200 := by decide
      exact hall _ (List.getElem_mem _)
    generalize ([⟨#[]⟩, ⟨#[65]⟩, ⟨#[110, 105, 110, 101, 98, 121, 116, 101, 115]⟩] : List ByteArray)[i]'hi = yv at hcl HY
    clear hxi
    replace I := I.later (belNew X (.cells #[.string ⟨#[]⟩, .string ⟨#[65]⟩, .string ⟨#[110, 105, 110, 101, 98, 121, 116, 101, 115]⟩] 9))
    clear y0 y1 y2 y3 y4 y5 y6 y7 f0 f1 f2 f3 f4 f5 f6 f7
    obtain ⟨y0, y1, y2, y3, y4, y5, y6, y7, f0, f1, f2, f3, f4, f5, f6, f7⟩ := I.rcd.eight
    go_upto_region 19 with fail
    replace I : RcI pc a len cap w b #[.int .i64 r.kind, .int .i64 r.valid, .int .i64 r.uid, .int .i64 r.next, .int .i64 r.flags, .string yv, .string r.name, .string r.text] _ := I.put HC.out 5 (.string yv)
    generalize (X.alloc (.cells #[.string ⟨#[]⟩, .string ⟨#[65]⟩, .string ⟨#[110, 105, 110, 101, 98, 121, 116, 101, 115]⟩] 9)).setCell ⟨b, 5, none⟩ (.string yv) = X2 at I ⊢
    clear y0 y1 y2 y3 y4 y5 y6 y7 f0 f1 f2 f3 f4 f5 f6 f7
    obtain ⟨d0, d1, d2, d3, d4, d5, d6, d7, g0, g1, g2, g3, g4, g5, g6, g7⟩ := I.res.eight
    obtain ⟨p0, p1, p2, p3, p4, p5, p6, p7, _⟩ := I.rcd.eight
    obtain ⟨q0, q1, q2, q3, q4, q5, q6, q7, _⟩ := (I.res.set8 (.int .i64 r.kind) (.int .i64 r.valid) (.int .i64 r.uid) (.int .i64 r.next) (.int .i64 r.flags) (.string yv) (.string r.name) (.string r.text)).eight
    unfold set8 at q0 q1 q2 q3 q4 q5 q6 q7
    have HF : Hid (Cur (set8 X2 w.heap.size (.int .i64 r.kind) (.int .i64 r.valid) (.int .i64 r.uid) (.int .i64 r.next) (.int .i64 r.flags) (.string yv) (.string r.name) (.string r.text)) pc a len cap ∧ w.grownBy (set8 X2 w.heap.size (.int .i64 r.kind) (.int .i64 r.valid) (.int .i64 r.uid) (.int .i64 r.next) (.int .i64 r.flags) (.string yv) (.string r.name) (.string r.text)) (some pc)) := ⟨I.cur.new8 HC.out (Nat.le_refl _) _ _ _ _ _ _ _ _, grownBy_new8 I.grown (Nat.le_refl _) _ _ _ _ _ _ _ _⟩
    clear I
    go_wp2
    refine bodyPost_ret (v := Rc.v ⟨r.kind, r.valid, r.uid, r.next, r.flags, yv, r.name, r.text⟩) (by simp [results, Try.results42, go_sem, q0, q1, q2, q3, q4, q5, q6, q7, Rc.v]) rfl ?_
    exact ⟨⟨r.kind, r.valid, r.uid, r.next, r.flags, yv, r.name, r.text⟩, ⟨HY.out, HS.out.2.1, HS.out.2.2⟩, rfl, HF.out.1, HF.out.2⟩
  · go_upto_region 19 with fail
    have hn2 : 100 + (x : Int) % 2 = ((100 + x % 2 : Nat) : Int) := by omega
    have hn3 : 100 + x % 2 ≤ 101 := by omega
    rw [hn2]
    refine (long_any (100 + x % 2) 97 _ (by omega)).mono ?_
    rintro e w5 ⟨rfl, k5⟩
    have HL : Hid ((⟨(List.replicate (100 + x % 2) 97).toArray⟩ : ByteArray).size ≤ 200) := by
      show _ ≤ _
      rw [← tl_len]; simp; omega
    generalize (⟨(List.replicate (100 + x % 2) 97).toArray⟩ : ByteArray) = tv at HL ⊢
    clear hn2 hn3
    replace I := I.later k5
    clear y0 y1 y2 y3 y4 y5 y6 y7 f0 f1 f2 f3 f4 f5 f6 f7
    obtain ⟨y0, y1, y2, y3, y4, y5, y6, y7, f0, f1, f2, f3, f4, f5, f6, f7⟩ := I.rcd.eight
    go_upto_region 19 with fail
    replace I : RcI pc a len cap w b #[.int .i64 r.kind, .int .i64 r.valid, .int .i64 r.uid, .int .i64 r.next, .int .i64 r.flags, .string r.user, .string r.name, .string tv] _ := I.put HC.out 7 (.string tv)
    generalize w5.setCell ⟨b, 7, none⟩ (.string tv) = X2 at I ⊢
    clear y0 y1 y2 y3 y4 y5 y6 y7 f0 f1 f2 f3 f4 f5 f6 f7
    obtain ⟨d0, d1, d2, d3, d4, d5, d6, d7, g0, g1, g2, g3, g4, g5, g6, g7⟩ := I.res.eight
    obtain ⟨p0, p1, p2, p3, p4, p5, p6, p7, _⟩ := I.rcd.eight
    obtain ⟨q0, q1, q2, q3, q4, q5, q6, q7, _⟩ := (I.res.set8 (.int .i64 r.kind) (.int .i64 r.valid) (.int .i64 r.uid) (.int .i64 r.next) (.int .i64 r.flags) (.string r.user) (.string r.name) (.string tv)).eight
    unfold set8 at q0 q1 q2 q3 q4 q5 q6 q7
    have HF : Hid (Cur (set8 X2 w.heap.size (.int .i64 r.kind) (.int .i64 r.valid) (.int .i64 r.uid) (.int .i64 r.next) (.int .i64 r.flags) (.string r.user) (.string r.name) (.string tv)) pc a len cap ∧ w.grownBy (set8 X2 w.heap.size (.int .i64 r.kind) (.int .i64 r.valid) (.int .i64 r.uid) (.int .i64 r.next) (.int .i64 r.flags) (.string r.user) (.string r.name) (.string tv)) (some pc)) := ⟨I.cur.new8 HC.out (Nat.le_refl _) _ _ _ _ _ _ _ _, grownBy_new8 I.grown (Nat.le_refl _) _ _ _ _ _ _ _ _⟩
    clear I
    go_wp2
    refine bodyPost_ret (v := Rc.v ⟨r.kind, r.valid, r.uid, r.next, r.flags, r.user, r.name, tv⟩) (by simp [results, Try.results42, go_sem, q0, q1, q2, q3, q4, q5, q6, q7, Rc.v]) rfl ?_
    exact ⟨⟨r.kind, r.valid, r.uid, r.next, r.flags, r.user, r.name, tv⟩, ⟨HS.out.1, HS.out.2.1, HL.out⟩, rfl, HF.out.1, HF.out.2⟩
  · go_upto_region 19 with fail
    replace I : RcI pc a len cap w b #[.int .i64 r.kind, .int .i64 r.valid, .int .i64 r.uid, .int .i64 ((x : Int) % 4), .int .i64 r.flags, .string r.user, .string r.name, .string r.text] _ := I.put HC.out 3 (.int .i64 ((x : Int) % 4))
    generalize X.setCell ⟨b, 3, none⟩ (.int .i64 ((x : Int) % 4)) = X2 at I ⊢
    clear y0 y1 y2 y3 y4 y5 y6 y7 f0 f1 f2 f3 f4 f5 f6 f7
    obtain ⟨d0, d1, d2, d3, d4, d5, d6, d7, g0, g1, g2, g3, g4, g5, g6, g7⟩ := I.res.eight
    obtain ⟨p0, p1, p2, p3, p4, p5, p6, p7, _⟩ := I.rcd.eight
    obtain ⟨q0, q1, q2, q3, q4, q5, q6, q7, _⟩ := (I.res.set8 (.int .i64 r.kind) (.int .i64 r.valid) (.int .i64 r.uid) (.int .i64 ((x : Int) % 4)) (.int .i64 r.flags) (.string r.user) (.string r.name) (.string r.text)).eight
    unfold set8 at q0 q1 q2 q3 q4 q5 q6 q7
    have HF : Hid (Cur (set8 X2 w.heap.size (.int .i64 r.kind) (.int .i64 r.valid) (.int .i64 r.uid) (.int .i64 ((x : Int) % 4)) (.int .i64 r.flags) (.string r.user) (.string r.name) (.string r.text)) pc a len cap ∧ w.grownBy (set8 X2 w.heap.size (.int .i64 r.kind) (.int .i64 r.valid) (.int .i64 r.uid) (.int .i64 ((x : Int) % 4)) (.int .i64 r.flags) (.string r.user) (.string r.name) (.string r.text)) (some pc)) := ⟨I.cur.new8 HC.out (Nat.le_refl _) _ _ _ _ _ _ _ _, grownBy_new8 I.grown (Nat.le_refl _) _ _ _ _ _ _ _ _⟩
    clear I
    go_wp2
    refine bodyPost_ret (v := Rc.v ⟨r.kind, r.valid, r.uid, ((x : Int) % 4), r.flags, r.user, r.name, r.text⟩) (by simp [results, Try.results42, go_sem, q0, q1, q2, q3, q4, q5, q6, q7, Rc.v]) rfl ?_
    exact ⟨⟨r.kind, r.valid, r.uid, ((x : Int) % 4), r.flags, r.user, r.name, r.text⟩, HS.out, rfl, HF.out.1, HF.out.2⟩
  · have m0 : ((k : Int) == 0) = false := beq_eq_false_iff_ne.2 (by omega)
    have m1 : ((k : Int) == 1) = false := beq_eq_false_iff_ne.2 (by omega)
    have m2 : ((k : Int) == 2) = false := beq_eq_false_iff_ne.2 (by omega)
    have m3 : ((k : Int) == 3) = false := beq_eq_false_iff_ne.2 (by omega)
    have m4 : ((k : Int) == 4) = false := beq_eq_false_iff_ne.2 (by omega)
    have m5 : ((k : Int) == 5) = false := beq_eq_false_iff_ne.2 (by omega)
    have m6 : ((k : Int) == 6) = false := beq_eq_false_iff_ne.2 (by omega)
    go_upto_region 19 with fail
    clear y0 y1 y2 y3 y4 y5 y6 y7 f0 f1 f2 f3 f4 f5 f6 f7
    obtain ⟨d0, d1, d2, d3, d4, d5, d6, d7, g0, g1, g2, g3, g4, g5, g6, g7⟩ := I.res.eight
    obtain ⟨p0, p1, p2, p3, p4, p5, p6, p7, _⟩ := I.rcd.eight
    obtain ⟨q0, q1, q2, q3, q4, q5, q6, q7, _⟩ := (I.res.set8 (.int .i64 r.kind) (.int .i64 r.valid) (.int .i64 r.uid) (.int .i64 r.next) (.int .i64 r.flags) (.string r.user) (.string r.name) (.string r.text)).eight
    unfold set8 at q0 q1 q2 q3 q4 q5 q6 q7
    have HF : Hid (Cur (set8 X w.heap.size (.int .i64 r.kind) (.int .i64 r.valid) (.int .i64 r.uid) (.int .i64 r.next) (.int .i64 r.flags) (.string r.user) (.string r.name) (.string r.text)) pc a len cap ∧ w.grownBy (set8 X w.heap.size (.int .i64 r.kind) (.int .i64 r.valid) (.int .i64 r.uid) (.int .i64 r.next) (.int .i64 r.flags) (.string r.user) (.string r.name) (.string r.text)) (some pc)) := ⟨I.cur.new8 HC.out (Nat.le_refl _) _ _ _ _ _ _ _ _, grownBy_new8 I.grown (Nat.le_refl _) _ _ _ _ _ _ _ _⟩
    clear I
    go_wp2
    refine bodyPost_ret (v := Rc.v ⟨r.kind, r.valid, r.uid, r.next, r.flags, r.user, r.name, r.text⟩) (by simp [results, Try.results42, go_sem, q0, q1, q2, q3, q4, q5, q6, q7, Rc.v]) rfl ?_
    exact ⟨⟨r.kind, r.valid, r.uid, r.next, r.flags, r.user, r.name, r.text⟩, HS.out, rfl, HF.out.1, HF.out.2⟩




end Go.Proofs.Ytgdkndlkapmhjaa

/- A list that can be read, appended to one of the call's own. -/
namespace Go.Proofs.Ytgdkndlkapmhjaa
open Go.RowKit

variable {α : Type} {E : Enc α}

theorem run_append_zero {P : Program} {w : World} (base : Nat) (t ty e : TypeId) (i : TypeInfo) (size : Nat) (ht : P.underlying t = some (.slice e)) (hi : P.info? e = some i)
    (v : Value) (n : Nat) (xs : List Value) (hown : w.ownsRow base e size v n xs) (a : Option Addr) (c : Nat) :
    (Builtin.append_ #[t, t] ty #[v, .slice a 0 c]).run P w = .ok v w := by
  rcases hown.2 with ⟨rfl, rfl⟩ | ⟨g, cap, cur, rfl, _, _, hnc, _⟩
  · cases a <;> simp [Builtin.append_, run_underlying ht, sizeOf, typeInfo, hi, Builtin.lenOf, Builtin.firstCells, loadCells, loadCellsFrom]
  · cases a <;> simp [Builtin.append_, run_underlying ht, sizeOf, typeInfo, hi, Builtin.lenOf, Builtin.firstCells, hnc, storeCells, loadCells, loadCellsFrom]

theorem run_append_rd {w : World} (ty : TypeId) (B : Nat) (v : Value) (l : List α) (hb : RBuf E B w w v l) (vx : Value) (m : List α) (hx : Rows' E w vx m)
    (hlen : (l.length + m.length) * (E.bytes + 1) ≤ 140737488355328) :
    ∃ v' w', (Builtin.append_ #[E.sty, E.sty] ty #[v, vx]).run Try.prog w = .ok v' w' ∧ RBuf E B w' w' v' (l ++ m) ∧ w.grownBy w' v.ownBlock ∧ (v'.ownBlock = v.ownBlock ∨ v'.ownBlock = some w.heap.size) := by
  obtain ⟨i0, hi, hz0, hz1, hz2⟩ := info_parts E.info
  have e0 : (l.length + m.length) * (E.bytes + 1) = (l.length + m.length) * E.bytes + (l.length + m.length) := Nat.mul_succ _ _
  rcases hx with ⟨rfl, a, c, rfl⟩ | ⟨g, off, cap, rfl, hc, hg, hcl⟩
  · exact ⟨v, w, run_append_zero (P := Try.prog) B E.sty ty E.ty i0 E.sz E.und hi v l.length (E.row l) hb.own a c, by simpa using hb, World.grownBy.refl _ _, .inl rfl⟩
  · obtain ⟨v', w', h1, h2, h3, _, h5⟩ := run_append_own_at (P := Try.prog) w B E.sty ty E.ty i0 E.zero E.sz E.bytes E.und hi hz0 hz1 hz2 E.zc E.pos v l.length (E.row l) hb.own ⟨g, off, none⟩ m.length cap (E.row m) (E.row_length m)
      (fun j u hu => by
        have hjl : j < m.length * E.sz := by have := (List.getElem?_eq_some_iff.1 hu).1; rwa [E.row_length] at this
        have hp := E.pos
        have hq : j / E.sz < m.length := Nat.div_lt_of_lt_mul (by rw [Nat.mul_comm]; exact hjl)
        have hr : j % E.sz < E.sz := Nat.mod_lt _ hp
        have hj : j / E.sz * E.sz + j % E.sz = j := Nat.div_add_mod' j E.sz
        have hgq : m[j / E.sz]? = some m[j / E.sz] := List.getElem?_eq_getElem hq
        have h6 := E.row_at m (j / E.sz) _ hgq (j % E.sz) hr
        rw [hj, hu] at h6
        have h7 := hcl (j / E.sz) _ hgq (j % E.sz) u h6.symm
        rw [Nat.add_assoc, hj] at h7
        rw [Addr.add_lit]
        exact h7) (E.row_one' m) (by unfold maxLen; omega) (by omega) hb.le
    refine ⟨v', w', h1, ⟨?_, Below.refl _ _, Nat.le_trans hb.le h3.size⟩, h3, h5⟩
    rw [List.length_append, E.row_append]
    exact h2

theorem wp_append_rd {w : World} {o : Oper} {a : Act} {K : Act → World → Prop} {Q : Exit → Act → World → Prop} (s x : Operand) (E : Enc α)
    (ho : o.op = .call { callee := .builtin .append, args := #[s, x], argTypes := #[E.sty, E.sty] })
    (B : Nat) (v : Value) (l : List α) (hs : a.eval s = v) (hb : RBuf E B w w v l) (vx : Value) (m : List α) (hxv : a.eval x = vx) (hx : Rows' E w vx m)
    (hlen : (l.length + m.length) * (E.bytes + 1) ≤ 140737488355328)
    (h : ∀ v' w', RBuf E B w' w' v' (l ++ m) → w.grownBy w' v.ownBlock → (v'.ownBlock = v.ownBlock ∨ v'.ownBlock = some w.heap.size) → K (a.put o.dst v') w') : o.wp Try.prog a w K Q := by
  obtain ⟨v', w', hr, h2, h3, h4⟩ := run_append_rd o.type B v l hb vx m hx hlen
  unfold Oper.wp execOp
  simp only [ho, resolve, invoke, builtin, Sem.run_bind, Sem.run_pure, Result.andThen_ok, List.map_toArray, List.map_cons, List.map_nil, hs, hxv, hr]
  exact h v' w' h2 h3 h4

theorem wpList_append_rd {w : World} {ops : Array Oper} {rest : List Oper} {o : Oper} {a : Act} {Q : Exit → Act → World → Prop} (hgd : o.guard = none) (s x : Operand) (E : Enc α)
    (ho : o.op = .call { callee := .builtin .append, args := #[s, x], argTypes := #[E.sty, E.sty] })
    (B : Nat) (v : Value) (l : List α) (hs : a.eval s = v) (hb : RBuf E B w w v l) (vx : Value) (m : List α) (hxv : a.eval x = vx) (hx : Rows' E w vx m)
    (hlen : (l.length + m.length) * (E.bytes + 1) ≤ 140737488355328)
    (h : ∀ v' w', RBuf E B w' w' v' (l ++ m) → w.grownBy w' v.ownBlock → (v'.ownBlock = v.ownBlock ∨ v'.ownBlock = some w.heap.size) → wpList Try.prog ops Q rest (a.put o.dst v') w') : wpList Try.prog ops Q (o :: rest) a w :=
  wpList_plain hgd fun _ hK => wp_append_rd s x E ho B v l hs hb vx m hxv hx hlen fun v' w' h2 h3 h4 => hK _ _ (h v' w' h2 h3 h4)

end Go.Proofs.Ytgdkndlkapmhjaa

/- How bools lie in memory. -/
namespace Go.Proofs.Ytgdkndlkapmhjaa
open Go.RowKit


end Go.Proofs.Ytgdkndlkapmhjaa
