/- Texts of our own, joined. -/
import Derived.Test.YtmahicpheimnjaaJe
import Derived.Test.YtmahicpheimnjaaJc
import Derived.Test.YtmahicpheimnjaaJf
import Derived.Test.YtmahicpheimnjaaJa
import Derived.Maps.AppendAt
import Derived.Lib.Hide
/- What is drawn for the chapter on what records tell: right items. -/
namespace Go.Proofs.Ytmahicpheimnjaa
open Go.RowKit

/-- Items that are drawn in a row: Seqs from 2 on, right records. -/
def ItsUp (l : List Itm) : Prop := ∀ (j : Nat) (x : Itm), l[j]? = some x → x.1 = 2 + (j : Int) ∧ (x.2.ok ∧ x.2.slim) ∧ x.2.valid ≤ 3
theorem ItsUp.nil : ItsUp [] := by intro j x h; simp at h
theorem ItsUp.push {l : List Itm} (h : ItsUp l) {r : Rc} (hr : (r.ok ∧ r.slim) ∧ r.valid ≤ 3) : ItsUp (l ++ [(2 + (l.length : Int), r)]) := by
  intro j x hx
  by_cases c : j < l.length
  · rw [List.getElem?_append_left c] at hx
    exact h j x hx
  · rw [List.getElem?_append_right (by omega)] at hx
    have hj : j - l.length = 0 := by
      have := (List.getElem?_eq_some_iff.1 hx).1
      simp at this; omega
    rw [hj] at hx
    have e : j = l.length := by omega
    simp at hx
    subst hx e
    exact ⟨rfl, hr⟩

/-- Items that are drawn. -/
def ItsD (l : List Itm) : Prop := itemsOk l ∧ l.length ≤ 23 ∧ (∀ x ∈ l, x.2.slim) ∧ ∀ x ∈ l, x.1 ≤ 24 ∧ x.2.valid ≤ 3
theorem ItsUp.uniq {l : List Itm} (h : ItsUp l) : Uniq l := by
  intro x hx y hy e
  obtain ⟨i, hi⟩ := List.getElem?_of_mem hx
  obtain ⟨j, hj⟩ := List.getElem?_of_mem hy
  have h1 := (h i x hi).1
  have h2 := (h j y hj).1
  have : i = j := by omega
  subst this
  rw [hi] at hj
  exact Option.some.inj hj
theorem ItsUp.done {l : List Itm} (h : ItsUp l) (hl : l.length ≤ 22) : ItsD l := by
  refine ⟨⟨fun x hx => ?_, h.uniq, by omega⟩, by omega, fun x hx => ?_, fun x hx => ?_⟩
  · obtain ⟨i, hi⟩ := List.getElem?_of_mem hx
    have h1 := h i x hi
    have := (List.getElem?_eq_some_iff.1 hi).1
    exact ⟨by omega, h1.2.1.1⟩
  · obtain ⟨i, hi⟩ := List.getElem?_of_mem hx
    exact (h i x hi).2.1.2
  · obtain ⟨i, hi⟩ := List.getElem?_of_mem hx
    have h1 := (h i x hi).1
    have := (List.getElem?_eq_some_iff.1 hi).1
    exact ⟨by omega, (h i x hi).2.2⟩
theorem ItsUp.twice {l : List Itm} (h : ItsUp l) (hl : l.length ≤ 22) {j : Nat} {x : Itm} (hj : l[j]? = some x) : ItsD (l ++ [x]) := by
  have hm : x ∈ l := List.mem_of_getElem? hj
  have hall : ∀ y ∈ l ++ [x], y ∈ l := fun y hy => by
    rcases List.mem_append.1 hy with h | h
    · exact h
    · simp at h; rw [h]; exact hm
  obtain ⟨⟨a1, a2, _⟩, _, a5, a6⟩ := h.done hl
  exact ⟨⟨fun y hy => a1 y (hall y hy), fun y hy z hz => a2 y (hall y hy) z (hall z hz), by simp; omega⟩, by simp; omega, fun y hy => a5 y (hall y hy), fun y hy => a6 y (hall y hy)⟩

set_option maxRecDepth 100000 in
set_option maxHeartbeats 4000000 in
theorem items_any (pc : Nat) (a : Option Addr) (len cap : Nat) (w : World) (hc : Cur w pc a len cap) :
    Calls Try.prog 25 #[.pointer (some ⟨pc, 0, none⟩)] w fun e w' => ∃ (l : List Itm) (v : Value), ItsD l ∧ e = .returned v ∧ RBuf itE w.heap.size w' w' v l ∧ InRow v l.length ∧ Cur w' pc a len cap ∧ w.grownBy w' (some pc) := by
  have hst : RBuf itE w.heap.size w (w.alloc (.cells #[] 38)) (.slice (some ⟨w.heap.size, 0, none⟩) 0 0) [] := RBuf.fresh itE w
  have hpc := hc.lt
  have hcl := Lib.hid hc.codeLt
  have hc0 := hc.alloc (.cells #[] 38)
  have hg0 : w.grownBy (w.alloc (.cells #[] 38)) (some pc) := World.grownBy_alloc _ _ _
  go_enter Try.func25, Try.ntmps25
  go_wp2
  go_loopw [3, 4] (fun v iv wr => ∃ (l : List Itm) (i : Nat), i ≤ 22 ∧ l.length = i ∧ iv = .int .i64 (i : Int) ∧ ItsUp l ∧ RBuf itE w.heap.size wr wr v l ∧ InRow v l.length ∧ Cur wr pc a len cap ∧ w.grownBy wr (some pc)) (fun _ iv _ => (22 - intOf iv).toNat)
  case atStart => exact ⟨[], 0, by omega, rfl, rfl, ItsUp.nil, hst.here, ⟨_, _, rfl, Nat.le_refl _⟩, hc0, hg0⟩
  case round =>
    clear hst hc0 hg0 hc
    obtain ⟨l, i, hi, hli, rfl, hall, hb, hrow, hcr, hgr⟩ := hrel
    have HA := Lib.hid hall
    have HR := Lib.hid hrow
    clear hall hrow
    go_wp2_with fail
    refine (below_any 22 pc a len cap _ hcr (by omega)).mono ?_
    rintro e w3 ⟨y, hy, _, rfl, hc3, hg3⟩
    have hy2 := hy (by omega)
    have hgr3 := hgr.trans hg3
    have hb3 := hb.cursor hg3 hpc
    clear hy hg3 hcr hb hgr
    by_cases hlt : (i : Int) < (y : Int)
    · go_wp2_with fail
      refine (recThree_any pc a len cap _ hc3).mono ?_
      rintro e w4 ⟨r, hr, rfl, hc4, hg4⟩
      have HRr := Lib.hid hr
      have hgr4 := hgr3.trans hg4
      have hb4 := hb3.cursor hg4 hpc
      have hw2 : IntKind.i64.wrap (2 + (i : Int)) = 2 + (i : Int) := IntWalk.i64_in _ ⟨by omega, by omega⟩
      obtain ⟨z, hz⟩ : ∃ z : Itm, ((2 + (i : Int), r) : Itm) = z := ⟨_, rfl⟩
      have HZ := Lib.hid hz
      have hb5 := Lib.hid (hb4.alloc (.cells #[.int .i64 (2 + (i : Int)), .int .i64 r.kind, .int .i64 r.valid, .int .i64 r.uid, .int .i64 r.next, .int .i64 r.flags, .string r.user, .string r.name, .string r.text] 38))
      have hnew : Hid (∀ j u, (itE.row [z])[j]? = some u → (w4.alloc (.cells #[.int .i64 (2 + (i : Int)), .int .i64 r.kind, .int .i64 r.valid, .int .i64 r.uid, .int .i64 r.next, .int .i64 r.flags, .string r.user, .string r.name, .string r.text] 38)).cell? ((⟨w4.heap.size, 0, none⟩ : Addr).add j) = some u) := by rw [← hz]; exact row_new itE w4 (2 + (i : Int), r)
      have hl0 : Hid ((l.length + [z].length) * (itE.bytes + 1) ≤ 140737488355328) := by show _ ≤ _; simp only [itE, List.length_cons, List.length_nil]; omega
      have hc5 := hc4.alloc (.cells #[.int .i64 (2 + (i : Int)), .int .i64 r.kind, .int .i64 r.valid, .int .i64 r.uid, .int .i64 r.next, .int .i64 r.flags, .string r.user, .string r.name, .string r.text] 38)
      have hg5 := hgr4.trans (World.grownBy_alloc w4 (.cells #[.int .i64 (2 + (i : Int)), .int .i64 r.kind, .int .i64 r.valid, .int .i64 r.uid, .int .i64 r.next, .int .i64 r.flags, .string r.user, .string r.name, .string r.text] 38) (some pc))
      clear hz hr hg4 hc3 hb3 hgr3 hc4 hgr4
      unfold Rc.v
      go_wp2_with (at_builtin; refine wpList_append_row rfl _ _ itE rfl w.heap.size _ l rfl hb5.out ⟨w4.heap.size, 0, none⟩ [z] 1 rfl ?c1 ?c2 ?_)
      case c1 => exact hnew.out
      case c2 => exact hl0.out
      intro v8 w8 hb8 hg8 _
      have hb7 : RBuf itE w.heap.size (w4.alloc (.cells #[.int .i64 (2 + (i : Int)), .int .i64 r.kind, .int .i64 r.valid, .int .i64 r.uid, .int .i64 r.next, .int .i64 r.flags, .string r.user, .string r.name, .string r.text] 38)) w8 v8 (l ++ [z]) := by
        have hle := hb4.le
        refine ⟨hb8.own, (Below.refl _ _).grown hg8 (by simp; omega) (fun k hk => (hb4.own.lt k hk).1), hb8.le⟩
      have hc8 : Cur w8 pc a len cap := hc5.below hb7.bel hpc hcl.out
      have hg9 : w.grownBy w8 (some pc) := grownBy_below hg5 hb7.bel (Nat.le_refl _)
      clear hb5 hnew hl0 hc5 hg5 hg8 hb4 hb7
      go_wp2
      go_roundw
      case rel => exact ⟨l ++ [z], i + 1, by omega, by simp [hli], by go_num, by
        have h1 := HA.out.push HRr.out
        rw [hli] at h1
        rw [← HZ.out]; exact h1, hb8.here, hb8.inRow (by simp), hc8, hg9⟩
      case measure => simp [intOf]; omega
    · clear hy2
      subst hli
      by_cases h1 : (1 : Int) < (l.length : Int)
      · obtain ⟨g, cap2, rfl, hcap2⟩ := HR.out
        go_wp2_with fail
        refine (once_any 3 pc a len cap _ hc3 (by omega)).mono ?_
        rintro e w4 ⟨he, hc4, hg4⟩
        have hgr4 := hgr3.trans hg4
        have hb4 := hb3.cursor hg4 hpc
        clear hg4 hc3 hb3 hgr3
        rcases he with rfl | rfl
        · go_wp2_with fail
          refine (below_any (l.length : Int) pc a len cap _ hc4 (by omega)).mono ?_
          rintro e w5 ⟨j, hj, _, rfl, hc5, hg5⟩
          have hj2 := hj (by omega)
          have hgr5 := hgr4.trans hg5
          have hb5 := hb4.cursor hg5 hpc
          clear hj hg5 hc4 hb4 hgr4
          have hjl : l[j]? = some (l[j]'(by omega)) := List.getElem?_eq_getElem (by omega)
          generalize l[j]'(by omega) = z at hjl
          obtain ⟨sq, r⟩ := z
          have HJ := Lib.hid hjl
          have hcell : ∀ k u, (itE.f (sq, r))[k]? = some u → w5.cell? ⟨g, j * 9 + k, none⟩ = some u := fun k u hu => hb5.cell rfl j _ hjl k u hu
          have d0 := hcell 0 _ rfl
          have d1 := hcell 1 _ rfl
          have d2 := hcell 2 _ rfl
          have d3 := hcell 3 _ rfl
          have d4 := hcell 4 _ rfl
          have d5 := hcell 5 _ rfl
          have d6 := hcell 6 _ rfl
          have d7 := hcell 7 _ rfl
          have d8 := hcell 8 _ rfl
          dsimp only at d0 d1 d2 d3 d4 d5 d6 d7 d8
          simp only [Nat.add_zero] at d0
          have hj3 : (j : Int) < (l.length : Int) := by omega
          have hb6 := Lib.hid (hb5.alloc (.cells #[.int .i64 sq, .int .i64 r.kind, .int .i64 r.valid, .int .i64 r.uid, .int .i64 r.next, .int .i64 r.flags, .string r.user, .string r.name, .string r.text] 38))
          have hnew : Hid (∀ j u, (itE.row [((sq, r) : Itm)])[j]? = some u → (w5.alloc (.cells #[.int .i64 sq, .int .i64 r.kind, .int .i64 r.valid, .int .i64 r.uid, .int .i64 r.next, .int .i64 r.flags, .string r.user, .string r.name, .string r.text] 38)).cell? ((⟨w5.heap.size, 0, none⟩ : Addr).add j) = some u) := row_new itE w5 (sq, r)
          have hl0 : Hid ((l.length + [((sq, r) : Itm)].length) * (itE.bytes + 1) ≤ 140737488355328) := by show _ ≤ _; simp only [itE, List.length_cons, List.length_nil]; omega
          have hc6 := hc5.alloc (.cells #[.int .i64 sq, .int .i64 r.kind, .int .i64 r.valid, .int .i64 r.uid, .int .i64 r.next, .int .i64 r.flags, .string r.user, .string r.name, .string r.text] 38)
          have hg6 := hgr5.trans (World.grownBy_alloc w5 (.cells #[.int .i64 sq, .int .i64 r.kind, .int .i64 r.valid, .int .i64 r.uid, .int .i64 r.next, .int .i64 r.flags, .string r.user, .string r.name, .string r.text] 38) (some pc))
          clear hcell hc5 hgr5 hjl
          go_wp2_with (at_builtin; refine wpList_append_row rfl _ _ itE rfl w.heap.size _ l rfl hb6.out ⟨w5.heap.size, 0, none⟩ [((sq, r) : Itm)] 1 rfl ?c1 ?c2 ?_)
          case c1 => exact hnew.out
          case c2 => exact hl0.out
          intro v8 w8 hb8 hg8 _
          have hb7 : Below w.heap.size (w5.alloc (.cells #[.int .i64 sq, .int .i64 r.kind, .int .i64 r.valid, .int .i64 r.uid, .int .i64 r.next, .int .i64 r.flags, .string r.user, .string r.name, .string r.text] 38)) w8 := by
            have hle := hb5.le
            exact (Below.refl _ _).grown hg8 (by simp; omega) (fun k hk => (hb5.own.lt k hk).1)
          have hc8 : Cur w8 pc a len cap := hc6.below hb7 hpc hcl.out
          have hg9 : w.grownBy w8 (some pc) := grownBy_below hg6 hb7 (Nat.le_refl _)
          clear hb6 hnew hl0 hc6 hg6 hg8 hb5 hb7 d0 d1 d2 d3 d4 d5 d6 d7 d8
          go_wp2
          go_ret
          exact ⟨l ++ [(sq, r)], v8, HA.out.twice (by omega) HJ.out, rfl, hb8.here, hb8.inRow (by simp), hc8, hg9⟩
        · go_wp2
          go_ret
          exact ⟨l, _, HA.out.done (by omega), rfl, hb4, ⟨_, _, rfl, by omega⟩, hc4, hgr4⟩
      · obtain ⟨g, cap2, rfl, hcap2⟩ := HR.out
        go_wp2
        go_ret
        exact ⟨l, HA.out.done (by omega), _, rfl, hb3, ⟨_, _, rfl, by omega⟩, hc3, hgr3⟩

set_option maxRecDepth 100000 in
theorem drawItems_any (a : Option Addr) (len cap : Nat) (w : World) (hcode : CodeIn w a len) (hs : len ≤ 1048576) :
    Calls Try.prog 6 #[.slice a len cap] w fun e w' => ∃ (l : List Itm) (v : Value), ItsD l ∧ e = .returned v ∧ RBuf itE w.heap.size w w' v l ∧ InRow v l.length := by
  go_enter Try.func6, Try.ntmps6
  go_wp2_with fail
  refine (new_any a len cap _ hcode hs).mono ?_
  rintro e w1 ⟨pc, hp, rfl, hc1, hb1⟩
  have D1 : Drw w pc a len cap w1 := ⟨hc1, hb1, hp⟩
  have hz1 : w.heap.size ≤ w1.heap.size := hb1.size
  clear hc1 hb1
  go_wp2_with fail
  refine (items_any pc a len cap _ D1.cur).mono ?_
  rintro e w2 ⟨l, v, hl, rfl, hb, hrow, hc2, hg2⟩
  have D2 := D1.step hc2 hg2
  obtain ⟨g, cap2, rfl, hcap2⟩ := hrow
  go_wp2
  go_ret
  exact ⟨l, _, hl, rfl, hb.down D2.bel hz1, ⟨_, _, rfl, hcap2⟩⟩

end Go.Proofs.Ytmahicpheimnjaa

/- How mails lie in memory. -/
namespace Go.Proofs.Ytmahicpheimnjaa
open Go.RowKit

def mlE : Enc Ml where
  ty := 34
  sty := 30
  sz := 3
  bytes := 32
  zero := .agg #[.int .i64 0, .int .i64 0, .string ⟨#[]⟩]
  f := fun x => [.int .i64 x.uid, .int .i64 x.flags, .string x.text]
  len := fun _ => rfl
  pos := by decide
  one := fun _ u hu => by simp at hu; rcases hu with rfl | rfl | rfl <;> rfl
  und := Try.underlying30
  info := by kernel_rfl
  zc := rfl
  z0 := ⟨0, 0, ⟨#[]⟩⟩
  zf := rfl

end Go.Proofs.Ytmahicpheimnjaa

/- How boxes lie in memory: a row of boxes, each with a row of mails of its own. -/
namespace Go.Proofs.Ytmahicpheimnjaa
open Go.RowKit

/-- A box as it lies in its row: its mails are a slice. -/
structure BxH where
  valid : Int
  user : ByteArray
  name : ByteArray
  next : Int
  a : Option Addr
  n : Nat
  c : Nat
def BxH.mv (h : BxH) : Value := .slice h.a h.n h.c

def hdE : Enc BxH where
  ty := 32
  sty := 26
  sz := 5
  bytes := 72
  zero := .agg #[.int .i64 0, .string ⟨#[]⟩, .string ⟨#[]⟩, .int .i64 0, .slice none 0 0]
  f := fun x => [.int .i64 x.valid, .string x.user, .string x.name, .int .i64 x.next, .slice x.a x.n x.c]
  len := fun _ => rfl
  pos := by decide
  one := fun _ u hu => by simp at hu; rcases hu with rfl | rfl | rfl | rfl | rfl <;> rfl
  und := Try.underlying26
  info := by kernel_rfl
  zc := rfl
  z0 := ⟨0, ⟨#[]⟩, ⟨#[]⟩, 0, none, 0, 0⟩
  zf := rfl

/-- Boxes in memory of their own (blocks from B on): the row, and the mails of each, all apart. -/
structure StO (B : Nat) (w : World) (v : Value) (bs : List Bx) (hs : List BxH) : Prop where
  row : RBuf hdE B w w v hs
  len : hs.length = bs.length
  at' : ∀ (j : Nat) (h : BxH) (b : Bx), hs[j]? = some h → bs[j]? = some b → (h.valid = b.valid ∧ h.user = b.user ∧ h.name = b.name ∧ h.next = b.next) ∧ RBuf mlE B w w h.mv b.mails
  far : ∀ (j : Nat) (h : BxH), hs[j]? = some h → ∀ k, h.mv.ownBlock = some k → v.ownBlock ≠ some k
  apart : ∀ (i j : Nat) (h h' : BxH), hs[i]? = some h → hs[j]? = some h' → i ≠ j → ∀ k, h.mv.ownBlock = some k → h'.mv.ownBlock ≠ some k

theorem RBuf.here' {α : Type} {E : Enc α} {B : Nat} {w0 w w' : World} {v : Value} {l : List α} (h : RBuf E B w0 w v l) (hb : Below w.heap.size w w') : RBuf E B w' w' v l := (h.later hb).here
theorem StO.later {B : Nat} {w w' : World} {v : Value} {bs : List Bx} {hs : List BxH} (h : StO B w v bs hs) (hb : Below w.heap.size w w') : StO B w' v bs hs :=
  ⟨h.row.here' hb, h.len, fun j x b h1 h2 => ⟨(h.at' j x b h1 h2).1, (h.at' j x b h1 h2).2.here' hb⟩, h.far, h.apart⟩
theorem StO.nil (w : World) : StO w.heap.size w (.slice none 0 0) [] [] :=
  ⟨RBuf.nil hdE w, rfl, fun j h b h1 => by simp at h1, fun j h h1 => by simp at h1, fun i j h h' h1 => by simp at h1⟩
/-- The mails of a box lie below the heap's end. -/
theorem StO.lt {B : Nat} {w : World} {v : Value} {bs : List Bx} {hs : List BxH} (h : StO B w v bs hs) {j : Nat} {x : BxH} (hj : hs[j]? = some x) {k : Nat} (hk : x.mv.ownBlock = some k) : k < w.heap.size := by
  have hl : j < hs.length := (List.getElem?_eq_some_iff.1 hj).1
  have hb : bs[j]? = some (bs[j]'(by rw [← h.len]; exact hl)) := List.getElem?_eq_getElem _
  exact ((h.at' j x _ hj hb).2.own.lt k hk).2

/-- One box more: it was appended, its mails lying in memory of their own. -/
theorem StO.push {B : Nat} {w w' : World} {v v' : Value} {bs : List Bx} {hs : List BxH} (h : StO B w v bs hs) (b : Bx) (x : BxH)
    (hx : x.valid = b.valid ∧ x.user = b.user ∧ x.name = b.name ∧ x.next = b.next) (hm : RBuf mlE B w w x.mv b.mails)
    (hv : ∀ k, x.mv.ownBlock = some k → v.ownBlock ≠ some k) (ho : ∀ (j : Nat) (y : BxH), hs[j]? = some y → ∀ k, y.mv.ownBlock = some k → x.mv.ownBlock ≠ some k)
    (hr : RBuf hdE B w' w' v' (hs ++ [x])) (hg : w.grownBy w' v.ownBlock) (ha : v'.ownBlock = v.ownBlock ∨ v'.ownBlock = some w.heap.size) : StO B w' v' (bs ++ [b]) (hs ++ [x]) := by
  have kept : ∀ (m : Value) (l : List Ml), RBuf mlE B w w m l → (∀ k, m.ownBlock = some k → v.ownBlock ≠ some k) → RBuf mlE B w' w' m l := fun m l hm hf => by
    refine hm.shift hg ?_
    cases hmb : m.ownBlock with
    | none => exact .inl rfl
    | some k => exact .inr (fun e => hf k hmb e.symm)
  have old : ∀ {j : Nat} {y : BxH}, (hs ++ [x])[j]? = some y → (hs[j]? = some y ∧ j < hs.length) ∨ (j = hs.length ∧ y = x) := fun {j y} hj => by
    by_cases c : j < hs.length
    · rw [List.getElem?_append_left c] at hj
      exact .inl ⟨hj, c⟩
    · rw [List.getElem?_append_right (by omega)] at hj
      have hj0 : j - hs.length = 0 := by
        have := (List.getElem?_eq_some_iff.1 hj).1
        simp at this; omega
      rw [hj0] at hj
      simp at hj
      exact .inr ⟨by omega, hj.symm⟩
  have hvlt : ∀ {k : Nat}, x.mv.ownBlock = some k → k < w.heap.size := fun {k} hk => (hm.own.lt k hk).2
  refine ⟨hr, by simp [h.len], fun j y c h1 h2 => ?_, fun j y h1 k hk => ?_, fun i j y z h1 h2 hij k hk => ?_⟩
  · rcases old h1 with ⟨h3, hl⟩ | ⟨rfl, rfl⟩
    · rw [List.getElem?_append_left (by rw [← h.len]; exact hl)] at h2
      exact ⟨(h.at' j y c h3 h2).1, kept _ _ (h.at' j y c h3 h2).2 (h.far j y h3)⟩
    · rw [List.getElem?_append_right (by rw [h.len]; omega), h.len] at h2
      simp at h2
      subst h2
      exact ⟨hx, kept _ _ hm hv⟩
  · rcases old h1 with ⟨h3, _⟩ | ⟨_, rfl⟩
    · rcases ha with e | e
      · rw [e]; exact h.far j y h3 k hk
      · rw [e]; intro e2; have := h.lt h3 hk; have := Option.some.inj e2; omega
    · rcases ha with e | e
      · rw [e]; exact hv k hk
      · rw [e]; intro e2; have := hvlt hk; have := Option.some.inj e2; omega
  · rcases old h1 with ⟨h3, hl3⟩ | ⟨ei, rfl⟩
    · rcases old h2 with ⟨h4, _⟩ | ⟨_, rfl⟩
      · exact h.apart i j y z h3 h4 hij k hk
      · exact ho i y h3 k hk
    · rcases old h2 with ⟨h4, _⟩ | ⟨ej, _⟩
      · intro e; exact ho j z h4 k e hk
      · omega

end Go.Proofs.Ytmahicpheimnjaa

/- Boxes in memory of their own: what leaves them as they are. -/
namespace Go.Proofs.Ytmahicpheimnjaa
open Go.RowKit

/-- What leaves the boxes' and the mails' blocks alone leaves them as they are. -/
theorem StO.shift {B : Nat} {w w' : World} {v : Value} {bs : List Bx} {hs : List BxH} {r : Option Nat} (h : StO B w v bs hs) (hg : w.grownBy w' r) (h1 : ∀ k, r = some k → v.ownBlock ≠ some k ∧ ∀ (j : Nat) (x : BxH), hs[j]? = some x → x.mv.ownBlock ≠ some k) : StO B w' v bs hs := by
  have sh : ∀ {α : Type} {E : Enc α} {m : Value} {l : List α}, RBuf E B w w m l → (∀ k, r = some k → m.ownBlock ≠ some k) → RBuf E B w' w' m l := fun {α E m l} hm hf => by
    refine hm.shift hg ?_
    cases hb : m.ownBlock with
    | none => exact .inl rfl
    | some k => exact .inr (fun e => hf k e.symm hb)
  exact ⟨sh h.row (fun k hk => (h1 k hk).1), h.len, fun j x b e1 e2 => ⟨(h.at' j x b e1 e2).1, sh (h.at' j x b e1 e2).2 (fun k hk => (h1 k hk).2 j x e1)⟩, h.far, h.apart⟩
/-- Where they lie: from B on, and below the heap's end. -/
theorem StO.where' {B : Nat} {w : World} {v : Value} {bs : List Bx} {hs : List BxH} (h : StO B w v bs hs) : (∀ k, v.ownBlock = some k → B ≤ k ∧ k < w.heap.size) ∧ ∀ (j : Nat) (x : BxH), hs[j]? = some x → ∀ k, x.mv.ownBlock = some k → B ≤ k ∧ k < w.heap.size := by
  refine ⟨fun k hk => h.row.own.lt k hk, fun j x hj k hk => ?_⟩
  have hl : j < hs.length := (List.getElem?_eq_some_iff.1 hj).1
  have hb : bs[j]? = some (bs[j]'(by rw [← h.len]; exact hl)) := List.getElem?_eq_getElem _
  exact (h.at' j x _ hj hb).2.own.lt k hk
/-- What is written from B' on, above them, leaves them. -/
theorem StO.under {B C : Nat} {w w' : World} {v : Value} {bs : List Bx} {hs : List BxH} (h : StO B w v bs hs) (hb : Below C w w') (h1 : ∀ k, v.ownBlock = some k → k < C) (h2 : ∀ (j : Nat) (x : BxH), hs[j]? = some x → ∀ k, x.mv.ownBlock = some k → k < C) : StO B w' v bs hs := by
  have sh : ∀ {α : Type} {E : Enc α} {m : Value} {l : List α}, RBuf E B w w m l → (∀ k, m.ownBlock = some k → k < C) → RBuf E B w' w' m l := fun {α E m l} hm hf => by
    refine ⟨⟨hm.own.1, ?_⟩, Below.refl _ _, Nat.le_trans hm.le hb.size⟩
    rcases hm.own.2 with e | ⟨g, cap, cur, rfl, hg, hh, hrest⟩
    · exact .inl e
    · exact .inr ⟨g, cap, cur, rfl, hg, (hb.block g (hf g rfl)).trans hh, hrest⟩
  exact ⟨sh h.row h1, h.len, fun j x b e1 e2 => ⟨(h.at' j x b e1 e2).1, sh (h.at' j x b e1 e2).2 (h2 j x e1)⟩, h.far, h.apart⟩
theorem StO.lower {B B0 : Nat} {w : World} {v : Value} {bs : List Bx} {hs : List BxH} (h : StO B w v bs hs) (hB : B0 ≤ B) : StO B0 w v bs hs :=
  ⟨h.row.lower hB, h.len, fun j x b h1 h2 => ⟨(h.at' j x b h1 h2).1, (h.at' j x b h1 h2).2.lower hB⟩, h.far, h.apart⟩

end Go.Proofs.Ytmahicpheimnjaa

/- What a list of numbers is that a call builds in memory of its own, and the laws by which it grows, is read and is written. -/
namespace Go.Proofs.Ytmahicpheimnjaa
open Go.RowKit

theorem Try.info_int : (Try.prog.info? 3).map (fun i => (i.zero, i.size, i.bytes)) = some (some (.int .i64 0), 1, 8) := by kernel_rfl

def intV (l : List Int) : List Value := l.map fun c => .int .i64 c
theorem intV_length (l : List Int) : (intV l).length = l.length := by simp [intV]

/-- The slice v holds the numbers l in memory that the call made itself (blocks from B on); below B all is as it was in w0. -/
structure IBuf (B : Nat) (w0 w : World) (v : Value) (l : List Int) : Prop where
  own : w.ownsRow B 3 1 v l.length (intV l)
  bel : Below B w0 w
  le : B ≤ w.heap.size

theorem IBuf.alloc {B : Nat} {w0 w : World} {v : Value} {l : List Int} (h : IBuf B w0 w v l) (o : Obj) : IBuf B w0 (w.alloc o) v l :=
  ⟨h.own.alloc o, h.bel.alloc h.le o, by have := h.le; simp; omega⟩
theorem IBuf.drew {B : Nat} {w0 w : World} {v : Value} {l : List Int} (h : IBuf B w0 w v l) : IBuf B w0 w.drew v l :=
  ⟨h.own.drew, h.bel.drew, h.le⟩
theorem IBuf.fresh (w : World) : IBuf w.heap.size w (w.alloc (.cells #[] 3)) (.slice (some ⟨w.heap.size, 0, none⟩) 0 0) [] :=
  ⟨World.ownsRow_made w #[] 0 (Nat.le_refl _) (by decide) rfl, (Below.refl _ _).alloc (Nat.le_refl _) _, by simp⟩

/-- What is laid behind the heap's end, and nothing else, leaves the numbers where they are. -/
theorem IBuf.later {B : Nat} {w0 w w' : World} {v : Value} {l : List Int} (h : IBuf B w0 w v l) (hb : Below w.heap.size w w') : IBuf B w0 w' v l := by
  have hg : w.grownBy w' none := ⟨hb.os, hb.tape, hb.output, hb.size, fun k hk _ => hb.block k hk⟩
  refine ⟨h.own.kept hg ?_, h.bel.trans (hb.mono h.le), Nat.le_trans h.le hb.size⟩
  cases hv : v.ownBlock with
  | none => exact .inl rfl
  | some k => exact .inr (by simp)

theorem wpList_append_int {w0 w : World} {ops : Array Oper} {rest : List Oper} {o : Oper} {a : Act} {Q : Exit → Act → World → Prop} (hgd : o.guard = none) (s x : Operand)
    (ho : o.op = .call { callee := .builtin .append, args := #[s, x], argTypes := #[117, 117] })
    (B : Nat) (v : Value) (l : List Int) (hs : a.eval s = v) (hb : IBuf B w0 w v l)
    (ad : Addr) (t : Int) (hx : a.eval x = .slice (some ad) 1 1)
    (hnews : ∀ j u, [Value.int .i64 t][j]? = some u → w.cell? (ad.add j) = some u)
    (hlen : l.length + 1 ≤ 8796093022208)
    (h : ∀ v' w', IBuf B w0 w' v' (l ++ [t]) → wpList Try.prog ops Q rest (a.put o.dst v') w') : wpList Try.prog ops Q (o :: rest) a w := by
  obtain ⟨i0, hi, hz0, hz1, hz2⟩ := info_parts Try.info_int
  refine wpList_append_own _ hgd s x 117 ho B 3 i0 (.int .i64 0) 1 8 Try.underlying117 hi hz0 hz1 hz2 rfl (by decide) v l.length (intV l) hs hb.own ad 1 1 [.int .i64 t] hx (by simp) hnews ?_ (by unfold maxLen; omega) (by omega) hb.le ?_
  · intro u hu
    simp at hu
    subst hu
    rfl
  · intro v' w' hown hgrow _
    refine h v' w' ⟨?_, hb.bel.grown hgrow hb.le (fun k hk => (hb.own.lt k hk).1), Nat.le_trans hb.le hgrow.size⟩
    have e1 : (l ++ [t]).length = l.length + 1 := by simp
    have e2 : intV (l ++ [t]) = intV l ++ [.int .i64 t] := by simp [intV]
    rw [e1, e2]
    exact hown

theorem IBuf.form {B : Nat} {w0 w : World} {v : Value} {l : List Int} (h : IBuf B w0 w v l) : ∃ (a : Option Addr) (cap : Nat), v = .slice a l.length cap := by
  rcases h.own.2 with ⟨rfl, h0⟩ | ⟨g, cap, cur, rfl, _⟩
  · exact ⟨none, 0, by rw [h0]⟩
  · exact ⟨_, _, rfl⟩

/-- Numbers that can be read: each in its cell of a row; nothing where there is none. -/
def Ints (w : World) (v : Value) (l : List Int) : Prop :=
  (l = [] ∧ ∃ (a : Option Addr) (cap : Nat), v = .slice a 0 cap) ∨
  ∃ g cap : Nat, v = .slice (some ⟨g, 0, none⟩) l.length cap ∧ l.length ≤ cap ∧ g < w.heap.size ∧ ∀ j b, l[j]? = some b → w.cell? ⟨g, j, none⟩ = some (.int .i64 b)

theorem IBuf.ints {B : Nat} {w0 w : World} {v : Value} {l : List Int} (h : IBuf B w0 w v l) : Ints w v l := by
  rcases h.own.2 with ⟨rfl, h0⟩ | ⟨g, cap, cur, rfl, hg, hh, hnc, hcp, hcs, htake⟩
  · exact .inl ⟨List.length_eq_zero_iff.1 h0, _, _, rfl⟩
  · refine .inr ⟨g, cap, rfl, hnc, (h.own.lt g rfl).2, fun j b hj => ?_⟩
    have hlt : j < l.length := (List.getElem?_eq_some_iff.1 hj).1
    rw [h.own.cellAt j (by omega)]
    simp [intV, hj]

theorem Ints.later {w w' : World} {v : Value} {l : List Int} (h : Ints w v l) (hb : Below w.heap.size w w') : Ints w' v l := by
  rcases h with h | ⟨g, cap, hv, hc, hg, hcl⟩
  · exact .inl h
  · exact .inr ⟨g, cap, hv, hc, Nat.lt_of_lt_of_le hg hb.size, fun j b hj => (hb.cell (p := ⟨g, j, none⟩) hg).trans (hcl j b hj)⟩

/-- A store into the row. -/
theorem IBuf.stored {B : Nat} {w0 w : World} {g cap : Nat} {l : List Int} (h : IBuf B w0 w (.slice (some ⟨g, 0, none⟩) l.length cap) l) (j : Nat) (t : Int) :
    IBuf B w0 (w.setCell ⟨g, j, none⟩ (.int .i64 t)) (.slice (some ⟨g, 0, none⟩) l.length cap) (l.set j t) := by
  have hst := h.own.stored j (.int .i64 t)
  have e : intV (l.set j t) = (intV l).set j (.int .i64 t) := by simp [intV, List.map_set]
  refine ⟨?_, h.bel.setCell (h.own.lt g rfl).1 _, by have := h.le; simpa using this⟩
  have hl : (l.set j t).length = l.length := by simp
  rw [hl, e]
  exact hst.1

theorem IBuf.under {w0 w1 w : World} {v : Value} {l : List Int} (hb : Below w0.heap.size w0 w1) (h : IBuf w1.heap.size w1 w v l) : IBuf w0.heap.size w0 w v l := by
  refine ⟨⟨h.own.1, ?_⟩, hb.trans (h.bel.mono hb.size), Nat.le_trans hb.size h.le⟩
  rcases h.own.2 with h1 | ⟨g, cap, cur, h1, h2, h3⟩
  · exact .inl h1
  · exact .inr ⟨g, cap, cur, h1, Nat.le_trans hb.size h2, h3⟩

end Go.Proofs.Ytmahicpheimnjaa

/- What records tell: the model's numbers in their order. -/
namespace Go.Proofs.Ytmahicpheimnjaa
open Go.RowKit

theorem filt_yes {p : Int → Bool} {l : List Int} {i : Nat} {b : Int} (h : l[i]? = some b) (hp : p b = true) : (l.take (i + 1)).filter p = (l.take i).filter p ++ [b] := by
  rw [List.take_add_one, h, List.filter_append]
  simp [hp]
theorem filt_no {p : Int → Bool} {l : List Int} {i : Nat} {b : Int} (h : l[i]? = some b) (hp : p b = false) : (l.take (i + 1)).filter p = (l.take i).filter p := by
  rw [List.take_add_one, h, List.filter_append]
  simp [hp]
theorem filt_len (p : Int → Bool) (l : List Int) (i : Nat) : ((l.take i).filter p).length ≤ l.length :=
  Nat.le_trans (List.length_filter_le _ _) (List.length_take_le' _ _)
theorem one_intS (w : World) (t : Int) : ∀ j u, [Value.int .i64 t][j]? = some u → (w.alloc (.cells #[.int .i64 t] 3)).cell? ((⟨w.heap.size, 0, none⟩ : Addr).add j) = some u := by
  intro j u hj
  have : j = 0 := by have := (List.getElem?_eq_some_iff.1 hj).1; simp at this; exact this
  subst this
  simp at hj
  subst hj
  simp [Addr.add]

set_option maxRecDepth 100000 in
set_option maxHeartbeats 2000000 in
theorem specSorted_any (l : List Int) (v : Value) (x : Int) (w : World) (h : Ints w v l) (hl : l.length ≤ 1000000) :
    Calls Try.prog 62 #[v, .int .i64 x] w fun e w' => ∃ v', e = .returned v' ∧ IBuf w.heap.size w w' v' (insI l x) := by
  obtain ⟨ad, cap, rfl, hrow⟩ : ∃ (ad : Option Addr) (cap : Nat), v = .slice ad l.length cap ∧ ∀ X, Below w.heap.size w X → ∀ i b, l[i]? = some b → ∃ g, ad = some ⟨g, 0, none⟩ ∧ X.cell? ⟨g, i, none⟩ = some (.int .i64 b) := by
    rcases h with ⟨rfl, a, c, rfl⟩ | ⟨g, c, rfl, hc, hg, hcl⟩
    · exact ⟨a, c, rfl, fun X _ i x hi => by cases hi⟩
    · exact ⟨_, c, rfl, fun X hb i b hi => ⟨g, rfl, (hb.cell (p := ⟨g, i, none⟩) hg).trans (hcl i b hi)⟩⟩
  have HR := Lib.hid hrow
  clear h hrow
  have hst := IBuf.fresh w
  go_enter Try.func62, Try.ntmps62
  go_wp2
  go_loopw [5, 6] (fun ov iv wr => ∃ i : Nat, i ≤ l.length ∧ iv = .int .i64 (i : Int) ∧ IBuf w.heap.size w wr ov ((l.take i).filter (fun y => decide (y < x)))) (fun _ iv _ => l.length - (intOf iv).toNat)
  case atStart => exact ⟨0, by omega, rfl, hst⟩
  case round =>
    clear hst
    obtain ⟨i, hi, rfl, hb⟩ := hrel
    have hfl := filt_len (fun y => decide (y < x)) l i
    obtain ⟨oa, oc, rfl⟩ := hb.form
    by_cases hlt : i < l.length
    · have hgx : l[i]? = some l[i] := List.getElem?_eq_getElem hlt
      obtain ⟨g, rfl, c0⟩ := HR.out _ hb.bel i _ hgx
      generalize l[i] = b at *
      have hi0 : (0 : Int) ≤ (i : Int) := by omega
      have hi1 : (i : Int) < (l.length : Int) := by omega
      by_cases hbx : b < x
      · have HE := Lib.hid (filt_yes (p := fun y => decide (y < x)) hgx (decide_eq_true hbx))
        clear hgx
        generalize (l.take i).filter (fun y => decide (y < x)) = L at *
        have HB := Lib.hid hb
        clear hb
        go_wp2_with (at_builtin; refine wpList_append_int rfl _ _ rfl _ _ L rfl (HB.out.alloc _) ⟨wr.heap.size, 0, none⟩ b rfl ?c1 ?c2 ?_)
        case c1 => exact one_intS _ _
        case c2 => omega
        intro v' w4 hb4
        have HB4 := Lib.hid hb4
        clear hb4 c0
        go_wp2
        exact ⟨⟨i + 1, by omega, by simp, by rw [HE.out]; exact HB4.out⟩, by first | omega | (simp [intOf]; omega)⟩
      · have HE := Lib.hid (filt_no (p := fun y => decide (y < x)) hgx (decide_eq_false hbx))
        clear hgx
        generalize (l.take i).filter (fun y => decide (y < x)) = L at *
        have HB := Lib.hid hb
        clear hb
        go_wp2
        exact ⟨⟨i + 1, by omega, by simp, by rw [HE.out]; exact HB.out⟩, by first | omega | (simp [intOf]; omega)⟩
    · have hie : i = l.length := by omega
      subst hie
      rw [List.take_length] at hb hfl ⊢
      have HF : Hid (l.filter (fun y => decide (y < x)) ++ (x :: l.filter (fun y => decide (x < y))) = insI l x) := rfl
      generalize l.filter (fun y => decide (y < x)) = L at *
      have HB := Lib.hid hb
      clear hb
      go_wp2_with (at_builtin; refine wpList_append_int rfl _ _ rfl _ _ L rfl (HB.out.alloc _) ⟨wr.heap.size, 0, none⟩ x rfl ?c1 ?c2 ?_)
      case c1 => exact one_intS _ _
      case c2 => omega
      intro v' w4 hb4
      have HB4 := Lib.hid hb4
      clear HB hb4
      go_wp2
      go_loopw [5, 7] (fun ov iv wr => ∃ i : Nat, i ≤ l.length ∧ iv = .int .i64 (i : Int) ∧ IBuf w.heap.size w wr ov (L ++ [x] ++ (l.take i).filter (fun y => decide (x < y)))) (fun _ iv _ => l.length - (intOf iv).toNat)
      case atStart => exact ⟨0, by omega, rfl, by simpa using HB4.out⟩
      case round =>
        clear HB4
        obtain ⟨i, hi, rfl, hb⟩ := hrel
        have hfl2 := filt_len (fun y => decide (x < y)) l i
        by_cases hlt : i < l.length
        · have hgx : l[i]? = some l[i] := List.getElem?_eq_getElem hlt
          obtain ⟨g, rfl, c0⟩ := HR.out _ hb.bel i _ hgx
          generalize l[i] = b at *
          have hi0 : (0 : Int) ≤ (i : Int) := by omega
          have hi1 : (i : Int) < (l.length : Int) := by omega
          by_cases hbx : x < b
          · have HE := Lib.hid (filt_yes (p := fun y => decide (x < y)) hgx (decide_eq_true hbx))
            clear hgx
            generalize (l.take i).filter (fun y => decide (x < y)) = M at *
            have hml : (L ++ [x] ++ M).length ≤ 2000001 := by simp; omega
            have HB := Lib.hid hb
            clear hb
            generalize hK : L ++ [x] ++ M = K at *
            go_wp2_with (at_builtin; refine wpList_append_int rfl _ _ rfl _ _ K rfl (HB.out.alloc _) ⟨wr.heap.size, 0, none⟩ b rfl ?c1 ?c2 ?_)
            case c1 => exact one_intS _ _
            case c2 => omega
            intro v' w5 hb5
            have HB5 := Lib.hid hb5
            clear hb5 c0
            go_wp2
            exact ⟨⟨i + 1, by omega, by simp, by rw [HE.out, ← List.append_assoc, hK]; exact HB5.out⟩, by first | omega | (simp [intOf]; omega)⟩
          · have HE := Lib.hid (filt_no (p := fun y => decide (x < y)) hgx (decide_eq_false hbx))
            clear hgx
            generalize (l.take i).filter (fun y => decide (x < y)) = M at *
            have HB := Lib.hid hb
            clear hb
            go_wp2
            exact ⟨⟨i + 1, by omega, by simp, by rw [HE.out]; exact HB.out⟩, by first | omega | (simp [intOf]; omega)⟩
        · have hie : i = l.length := by omega
          subst hie
          rw [List.take_length] at hb
          have HB := Lib.hid hb
          clear hb
          go_wp2
          go_ret
          have e : L ++ [x] ++ l.filter (fun y => decide (x < y)) = insI l x := by rw [← HF.out]; simp
          have hb' := HB.out
          rw [e] at hb'
          exact ⟨_, rfl, hb'⟩

end Go.Proofs.Ytmahicpheimnjaa

/- What records tell: the model's mails of a box. -/
namespace Go.Proofs.Ytmahicpheimnjaa
open Go.RowKit

theorem uidK_yes {valid : Int} {l : List Itm} {x : Itm} (h1 : x.2.kind = 3) (h2 : x.2.valid = valid) (h3 : bestR 5 valid x.2.uid l = none) : uidK valid l x = some x.2.uid := if_pos ⟨h1, h2, h3⟩
theorem uidK_no {valid : Int} {l : List Itm} {x : Itm} (h : ¬ (x.2.kind = 3 ∧ x.2.valid = valid ∧ bestR 5 valid x.2.uid l = none)) : uidK valid l x = none := if_neg h
theorem up_yes {f : Itm → Option Int} {l : List Itm} {i : Nat} {x : Itm} {us : List Int} {n : Int} (hst : upOf f (l.take (i + 1)) = match f x with | some n => insI us n | none => us) (h : f x = some n) : upOf f (l.take (i + 1)) = insI us n := by rw [hst, h]
theorem up_no {f : Itm → Option Int} {l : List Itm} {i : Nat} {x : Itm} {us : List Int} (hst : upOf f (l.take (i + 1)) = match f x with | some n => insI us n | none => us) (h : f x = none) : upOf f (l.take (i + 1)) = us := by rw [hst, h]
theorem mailK_own {valid u : Int} {l : List Itm} (h : bestR 4 valid u l = none) : mailK valid l u = ⟨u, (bestX (bestR 3 valid u l)).2.flags, (bestX (bestR 3 valid u l)).2.text⟩ := by
  unfold mailK; rw [h]
  cases bestR 3 valid u l <;> rfl
theorem mailK_flag {valid u : Int} {l : List Itm} {y : Itm} (h : bestR 4 valid u l = some y) : mailK valid l u = ⟨u, y.2.flags, (bestX (bestR 3 valid u l)).2.text⟩ := by
  unfold mailK; rw [h]
  cases bestR 3 valid u l <;> rfl

set_option maxRecDepth 100000 in
set_option maxHeartbeats 4000000 in
theorem specMails_any (l : List Itm) (v : Value) (valid : Int) (w : World) (h : Rows' itE w v l) (hl : l.length ≤ 1000) :
    Calls Try.prog 65 #[v, .int .i64 valid] w fun e w' => ∃ v', e = .returned v' ∧ RBuf mlE w.heap.size w w' v' (mailsOf valid l) := by
  obtain ⟨ad, cap, rfl, hrow⟩ := h.items
  have HR := Lib.hid hrow
  have HW : Hid (∀ X, Below w.heap.size w X → Rows' itE X (.slice ad l.length cap) l) := fun X hb => h.later hb
  clear h hrow
  have I0 := IBuf.fresh w
  have HU : Hid (∀ i, (upOf (uidK valid l) (l.take i)).length ≤ 1000 ∨ l.length < i) := fun i => by
    by_cases c : i ≤ l.length
    · have := upOf_len (uidK valid l) l i; exact .inl (by omega)
    · exact .inr (by omega)
  go_enter Try.func65, Try.ntmps65
  go_wp2
  go_loopw [5, 6] (fun uv iv wr => ∃ i : Nat, i ≤ l.length ∧ iv = .int .i64 (i : Int) ∧ IBuf w.heap.size w wr uv (upOf (uidK valid l) (l.take i))) (fun _ iv _ => l.length - (intOf iv).toNat)
  case atStart => exact ⟨0, by omega, rfl, I0⟩
  case round =>
    clear I0
    obtain ⟨i, hi, rfl, I⟩ := hrel
    by_cases hlt : i < l.length
    · have hgx : l[i]? = some l[i] := List.getElem?_eq_getElem hlt
      have hst := upOf_take (f := uidK valid l) hgx
      obtain ⟨ga, oa, rfl, a0, a1, a2, a3, a4, a5, a6, a7, a8⟩ := HR.out _ I.bel i _ hgx
      generalize l[i] = x at *
      obtain ⟨sq, K, V, U, N, FL, US, NM, TX⟩ := x
      simp only at a0 a1 a2 a3 a4 a5 a6 a7 a8
      have hlu : (upOf (uidK valid l) (l.take i)).length ≤ 1000 := by rcases HU.out i with c | c; exact c; omega
      generalize upOf (uidK valid l) (l.take i) = us at *
      have HST := Lib.hid hst
      have hi0 : (0 : Int) ≤ (i : Int) := by omega
      have hi1 : (i : Int) < (l.length : Int) := by omega
      clear hst hgx
      have J1 := I.alloc (.cells #[.int .i64 K, .int .i64 V, .int .i64 U, .int .i64 N, .int .i64 FL, .string US, .string NM, .string TX] 36)
      have X1 := Box.new wr #[.int .i64 K, .int .i64 V, .int .i64 U, .int .i64 N, .int .i64 FL, .string US, .string NM, .string TX] 36
      obtain ⟨o, ho⟩ : ∃ o, bestR 5 valid U l = o := ⟨_, rfl⟩
      have HO := Lib.hid ho
      obtain ⟨z0, z1, z2, z3, z4, z5, z6, z7, _⟩ := X1.eight
      clear I
      go_wp2_with fail
      clear a0 a1 a2 a3 a4 a5 a6 a7 a8 z0 z1 z2 z3 z4 z5 z6 z7
      generalize wr.alloc (.cells #[.int .i64 K, .int .i64 V, .int .i64 U, .int .i64 N, .int .i64 FL, .string US, .string NM, .string TX] 36) = w1 at J1 X1 ⊢
      generalize wr.heap.size = g7 at X1 ⊢
      refine (specBest_any l _ 5 valid U _ (HW.out _ J1.bel) (by omega)).mono ?_
      rintro e w2 ⟨rfl, k2⟩
      rw [bestT_eq, ho]
      unfold itV
      have J2 := (J1.later k2).alloc (.cells #[.int .i64 (bestX o).1, .int .i64 (bestX o).2.kind, .int .i64 (bestX o).2.valid, .int .i64 (bestX o).2.uid, .int .i64 (bestX o).2.next, .int .i64 (bestX o).2.flags, .string (bestX o).2.user, .string (bestX o).2.name, .string (bestX o).2.text] 38)
      have X2 := (X1.later k2).later (belNew w2 (.cells #[.int .i64 (bestX o).1, .int .i64 (bestX o).2.kind, .int .i64 (bestX o).2.valid, .int .i64 (bestX o).2.uid, .int .i64 (bestX o).2.next, .int .i64 (bestX o).2.flags, .string (bestX o).2.user, .string (bestX o).2.name, .string (bestX o).2.text] 38))
      clear J1 X1 k2 ho
      go_upto_region 7 with fail
      generalize w2.alloc (.cells #[.int .i64 (bestX o).1, .int .i64 (bestX o).2.kind, .int .i64 (bestX o).2.valid, .int .i64 (bestX o).2.uid, .int .i64 (bestX o).2.next, .int .i64 (bestX o).2.flags, .string (bestX o).2.user, .string (bestX o).2.name, .string (bestX o).2.text] 38) = w3 at J2 X2 ⊢
      generalize w2.heap.size = g8
      obtain ⟨z0, z1, z2, z3, z4, z5, z6, z7, _⟩ := X2.eight
      by_cases hK : K = 3
      · subst hK
        by_cases hV : V = valid
        · subst hV
          cases o with
          | none =>
            have HE : Hid (upOf (uidK V l) (l.take (i + 1)) = insI us U) := up_yes HST.out (uidK_yes (x := (sq, ⟨3, V, U, N, FL, US, NM, TX⟩)) rfl rfl HO.out)
            have hn : (none : Option Itm).isSome = false := rfl
            go_wp2_with fail
            refine (specSorted_any us _ U _ J2.ints (by omega)).mono ?_
            rintro e w4 ⟨v4, rfl, J4⟩
            have J5 := IBuf.under J2.bel J4
            clear J4 J2 X2 z0 z1 z2 z3 z4 z5 z6 z7
            go_wp2
            exact ⟨⟨i + 1, by omega, by simp, by rw [HE.out]; exact J5⟩, by first | omega | (simp [intOf]; omega)⟩
          | some y =>
            have HE : Hid (upOf (uidK V l) (l.take (i + 1)) = us) := up_no HST.out (uidK_no (x := (sq, ⟨3, V, U, N, FL, US, NM, TX⟩)) (fun c => by have := c.2.2; simp only at this; rw [HO.out] at this; cases this))
            have hn : (some y : Option Itm).isSome = true := rfl
            clear X2
            go_wp2
            exact ⟨⟨i + 1, by omega, by simp, by rw [HE.out]; exact J2⟩, by first | omega | (simp [intOf]; omega)⟩
        · have HE : Hid (upOf (uidK valid l) (l.take (i + 1)) = us) := up_no HST.out (uidK_no (x := (sq, ⟨3, V, U, N, FL, US, NM, TX⟩)) (fun c => hV c.2.1))
          have hV2 : (V == valid) = false := beq_eq_false_iff_ne.2 hV
          clear X2
          go_wp2
          exact ⟨⟨i + 1, by omega, by simp, by rw [HE.out]; exact J2⟩, by first | omega | (simp [intOf]; omega)⟩
      · have HE : Hid (upOf (uidK valid l) (l.take (i + 1)) = us) := up_no HST.out (uidK_no (x := (sq, ⟨K, V, U, N, FL, US, NM, TX⟩)) (fun c => hK c.1))
        have hK2 : (K == 3) = false := beq_eq_false_iff_ne.2 hK
        clear X2
        go_wp2
        exact ⟨⟨i + 1, by omega, by simp, by rw [HE.out]; exact J2⟩, by first | omega | (simp [intOf]; omega)⟩
    · have hge : ¬ (i : Int) < (l.length : Int) := by omega
      have hil : i = l.length := by omega
      have hlu : (upOf (uidK valid l) (l.take i)).length ≤ 1000 := by rcases HU.out i with c | c; exact c; omega
      have HM : Hid (mailsOf valid l = (upOf (uidK valid l) (l.take i)).map (mailK valid l)) := by
        show mailsOf valid l = _
        rw [hil, List.take_length]; rfl
      generalize upOf (uidK valid l) (l.take i) = us at *
      clear hil HU hi
      obtain ⟨wa, hwa⟩ : ∃ wa, wa = wr := ⟨_, rfl⟩
      subst hwa
      have hbw := I.bel
      have hiu := I.ints
      obtain ⟨ua, uc, rfl, hur⟩ : ∃ (ua : Option Addr) (uc : Nat), u5 = .slice ua us.length uc ∧ ∀ X, Below wa.heap.size wa X → ∀ j b, us[j]? = some b → ∃ g, ua = some ⟨g, 0, none⟩ ∧ g < wa.heap.size ∧ X.cell? ⟨g, j, none⟩ = some (.int .i64 b) := by
        rcases hiu with ⟨rfl, a, c, rfl⟩ | ⟨g, c, rfl, hc, hg, hcl⟩
        · exact ⟨a, c, rfl, fun X _ i x hi => by cases hi⟩
        · exact ⟨_, c, rfl, fun X hb i b hi => ⟨g, rfl, hg, (hb.cell (p := ⟨g, i, none⟩) hg).trans (hcl i b hi)⟩⟩
      have HUR := Lib.hid hur
      have R0 := RBuf.fresh mlE wa
      clear hur hiu I
      go_wp2
      clear hge
      go_loopw [10, 11] (fun ov iv wr => ∃ j : Nat, j ≤ us.length ∧ iv = .int .i64 (j : Int) ∧ RBuf mlE wa.heap.size wa wr ov ((us.take j).map (mailK valid l))) (fun _ iv _ => us.length - (intOf iv).toNat)
      case atStart => exact ⟨0, by omega, rfl, R0⟩
      case round =>
        clear R0
        obtain ⟨j, hj, rfl, I⟩ := hrel
        by_cases hlj : j < us.length
        · have hgu : us[j]? = some us[j] := List.getElem?_eq_getElem hlj
          have htk : (us.take (j + 1)).map (mailK valid l) = (us.take j).map (mailK valid l) ++ [mailK valid l us[j]] := by
            rw [List.take_add_one, hgu, List.map_append]; rfl
          have hur := HUR.out
          obtain ⟨ug, rfl, hug, c0⟩ := hur _ I.bel j _ hgu
          have HCU : Hid (∀ X, Below wa.heap.size wa X → X.cell? ⟨ug, j, none⟩ = some (.int .i64 us[j])) := fun X hb => by
            obtain ⟨g2, e2, _, c2⟩ := HUR.out X hb j _ hgu
            cases e2
            exact c2
          generalize us[j] = u at *
          clear hur hgu
          have hj0 : (0 : Int) ≤ (j : Int) := by omega
          have hj1 : (j : Int) < (us.length : Int) := by omega
          obtain ⟨o3, ho3⟩ : ∃ o, bestR 3 valid u l = o := ⟨_, rfl⟩
          obtain ⟨o4, ho4⟩ : ∃ o, bestR 4 valid u l = o := ⟨_, rfl⟩
          have HO4 := Lib.hid ho4
          have HO3 := Lib.hid ho3
          have HTK := Lib.hid htk
          clear htk
          go_wp2_with fail
          clear c0
          refine (specBest_any l _ 3 valid u _ (HW.out _ (hbw.trans (I.bel.mono hbw.size))) (by omega)).mono ?_
          rintro e w1 ⟨rfl, k1⟩
          rw [bestT_eq, ho3]
          unfold itV
          have I2 := (I.later k1).alloc (.cells #[.int .i64 (bestX o3).1, .int .i64 (bestX o3).2.kind, .int .i64 (bestX o3).2.valid, .int .i64 (bestX o3).2.uid, .int .i64 (bestX o3).2.next, .int .i64 (bestX o3).2.flags, .string (bestX o3).2.user, .string (bestX o3).2.name, .string (bestX o3).2.text] 38)
          have X2 := Box.new w1 #[.int .i64 (bestX o3).1, .int .i64 (bestX o3).2.kind, .int .i64 (bestX o3).2.valid, .int .i64 (bestX o3).2.uid, .int .i64 (bestX o3).2.next, .int .i64 (bestX o3).2.flags, .string (bestX o3).2.user, .string (bestX o3).2.name, .string (bestX o3).2.text] 38
          clear I k1
          go_upto_region 14 with fail
          generalize w1.alloc (.cells #[.int .i64 (bestX o3).1, .int .i64 (bestX o3).2.kind, .int .i64 (bestX o3).2.valid, .int .i64 (bestX o3).2.uid, .int .i64 (bestX o3).2.next, .int .i64 (bestX o3).2.flags, .string (bestX o3).2.user, .string (bestX o3).2.name, .string (bestX o3).2.text] 38) = w2 at I2 X2 ⊢
          generalize w1.heap.size = gi at X2 ⊢
          obtain ⟨y3, hy3⟩ : ∃ y3, bestX o3 = y3 := ⟨_, rfl⟩
          rw [hy3] at X2 ⊢
          have HY3 := Lib.hid hy3
          clear hy3
          have c0 := HCU.out _ I2.bel
          obtain ⟨p0, p1, p2, p3, p4, p5, p6, p7, p8, _⟩ := X2.nine
          have c0 : w2.drew.cell? ⟨ug, j, none⟩ = some (.int .i64 u) := HCU.out _ (I2.bel.trans ((Below.refl w2.heap.size w2).drew.mono I2.le))
          have p5 : w2.drew.cell? ⟨gi, 5, none⟩ = some (.int .i64 y3.2.flags) := p5
          have p8 : w2.drew.cell? ⟨gi, 8, none⟩ = some (.string y3.2.text) := p8
          have n1 := World.new_ne _ _ c0
          have n2 := World.new_ne _ _ p5
          go_region_held3 (fun X => X.cell? ⟨ug, j, none⟩ = some (.int .i64 u) ∧ X.cell? ⟨gi, 5, none⟩ = some (.int .i64 y3.2.flags) ∧ X.cell? ⟨gi, 8, none⟩ = some (.string y3.2.text)) (go_keep) (fail)
          rename_i hHeld
          clear hHeld p0 p1 p2 p3 p4 p5 p6 p7 p8 n1 n2 c0
          have I3 := (I2.alloc (.cells #[.int .i64 u, .int .i64 y3.2.flags, .string y3.2.text] 34)).drew
          have X3 : Box (w2.alloc (.cells #[.int .i64 u, .int .i64 y3.2.flags, .string y3.2.text] 34)).drew w2.heap.size #[.int .i64 u, .int .i64 y3.2.flags, .string y3.2.text] 34 := Box.new w2 #[.int .i64 u, .int .i64 y3.2.flags, .string y3.2.text] 34
          have HLE : Hid (wa.heap.size ≤ w2.heap.size ∧ (u10.ownBlock = none ∨ u10.ownBlock ≠ some w2.heap.size)) := ⟨I2.le, by
            cases hv : u10.ownBlock with
            | none => exact .inl rfl
            | some k => exact .inr (fun e => by cases e; have := (I2.own.lt _ hv).2; omega)⟩
          clear I2 X2
          generalize (w2.alloc (.cells #[.int .i64 u, .int .i64 y3.2.flags, .string y3.2.text] 34)).drew = w3 at I3 X3 ⊢
          have HGB : Hid (wa.heap.size ≤ w2.heap.size) := Nat.le_trans HLE.out.1 (Nat.le_refl _)
          have HNB : Hid (u10.ownBlock = none ∨ u10.ownBlock ≠ some w2.heap.size) := HLE.out.2
          generalize w2.heap.size = gm at X3 HGB HNB ⊢
          have c0 := HCU.out _ I3.bel
          go_wp2_with fail
          clear c0
          refine (specBest_any l _ 4 valid u _ (HW.out _ (hbw.trans (I3.bel.mono hbw.size))) (by omega)).mono ?_
          rintro e w4 ⟨rfl, k4⟩
          rw [bestT_eq, ho4]
          unfold itV
          have I5 := (I3.later k4).alloc (.cells #[.int .i64 (bestX o4).1, .int .i64 (bestX o4).2.kind, .int .i64 (bestX o4).2.valid, .int .i64 (bestX o4).2.uid, .int .i64 (bestX o4).2.next, .int .i64 (bestX o4).2.flags, .string (bestX o4).2.user, .string (bestX o4).2.name, .string (bestX o4).2.text] 38)
          have X5 := Box.new w4 #[.int .i64 (bestX o4).1, .int .i64 (bestX o4).2.kind, .int .i64 (bestX o4).2.valid, .int .i64 (bestX o4).2.uid, .int .i64 (bestX o4).2.next, .int .i64 (bestX o4).2.flags, .string (bestX o4).2.user, .string (bestX o4).2.name, .string (bestX o4).2.text] 38
          have Y5 := (X3.later k4).later (belNew w4 (.cells #[.int .i64 (bestX o4).1, .int .i64 (bestX o4).2.kind, .int .i64 (bestX o4).2.valid, .int .i64 (bestX o4).2.uid, .int .i64 (bestX o4).2.next, .int .i64 (bestX o4).2.flags, .string (bestX o4).2.user, .string (bestX o4).2.name, .string (bestX o4).2.text] 38))
          have hne5 : gm ≠ w4.heap.size := by have := (X3.later k4).lt; omega
          clear I3 X3 k4
          go_upto_region 16 with fail
          generalize w4.alloc (.cells #[.int .i64 (bestX o4).1, .int .i64 (bestX o4).2.kind, .int .i64 (bestX o4).2.valid, .int .i64 (bestX o4).2.uid, .int .i64 (bestX o4).2.next, .int .i64 (bestX o4).2.flags, .string (bestX o4).2.user, .string (bestX o4).2.name, .string (bestX o4).2.text] 38) = w5 at I5 X5 Y5 ⊢
          generalize w4.heap.size = gj at X5 hne5 ⊢
          cases o4 with
          | none =>
            have HE : Hid (mailK valid l u = ⟨u, y3.2.flags, y3.2.text⟩) := by rw [← HY3.out, ← HO3.out]; exact mailK_own HO4.out
            have hn : (none : Option Itm).isSome = false := rfl
            obtain ⟨m0, m1, m2, _, _, _⟩ := Y5.three
            clear X5 Y5
            have R6 := (I5.alloc (.cells #[.int .i64 u, .int .i64 y3.2.flags, .string y3.2.text] 34)).here
            have L6 := RBuf.lit1 mlE w5 ⟨u, y3.2.flags, y3.2.text⟩
            have HR6 := Lib.hid R6
            have HL6 := Lib.hid L6
            have HI5 := Lib.hid (I5.alloc (.cells #[.int .i64 u, .int .i64 y3.2.flags, .string y3.2.text] 34))
            have hll : ((us.take j).map (mailK valid l)).length ≤ 1000 := by simp; omega
            clear R6 L6 I5
            go_wp2_with (at_builtin; refine wpList_append_rows rfl _ _ mlE rfl wa.heap.size _ _ rfl HR6.out w5.heap.size _ [⟨u, y3.2.flags, y3.2.text⟩] rfl HL6.out (by show _ * 33 ≤ _; simp only [List.length_cons, List.length_nil]; omega) ?_; intro v6 w6 r6 g6 at6)
            exact ⟨⟨j + 1, by omega, by simp, by rw [HTK.out, HE.out]; exact ⟨r6.own, HI5.out.bel.grown g6 HI5.out.le (fun k hk => (HI5.out.own.lt k hk).1), r6.le⟩⟩, by first | omega | (simp [intOf]; omega)⟩
          | some y4 =>
            have HE : Hid (mailK valid l u = ⟨u, y4.2.flags, y3.2.text⟩) := by rw [← HY3.out, ← HO3.out]; exact mailK_flag HO4.out
            have hn : (some y4 : Option Itm).isSome = true := rfl
            have hbx : bestX (some y4) = y4 := rfl
            rw [hbx] at X5
            obtain ⟨q0, q1, q2, q3, q4, q5, q6, q7, q8, _⟩ := X5.nine
            obtain ⟨m0, m1, m2, mf0, mf1, mf2⟩ := Y5.three
            have Z5 : Box (w5.setCell ⟨gm, 1, none⟩ (.int .i64 y4.2.flags)) gm #[.int .i64 u, .int .i64 y4.2.flags, .string y3.2.text] 34 := Y5.set 1 _
            have hgB : wa.heap.size ≤ gm := HGB.out
            have J5 : RBuf mlE wa.heap.size wa (w5.setCell ⟨gm, 1, none⟩ (.int .i64 y4.2.flags)) u10 ((us.take j).map (mailK valid l)) := I5.grown (stored_grown w5 gm 1 _) (HNB.out) (fun k hk => by cases hk; exact hgB)
            go_upto_region 18 with fail
            clear X5 Y5 q0 q1 q2 q3 q4 q5 q6 q7 q8 m0 m1 m2 mf0 mf1 mf2 I5
            generalize w5.setCell ⟨gm, 1, none⟩ (.int .i64 y4.2.flags) = w7 at J5 Z5 ⊢
            have I5 := J5
            clear J5
            obtain ⟨m0, m1, m2, _, _, _⟩ := Z5.three
            clear Z5
            have R6 := (I5.alloc (.cells #[.int .i64 u, .int .i64 y4.2.flags, .string y3.2.text] 34)).here
            have L6 := RBuf.lit1 mlE w7 ⟨u, y4.2.flags, y3.2.text⟩
            have HR6 := Lib.hid R6
            have HL6 := Lib.hid L6
            have HI5 := Lib.hid (I5.alloc (.cells #[.int .i64 u, .int .i64 y4.2.flags, .string y3.2.text] 34))
            have hll : ((us.take j).map (mailK valid l)).length ≤ 1000 := by simp; omega
            clear R6 L6 I5
            go_wp2_with (at_builtin; refine wpList_append_rows rfl _ _ mlE rfl wa.heap.size _ _ rfl HR6.out w7.heap.size _ [⟨u, y4.2.flags, y3.2.text⟩] rfl HL6.out (by show _ * 33 ≤ _; simp only [List.length_cons, List.length_nil]; omega) ?_; intro v6 w6 r6 g6 at6)
            exact ⟨⟨j + 1, by omega, by simp, by rw [HTK.out, HE.out]; exact ⟨r6.own, HI5.out.bel.grown g6 HI5.out.le (fun k hk => (HI5.out.own.lt k hk).1), r6.le⟩⟩, by first | omega | (simp [intOf]; omega)⟩
        · have hge : ¬ (j : Int) < (us.length : Int) := by omega
          have hjl : j = us.length := by omega
          rw [hjl, List.take_length, ← HM.out] at I
          have HI := Lib.hid (I.down (hbw.trans (I.bel.mono hbw.size)) hbw.size)
          clear I
          go_wp2
          go_ret
          exact ⟨_, rfl, HI.out⟩

end Go.Proofs.Ytmahicpheimnjaa
