/- Texts of our own, joined. -/
import Derived.Test.YtleaahdnpjnmlaaGreatDoorJdx
import Derived.Test.YtleaahdnpjnmlaaGreatDoorJa
import Derived.Test.YtleaahdnpjnmlaaGreatDoorJb
import Derived.Test.YtleaahdnpjnmlaaGreatDoorJq
import Derived.Deep.RegionHeld3
import Derived.Deep.QuietTactic
import Derived.BigQuiet
import Derived.Shelf.RegionOpenPlain
/- Segments that may be cleaned stand in a heap: the program's victims, and container/heap over them. -/
namespace Go.Proofs.YtleaahdnpjnmlaaGreatDoor
open Go.RowKit

structure Vi where
  place : Int
  gain : Int
def Vi.v (x : Vi) : Value := .agg #[.int .i64 x.place, .int .i64 x.gain]
def viL (x y : Vi) : Bool := decide ((if Lib.compareInt y.gain x.gain ≠ 0 then Lib.compareInt y.gain x.gain else Lib.compareInt x.place y.place) < 0)
theorem viL_more {x y : Vi} (h : y.gain < x.gain) : viL x y = true := by
  have e : Lib.compareInt y.gain x.gain = -1 := by unfold Lib.compareInt; rw [if_pos h]
  unfold viL; rw [e, if_pos (by decide)]; decide
theorem viL_less {x y : Vi} (h : x.gain ≤ y.gain) (hp : y.place ≤ x.place) : viL x y = false := by
  unfold viL
  by_cases c : x.gain = y.gain
  · have e : Lib.compareInt y.gain x.gain = 0 := by unfold Lib.compareInt; rw [if_neg (by omega), if_neg (by omega)]
    rw [e, if_neg (by simp)]
    apply decide_eq_false
    unfold Lib.compareInt
    rw [if_neg (by omega)]
    split <;> omega
  · have e : Lib.compareInt y.gain x.gain = 1 := by unfold Lib.compareInt; rw [if_neg (by omega), if_pos (by omega)]
    rw [e, if_pos (by decide)]; decide

def viE : Enc Vi where
  ty := 61
  sty := 58
  sz := 2
  bytes := 16
  zero := .agg #[.int .i64 0, .int .i64 0]
  f := fun x => [.int .i64 x.place, .int .i64 x.gain]
  len := fun _ => rfl
  pos := by decide
  one := fun _ u hu => by simp at hu; rcases hu with rfl | rfl <;> rfl
  und := Tryz.underlying58
  info := by kernel_rfl
  zc := rfl
  z0 := ⟨0, 0⟩
  zf := rfl

theorem Rows'.viAt {w : World} {a : Option Addr} {n c : Nat} {l : List Vi} (h : Rows' viE w (.slice a n c) l) (hn : l.length = n) {i : Nat} {x : Vi} (hx : l[i]? = some x) :
    ∃ g off : Nat, a = some ⟨g, off, none⟩ ∧ ∀ X, Below w.heap.size w X → X.cell? ⟨g, off + i * 2, none⟩ = some (.int .i64 x.place) ∧ X.cell? ⟨g, off + i * 2 + 1, none⟩ = some (.int .i64 x.gain) := by
  subst hn
  have hi : i < l.length := (List.getElem?_eq_some_iff.1 hx).1
  obtain ⟨g, off, rfl, hcl⟩ := h.at i hi
  refine ⟨g, off, rfl, fun X hX => ?_⟩
  have e : l[i] = x := Option.some.inj ((List.getElem?_eq_getElem hi).symm.trans hx)
  have h0 := hcl X hX 0 _ rfl
  have h1 := hcl X hX 1 _ rfl
  rw [show viE.sz = 2 from rfl, e] at h0 h1
  exact ⟨h0, h1⟩

structure HpL (K : Nat → Prop) (W : World) (p : Nat) (x : World) (a : Option Addr) (cap : Nat) (l : List Vi) : Prop where
  box : Box x p #[.slice a l.length cap] 58
  row : RBuf viE 0 x x (.slice a l.length cap) l
  bel : Below 0 W x
  kept : ∀ k, K k → k < x.heap.size ∧ x.heap[k]? = W.heap[k]?
  len : l.length ≤ 1048576
  np : ¬ K p
  ne : ∀ k, (Value.slice a l.length cap).ownBlock = some k → k ≠ p ∧ ¬ K k
theorem HpL.later {K : Nat → Prop} {W x y : World} {p : Nat} {a : Option Addr} {cap : Nat} {l : List Vi} (h : HpL K W p x a cap l) (hb : Below x.heap.size x y) : HpL K W p y a cap l :=
  ⟨h.box.later hb, (h.row.later hb).here, h.bel.trans (hb.mono (Nat.zero_le _)), fun k hk => ⟨Nat.lt_of_lt_of_le (h.kept k hk).1 hb.size, (hb.block k (h.kept k hk).1).trans (h.kept k hk).2⟩, h.len, h.np, h.ne⟩
theorem HpL.below {K : Nat → Prop} {W x : World} {p B : Nat} {a : Option Addr} {cap : Nat} {l : List Vi} (h : HpL K W p x a cap l) (hK : ∀ k, k < B → K k) : Below B W x := ⟨h.bel.os, h.bel.tape, h.bel.output, h.bel.size, fun k hk => (h.kept k (hK k hk)).2⟩
theorem HpL.cell {K : Nat → Prop} {W x : World} {p : Nat} {a : Option Addr} {cap : Nat} {l : List Vi} (h : HpL K W p x a cap l) : x.cell? ⟨p, 0, none⟩ = some (.slice a l.length cap) := h.box.cell 0 _ rfl
theorem HpL.loose {K : Nat → Prop} {W x : World} {p : Nat} {a : Option Addr} {cap : Nat} {l : List Vi} (h : HpL K W p x a cap l) : x.frozen? ⟨p, 0, none⟩ = false := h.box.loose 0

set_option maxRecDepth 100000 in
theorem len_method (p : Nat) (k : Nat) (w : World) (hk : 1 ≤ k) : (method k 56 (.pointer (some ⟨p, 0, none⟩)) "Len").run Tryz.prog w = ((loadVar 58 ⟨p, 0, none⟩) >>= fun v => (pure (28, v) : Sem (FuncId × Value))).run Tryz.prog w := by
  obtain ⟨j, rfl⟩ : ∃ j, k = j + 1 := ⟨k - 1, by omega⟩
  kernel_rfl
theorem less_method (p : Nat) (k : Nat) (w : World) (hk : 1 ≤ k) : (method k 56 (.pointer (some ⟨p, 0, none⟩)) "Less").run Tryz.prog w = ((loadVar 58 ⟨p, 0, none⟩) >>= fun v => (pure (144, v) : Sem (FuncId × Value))).run Tryz.prog w := by
  obtain ⟨j, rfl⟩ : ∃ j, k = j + 1 := ⟨k - 1, by omega⟩
  kernel_rfl
theorem swap_method (p : Nat) (k : Nat) (w : World) (hk : 1 ≤ k) : (method k 56 (.pointer (some ⟨p, 0, none⟩)) "Swap").run Tryz.prog w = ((loadVar 58 ⟨p, 0, none⟩) >>= fun v => (pure (147, v) : Sem (FuncId × Value))).run Tryz.prog w := by
  obtain ⟨j, rfl⟩ : ∃ j, k = j + 1 := ⟨k - 1, by omega⟩
  kernel_rfl
theorem load_vi (p : Nat) (a : Option Addr) (n c : Nat) (w : World) (h : w.cell? ⟨p, 0, none⟩ = some (.slice a n c)) : (loadVar 58 ⟨p, 0, none⟩).run Tryz.prog w = .ok (.slice a n c) w := by
  simp [loadVar, h]
theorem via_load {f : FuncId} (p : Nat) (a : Option Addr) (n c : Nat) (w : World) (h : w.cell? ⟨p, 0, none⟩ = some (.slice a n c)) : ((loadVar 58 ⟨p, 0, none⟩) >>= fun v => (pure (f, v) : Sem (FuncId × Value))).run Tryz.prog w = .ok (f, .slice a n c) w := by
  rw [Sem.run_bind, load_vi p a n c w h]; rfl
theorem nil_vi (p : Nat) (k : Nat) (w : World) (hk : 1 ≤ k) (s : String) (hs : s = "Len" ∨ s = "Less" ∨ s = "Swap" ∨ s = "Push" ∨ s = "Pop") : (nilAhead k 56 (.pointer (some ⟨p, 0, none⟩)) s).run Tryz.prog w = .ok (some false) w := by
  obtain ⟨j, rfl⟩ : ∃ j, k = j + 1 := ⟨k - 1, by omega⟩
  rcases hs with rfl | rfl | rfl | rfl | rfl <;> kernel_rfl
theorem push_method (p : Nat) (k : Nat) (w : World) (hk : 1 ≤ k) : (method k 56 (.pointer (some ⟨p, 0, none⟩)) "Push").run Tryz.prog w = .ok (146, .pointer (some ⟨p, 0, none⟩)) w := by
  obtain ⟨j, rfl⟩ : ∃ j, k = j + 1 := ⟨k - 1, by omega⟩
  kernel_rfl
theorem pop_method (p : Nat) (k : Nat) (w : World) (hk : 1 ≤ k) : (method k 56 (.pointer (some ⟨p, 0, none⟩)) "Pop").run Tryz.prog w = .ok (145, .pointer (some ⟨p, 0, none⟩)) w := by
  obtain ⟨j, rfl⟩ : ∃ j, k = j + 1 := ⟨k - 1, by omega⟩
  kernel_rfl

set_option maxRecDepth 100000 in
set_option maxHeartbeats 4000000 in
theorem less_any (l : List Vi) (a : Option Addr) (n cap i j : Nat) (x y : Vi) (w : World) (h : Rows' viE w (.slice a n cap) l) (hn : l.length = n) (hx : l[i]? = some x) (hy : l[j]? = some y) :
    Calls Tryz.prog 144 #[.slice a n cap, .int .i64 (i : Int), .int .i64 (j : Int)] w fun e w' => e = .returned (.bool (viL x y)) ∧ Below w.heap.size w w' := by
  have hi : i < n := by rw [← hn]; exact (List.getElem?_eq_some_iff.1 hx).1
  have hj : j < n := by rw [← hn]; exact (List.getElem?_eq_some_iff.1 hy).1
  obtain ⟨g, off, rfl, hcx⟩ := h.viAt hn hx
  obtain ⟨g', off', e, hcy⟩ := h.viAt hn hy
  injection e with e
  injection e with e1 e2
  subst e1 e2
  have r0 : ∀ X, Below w.heap.size w X → X.cell? ⟨g, off + i * 2, none⟩ = some (.int .i64 x.place) := fun X hb => (hcx X hb).1
  have r1 : ∀ X, Below w.heap.size w X → X.cell? ⟨g, off + i * 2 + 1, none⟩ = some (.int .i64 x.gain) := fun X hb => (hcx X hb).2
  have r2 : ∀ X, Below w.heap.size w X → X.cell? ⟨g, off + j * 2, none⟩ = some (.int .i64 y.place) := fun X hb => (hcy X hb).1
  have r3 : ∀ X, Below w.heap.size w X → X.cell? ⟨g, off + j * 2 + 1, none⟩ = some (.int .i64 y.gain) := fun X hb => (hcy X hb).2
  have HC : Hid (∀ X, Below w.heap.size w X → (X.cell? ⟨g, off + i * 2, none⟩ = some (.int .i64 x.place) ∧ X.cell? ⟨g, off + i * 2 + 1, none⟩ = some (.int .i64 x.gain) ∧ X.cell? ⟨g, off + j * 2, none⟩ = some (.int .i64 y.place) ∧ X.cell? ⟨g, off + j * 2 + 1, none⟩ = some (.int .i64 y.gain)) ∧ Below w.heap.size w X) := fun X hb => ⟨⟨r0 X hb, r1 X hb, r2 X hb, r3 X hb⟩, hb⟩
  obtain ⟨D, hD⟩ : ∃ D, (if Lib.compareInt y.gain x.gain ≠ 0 then Lib.compareInt y.gain x.gain else Lib.compareInt x.place y.place) = D := ⟨_, rfl⟩
  have HV : Hid (viL x y = decide (D < 0)) := by show _ = _; rw [← hD]; rfl
  have HD := Lib.hid hD
  have XN := Box.new w #[.int .i64 (Lib.compareInt y.gain x.gain), .int .i64 (Lib.compareInt x.place y.place)] 3
  have kN := belNew w (.cells #[.int .i64 (Lib.compareInt y.gain x.gain), .int .i64 (Lib.compareInt x.place y.place)] 3)
  have z0 : (w.alloc (.cells #[.int .i64 (Lib.compareInt y.gain x.gain), .int .i64 (Lib.compareInt x.place y.place)] 3)).drew.cell? ⟨w.heap.size, 0, none⟩ = some (.int .i64 (Lib.compareInt y.gain x.gain)) := XN.cell 0 _ rfl
  have z1 : (w.alloc (.cells #[.int .i64 (Lib.compareInt y.gain x.gain), .int .i64 (Lib.compareInt x.place y.place)] 3)).drew.cell? ⟨w.heap.size, 1, none⟩ = some (.int .i64 (Lib.compareInt x.place y.place)) := XN.cell 1 _ rfl
  have HOR := Lib.hid (cmpOr_any _ _ _ _ z0 z1)
  rw [hD] at HOR
  have HN := Lib.hid kN.drew
  have hi0 : (0 : Int) ≤ (i : Int) := by omega
  have hi1 : (i : Int) < (n : Int) := by omega
  have hj0 : (0 : Int) ≤ (j : Int) := by omega
  have hj1 : (j : Int) < (n : Int) := by omega
  rw [HV.out]
  have kk : Below w.heap.size w w.drew := (Below.refl _ _).drew
  clear hD HD HV XN kN z0 z1 hx hy h hn hcx hcy r0 r1 r2 r3
  go_enter Tryz.func144, Tryz.ntmps144
  go_upto_region 1 with fail
  obtain ⟨⟨r0, r1, r2, r3⟩, _⟩ := HC.out _ kk
  go_region_held3 (fun X => (X.cell? ⟨g, off + i * 2, none⟩ = some (.int .i64 x.place) ∧ X.cell? ⟨g, off + i * 2 + 1, none⟩ = some (.int .i64 x.gain) ∧ X.cell? ⟨g, off + j * 2, none⟩ = some (.int .i64 y.place) ∧ X.cell? ⟨g, off + j * 2 + 1, none⟩ = some (.int .i64 y.gain)) ∧ Below w.heap.size w X)
    (first | exact HC.out _ kk | exact HC.out _ HN.out)
    (first
      | (go_at_call 119; refine (compare_any _ _ _).mono ?_; rintro e wS ⟨rfl, rfl⟩)
      | (go_at_call 118; refine HOR.out.mono ?_; rintro e wS ⟨rfl, rfl⟩))
  all_goals
    go_wp2_with fail
    go_ret
    exact ⟨rfl, HN.out⟩

set_option maxRecDepth 100000 in
theorem lenVi_any (a : Option Addr) (n cap : Nat) (w : World) : Calls Tryz.prog 28 #[.slice a n cap] w fun e w' => e = .returned (.int .i64 (n : Int)) ∧ w' = w := by
  go_enter Tryz.func28, Tryz.ntmps28
  go_wp2
  go_ret
  exact ⟨rfl, rfl⟩

def swV (l : List Vi) (i j : Nat) (x y : Vi) : List Vi := (l.set i y).set j x
theorem swV_len (l : List Vi) (i j : Nat) (x y : Vi) : (swV l i j x y).length = l.length := by unfold swV; simp
theorem swV_other {l : List Vi} {i j k : Nat} {x y : Vi} (hi : k ≠ i) (hj : k ≠ j) : (swV l i j x y)[k]? = l[k]? := by
  unfold swV
  rw [List.getElem?_set_ne (Ne.symm hj), List.getElem?_set_ne (Ne.symm hi)]
theorem swV_hi {l : List Vi} {i j : Nat} {x y : Vi} (hj : j < l.length) : (swV l i j x y)[j]? = some x := by
  unfold swV
  rw [List.getElem?_set_self (by rw [List.length_set]; exact hj)]
theorem swV_lo {l : List Vi} {i j : Nat} {x y : Vi} (hi : i < l.length) (hij : i ≠ j) : (swV l i j x y)[i]? = some y := by
  unfold swV
  rw [List.getElem?_set_ne (Ne.symm hij), List.getElem?_set_self hi]

theorem HpL.at {K : Nat → Prop} {W x : World} {p : Nat} {a : Option Addr} {cap : Nat} {l : List Vi} (h : HpL K W p x a cap l) {i : Nat} {u : Vi} (hu : l[i]? = some u) :
    ∃ g : Nat, a = some ⟨g, 0, none⟩ ∧ (g ≠ p ∧ ¬ K g) ∧ x.cell? ⟨g, i * 2, none⟩ = some (.int .i64 u.place) ∧ x.cell? ⟨g, i * 2 + 1, none⟩ = some (.int .i64 u.gain) ∧ ∀ k, x.frozen? ⟨g, k, none⟩ = false := by
  have hi : i < l.length := (List.getElem?_eq_some_iff.1 hu).1
  rcases h.row.own.2 with ⟨e, h0⟩ | ⟨g, c, cur, e, hg, _⟩
  · rw [h0] at hi; omega
  · injection e with e1 e2 e3
    subst e1 e3
    have hr := h.row
    refine ⟨g, rfl, h.ne g rfl, ?_, ?_, fun k => hr.loose k⟩
    · exact hr.cell rfl i u hu 0 _ rfl
    · exact hr.cell rfl i u hu 1 _ rfl
def swW (w : World) (g i j : Nat) (x y : Vi) : World := (((w.setCell ⟨g, i * 2, none⟩ (.int .i64 y.place)).setCell ⟨g, i * 2 + 1, none⟩ (.int .i64 y.gain)).setCell ⟨g, j * 2, none⟩ (.int .i64 x.place)).setCell ⟨g, j * 2 + 1, none⟩ (.int .i64 x.gain)
theorem HpL.swap {K : Nat → Prop} {W w : World} {p g : Nat} {cap : Nat} {l : List Vi} (h : HpL K W p w (some ⟨g, 0, none⟩) cap l) {i j : Nat} {x y : Vi} (hx : l[i]? = some x) (hy : l[j]? = some y) : HpL K W p (swW w g i j x y) (some ⟨g, 0, none⟩) cap (swV l i j x y) := by
  have hi : i < l.length := (List.getElem?_eq_some_iff.1 hx).1
  have hj : j < l.length := (List.getElem?_eq_some_iff.1 hy).1
  have hpg : p ≠ g := fun e => (h.ne g rfl).1 e.symm
  have hkg : ∀ k, K k → k ≠ g := fun k hk e => (h.ne g rfl).2 (e ▸ hk)
  obtain ⟨x0, x1⟩ := x
  obtain ⟨y0, y1⟩ := y
  -- the row
  have s1 := h.row.stored i ⟨x0, x1⟩ ⟨y0, x1⟩ hx 0 (by decide) (.int .i64 y0) rfl
  have l1 : (l.set i ⟨y0, x1⟩).length = l.length := by simp
  have s1' : RBuf viE 0 (w.setCell ⟨g, i * 2, none⟩ (.int .i64 y0)) (w.setCell ⟨g, i * 2, none⟩ (.int .i64 y0)) (.slice (some ⟨g, 0, none⟩) (l.set i ⟨y0, x1⟩).length cap) (l.set i ⟨y0, x1⟩) := by rw [l1]; exact s1.here
  have g1 : (l.set i (⟨y0, x1⟩ : Vi))[i]? = some ⟨y0, x1⟩ := List.getElem?_set_self hi
  have s2 := s1'.stored i ⟨y0, x1⟩ ⟨y0, y1⟩ g1 1 (by decide) (.int .i64 y1) rfl
  rw [List.set_set, l1] at s2
  have l2 : (l.set i (⟨y0, y1⟩ : Vi)).length = l.length := by simp
  have s2' : RBuf viE 0 ((w.setCell ⟨g, i * 2, none⟩ (.int .i64 y0)).setCell ⟨g, i * 2 + 1, none⟩ (.int .i64 y1)) ((w.setCell ⟨g, i * 2, none⟩ (.int .i64 y0)).setCell ⟨g, i * 2 + 1, none⟩ (.int .i64 y1)) (.slice (some ⟨g, 0, none⟩) (l.set i ⟨y0, y1⟩).length cap) (l.set i ⟨y0, y1⟩) := by rw [l2]; exact s2.here
  obtain ⟨z, hz⟩ : ∃ z, (l.set i (⟨y0, y1⟩ : Vi))[j]? = some z := ⟨_, List.getElem?_eq_getElem (by rw [l2]; exact hj)⟩
  obtain ⟨z0, z1⟩ := z
  have s3 := s2'.stored j ⟨z0, z1⟩ ⟨x0, z1⟩ hz 0 (by decide) (.int .i64 x0) rfl
  have l3 : ((l.set i (⟨y0, y1⟩ : Vi)).set j ⟨x0, z1⟩).length = l.length := by simp
  rw [l2] at s3
  have s3' : RBuf viE 0 (((w.setCell ⟨g, i * 2, none⟩ (.int .i64 y0)).setCell ⟨g, i * 2 + 1, none⟩ (.int .i64 y1)).setCell ⟨g, j * 2, none⟩ (.int .i64 x0)) (((w.setCell ⟨g, i * 2, none⟩ (.int .i64 y0)).setCell ⟨g, i * 2 + 1, none⟩ (.int .i64 y1)).setCell ⟨g, j * 2, none⟩ (.int .i64 x0)) (.slice (some ⟨g, 0, none⟩) ((l.set i ⟨y0, y1⟩).set j ⟨x0, z1⟩).length cap) ((l.set i ⟨y0, y1⟩).set j ⟨x0, z1⟩) := by rw [l3]; exact s3.here
  have g3 : ((l.set i (⟨y0, y1⟩ : Vi)).set j ⟨x0, z1⟩)[j]? = some ⟨x0, z1⟩ := List.getElem?_set_self (by rw [l2]; exact hj)
  have s4 := s3'.stored j ⟨x0, z1⟩ ⟨x0, x1⟩ g3 1 (by decide) (.int .i64 x1) rfl
  rw [List.set_set, l3] at s4
  have l4 : (swV l i j ⟨x0, x1⟩ ⟨y0, y1⟩).length = l.length := swV_len _ _ _ _ _
  have bx := (((h.box.other (g := g) hpg (i * 2) (.int .i64 y0)).other (g := g) hpg (i * 2 + 1) (.int .i64 y1)).other (g := g) hpg (j * 2) (.int .i64 x0)).other (g := g) hpg (j * 2 + 1) (.int .i64 x1)
  have hg4 := (((stored_grown w g (i * 2) (.int .i64 y0)).trans (stored_grown _ g (i * 2 + 1) (.int .i64 y1))).trans (stored_grown _ g (j * 2) (.int .i64 x0))).trans (stored_grown _ g (j * 2 + 1) (.int .i64 x1))
  refine ⟨?_, ?_, ?_, ?_, by rw [l4]; exact h.len, h.np, by rw [l4]; exact h.ne⟩
  · rw [l4]; exact bx
  · rw [l4]; exact s4.here
  · exact (((h.bel.setCell (p := ⟨g, i * 2, none⟩) (Nat.zero_le _) _).setCell (p := ⟨g, i * 2 + 1, none⟩) (Nat.zero_le _) _).setCell (p := ⟨g, j * 2, none⟩) (Nat.zero_le _) _).setCell (p := ⟨g, j * 2 + 1, none⟩) (Nat.zero_le _) _
  · intro k hk
    obtain ⟨h1, h2⟩ := h.kept k hk
    exact ⟨Nat.lt_of_lt_of_le h1 hg4.size, (hg4.block k h1 (fun e => hkg k hk (Option.some.inj e))).trans h2⟩
theorem HpL.drew {K : Nat → Prop} {W w : World} {p : Nat} {a : Option Addr} {cap : Nat} {l : List Vi} (h : HpL K W p w a cap l) : HpL K W p w.drew a cap l := h.later (Below.refl _ _).drew

set_option maxRecDepth 100000 in
set_option maxHeartbeats 4000000 in
theorem swapVi_any (K : Nat → Prop) (W w : World) (p : Nat) (a : Option Addr) (cap : Nat) (l : List Vi) (h : HpL K W p w a cap l) (i j : Nat) (x y : Vi) (hx : l[i]? = some x) (hy : l[j]? = some y) (hij : i < j) :
    Calls Tryz.prog 147 #[.slice a l.length cap, .int .i64 (i : Int), .int .i64 (j : Int)] w fun e w' => e = .returned (.tuple #[]) ∧ HpL K W p w' a cap (swV l i j x y) := by
  have hi : i < l.length := (List.getElem?_eq_some_iff.1 hx).1
  have hj : j < l.length := (List.getElem?_eq_some_iff.1 hy).1
  have hl := h.len
  obtain ⟨g, rfl, hpg, x0, x1, hf⟩ := h.at hx
  obtain ⟨g', e, _, y0, y1, _⟩ := h.at hy
  injection e with e
  injection e with e1
  subst e1
  have HP := Lib.hid (h.swap hx hy).drew
  have HP' := Lib.hid (h.swap hx hy)
  unfold swW at HP HP'
  obtain ⟨n, hn⟩ : ∃ n, l.length = n := ⟨_, rfl⟩
  rw [hn] at hi hj hl ⊢
  clear hn hx hy h
  have hi0 : (0 : Int) ≤ (i : Int) := by omega
  have hi1 : (i : Int) < (n : Int) := by omega
  have hj0 : (0 : Int) ≤ (j : Int) := by omega
  have hj1 : (j : Int) < (n : Int) := by omega
  obtain ⟨u0, u1⟩ := x
  obtain ⟨v0, v1⟩ := y
  simp only at x0 x1 y0 y1 HP HP'
  have mixed : Tryz.prog.follows Departure.mixedOrders = true := by kernel_rfl
  have n0 : ¬ (i * 2 = j * 2) := by omega
  have m0 : ¬ (j * 2 = i * 2) := by omega
  have n1 : ¬ (i * 2 = j * 2 + 1) := by omega
  have m1 : ¬ (j * 2 + 1 = i * 2) := by omega
  have n2 : ¬ (i * 2 + 1 = j * 2) := by omega
  have m2 : ¬ (j * 2 = i * 2 + 1) := by omega
  have n3 : ¬ (i * 2 + 1 = j * 2 + 1) := by omega
  have m3 : ¬ (j * 2 + 1 = i * 2 + 1) := by omega
  go_enter Tryz.func147, Tryz.ntmps147
  go_wp2_with fail
  go_big_region_o
  all_goals
    go_wp2
    go_end0
    exact ⟨rfl, HP.out⟩
theorem vi_self {w : World} {g i : Nat} {v : Value} (h : w.cell? ⟨g, i, none⟩ = some v) : w.setCell ⟨g, i, none⟩ v = w := by
  have : w.heap.modify g (fun
      | .cells c elem frozen => .cells (if (none : Option Nat).isSome then c else c.setIfInBounds i v) elem frozen
      | o => o) = w.heap := by
    apply Array.ext_getElem?
    intro k
    rw [Array.getElem?_modify]
    by_cases hk : g = k
    · subst hk
      rw [if_pos rfl]
      unfold World.cell? at h
      cases ho : w.heap[g]? with
      | none => rfl
      | some o =>
        rw [ho] at h
        cases o <;> simp_all
        rename_i c _ _
        apply Array.ext_getElem?
        intro j
        rw [Array.getElem?_setIfInBounds]
        by_cases hj : i = j
        · subst hj; simp_all; exact (Array.getElem?_eq_some_iff.1 h).1
        · simp [hj]
    · rw [if_neg hk]
  show { w with heap := _ } = w
  exact congrArg (fun hp => { w with heap := hp }) this
set_option maxRecDepth 100000 in
set_option maxHeartbeats 4000000 in
theorem swapVi_same (K : Nat → Prop) (W w : World) (p : Nat) (a : Option Addr) (cap : Nat) (l : List Vi) (h : HpL K W p w a cap l) (x : Vi) (hx : l[0]? = some x) :
    Calls Tryz.prog 147 #[.slice a l.length cap, .int .i64 0, .int .i64 0] w fun e w' => e = .returned (.tuple #[]) ∧ HpL K W p w' a cap l := by
  have hi : 0 < l.length := (List.getElem?_eq_some_iff.1 hx).1
  obtain ⟨g, rfl, hpg, x0, x1, hf⟩ := h.at hx
  have HP : Hid (HpL K W p ((((w.setCell ⟨g, 0, none⟩ (.int .i64 x.place)).setCell ⟨g, 1, none⟩ (.int .i64 x.gain)).setCell ⟨g, 0, none⟩ (.int .i64 x.place)).setCell ⟨g, 1, none⟩ (.int .i64 x.gain)).drew (some ⟨g, 0, none⟩) cap l) := by
    show HpL _ _ _ _ _ _ _
    rw [Nat.zero_mul] at x0 x1
    rw [Nat.zero_add] at x1
    rw [vi_self x0, vi_self x1, vi_self x0, vi_self x1]
    exact h.drew
  obtain ⟨n, hn⟩ : ∃ n, l.length = n := ⟨_, rfl⟩
  rw [hn] at hi ⊢
  clear hn hx h
  have hi1 : (0 : Int) < (n : Int) := by omega
  obtain ⟨u0, u1⟩ := x
  simp only [Nat.zero_mul, Nat.zero_add] at x0 x1 HP
  have mixed : Tryz.prog.follows Departure.mixedOrders = true := by kernel_rfl
  go_enter Tryz.func147, Tryz.ntmps147
  go_wp2_with fail
  go_big_region_o
  all_goals
    go_wp2
    go_end0
    exact ⟨rfl, HP.out⟩

end Go.Proofs.YtleaahdnpjnmlaaGreatDoor
