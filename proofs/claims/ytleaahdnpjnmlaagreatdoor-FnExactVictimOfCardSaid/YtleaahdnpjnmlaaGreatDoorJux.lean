/- Texts of our own, joined. -/
import Derived.Test.YtleaahdnpjnmlaaGreatDoorJtx
/- The heap of segments that may be cleaned: what is pushed, and what is popped. -/
namespace Go.Proofs.YtleaahdnpjnmlaaGreatDoor
open Go.RowKit

structure HpT (l : List Vi) (bp bg : Int) : Prop where
  top : l[0]? = some ⟨bp, bg⟩
  all : ∀ e ∈ l, e.gain ≤ bg ∧ e.place < 1048577

theorem HpL.push {K : Nat → Prop} {W x y : World} {p : Nat} {a : Option Addr} {cap : Nat} {l m : List Vi} (h : HpL K W p x a cap l)
    (a2 : Option Addr) (c2 : Nat) (hr : RBuf viE 0 y y (.slice a2 m.length c2) m) (hg : x.grownBy y (Value.slice a l.length cap).ownBlock) (hm : m.length ≤ 1048576)
    (hat : (Value.slice a2 m.length c2).ownBlock = (Value.slice a l.length cap).ownBlock ∨ (Value.slice a2 m.length c2).ownBlock = some x.heap.size) : HpL K W p (y.setCell ⟨p, 0, none⟩ (.slice a2 m.length c2)) a2 c2 m := by
  have b3 : Box y p #[.slice a l.length cap] 58 := (hg.block p h.box.lt (fun e => (h.ne p e.symm).1 rfl)).trans h.box
  have hne : ∀ k, (Value.slice a2 m.length c2).ownBlock = some k → k ≠ p ∧ ¬ K k := fun k hk => by
    rcases hat with e | e
    · exact h.ne k (e ▸ hk)
    · rw [hk] at e
      have e1 : k = x.heap.size := Option.some.inj e
      have := h.box.lt
      exact ⟨by omega, fun c => by have := (h.kept k c).1; omega⟩
  refine ⟨b3.set 0 _, hr.shift (stored_grown _ p 0 _) ?_, (h.bel.grown hg (Nat.zero_le _) (fun k _ => Nat.zero_le k)).setCell (p := ⟨p, 0, none⟩) (Nat.zero_le _) _, ?_, hm, h.np, hne⟩
  · cases hb : (Value.slice a2 m.length c2).ownBlock with
    | none => exact .inl rfl
    | some k => exact .inr (fun e => (hne k hb).1 (Option.some.inj e))
  · intro k hk
    obtain ⟨h1, h2⟩ := h.kept k hk
    have hg4 := stored_grown y p 0 (.slice a2 m.length c2)
    exact ⟨Nat.lt_of_lt_of_le h1 (Nat.le_trans hg.size hg4.size), ((hg4.block k (Nat.lt_of_lt_of_le h1 hg.size) (fun e => h.np (by have := Option.some.inj e; rw [← this]; exact hk))).trans (hg.block k h1 (fun e => (h.ne k e.symm).2 hk))).trans h2⟩
theorem HpL.cells {K : Nat → Prop} {W x y : World} {p : Nat} {a : Option Addr} {cap : Nat} {l : List Vi} (h : HpL K W p x a cap l) (hg : x.grownBy y (Value.slice a l.length cap).ownBlock) :
    y.cell? ⟨p, 0, none⟩ = some (.slice a l.length cap) ∧ y.frozen? ⟨p, 0, none⟩ = false := by
  have b3 : Box y p #[.slice a l.length cap] 58 := (hg.block p h.box.lt (fun e => (h.ne p e.symm).1 rfl)).trans h.box
  exact ⟨b3.cell 0 _ rfl, b3.loose 0⟩

set_option maxRecDepth 100000 in
set_option maxHeartbeats 4000000 in
theorem pushVi_any (K : Nat → Prop) (W w : World) (p : Nat) (a : Option Addr) (cap : Nat) (l : List Vi) (x : Vi) (h : HpL K W p w a cap l) (hl : l.length ≤ 1048575) :
    Calls Tryz.prog 146 #[.pointer (some ⟨p, 0, none⟩), .iface 61 x.v] w fun e w' => e = .returned (.tuple #[]) ∧ ∃ (a2 : Option Addr) (c2 : Nat), HpL K W p w' a2 c2 (l ++ [x]) := by
  obtain ⟨x0, x1⟩ := x
  have hta : ∀ X : World, (Instr.typeAssert (.iface 61 (.agg #[.int .i64 x0, .int .i64 x1])) 20 61 true).run Tryz.prog X = .ok (.tuple #[.agg #[.int .i64 x0, .int .i64 x1], .bool true]) X := fun _ => by kernel_rfl
  have h1 := h.later (belNew w (.cells #[.int .i64 x0, .int .i64 x1] 61))
  have XB := Box.new w #[.int .i64 x0, .int .i64 x1] 61
  unfold Vi.v
  go_enter Tryz.func146, Tryz.ntmps146
  go_upto_region 2 with fail
  generalize w.alloc (.cells #[.int .i64 x0, .int .i64 x1] 61) = w1 at h1 XB ⊢
  generalize w.heap.size = gx at XB ⊢
  have hD := h1.drew
  have z0 : w1.drew.cell? ⟨gx, 0, none⟩ = some (.int .i64 x0) := (XB.later (Below.refl _ _).drew).cell 0 _ rfl
  have z1 : w1.drew.cell? ⟨gx, 1, none⟩ = some (.int .i64 x1) := (XB.later (Below.refl _ _).drew).cell 1 _ rfl
  have p0 : w1.drew.cell? ⟨p, 0, none⟩ = some (.slice a l.length cap) := hD.cell
  have h2 := h1.later (belNew w1 (.cells #[.int .i64 x0, .int .i64 x1] 61))
  have h3 := h2.drew
  have p2 := h2.cell
  have p3 := h3.cell
  have y0 : (w1.alloc (.cells #[.int .i64 x0, .int .i64 x1] 61)).drew.cell? ⟨gx, 0, none⟩ = some (.int .i64 x0) := (XB.later (belNew w1 _).drew).cell 0 _ rfl
  have y1 : (w1.alloc (.cells #[.int .i64 x0, .int .i64 x1] 61)).drew.cell? ⟨gx, 1, none⟩ = some (.int .i64 x1) := (XB.later (belNew w1 _).drew).cell 1 _ rfl
  have hlit := (RBuf.lit1 viE w1 ⟨x0, x1⟩).drew
  clear h h1 hD
  go_region_law (first
    | (refine step_append_rows (by rfl) _ _ viE (by rfl) 0 _ l (by rfl) h3.row w1.heap.size _ [⟨x0, x1⟩] (by rfl) hlit.here (by show _ * 17 ≤ _; simp only [List.length_cons, List.length_nil]; omega) ?_; intro v6 w6 hr6 hg6 at6 lt6; obtain ⟨a6, q6, rfl⟩ := hr6.form; obtain ⟨c6, f6⟩ := h3.cells hg6))
  all_goals
    go_wp2
    go_end0
    have hq := h3.push a6 q6 hr6 hg6 (by simp; omega) at6
    rw [show (l ++ [(⟨x0, x1⟩ : Vi)]).length = l.length + 1 by simp] at hq
    exact ⟨rfl, _, _, hq⟩

set_option maxRecDepth 100000 in
set_option maxHeartbeats 4000000 in
theorem heapPush_any (K : Nat → Prop) (W w : World) (p : Nat) (a : Option Addr) (cap : Nat) (l : List Vi) (x t : Vi) (bet : Bool) (h : HpL K W p w a cap l) (hl : l.length ≤ 1048575)
    (hb1 : bet = true → ∀ e ∈ l, viL x e = true) (hb2 : bet = false → l[0]? = some t ∧ viL x t = false) :
    Calls Tryz.prog 27 #[.iface 56 (.pointer (some ⟨p, 0, none⟩)), .iface 61 x.v] w fun e w' => e = .returned (.tuple #[]) ∧
      ∃ (a2 : Option Addr) (c2 : Nat) (l2 : List Vi), HpL K W p w' a2 c2 l2 ∧ l2.length = l.length + 1 ∧ l2[0]? = some (if bet then x else t) ∧ ∀ e ∈ l2, e = x ∨ e ∈ l := by
  have hnil : ∀ k X, 1 ≤ k → (nilAhead k 56 (.pointer (some ⟨p, 0, none⟩)) "Push").run Tryz.prog X = .ok (some false) X := fun k X hk => nil_vi p k X hk _ (by simp)
  have hnil2 : ∀ k X, 1 ≤ k → (nilAhead k 56 (.pointer (some ⟨p, 0, none⟩)) "Len").run Tryz.prog X = .ok (some false) X := fun k X hk => nil_vi p k X hk _ (by simp)
  have hmp : ∀ k X, 1 ≤ k → (method k 56 (.pointer (some ⟨p, 0, none⟩)) "Push").run Tryz.prog X = .ok (146, .pointer (some ⟨p, 0, none⟩)) X := fun k X hk => push_method p k X hk
  have HPU := Lib.hid (pushVi_any K W w p a cap l x h hl)
  obtain ⟨TT, hTT⟩ : ∃ TT, (if bet then x else t) = TT := ⟨_, rfl⟩
  have HUP : Hid (∀ (X : World) (a2 : Option Addr) (c2 : Nat), HpL K W p X a2 c2 (l ++ [x]) → Calls Tryz.prog 45 #[.iface 56 (.pointer (some ⟨p, 0, none⟩)), .int .i64 (l.length : Int)] X fun e w' => e = .returned (.tuple #[]) ∧
      ∃ (a2 : Option Addr) (c2 : Nat) (l2 : List Vi), HpL K W p w' a2 c2 l2 ∧ l2.length = l.length + 1 ∧ l2[0]? = some (if bet then x else t) ∧ ∀ e ∈ l2, e = x ∨ e ∈ l) := fun X a2 c2 hX => by
    have hU : UpI K W p l x t bet (l.length + 1) a2 c2 X l.length (l ++ [x]) := by
      refine ⟨hX, by simp, by simp, fun k e hk he => ?_, fun c => ?_⟩
      · have hlt : k < l.length := by
          have := (List.getElem?_eq_some_iff.1 he).1
          simp at this; omega
        rw [List.getElem?_append_left hlt] at he
        exact List.mem_of_getElem? he
      · obtain ⟨c1, _⟩ := hb2 c
        have hpos : 0 < l.length := (List.getElem?_eq_some_iff.1 c1).1
        exact ⟨by omega, by rw [List.getElem?_append_left hpos]; exact c1⟩
    refine (up_any K W X p a2 c2 (l.length + 1) l.length l (l ++ [x]) x t bet hU hb1 (fun c => (hb2 c).2)).mono ?_
    rintro e w' ⟨rfl, j, l2, h2, h3⟩
    refine ⟨rfl, a2, c2, l2, h2.hp, h2.len, ?_, fun e he => ?_⟩
    · cases bet with
      | true => have := h2.me; rw [h3 rfl] at this; simpa using this
      | false => simpa using (h2.top rfl).2
    · obtain ⟨k, hk⟩ := List.getElem?_of_mem he
      by_cases c : k = j
      · subst c
        exact .inl (Option.some.inj (hk.symm.trans h2.me))
      · exact .inr (h2.others k e c hk)
  rw [hTT] at HUP ⊢
  clear hTT
  have hlen2 : (l ++ [x]).length = l.length + 1 := by simp
  have hwr : IntKind.i64.wrap ((((l.length + 1 : Nat) : Int)) - 1) = (l.length : Int) := (IntWalk.i64_in _ ⟨by omega, by omega⟩).trans (by omega)
  have hwr2 : IntKind.i64.wrap (((l.length : Int) + 1) - 1) = (l.length : Int) := (IntWalk.i64_in _ ⟨by omega, by omega⟩).trans (by omega)
  obtain ⟨n1, hn1⟩ : ∃ n1, l.length + 1 = n1 := ⟨_, rfl⟩
  rw [hn1] at hwr hlen2
  have HN1 := Lib.hid hlen2
  have HN2 := Lib.hid hn1
  obtain ⟨V, hV⟩ : ∃ V, x.v = V := ⟨_, rfl⟩
  rw [hV] at HPU ⊢
  clear h hb1 hb2 hlen2 hV
  go_enter Tryz.func27, Tryz.ntmps27
  go_wp2_with fail
  refine HPU.out.mono ?_
  rintro e w1 ⟨rfl, a2, c2, h1⟩
  clear HPU
  have hml : ∀ k, 1 ≤ k → (method k 56 (.pointer (some ⟨p, 0, none⟩)) "Len").run Tryz.prog w1 = .ok (28, .slice a2 n1 c2) w1 := fun k hk => by
    rw [len_method p k w1 hk]
    exact via_load p a2 n1 c2 w1 (by have := h1.cell; rw [HN1.out] at this; exact this)
  have HL := Lib.hid (lenVi_any a2 n1 c2 w1)
  have HU := Lib.hid (HUP.out w1 a2 c2 h1)
  clear HUP h1 hn1
  go_wp2_with fail
  clear hml
  refine HL.out.mono ?_
  rintro e w2 ⟨rfl, rfl⟩
  clear HL
  go_wp2_with fail
  refine HU.out.mono ?_
  rintro e w3 ⟨rfl, h3⟩
  have HZ := Lib.hid h3
  clear HU h3
  go_wp2
  go_end0
  exact ⟨rfl, HZ.out⟩

theorem sliceTo_vi {a : Option Addr} {n cap i : Nat} (h : i ≤ cap) (wx : World) : (Instr.slice 58 (.slice a n cap) none (some (.int .i64 (i : Int))) none).run Tryz.prog wx = .ok (.slice a i cap) wx := by
  rw [run_slice_h (P := Tryz.prog) wx 58 _ n cap (by kernel_rfl) .i64 (i : Int) (by omega) (by omega)]
  rw [show Tryz.prog.elem 58 = 61 by kernel_rfl, Tryz.sizeOf61]
  simp [Result.andThen, sliced, Addr.add]

set_option maxRecDepth 100000 in
set_option maxHeartbeats 4000000 in
theorem popVi_any (K : Nat → Prop) (W w : World) (p : Nat) (a : Option Addr) (cap n : Nat) (l : List Vi) (z : Vi) (h : HpL K W p w a cap l) (hn : l.length = n + 1) (hz : l[n]? = some z) :
    Calls Tryz.prog 145 #[.pointer (some ⟨p, 0, none⟩)] w fun e w' => e = .returned (.iface 61 z.v) ∧ (Below 0 W w' ∧ ∀ k, K k → k < w'.heap.size ∧ w'.heap[k]? = W.heap[k]?) := by
  have hlen := h.len
  obtain ⟨g, rfl, hpg, z0, z1, _⟩ := h.at hz
  obtain ⟨z0', z1'⟩ := z
  have hcap : n ≤ cap := by
    rcases h.row.own.2 with ⟨e, h0⟩ | ⟨g', c, cur, e, hg, hh, hnc, _⟩
    · omega
    · injection e with e1 e2 e3
      omega
  have hsl : ∀ wx : World, (Instr.slice 58 (.slice (some ⟨g, 0, none⟩) (n + 1) cap) none (some (.int .i64 (n : Int))) none).run Tryz.prog wx = .ok (.slice (some ⟨g, 0, none⟩) n cap) wx := fun wx => sliceTo_vi hcap wx
  have p0 := h.cell
  rw [hn] at p0
  have HB : Hid (Below 0 W ((w.alloc (.cells #[.int .i64 z0', .int .i64 z1'] 61)).setCell ⟨p, 0, none⟩ (.slice (some ⟨g, 0, none⟩) n cap)) ∧ ∀ k, K k → k < ((w.alloc (.cells #[.int .i64 z0', .int .i64 z1'] 61)).setCell ⟨p, 0, none⟩ (.slice (some ⟨g, 0, none⟩) n cap)).heap.size ∧ ((w.alloc (.cells #[.int .i64 z0', .int .i64 z1'] 61)).setCell ⟨p, 0, none⟩ (.slice (some ⟨g, 0, none⟩) n cap)).heap[k]? = W.heap[k]?) := by
    have kA := belNew w (.cells #[.int .i64 z0', .int .i64 z1'] 61)
    have kS := stored_grown (w.alloc (.cells #[.int .i64 z0', .int .i64 z1'] 61)) p 0 (.slice (some ⟨g, 0, none⟩) n cap)
    refine ⟨(h.bel.trans (kA.mono (Nat.zero_le _))).setCell (p := ⟨p, 0, none⟩) (Nat.zero_le _) _, fun k hk => ?_⟩
    obtain ⟨h1, h2⟩ := h.kept k hk
    exact ⟨Nat.lt_of_lt_of_le h1 (Nat.le_trans kA.size kS.size), ((kS.block k (Nat.lt_of_lt_of_le h1 kA.size) (fun e => h.np (by have := Option.some.inj e; rw [← this]; exact hk))).trans (kA.block k h1)).trans h2⟩
  have XB := (Box.new w #[.int .i64 z0', .int .i64 z1'] 61).other (g := p) (by have := h.box.lt; omega) 0 (.slice (some ⟨g, 0, none⟩) n cap)
  have hw1 : IntKind.i64.wrap ((((n + 1 : Nat) : Int)) - 1) = (n : Int) := (IntWalk.i64_in _ ⟨by omega, by omega⟩).trans (by omega)
  have hw2 : IntKind.i64.wrap (((n : Int) + 1) - 1) = (n : Int) := (IntWalk.i64_in _ ⟨by omega, by omega⟩).trans (by omega)
  obtain ⟨n1, hn1⟩ : ∃ n1, n + 1 = n1 := ⟨_, rfl⟩
  rw [hn1] at hw1 p0 hsl
  have hi0 : (0 : Int) ≤ (n : Int) := by omega
  have hi1 : (n : Int) < (n1 : Int) := by omega
  have hb := h.box
  have f0 := h.loose
  have h2 := h.later (belNew w (.cells #[.int .i64 z0', .int .i64 z1'] 61))
  have p1 := h2.cell
  have f1 := h2.loose
  rw [hn, hn1] at p1
  have c0 := XB.cell 0 _ rfl
  have c1 := XB.cell 1 _ rfl
  simp only at z0 z1
  unfold Vi.v
  clear h h2 hz hb hn hn1 XB
  go_enter Tryz.func145, Tryz.ntmps145
  go_wp2
  go_ret
  exact ⟨rfl, HB.out⟩

set_option maxRecDepth 100000 in
set_option maxHeartbeats 4000000 in
theorem heapPop_any (K : Nat → Prop) (W w : World) (p : Nat) (a : Option Addr) (cap n : Nat) (l : List Vi) (t : Vi) (h : HpL K W p w a cap l) (hn : l.length = n + 1) (ht : l[0]? = some t) :
    Calls Tryz.prog 46 #[.iface 56 (.pointer (some ⟨p, 0, none⟩))] w fun e w' => e = .returned (.iface 61 t.v) ∧ (Below 0 W w' ∧ ∀ k, K k → k < w'.heap.size ∧ w'.heap[k]? = W.heap[k]?) := by
  have hlen := h.len
  have hnil : ∀ k X, 1 ≤ k → (nilAhead k 56 (.pointer (some ⟨p, 0, none⟩)) "Swap").run Tryz.prog X = .ok (some false) X := fun k X hk => nil_vi p k X hk _ (by simp)
  have hnil2 : ∀ k X, 1 ≤ k → (nilAhead k 56 (.pointer (some ⟨p, 0, none⟩)) "Len").run Tryz.prog X = .ok (some false) X := fun k X hk => nil_vi p k X hk _ (by simp)
  have hnil3 : ∀ k X, 1 ≤ k → (nilAhead k 56 (.pointer (some ⟨p, 0, none⟩)) "Pop").run Tryz.prog X = .ok (some false) X := fun k X hk => nil_vi p k X hk _ (by simp)
  have hmp : ∀ k X, 1 ≤ k → (method k 56 (.pointer (some ⟨p, 0, none⟩)) "Pop").run Tryz.prog X = .ok (145, .pointer (some ⟨p, 0, none⟩)) X := fun k X hk => pop_method p k X hk
  have hml : ∀ k, 1 ≤ k → (method k 56 (.pointer (some ⟨p, 0, none⟩)) "Len").run Tryz.prog w = .ok (28, .slice a (n + 1) cap) w := fun k hk => by
    rw [len_method p k w hk]
    exact via_load p a (n + 1) cap w (by rw [← hn]; exact h.cell)
  have hms : ∀ k, 1 ≤ k → (method k 56 (.pointer (some ⟨p, 0, none⟩)) "Swap").run Tryz.prog w = .ok (147, .slice a (n + 1) cap) w := fun k hk => by
    rw [swap_method p k w hk]
    exact via_load p a (n + 1) cap w (by rw [← hn]; exact h.cell)
  have HLN := Lib.hid (lenVi_any a (n + 1) cap w)
  obtain ⟨z, hz⟩ : ∃ z, l[n]? = some z := ⟨_, List.getElem?_eq_getElem (by omega)⟩
  have HSW : Hid (Calls Tryz.prog 147 #[.slice a (n + 1) cap, .int .i64 0, .int .i64 (n : Int)] w fun e w' => e = .returned (.tuple #[]) ∧ ∃ l2 : List Vi, HpL K W p w' a cap l2 ∧ l2.length = n + 1 ∧ l2[n]? = some t) := by
    show Calls _ _ _ _ _
    by_cases c : n = 0
    · subst c
      have := swapVi_same K W w p a cap l h t ht
      rw [hn] at this
      refine this.mono ?_
      rintro e w' ⟨rfl, k⟩
      exact ⟨rfl, l, k, hn, ht⟩
    · have := swapVi_any K W w p a cap l h 0 n t z ht hz (by omega)
      rw [hn] at this
      refine this.mono ?_
      rintro e w' ⟨rfl, k⟩
      exact ⟨rfl, _, k, by rw [swV_len]; exact hn, swV_hi (by omega)⟩
  have HDN : Hid (∀ (X : World) (l2 : List Vi), HpL K W p X a cap l2 → l2.length = n + 1 → l2[n]? = some t → Calls Tryz.prog 68 #[.iface 56 (.pointer (some ⟨p, 0, none⟩)), .int .i64 0, .int .i64 (n : Int)] X fun e w' => (∃ b, e = .returned (.bool b)) ∧ ∃ l : List Vi, HpL K W p w' a cap l ∧ l.length = n + 1 ∧ l[n]? = some t) := fun X l2 h1 h2 h3 => down_any K W X p a cap n l2 t h1 h2 h3
  have HPO : Hid (∀ (X : World) (l2 : List Vi), HpL K W p X a cap l2 → l2.length = n + 1 → l2[n]? = some t → Calls Tryz.prog 145 #[.pointer (some ⟨p, 0, none⟩)] X fun e w' => e = .returned (.iface 61 t.v) ∧ (Below 0 W w' ∧ ∀ k, K k → k < w'.heap.size ∧ w'.heap[k]? = W.heap[k]?)) := fun X l2 h1 h2 h3 => popVi_any K W X p a cap n l2 t h1 h2 h3
  have hw1 : IntKind.i64.wrap ((((n + 1 : Nat) : Int)) - 1) = (n : Int) := (IntWalk.i64_in _ ⟨by omega, by omega⟩).trans (by omega)
  obtain ⟨n1, hn1⟩ : ∃ n1, n + 1 = n1 := ⟨_, rfl⟩
  rw [hn1] at hw1 HSW HLN hml hms
  obtain ⟨V, hV⟩ : ∃ V, t.v = V := ⟨_, rfl⟩
  rw [hV] at HPO ⊢
  have HN1 := Lib.hid hn1
  clear h hn ht hz hn1 hV
  go_enter Tryz.func46, Tryz.ntmps46
  go_wp2_with fail
  clear hml
  refine HLN.out.mono ?_
  rintro e wx ⟨rfl, rfl⟩
  clear HLN
  go_wp2_with fail
  clear hms
  refine HSW.out.mono ?_
  rintro e w1 ⟨rfl, l1, h1, e1, t1⟩
  have HD1 := Lib.hid (HDN.out w1 l1 h1 (e1.trans HN1.out.symm) t1)
  clear HSW HDN h1 e1 t1
  go_wp2_with fail
  refine HD1.out.mono ?_
  rintro e w2 ⟨⟨b, rfl⟩, l2, h2, e2, t2⟩
  have HP2 := Lib.hid (HPO.out w2 l2 h2 e2 t2)
  clear HD1 HPO h2 e2 t2
  go_wp2_with fail
  refine HP2.out.mono ?_
  rintro e w3 ⟨rfl, k3⟩
  have HZ := Lib.hid k3
  clear HP2 k3
  go_wp2
  go_ret
  exact ⟨rfl, HZ.out⟩

set_option maxRecDepth 100000 in
set_option maxHeartbeats 4000000 in
theorem best_any (B : Nat) (W w : World) (p : Nat) (a : Option Addr) (cap n : Nat) (l : List Vi) (t : Vi) (h : HpL (fun k => k < B) W p w a cap l) (hn : l.length = n + 1) (ht : l[0]? = some t) :
    Calls Tryz.prog 29 #[.pointer (some ⟨p, 0, none⟩)] w fun e w' => e = .returned (.agg #[.int .i64 t.place, .int .i64 t.gain]) ∧ Below B W w' := by
  obtain ⟨t0, t1⟩ := t
  have hta : ∀ X : World, (Instr.typeAssert (.iface 61 (.agg #[.int .i64 t0, .int .i64 t1])) 20 61 true).run Tryz.prog X = .ok (.tuple #[.agg #[.int .i64 t0, .int .i64 t1], .bool true]) X := fun _ => by kernel_rfl
  have X0 := Box.new w #[.int .i64 0, .int .i64 0] 61
  have k0 := belNew w (.cells #[.int .i64 0, .int .i64 0] 61)
  have h0 := h.later k0
  have hbw : Below B W (w.alloc (.cells #[.int .i64 0, .int .i64 0] 61)) := h0.below (fun k hk => hk)
  have hpl := h.box.lt
  have hBl : ∀ k, k < B → k < w.heap.size := fun k hk => (h.kept k hk).1
  obtain ⟨W1, hW1⟩ : ∃ W1, w.alloc (.cells #[.int .i64 0, .int .i64 0] 61) = W1 := ⟨_, rfl⟩
  rw [hW1] at h0 X0 hbw k0
  have hk : HpL (fun k => k < B ∨ k = w.heap.size) W1 p W1 a cap l :=
    ⟨h0.box, h0.row, Below.refl _ _, fun k hk => ⟨by rcases hk with hk | hk; exact (h0.kept k hk).1; rw [hk]; exact X0.lt, rfl⟩, h0.len, fun c => by rcases c with c | c; exact h0.np c; omega, fun k hk => ⟨(h0.ne k hk).1, fun c => by
      rcases c with c | c
      · exact (h0.ne k hk).2 c
      · have := h.ne k hk
        have := (h.row.own.lt k hk).2
        omega⟩⟩
  have HPO := Lib.hid (heapPop_any _ W1 W1 p a cap n l ⟨t0, t1⟩ hk hn ht)
  unfold Vi.v at HPO
  simp only at HPO ⊢
  obtain ⟨gb, hgb⟩ : ∃ gb, w.heap.size = gb := ⟨_, rfl⟩
  rw [hgb] at X0 HPO hBl
  have HX0 := Lib.hid X0
  have HBW := Lib.hid hbw
  have HBL := Lib.hid hBl
  have HW1 : Hid (w.alloc (.cells #[.int .i64 0, .int .i64 0] 61) = W1 ∧ w.heap.size = gb) := ⟨hW1, hgb⟩
  clear X0 k0 h0 h hn ht hW1 hk hbw hgb hpl hBl
  go_enter Tryz.func29, Tryz.ntmps29
  go_wp2_with fail
  rw [HW1.out.1, HW1.out.2]
  refine HPO.out.mono ?_
  rintro e w3 ⟨rfl, k3, kp⟩
  have X3 : Box w3 gb #[.int .i64 0, .int .i64 0] 61 := (kp gb (.inr rfl)).2.trans HX0.out
  have hgl := X3.lt
  have kN := belNew w3 (.cells #[.int .i64 t0, .int .i64 t1] 61)
  have X4 := X3.later kN
  have Y4 := Box.new w3 #[.int .i64 t0, .int .i64 t1] 61
  have x0 : w3.cell? ⟨gb, 0, none⟩ = some (.int .i64 0) := X3.cell 0 _ rfl
  have x1 : w3.cell? ⟨gb, 1, none⟩ = some (.int .i64 0) := X3.cell 1 _ rfl
  have f0 := X3.loose 0
  have f1 := X3.loose 1
  have XS := (X3.set 0 (.int .i64 t0)).set 1 (.int .i64 t1)
  have HZ : Hid (Below B W (((w3.setCell ⟨gb, 0, none⟩ (.int .i64 t0)).setCell ⟨gb, 1, none⟩ (.int .i64 t1)).alloc (.cells #[.int .i64 t0, .int .i64 t1] 61))) := by
    have k5 : Below B W1 w3 := ⟨k3.os, k3.tape, k3.output, k3.size, fun k hk => (kp k (.inl hk)).2⟩
    have k6 := HBW.out.trans k5
    have hBg : B ≤ gb := by
      by_cases c : B ≤ gb
      · exact c
      · have := HBL.out gb (by omega); omega
    have k7 := (k6.setCell (p := ⟨gb, 0, none⟩) hBg (.int .i64 t0)).setCell (p := ⟨gb, 1, none⟩) hBg (.int .i64 t1)
    exact k7.trans ((belNew _ _).mono (by simp; omega))
  have XF := XS.later (belNew _ (.cells #[.int .i64 t0, .int .i64 t1] 61))
  have c0 : (((w3.setCell ⟨gb, 0, none⟩ (.int .i64 t0)).setCell ⟨gb, 1, none⟩ (.int .i64 t1)).alloc (.cells #[.int .i64 t0, .int .i64 t1] 61)).cell? ⟨gb, 0, none⟩ = some (.int .i64 t0) := XF.cell 0 _ rfl
  have c1 : (((w3.setCell ⟨gb, 0, none⟩ (.int .i64 t0)).setCell ⟨gb, 1, none⟩ (.int .i64 t1)).alloc (.cells #[.int .i64 t0, .int .i64 t1] 61)).cell? ⟨gb, 1, none⟩ = some (.int .i64 t1) := XF.cell 1 _ rfl
  have HC : Hid (_ ∧ _) := ⟨c0, c1⟩
  clear HPO X4 Y4 kN k3 kp XS XF c0 c1 X3
  go_wp2
  obtain ⟨c0, c1⟩ := HC.out
  generalize ((w3.setCell ⟨gb, 0, none⟩ (.int .i64 t0)).setCell ⟨gb, 1, none⟩ (.int .i64 t1)).alloc (.cells #[.int .i64 t0, .int .i64 t1] 61) = wF at c0 c1 HZ ⊢
  refine bodyPost_ret (v := .agg #[.int .i64 t0, .int .i64 t1]) (by simp [results, Tryz.results29, go_sem, c0, c1]) rfl ?_
  exact ⟨rfl, HZ.out⟩

end Go.Proofs.YtleaahdnpjnmlaaGreatDoor
