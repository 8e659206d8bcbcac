/- Texts of our own, joined. -/
import Derived.Test.YtahebgceoidebaaGreatJq
import Derived.Test.YtahebgceoidebaaGreatJc
import Derived.Test.YtahebgceoidebaaGreatJd
import Derived.Test.YtahebgceoidebaaGreatJe
/- What is drawn for the chapter on records: what spec.l01Pick, l06Text, l06Rec, l06Any and the draws of the chapter hand back. -/
namespace Go.Proofs.YtahebgceoidebaaGreat
open Go.RowKit

theorem strs_cell' (w : World) (zs : List ByteArray) (t : TypeId) (j : Nat) (hj : j < zs.length) : (w.alloc (.cells (zs.map Value.string).toArray t)).cell? ⟨w.heap.size, j, none⟩ = some (.string zs[j]) := by
  rw [Joins.cell_of_block (heap_alloc_new w _)]
  simp [hj]

set_option maxRecDepth 100000 in
set_option maxHeartbeats 1000000 in
theorem pickStr_any (zs : List ByteArray) (n pc : Nat) (a : Option Addr) (len cap : Nat) (w : World) (hc : Cur w pc a len cap) (hl : zs.length = n) (h0 : 0 < n) (h1 : n ≤ 1048576) :
    Calls Tryz.prog 75 #[.pointer (some ⟨pc, 0, none⟩), .slice (some ⟨w.heap.size, 0, none⟩) n n] (w.alloc (.cells (zs.map Value.string).toArray 9)) fun e w' => ∃ x : ByteArray, x ∈ zs ∧ e = .returned (.string x) ∧ Cur w' pc a len cap ∧ w.grownBy w' (some pc) := by
  have hbel : Below w.heap.size w (w.alloc (.cells (zs.map Value.string).toArray 9)) := (Below.refl _ _).alloc (Nat.le_refl _) _
  have hpc := hc.lt
  have hc1 := hc.below hbel hpc hc.codeLt
  have HC : Hid (∀ j (hj : j < zs.length), (w.alloc (.cells (zs.map Value.string).toArray 9)).cell? ⟨w.heap.size, j, none⟩ = some (.string zs[j])) := fun j hj => strs_cell' w zs 9 j hj
  have HG : Hid (w.grownBy (w.alloc (.cells (zs.map Value.string).toArray 9)) (some pc)) := grownBy_below (World.grownBy.refl w (some pc)) hbel (Nat.le_refl _)
  clear hbel
  generalize w.alloc (.cells (zs.map Value.string).toArray 9) = W at *
  have hne : w.heap.size ≠ pc := by omega
  generalize w.heap.size = g at *
  go_enter Tryz.func75, Tryz.ntmps75
  go_wp2_with fail
  refine (below_any (n : Int) pc a len cap _ hc1 (by omega)).mono ?_
  rintro e w1 ⟨j, hj, _, rfl, hc2, hg1⟩
  have hj1 : j < n := by have := hj (by omega); omega
  have hx := HC.out j (by omega)
  have HM : Hid (zs[j]'(by omega) ∈ zs) := List.getElem_mem _
  generalize zs[j]'(by omega) = x at hx HM
  have hx1 : w1.cell? ⟨g, j, none⟩ = some (.string x) := hg1.cell hx (fun e => hne (Option.some.inj e))
  have hj2 : (j : Int) < (n : Int) := by omega
  clear hj
  go_wp2
  go_ret
  exact ⟨x, HM.out, rfl, hc2, HG.out.trans hg1⟩

/-- What is known while a record is drawn: its box, the answer's box, and the cursor. -/
structure RcI (pc : Nat) (a : Option Addr) (len cap : Nat) (w : World) (b : Nat) (cs : Array Value) (X : World) : Prop where
  cur : Cur X pc a len cap
  grown : w.grownBy X (some pc)
  res : Box X w.heap.size #[.int .i64 0, .int .i64 0, .int .i64 0, .int .i64 0, .int .i64 0, .string ⟨#[]⟩, .string ⟨#[]⟩, .string ⟨#[]⟩] 47
  rcd : Box X b cs 47
  lt : w.heap.size < b
  ne : b ≠ pc ∧ pc < w.heap.size

theorem RcI.next {pc : Nat} {a : Option Addr} {len cap : Nat} {w : World} {b : Nat} {cs : Array Value} {X Y : World} (h : RcI pc a len cap w b cs X) (hg : X.grownBy Y (some pc)) (hc : Cur Y pc a len cap) : RcI pc a len cap w b cs Y :=
  ⟨hc, h.grown.trans hg, h.res.cur hg (by have := h.ne.2; omega), h.rcd.cur hg h.ne.1, h.lt, h.ne⟩
theorem RcI.put {pc : Nat} {a : Option Addr} {len cap : Nat} {w : World} {b : Nat} {cs : Array Value} {X : World} (h : RcI pc a len cap w b cs X) (hw : Cur w pc a len cap) (j : Nat) (v : Value) : RcI pc a len cap w b (cs.setIfInBounds j v) (X.setCell ⟨b, j, none⟩ v) :=
  ⟨h.cur.new hw (Nat.le_of_lt h.lt) j v, grownBy_new h.grown (Nat.le_of_lt h.lt) j v, h.res.other (by have := h.lt; omega) j v, h.rcd.set j v, h.lt, h.ne⟩
theorem RcI.later {pc : Nat} {a : Option Addr} {len cap : Nat} {w : World} {b : Nat} {cs : Array Value} {X Y : World} (h : RcI pc a len cap w b cs X) (hb : Below X.heap.size X Y) : RcI pc a len cap w b cs Y :=
  ⟨h.cur.below hb h.cur.lt h.cur.codeLt, grownBy_below h.grown hb h.grown.size, h.res.later hb, h.rcd.later hb, h.lt, h.ne⟩
theorem grownBy_new8 {w X : World} {r : Option Nat} (h : w.grownBy X r) {b : Nat} (hb : w.heap.size ≤ b) (v0 v1 v2 v3 v4 v5 v6 v7 : Value) : w.grownBy (set8 X b v0 v1 v2 v3 v4 v5 v6 v7) r :=
  grownBy_new (grownBy_new (grownBy_new (grownBy_new (grownBy_new (grownBy_new (grownBy_new (grownBy_new h hb 0 v0) hb 1 v1) hb 2 v2) hb 3 v3) hb 4 v4) hb 5 v5) hb 6 v6) hb 7 v7
theorem Cur.new8 {w X : World} {pc : Nat} {a : Option Addr} {len cap : Nat} (h : Cur X pc a len cap) (hw : Cur w pc a len cap) {b : Nat} (hb : w.heap.size ≤ b) (v0 v1 v2 v3 v4 v5 v6 v7 : Value) : Cur (set8 X b v0 v1 v2 v3 v4 v5 v6 v7) pc a len cap :=
  (((((((h.new hw hb 0 v0).new hw hb 1 v1).new hw hb 2 v2).new hw hb 3 v3).new hw hb 4 v4).new hw hb 5 v5).new hw hb 6 v6).new hw hb 7 v7

theorem emp_le : emp.size ≤ 200 := by decide

/-- A drawn record. -/
def RcR (Pr : Rc → Prop) (pc : Nat) (a : Option Addr) (len cap : Nat) (w : World) (e : Ending) (w' : World) : Prop :=
  ∃ r : Rc, Pr r ∧ e = .returned r.v ∧ Cur w' pc a len cap ∧ w.grownBy w' (some pc)
def Rc.slim (r : Rc) : Prop := r.user.size ≤ 200 ∧ r.name.size ≤ 200 ∧ r.text.size ≤ 200

set_option maxRecDepth 100000 in
theorem recText_any (pc : Nat) (a : Option Addr) (len cap : Nat) (w : World) (hc : Cur w pc a len cap) :
    Calls Tryz.prog 76 #[.pointer (some ⟨pc, 0, none⟩)] w fun e w' => ∃ x : ByteArray, x.size ≤ 100 ∧ e = .returned (.string x) ∧ Cur w' pc a len cap ∧ w.grownBy w' (some pc) := by
  go_enter Tryz.func76, Tryz.ntmps76
  go_wp2_with fail
  refine (pickStr_any [⟨#[104, 101, 108, 108, 111]⟩, ⟨#[102, 114, 111, 109, 58, 32, 97, 110, 110, 10, 10, 104, 105]⟩, ⟨#[115, 117, 98, 106, 101, 99, 116, 58, 32, 120, 10, 10, 98, 111, 100, 121, 32, 111, 102, 32, 105, 116, 10, 46, 100, 111, 116, 10]⟩, ⟨#[]⟩, ⟨#[120, 10, 46, 46, 10]⟩] 5 pc a len cap _ hc rfl (by omega) (by omega)).mono ?_
  rintro e w1 ⟨x, hx, rfl, hc1, hg1⟩
  have hs : x.size ≤ 100 := by
    simp only [List.mem_cons, List.not_mem_nil, or_false] at hx
    rcases hx with rfl | rfl | rfl | rfl | rfl <;> decide
  clear hx
  go_wp2
  go_ret
  exact ⟨x, hs, rfl, hc1, hg1⟩

set_option maxRecDepth 100000 in
set_option maxHeartbeats 4000000 in
theorem recDrawn_any (pc : Nat) (a : Option Addr) (len cap : Nat) (w : World) (hc : Cur w pc a len cap) :
    Calls Tryz.prog 50 #[.pointer (some ⟨pc, 0, none⟩)] w fun e w' => RcR (fun r => r.ok ∧ r.slim) pc a len cap w e w' := by
  have hx := Box.new w #[.int .i64 0, .int .i64 0, .int .i64 0, .int .i64 0, .int .i64 0, .string ⟨#[]⟩, .string ⟨#[]⟩, .string ⟨#[]⟩] 47
  have hg0 : w.grownBy (w.alloc (.cells #[.int .i64 0, .int .i64 0, .int .i64 0, .int .i64 0, .int .i64 0, .string ⟨#[]⟩, .string ⟨#[]⟩, .string ⟨#[]⟩] 47)) (some pc) := World.grownBy_alloc _ _ _
  have hc0 := hc.alloc (.cells #[.int .i64 0, .int .i64 0, .int .i64 0, .int .i64 0, .int .i64 0, .string ⟨#[]⟩, .string ⟨#[]⟩, .string ⟨#[]⟩] 47)
  have hpc := hc.lt
  have hz0 : w.heap.size < (w.alloc (.cells #[.int .i64 0, .int .i64 0, .int .i64 0, .int .i64 0, .int .i64 0, .string ⟨#[]⟩, .string ⟨#[]⟩, .string ⟨#[]⟩] 47)).heap.size := by simp
  have hW : (w.alloc (.cells #[.int .i64 0, .int .i64 0, .int .i64 0, .int .i64 0, .int .i64 0, .string ⟨#[]⟩, .string ⟨#[]⟩, .string ⟨#[]⟩] 47)).heap.size = w.heap.size + 1 := by simp
  go_enter Tryz.func50, Tryz.ntmps50
  go_wp2_with fail
  generalize w.alloc (.cells #[.int .i64 0, .int .i64 0, .int .i64 0, .int .i64 0, .int .i64 0, .string ⟨#[]⟩, .string ⟨#[]⟩, .string ⟨#[]⟩] 47) = W at *
  have hpk := pickLit_any [1, 1, 2, 3, 3, 3, 3, 4, 4, 5, 5] 11 pc a len cap W hc0 rfl (by omega) (by omega)
  simp only [List.map_cons, List.map_nil] at hpk
  rw [hW] at hpk
  refine hpk.mono ?_
  clear hpk
  rintro e w1 ⟨kd, hkd, rfl, hc1, hg1⟩
  go_wp2_with fail
  refine (below_any 3 pc a len cap _ hc1 (by omega)).mono ?_
  rintro e w2 ⟨x1, h1, _, rfl, hc2, hg2⟩
  have h1' := h1 (by omega)
  have hz2 := (hg1.trans hg2).size
  have hk5 : kd = 1 ∨ kd = 2 ∨ kd = 3 ∨ kd = 4 ∨ kd = 5 := by
    simp only [List.mem_cons, List.not_mem_nil, or_false] at hkd
    omega
  have I : RcI pc a len cap w w2.heap.size #[.int .i64 kd, .int .i64 (1 + (x1 : Int)), .int .i64 0, .int .i64 0, .int .i64 0, .string ⟨#[]⟩, .string ⟨#[]⟩, .string ⟨#[]⟩] (w2.alloc (.cells #[.int .i64 kd, .int .i64 (1 + (x1 : Int)), .int .i64 0, .int .i64 0, .int .i64 0, .string ⟨#[]⟩, .string ⟨#[]⟩, .string ⟨#[]⟩] 47)) :=
    ⟨hc2.alloc _, (hg0.trans (hg1.trans hg2)).trans (World.grownBy_alloc _ _ _), (hx.cur (hg1.trans hg2) (by omega)).later (belNew _ _), Box.new w2 _ _, by omega, by omega, hpc⟩
  have HC := Lib.hid hc
  clear hkd h1 hx hg0 hg1 hg2 hc0 hc1 hc2 hz0 hc
  go_upto_region 2 with fail
  generalize w2.alloc (.cells #[.int .i64 kd, .int .i64 (1 + (x1 : Int)), .int .i64 0, .int .i64 0, .int .i64 0, .string ⟨#[]⟩, .string ⟨#[]⟩, .string ⟨#[]⟩] 47) = X at I ⊢
  generalize w2.heap.size = b at I ⊢
  clear hz2
  obtain ⟨y0, y1, y2, y3, y4, y5, y6, y7, f0, f1, f2, f3, f4, f5, f6, f7⟩ := I.rcd.eight
  rcases hk5 with rfl | rfl | rfl | rfl | rfl
  · go_wp2_with fail
    clear y0 y1 y2 y3 y4 y5 y6 y7 f0 f1 f2 f3 f4 f5 f6 f7
    have hpk := pickStr_any [⟨#[97, 110, 110]⟩, ⟨#[98, 111, 98]⟩] 2 pc a len cap _ I.cur rfl (by omega) (by omega)
    simp only [List.map_cons, List.map_nil] at hpk
    refine hpk.mono ?_
    clear hpk
    rintro e w3 ⟨us, hus, rfl, hcN, hgN⟩
    replace I := I.next hgN hcN
    have Hus : Hid (wdOk us ∧ us.size ≤ 8) := by
      simp only [List.mem_cons, List.not_mem_nil, or_false] at hus
      rcases hus with rfl | rfl <;> exact ⟨by decide, by decide⟩
    clear hus hcN hgN
    obtain ⟨y0, y1, y2, y3, y4, y5, y6, y7, f0, f1, f2, f3, f4, f5, f6, f7⟩ := I.rcd.eight
    go_wp2_with fail
    have I : RcI pc a len cap w b #[.int .i64 1, .int .i64 (1 + (x1 : Int)), .int .i64 0, .int .i64 0, .int .i64 0, .string us, .string ⟨#[]⟩, .string ⟨#[]⟩] _ := I.put HC.out 5 (.string us)
    have hszw3 : (w3.setCell ⟨b, 5, none⟩ (.string us)).heap.size = w3.heap.size := by simp
    generalize w3.setCell ⟨b, 5, none⟩ (.string us) = Xw3 at I hszw3 ⊢
    clear y0 y1 y2 y3 y4 y5 y6 y7 f0 f1 f2 f3 f4 f5 f6 f7
    have hpk := pickStr_any [⟨#[105, 110, 98, 111, 120]⟩, ⟨#[119, 111, 114, 107]⟩] 2 pc a len cap _ I.cur rfl (by omega) (by omega)
    simp only [List.map_cons, List.map_nil] at hpk
    rw [hszw3] at hpk
    refine hpk.mono ?_
    clear hpk
    rintro e w4 ⟨nm, hnm, rfl, hcN, hgN⟩
    replace I := I.next hgN hcN
    have Hnm : Hid (wdOk nm ∧ nm.size ≤ 8) := by
      simp only [List.mem_cons, List.not_mem_nil, or_false] at hnm
      rcases hnm with rfl | rfl <;> exact ⟨by decide, by decide⟩
    clear hnm hcN hgN
    obtain ⟨y0, y1, y2, y3, y4, y5, y6, y7, f0, f1, f2, f3, f4, f5, f6, f7⟩ := I.rcd.eight
    go_wp2_with fail
    have I : RcI pc a len cap w b #[.int .i64 1, .int .i64 (1 + (x1 : Int)), .int .i64 0, .int .i64 0, .int .i64 0, .string us, .string nm, .string ⟨#[]⟩] _ := I.put HC.out 6 (.string nm)
    have hszw4 : (w4.setCell ⟨b, 6, none⟩ (.string nm)).heap.size = w4.heap.size := by simp
    generalize w4.setCell ⟨b, 6, none⟩ (.string nm) = Xw4 at I hszw4 ⊢
    clear y0 y1 y2 y3 y4 y5 y6 y7 f0 f1 f2 f3 f4 f5 f6 f7
    refine (below_any 6 pc a len cap _ I.cur (by omega)).mono ?_
    rintro e w5 ⟨x2, hx2, _, rfl, hcN, hgN⟩
    have hx2' := hx2 (by omega)
    replace I := I.next hgN hcN
    clear hx2 hcN hgN
    obtain ⟨y0, y1, y2, y3, y4, y5, y6, y7, f0, f1, f2, f3, f4, f5, f6, f7⟩ := I.rcd.eight
    have J : RcI pc a len cap w b #[.int .i64 1, .int .i64 (1 + (x1 : Int)), .int .i64 0, .int .i64 (1 + (x2 : Int)), .int .i64 0, .string us, .string nm, .string ⟨#[]⟩] (w5.setCell ⟨b, 3, none⟩ (.int .i64 (1 + (x2 : Int)))) := I.put HC.out 3 (.int .i64 (1 + (x2 : Int)))
    obtain ⟨d0, d1, d2, d3, d4, d5, d6, d7, g0, g1, g2, g3, g4, g5, g6, g7⟩ := J.res.eight
    obtain ⟨p0, p1, p2, p3, p4, p5, p6, p7, _⟩ := J.rcd.eight
    obtain ⟨q0, q1, q2, q3, q4, q5, q6, q7, _⟩ := (J.res.set8 (.int .i64 1) (.int .i64 (1 + (x1 : Int))) (.int .i64 0) (.int .i64 (1 + (x2 : Int))) (.int .i64 0) (.string us) (.string nm) (.string ⟨#[]⟩)).eight
    unfold set8 at q0 q1 q2 q3 q4 q5 q6 q7
    have hlt := J.lt
    have hneb : w.heap.size ≠ b := by omega
    have hneb' : b ≠ w.heap.size := by omega
    have HF : Hid (Cur (set8 (w5.setCell ⟨b, 3, none⟩ (.int .i64 (1 + (x2 : Int)))) w.heap.size (.int .i64 1) (.int .i64 (1 + (x1 : Int))) (.int .i64 0) (.int .i64 (1 + (x2 : Int))) (.int .i64 0) (.string us) (.string nm) (.string ⟨#[]⟩)) pc a len cap ∧ w.grownBy (set8 (w5.setCell ⟨b, 3, none⟩ (.int .i64 (1 + (x2 : Int)))) w.heap.size (.int .i64 1) (.int .i64 (1 + (x1 : Int))) (.int .i64 0) (.int .i64 (1 + (x2 : Int))) (.int .i64 0) (.string us) (.string nm) (.string ⟨#[]⟩)) (some pc)) := ⟨J.cur.new8 HC.out (Nat.le_refl _) _ _ _ _ _ _ _ _, grownBy_new8 J.grown (Nat.le_refl _) _ _ _ _ _ _ _ _⟩
    clear I J hlt
    go_wp2
    refine bodyPost_ret (v := Rc.v ⟨1, 1 + (x1 : Int), 0, 1 + (x2 : Int), 0, us, nm, emp⟩) (by simp [results, Tryz.results50, go_sem, q0, q1, q2, q3, q4, q5, q6, q7, Rc.v, emp]) rfl ?_
    exact ⟨_, ⟨by simp [Rc.ok, Hus.out.1, Hnm.out.1]; omega, by have := Hus.out.2; simp only; omega, by have := Hnm.out.2; simp only; omega, emp_le⟩, rfl, HF.out.1, HF.out.2⟩
  · skip
    have J := I
    obtain ⟨d0, d1, d2, d3, d4, d5, d6, d7, g0, g1, g2, g3, g4, g5, g6, g7⟩ := J.res.eight
    obtain ⟨p0, p1, p2, p3, p4, p5, p6, p7, _⟩ := J.rcd.eight
    obtain ⟨q0, q1, q2, q3, q4, q5, q6, q7, _⟩ := (J.res.set8 (.int .i64 2) (.int .i64 (1 + (x1 : Int))) (.int .i64 0) (.int .i64 0) (.int .i64 0) (.string ⟨#[]⟩) (.string ⟨#[]⟩) (.string ⟨#[]⟩)).eight
    unfold set8 at q0 q1 q2 q3 q4 q5 q6 q7
    have hlt := J.lt
    have hneb : w.heap.size ≠ b := by omega
    have hneb' : b ≠ w.heap.size := by omega
    have HF : Hid (Cur (set8 X w.heap.size (.int .i64 2) (.int .i64 (1 + (x1 : Int))) (.int .i64 0) (.int .i64 0) (.int .i64 0) (.string ⟨#[]⟩) (.string ⟨#[]⟩) (.string ⟨#[]⟩)) pc a len cap ∧ w.grownBy (set8 X w.heap.size (.int .i64 2) (.int .i64 (1 + (x1 : Int))) (.int .i64 0) (.int .i64 0) (.int .i64 0) (.string ⟨#[]⟩) (.string ⟨#[]⟩) (.string ⟨#[]⟩)) (some pc)) := ⟨J.cur.new8 HC.out (Nat.le_refl _) _ _ _ _ _ _ _ _, grownBy_new8 J.grown (Nat.le_refl _) _ _ _ _ _ _ _ _⟩
    clear I J hlt
    go_wp2
    refine bodyPost_ret (v := Rc.v ⟨2, 1 + (x1 : Int), 0, 0, 0, emp, emp, emp⟩) (by simp [results, Tryz.results50, go_sem, q0, q1, q2, q3, q4, q5, q6, q7, Rc.v, emp]) rfl ?_
    exact ⟨_, ⟨by simp [Rc.ok]; omega, emp_le, emp_le, emp_le⟩, rfl, HF.out.1, HF.out.2⟩
  · go_wp2_with fail
    clear y0 y1 y2 y3 y4 y5 y6 y7 f0 f1 f2 f3 f4 f5 f6 f7
    refine (below_any 5 pc a len cap _ I.cur (by omega)).mono ?_
    rintro e w3 ⟨x2, hx2, _, rfl, hcN, hgN⟩
    have hx2' := hx2 (by omega)
    replace I := I.next hgN hcN
    clear hx2 hcN hgN
    obtain ⟨y0, y1, y2, y3, y4, y5, y6, y7, f0, f1, f2, f3, f4, f5, f6, f7⟩ := I.rcd.eight
    go_wp2_with fail
    have I : RcI pc a len cap w b #[.int .i64 3, .int .i64 (1 + (x1 : Int)), .int .i64 (1 + (x2 : Int)), .int .i64 0, .int .i64 0, .string ⟨#[]⟩, .string ⟨#[]⟩, .string ⟨#[]⟩] _ := I.put HC.out 2 (.int .i64 (1 + (x2 : Int)))
    have hszw3 : (w3.setCell ⟨b, 2, none⟩ (.int .i64 (1 + (x2 : Int)))).heap.size = w3.heap.size := by simp
    generalize w3.setCell ⟨b, 2, none⟩ (.int .i64 (1 + (x2 : Int))) = Xw3 at I hszw3 ⊢
    clear y0 y1 y2 y3 y4 y5 y6 y7 f0 f1 f2 f3 f4 f5 f6 f7
    refine (below_any 8 pc a len cap _ I.cur (by omega)).mono ?_
    rintro e w4 ⟨x3, hx3, _, rfl, hcN, hgN⟩
    have hx3' := hx3 (by omega)
    replace I := I.next hgN hcN
    clear hx3 hcN hgN
    obtain ⟨y0, y1, y2, y3, y4, y5, y6, y7, f0, f1, f2, f3, f4, f5, f6, f7⟩ := I.rcd.eight
    go_wp2_with fail
    have I : RcI pc a len cap w b #[.int .i64 3, .int .i64 (1 + (x1 : Int)), .int .i64 (1 + (x2 : Int)), .int .i64 0, .int .i64 (x3 : Int), .string ⟨#[]⟩, .string ⟨#[]⟩, .string ⟨#[]⟩] _ := I.put HC.out 4 (.int .i64 (x3 : Int))
    have hszw4 : (w4.setCell ⟨b, 4, none⟩ (.int .i64 (x3 : Int))).heap.size = w4.heap.size := by simp
    generalize w4.setCell ⟨b, 4, none⟩ (.int .i64 (x3 : Int)) = Xw4 at I hszw4 ⊢
    clear y0 y1 y2 y3 y4 y5 y6 y7 f0 f1 f2 f3 f4 f5 f6 f7
    refine (recText_any pc a len cap _ I.cur).mono ?_
    rintro e w5 ⟨tx, htx0, rfl, hcN, hgN⟩
    replace I := I.next hgN hcN
    have Htx := Lib.hid htx0
    clear htx0 hcN hgN
    obtain ⟨y0, y1, y2, y3, y4, y5, y6, y7, f0, f1, f2, f3, f4, f5, f6, f7⟩ := I.rcd.eight
    have J : RcI pc a len cap w b #[.int .i64 3, .int .i64 (1 + (x1 : Int)), .int .i64 (1 + (x2 : Int)), .int .i64 0, .int .i64 (x3 : Int), .string ⟨#[]⟩, .string ⟨#[]⟩, .string tx] (w5.setCell ⟨b, 7, none⟩ (.string tx)) := I.put HC.out 7 (.string tx)
    obtain ⟨d0, d1, d2, d3, d4, d5, d6, d7, g0, g1, g2, g3, g4, g5, g6, g7⟩ := J.res.eight
    obtain ⟨p0, p1, p2, p3, p4, p5, p6, p7, _⟩ := J.rcd.eight
    obtain ⟨q0, q1, q2, q3, q4, q5, q6, q7, _⟩ := (J.res.set8 (.int .i64 3) (.int .i64 (1 + (x1 : Int))) (.int .i64 (1 + (x2 : Int))) (.int .i64 0) (.int .i64 (x3 : Int)) (.string ⟨#[]⟩) (.string ⟨#[]⟩) (.string tx)).eight
    unfold set8 at q0 q1 q2 q3 q4 q5 q6 q7
    have hlt := J.lt
    have hneb : w.heap.size ≠ b := by omega
    have hneb' : b ≠ w.heap.size := by omega
    have HF : Hid (Cur (set8 (w5.setCell ⟨b, 7, none⟩ (.string tx)) w.heap.size (.int .i64 3) (.int .i64 (1 + (x1 : Int))) (.int .i64 (1 + (x2 : Int))) (.int .i64 0) (.int .i64 (x3 : Int)) (.string ⟨#[]⟩) (.string ⟨#[]⟩) (.string tx)) pc a len cap ∧ w.grownBy (set8 (w5.setCell ⟨b, 7, none⟩ (.string tx)) w.heap.size (.int .i64 3) (.int .i64 (1 + (x1 : Int))) (.int .i64 (1 + (x2 : Int))) (.int .i64 0) (.int .i64 (x3 : Int)) (.string ⟨#[]⟩) (.string ⟨#[]⟩) (.string tx)) (some pc)) := ⟨J.cur.new8 HC.out (Nat.le_refl _) _ _ _ _ _ _ _ _, grownBy_new8 J.grown (Nat.le_refl _) _ _ _ _ _ _ _ _⟩
    clear I J hlt
    go_wp2
    refine bodyPost_ret (v := Rc.v ⟨3, 1 + (x1 : Int), 1 + (x2 : Int), 0, (x3 : Int), emp, emp, tx⟩) (by simp [results, Tryz.results50, go_sem, q0, q1, q2, q3, q4, q5, q6, q7, Rc.v, emp]) rfl ?_
    exact ⟨_, ⟨by have := Htx.out; simp [Rc.ok]; omega, emp_le, emp_le, by have := Htx.out; simp only; omega⟩, rfl, HF.out.1, HF.out.2⟩
  · go_wp2_with fail
    clear y0 y1 y2 y3 y4 y5 y6 y7 f0 f1 f2 f3 f4 f5 f6 f7
    refine (below_any 5 pc a len cap _ I.cur (by omega)).mono ?_
    rintro e w3 ⟨x2, hx2, _, rfl, hcN, hgN⟩
    have hx2' := hx2 (by omega)
    replace I := I.next hgN hcN
    clear hx2 hcN hgN
    obtain ⟨y0, y1, y2, y3, y4, y5, y6, y7, f0, f1, f2, f3, f4, f5, f6, f7⟩ := I.rcd.eight
    go_wp2_with fail
    have I : RcI pc a len cap w b #[.int .i64 4, .int .i64 (1 + (x1 : Int)), .int .i64 (1 + (x2 : Int)), .int .i64 0, .int .i64 0, .string ⟨#[]⟩, .string ⟨#[]⟩, .string ⟨#[]⟩] _ := I.put HC.out 2 (.int .i64 (1 + (x2 : Int)))
    have hszw3 : (w3.setCell ⟨b, 2, none⟩ (.int .i64 (1 + (x2 : Int)))).heap.size = w3.heap.size := by simp
    generalize w3.setCell ⟨b, 2, none⟩ (.int .i64 (1 + (x2 : Int))) = Xw3 at I hszw3 ⊢
    clear y0 y1 y2 y3 y4 y5 y6 y7 f0 f1 f2 f3 f4 f5 f6 f7
    refine (below_any 8 pc a len cap _ I.cur (by omega)).mono ?_
    rintro e w4 ⟨x3, hx3, _, rfl, hcN, hgN⟩
    have hx3' := hx3 (by omega)
    replace I := I.next hgN hcN
    clear hx3 hcN hgN
    obtain ⟨y0, y1, y2, y3, y4, y5, y6, y7, f0, f1, f2, f3, f4, f5, f6, f7⟩ := I.rcd.eight
    have J : RcI pc a len cap w b #[.int .i64 4, .int .i64 (1 + (x1 : Int)), .int .i64 (1 + (x2 : Int)), .int .i64 0, .int .i64 (x3 : Int), .string ⟨#[]⟩, .string ⟨#[]⟩, .string ⟨#[]⟩] (w4.setCell ⟨b, 4, none⟩ (.int .i64 (x3 : Int))) := I.put HC.out 4 (.int .i64 (x3 : Int))
    obtain ⟨d0, d1, d2, d3, d4, d5, d6, d7, g0, g1, g2, g3, g4, g5, g6, g7⟩ := J.res.eight
    obtain ⟨p0, p1, p2, p3, p4, p5, p6, p7, _⟩ := J.rcd.eight
    obtain ⟨q0, q1, q2, q3, q4, q5, q6, q7, _⟩ := (J.res.set8 (.int .i64 4) (.int .i64 (1 + (x1 : Int))) (.int .i64 (1 + (x2 : Int))) (.int .i64 0) (.int .i64 (x3 : Int)) (.string ⟨#[]⟩) (.string ⟨#[]⟩) (.string ⟨#[]⟩)).eight
    unfold set8 at q0 q1 q2 q3 q4 q5 q6 q7
    have hlt := J.lt
    have hneb : w.heap.size ≠ b := by omega
    have hneb' : b ≠ w.heap.size := by omega
    have HF : Hid (Cur (set8 (w4.setCell ⟨b, 4, none⟩ (.int .i64 (x3 : Int))) w.heap.size (.int .i64 4) (.int .i64 (1 + (x1 : Int))) (.int .i64 (1 + (x2 : Int))) (.int .i64 0) (.int .i64 (x3 : Int)) (.string ⟨#[]⟩) (.string ⟨#[]⟩) (.string ⟨#[]⟩)) pc a len cap ∧ w.grownBy (set8 (w4.setCell ⟨b, 4, none⟩ (.int .i64 (x3 : Int))) w.heap.size (.int .i64 4) (.int .i64 (1 + (x1 : Int))) (.int .i64 (1 + (x2 : Int))) (.int .i64 0) (.int .i64 (x3 : Int)) (.string ⟨#[]⟩) (.string ⟨#[]⟩) (.string ⟨#[]⟩)) (some pc)) := ⟨J.cur.new8 HC.out (Nat.le_refl _) _ _ _ _ _ _ _ _, grownBy_new8 J.grown (Nat.le_refl _) _ _ _ _ _ _ _ _⟩
    clear I J hlt
    go_wp2
    refine bodyPost_ret (v := Rc.v ⟨4, 1 + (x1 : Int), 1 + (x2 : Int), 0, (x3 : Int), emp, emp, emp⟩) (by simp [results, Tryz.results50, go_sem, q0, q1, q2, q3, q4, q5, q6, q7, Rc.v, emp]) rfl ?_
    exact ⟨_, ⟨by simp [Rc.ok]; omega, emp_le, emp_le, emp_le⟩, rfl, HF.out.1, HF.out.2⟩
  · go_wp2_with fail
    clear y0 y1 y2 y3 y4 y5 y6 y7 f0 f1 f2 f3 f4 f5 f6 f7
    refine (below_any 5 pc a len cap _ I.cur (by omega)).mono ?_
    rintro e w3 ⟨x2, hx2, _, rfl, hcN, hgN⟩
    have hx2' := hx2 (by omega)
    replace I := I.next hgN hcN
    clear hx2 hcN hgN
    obtain ⟨y0, y1, y2, y3, y4, y5, y6, y7, f0, f1, f2, f3, f4, f5, f6, f7⟩ := I.rcd.eight
    have J : RcI pc a len cap w b #[.int .i64 5, .int .i64 (1 + (x1 : Int)), .int .i64 (1 + (x2 : Int)), .int .i64 0, .int .i64 0, .string ⟨#[]⟩, .string ⟨#[]⟩, .string ⟨#[]⟩] (w3.setCell ⟨b, 2, none⟩ (.int .i64 (1 + (x2 : Int)))) := I.put HC.out 2 (.int .i64 (1 + (x2 : Int)))
    obtain ⟨d0, d1, d2, d3, d4, d5, d6, d7, g0, g1, g2, g3, g4, g5, g6, g7⟩ := J.res.eight
    obtain ⟨p0, p1, p2, p3, p4, p5, p6, p7, _⟩ := J.rcd.eight
    obtain ⟨q0, q1, q2, q3, q4, q5, q6, q7, _⟩ := (J.res.set8 (.int .i64 5) (.int .i64 (1 + (x1 : Int))) (.int .i64 (1 + (x2 : Int))) (.int .i64 0) (.int .i64 0) (.string ⟨#[]⟩) (.string ⟨#[]⟩) (.string ⟨#[]⟩)).eight
    unfold set8 at q0 q1 q2 q3 q4 q5 q6 q7
    have hlt := J.lt
    have hneb : w.heap.size ≠ b := by omega
    have hneb' : b ≠ w.heap.size := by omega
    have HF : Hid (Cur (set8 (w3.setCell ⟨b, 2, none⟩ (.int .i64 (1 + (x2 : Int)))) w.heap.size (.int .i64 5) (.int .i64 (1 + (x1 : Int))) (.int .i64 (1 + (x2 : Int))) (.int .i64 0) (.int .i64 0) (.string ⟨#[]⟩) (.string ⟨#[]⟩) (.string ⟨#[]⟩)) pc a len cap ∧ w.grownBy (set8 (w3.setCell ⟨b, 2, none⟩ (.int .i64 (1 + (x2 : Int)))) w.heap.size (.int .i64 5) (.int .i64 (1 + (x1 : Int))) (.int .i64 (1 + (x2 : Int))) (.int .i64 0) (.int .i64 0) (.string ⟨#[]⟩) (.string ⟨#[]⟩) (.string ⟨#[]⟩)) (some pc)) := ⟨J.cur.new8 HC.out (Nat.le_refl _) _ _ _ _ _ _ _ _, grownBy_new8 J.grown (Nat.le_refl _) _ _ _ _ _ _ _ _⟩
    clear I J hlt
    go_wp2
    refine bodyPost_ret (v := Rc.v ⟨5, 1 + (x1 : Int), 1 + (x2 : Int), 0, 0, emp, emp, emp⟩) (by simp [results, Tryz.results50, go_sem, q0, q1, q2, q3, q4, q5, q6, q7, Rc.v, emp]) rfl ?_
    exact ⟨_, ⟨by simp [Rc.ok]; omega, emp_le, emp_le, emp_le⟩, rfl, HF.out.1, HF.out.2⟩

end Go.Proofs.YtahebgceoidebaaGreat

/- What is drawn for the chapter on frames: the draws themselves, and laws.sameFrames. -/
namespace Go.Proofs.YtahebgceoidebaaGreat
open Go.RowKit



end Go.Proofs.YtahebgceoidebaaGreat

/- What is drawn for the chapter on frames: a list of right frames of one Gen. -/
namespace Go.Proofs.YtahebgceoidebaaGreat
open Go.RowKit

theorem RBuf.cursor {α : Type} {E : Enc α} {B : Nat} {w w' : World} {v : Value} {l : List α} {pc : Nat} (h : RBuf E B w w v l) (hg : w.grownBy w' (some pc)) (hp : pc < B) : RBuf E B w' w' v l := by
  refine ⟨h.own.kept hg ?_, Below.refl _ _, Nat.le_trans h.le hg.size⟩
  cases hv : v.ownBlock with
  | none => exact .inl rfl
  | some k => exact .inr (by intro e; have := (h.own.lt k hv).1; have := Option.some.inj e; omega)

/-- A list that lies in a row, be it empty. -/
def InRow (v : Value) (n : Nat) : Prop := ∃ g cap : Nat, v = .slice (some ⟨g, 0, none⟩) n cap ∧ n ≤ cap
theorem RBuf.inRow {α : Type} {E : Enc α} {B : Nat} {w0 w : World} {v : Value} {l : List α} (h : RBuf E B w0 w v l) (hl : l ≠ []) : InRow v l.length := by
  rcases h.own.2 with ⟨_, h0⟩ | ⟨g, cap, cur, rfl, _, _, hnc, _⟩
  · exact absurd (List.length_eq_zero_iff.1 h0) hl
  · exact ⟨g, cap, rfl, hnc⟩

/-- The frames that are drawn. -/
def Fr.three (f : Fr) : Prop := f.ok ∧ f.gen = 3 ∧ f.body.size ≤ 20


end Go.Proofs.YtahebgceoidebaaGreat

/- What is drawn for the chapter on what records tell: right items. -/
namespace Go.Proofs.YtahebgceoidebaaGreat
open Go.RowKit

/-- Items that are drawn in a row: Seqs from 2 on, right records. -/
def ItsUp (l : List Itm) : Prop := ∀ (j : Nat) (x : Itm), l[j]? = some x → x.1 = 2 + (j : Int) ∧ x.2.ok ∧ x.2.slim
theorem ItsUp.nil : ItsUp [] := by intro j x h; simp at h
theorem ItsUp.push {l : List Itm} (h : ItsUp l) {r : Rc} (hr : r.ok ∧ r.slim) : ItsUp (l ++ [(2 + (l.length : Int), r)]) := by
  intro j x hx
  by_cases c : j < l.length
  · rw [List.getElem?_append_left c] at hx
    exact h j x hx
  · rw [List.getElem?_append_right (by omega)] at hx
    have hj : j - l.length = 0 := by
      have := (List.getElem?_eq_some_iff.1 hx).1
      simp at this; omega
    rw [hj] at hx
    have e : j = l.length := by omega
    simp at hx
    subst hx e
    exact ⟨rfl, hr⟩

/-- Items that are drawn. -/
def ItsD (l : List Itm) : Prop := itemsOk l ∧ l.length ≤ 23 ∧ (∀ x ∈ l, x.2.slim) ∧ ∀ x ∈ l, x.1 ≤ 24
theorem ItsUp.uniq {l : List Itm} (h : ItsUp l) : Uniq l := by
  intro x hx y hy e
  obtain ⟨i, hi⟩ := List.getElem?_of_mem hx
  obtain ⟨j, hj⟩ := List.getElem?_of_mem hy
  have h1 := (h i x hi).1
  have h2 := (h j y hj).1
  have : i = j := by omega
  subst this
  rw [hi] at hj
  exact Option.some.inj hj
theorem ItsUp.done {l : List Itm} (h : ItsUp l) (hl : l.length ≤ 22) : ItsD l := by
  refine ⟨⟨fun x hx => ?_, h.uniq, by omega⟩, by omega, fun x hx => ?_, fun x hx => ?_⟩
  · obtain ⟨i, hi⟩ := List.getElem?_of_mem hx
    have h1 := h i x hi
    have := (List.getElem?_eq_some_iff.1 hi).1
    exact ⟨by omega, h1.2.1⟩
  · obtain ⟨i, hi⟩ := List.getElem?_of_mem hx
    exact (h i x hi).2.2
  · obtain ⟨i, hi⟩ := List.getElem?_of_mem hx
    have h1 := (h i x hi).1
    have := (List.getElem?_eq_some_iff.1 hi).1
    omega
theorem ItsUp.twice {l : List Itm} (h : ItsUp l) (hl : l.length ≤ 22) {j : Nat} {x : Itm} (hj : l[j]? = some x) : ItsD (l ++ [x]) := by
  have hm : x ∈ l := List.mem_of_getElem? hj
  have hall : ∀ y ∈ l ++ [x], y ∈ l := fun y hy => by
    rcases List.mem_append.1 hy with h | h
    · exact h
    · simp at h; rw [h]; exact hm
  obtain ⟨⟨a1, a2, _⟩, _, a5, a6⟩ := h.done hl
  exact ⟨⟨fun y hy => a1 y (hall y hy), fun y hy z hz => a2 y (hall y hy) z (hall z hz), by simp; omega⟩, by simp; omega, fun y hy => a5 y (hall y hy), fun y hy => a6 y (hall y hy)⟩

set_option maxRecDepth 100000 in
set_option maxHeartbeats 4000000 in
theorem items_any (pc : Nat) (a : Option Addr) (len cap : Nat) (w : World) (hc : Cur w pc a len cap) :
    Calls Tryz.prog 28 #[.pointer (some ⟨pc, 0, none⟩)] w fun e w' => ∃ (l : List Itm) (v : Value), ItsD l ∧ e = .returned v ∧ RBuf itE w.heap.size w' w' v l ∧ InRow v l.length ∧ Cur w' pc a len cap ∧ w.grownBy w' (some pc) := by
  have hst : RBuf itE w.heap.size w (w.alloc (.cells #[] 49)) (.slice (some ⟨w.heap.size, 0, none⟩) 0 0) [] := RBuf.fresh itE w
  have hpc := hc.lt
  have hcl := Lib.hid hc.codeLt
  have hc0 := hc.alloc (.cells #[] 49)
  have hg0 : w.grownBy (w.alloc (.cells #[] 49)) (some pc) := World.grownBy_alloc _ _ _
  go_enter Tryz.func28, Tryz.ntmps28
  go_wp2
  go_loopw [3, 4] (fun v iv wr => ∃ (l : List Itm) (i : Nat), i ≤ 22 ∧ l.length = i ∧ iv = .int .i64 (i : Int) ∧ ItsUp l ∧ RBuf itE w.heap.size wr wr v l ∧ InRow v l.length ∧ Cur wr pc a len cap ∧ w.grownBy wr (some pc)) (fun _ iv _ => (22 - intOf iv).toNat)
  case atStart => exact ⟨[], 0, by omega, rfl, rfl, ItsUp.nil, hst.here, ⟨_, _, rfl, Nat.le_refl _⟩, hc0, hg0⟩
  case round =>
    clear hst hc0 hg0 hc
    obtain ⟨l, i, hi, hli, rfl, hall, hb, hrow, hcr, hgr⟩ := hrel
    have HA := Lib.hid hall
    have HR := Lib.hid hrow
    clear hall hrow
    go_wp2_with fail
    refine (below_any 22 pc a len cap _ hcr (by omega)).mono ?_
    rintro e w3 ⟨y, hy, _, rfl, hc3, hg3⟩
    have hy2 := hy (by omega)
    have hgr3 := hgr.trans hg3
    have hb3 := hb.cursor hg3 hpc
    clear hy hg3 hcr hb hgr
    by_cases hlt : (i : Int) < (y : Int)
    · go_wp2_with fail
      refine (recDrawn_any pc a len cap _ hc3).mono ?_
      rintro e w4 ⟨r, hr, rfl, hc4, hg4⟩
      have HRr := Lib.hid hr
      have hgr4 := hgr3.trans hg4
      have hb4 := hb3.cursor hg4 hpc
      have hw2 : IntKind.i64.wrap (2 + (i : Int)) = 2 + (i : Int) := IntWalk.i64_in _ ⟨by omega, by omega⟩
      obtain ⟨z, hz⟩ : ∃ z : Itm, ((2 + (i : Int), r) : Itm) = z := ⟨_, rfl⟩
      have HZ := Lib.hid hz
      have hb5 := Lib.hid (hb4.alloc (.cells #[.int .i64 (2 + (i : Int)), .int .i64 r.kind, .int .i64 r.valid, .int .i64 r.uid, .int .i64 r.next, .int .i64 r.flags, .string r.user, .string r.name, .string r.text] 49))
      have hnew : Hid (∀ j u, (itE.row [z])[j]? = some u → (w4.alloc (.cells #[.int .i64 (2 + (i : Int)), .int .i64 r.kind, .int .i64 r.valid, .int .i64 r.uid, .int .i64 r.next, .int .i64 r.flags, .string r.user, .string r.name, .string r.text] 49)).cell? ((⟨w4.heap.size, 0, none⟩ : Addr).add j) = some u) := by rw [← hz]; exact row_new itE w4 (2 + (i : Int), r)
      have hl0 : Hid ((l.length + [z].length) * (itE.bytes + 1) ≤ 140737488355328) := by show _ ≤ _; simp only [itE, List.length_cons, List.length_nil]; omega
      have hc5 := hc4.alloc (.cells #[.int .i64 (2 + (i : Int)), .int .i64 r.kind, .int .i64 r.valid, .int .i64 r.uid, .int .i64 r.next, .int .i64 r.flags, .string r.user, .string r.name, .string r.text] 49)
      have hg5 := hgr4.trans (World.grownBy_alloc w4 (.cells #[.int .i64 (2 + (i : Int)), .int .i64 r.kind, .int .i64 r.valid, .int .i64 r.uid, .int .i64 r.next, .int .i64 r.flags, .string r.user, .string r.name, .string r.text] 49) (some pc))
      clear hz hr hg4 hc3 hb3 hgr3 hc4 hgr4
      unfold Rc.v
      go_wp2_with (at_builtin; refine wpList_append_row rfl _ _ itE rfl w.heap.size _ l rfl hb5.out ⟨w4.heap.size, 0, none⟩ [z] 1 rfl ?c1 ?c2 ?_)
      case c1 => exact hnew.out
      case c2 => exact hl0.out
      intro v8 w8 hb8 hg8 _
      have hb7 : RBuf itE w.heap.size (w4.alloc (.cells #[.int .i64 (2 + (i : Int)), .int .i64 r.kind, .int .i64 r.valid, .int .i64 r.uid, .int .i64 r.next, .int .i64 r.flags, .string r.user, .string r.name, .string r.text] 49)) w8 v8 (l ++ [z]) := by
        have hle := hb4.le
        refine ⟨hb8.own, (Below.refl _ _).grown hg8 (by simp; omega) (fun k hk => (hb4.own.lt k hk).1), hb8.le⟩
      have hc8 : Cur w8 pc a len cap := hc5.below hb7.bel hpc hcl.out
      have hg9 : w.grownBy w8 (some pc) := grownBy_below hg5 hb7.bel (Nat.le_refl _)
      clear hb5 hnew hl0 hc5 hg5 hg8 hb4 hb7
      go_wp2
      go_roundw
      case rel => exact ⟨l ++ [z], i + 1, by omega, by simp [hli], by go_num, by
        have h1 := HA.out.push HRr.out
        rw [hli] at h1
        rw [← HZ.out]; exact h1, hb8.here, hb8.inRow (by simp), hc8, hg9⟩
      case measure => simp [intOf]; omega
    · clear hy2
      subst hli
      by_cases h1 : (1 : Int) < (l.length : Int)
      · obtain ⟨g, cap2, rfl, hcap2⟩ := HR.out
        go_wp2_with fail
        refine (once_any 3 pc a len cap _ hc3 (by omega)).mono ?_
        rintro e w4 ⟨he, hc4, hg4⟩
        have hgr4 := hgr3.trans hg4
        have hb4 := hb3.cursor hg4 hpc
        clear hg4 hc3 hb3 hgr3
        rcases he with rfl | rfl
        · go_wp2_with fail
          refine (below_any (l.length : Int) pc a len cap _ hc4 (by omega)).mono ?_
          rintro e w5 ⟨j, hj, _, rfl, hc5, hg5⟩
          have hj2 := hj (by omega)
          have hgr5 := hgr4.trans hg5
          have hb5 := hb4.cursor hg5 hpc
          clear hj hg5 hc4 hb4 hgr4
          have hjl : l[j]? = some (l[j]'(by omega)) := List.getElem?_eq_getElem (by omega)
          generalize l[j]'(by omega) = z at hjl
          obtain ⟨sq, r⟩ := z
          have HJ := Lib.hid hjl
          have hcell : ∀ k u, (itE.f (sq, r))[k]? = some u → w5.cell? ⟨g, j * 9 + k, none⟩ = some u := fun k u hu => hb5.cell rfl j _ hjl k u hu
          have d0 := hcell 0 _ rfl
          have d1 := hcell 1 _ rfl
          have d2 := hcell 2 _ rfl
          have d3 := hcell 3 _ rfl
          have d4 := hcell 4 _ rfl
          have d5 := hcell 5 _ rfl
          have d6 := hcell 6 _ rfl
          have d7 := hcell 7 _ rfl
          have d8 := hcell 8 _ rfl
          dsimp only at d0 d1 d2 d3 d4 d5 d6 d7 d8
          simp only [Nat.add_zero] at d0
          have hj3 : (j : Int) < (l.length : Int) := by omega
          have hb6 := Lib.hid (hb5.alloc (.cells #[.int .i64 sq, .int .i64 r.kind, .int .i64 r.valid, .int .i64 r.uid, .int .i64 r.next, .int .i64 r.flags, .string r.user, .string r.name, .string r.text] 49))
          have hnew : Hid (∀ j u, (itE.row [((sq, r) : Itm)])[j]? = some u → (w5.alloc (.cells #[.int .i64 sq, .int .i64 r.kind, .int .i64 r.valid, .int .i64 r.uid, .int .i64 r.next, .int .i64 r.flags, .string r.user, .string r.name, .string r.text] 49)).cell? ((⟨w5.heap.size, 0, none⟩ : Addr).add j) = some u) := row_new itE w5 (sq, r)
          have hl0 : Hid ((l.length + [((sq, r) : Itm)].length) * (itE.bytes + 1) ≤ 140737488355328) := by show _ ≤ _; simp only [itE, List.length_cons, List.length_nil]; omega
          have hc6 := hc5.alloc (.cells #[.int .i64 sq, .int .i64 r.kind, .int .i64 r.valid, .int .i64 r.uid, .int .i64 r.next, .int .i64 r.flags, .string r.user, .string r.name, .string r.text] 49)
          have hg6 := hgr5.trans (World.grownBy_alloc w5 (.cells #[.int .i64 sq, .int .i64 r.kind, .int .i64 r.valid, .int .i64 r.uid, .int .i64 r.next, .int .i64 r.flags, .string r.user, .string r.name, .string r.text] 49) (some pc))
          clear hcell hc5 hgr5 hjl
          go_wp2_with (at_builtin; refine wpList_append_row rfl _ _ itE rfl w.heap.size _ l rfl hb6.out ⟨w5.heap.size, 0, none⟩ [((sq, r) : Itm)] 1 rfl ?c1 ?c2 ?_)
          case c1 => exact hnew.out
          case c2 => exact hl0.out
          intro v8 w8 hb8 hg8 _
          have hb7 : Below w.heap.size (w5.alloc (.cells #[.int .i64 sq, .int .i64 r.kind, .int .i64 r.valid, .int .i64 r.uid, .int .i64 r.next, .int .i64 r.flags, .string r.user, .string r.name, .string r.text] 49)) w8 := by
            have hle := hb5.le
            exact (Below.refl _ _).grown hg8 (by simp; omega) (fun k hk => (hb5.own.lt k hk).1)
          have hc8 : Cur w8 pc a len cap := hc6.below hb7 hpc hcl.out
          have hg9 : w.grownBy w8 (some pc) := grownBy_below hg6 hb7 (Nat.le_refl _)
          clear hb6 hnew hl0 hc6 hg6 hg8 hb5 hb7 d0 d1 d2 d3 d4 d5 d6 d7 d8
          go_wp2
          go_ret
          exact ⟨l ++ [(sq, r)], v8, HA.out.twice (by omega) HJ.out, rfl, hb8.here, hb8.inRow (by simp), hc8, hg9⟩
        · go_wp2
          go_ret
          exact ⟨l, _, HA.out.done (by omega), rfl, hb4, ⟨_, _, rfl, by omega⟩, hc4, hgr4⟩
      · obtain ⟨g, cap2, rfl, hcap2⟩ := HR.out
        go_wp2
        go_ret
        exact ⟨l, HA.out.done (by omega), _, rfl, hb3, ⟨_, _, rfl, by omega⟩, hc3, hgr3⟩

set_option maxRecDepth 100000 in
theorem drawItems_any (a : Option Addr) (len cap : Nat) (w : World) (hcode : CodeIn w a len) (hs : len ≤ 1048576) :
    Calls Tryz.prog 7 #[.slice a len cap] w fun e w' => ∃ (l : List Itm) (v : Value), ItsD l ∧ e = .returned v ∧ RBuf itE w.heap.size w w' v l ∧ InRow v l.length := by
  go_enter Tryz.func7, Tryz.ntmps7
  go_wp2_with fail
  refine (new_any a len cap _ hcode hs).mono ?_
  rintro e w1 ⟨pc, hp, rfl, hc1, hb1⟩
  have D1 : Drw w pc a len cap w1 := ⟨hc1, hb1, hp⟩
  have hz1 : w.heap.size ≤ w1.heap.size := hb1.size
  clear hc1 hb1
  go_wp2_with fail
  refine (items_any pc a len cap _ D1.cur).mono ?_
  rintro e w2 ⟨l, v, hl, rfl, hb, hrow, hc2, hg2⟩
  have D2 := D1.step hc2 hg2
  obtain ⟨g, cap2, rfl, hcap2⟩ := hrow
  go_wp2
  go_ret
  exact ⟨l, _, hl, rfl, hb.down D2.bel hz1, ⟨_, _, rfl, hcap2⟩⟩

end Go.Proofs.YtahebgceoidebaaGreat

/- The drawn places: twelve numbers, each in 0 .. 9999, in a list of the call's own. -/
namespace Go.Proofs.YtahebgceoidebaaGreat
open Go.RowKit

theorem IBuf.cursor {B : Nat} {w w' : World} {v : Value} {l : List Int} {pc : Nat} (h : IBuf B w w v l) (hg : w.grownBy w' (some pc)) (hp : pc < B) : IBuf B w' w' v l := by
  refine ⟨h.own.kept hg ?_, Below.refl _ _, Nat.le_trans h.le hg.size⟩
  cases hv : v.ownBlock with
  | none => exact .inl rfl
  | some k => exact .inr (by intro e; have := (h.own.lt k hv).1; have := Option.some.inj e; omega)

theorem IBuf.here {B : Nat} {w0 w : World} {v : Value} {l : List Int} (h : IBuf B w0 w v l) : IBuf B w w v l := ⟨h.own, Below.refl _ _, h.le⟩

theorem IBuf.down {B0 B : Nat} {w0 w1 w : World} {v : Value} {l : List Int} (h : IBuf B w1 w v l) (hb : Below B0 w0 w) (hB : B0 ≤ B) : IBuf B0 w0 w v l := by
  refine ⟨⟨h.own.1, ?_⟩, hb, Nat.le_trans hB h.le⟩
  rcases h.own.2 with h1 | ⟨g, cap, cur, h1, h2, h3⟩
  · exact .inl h1
  · exact .inr ⟨g, cap, cur, h1, Nat.le_trans hB h2, h3⟩

theorem one_int (w : World) (x : Int) : ∀ j u, [Value.int .i64 x][j]? = some u → (w.alloc (.cells #[.int .i64 x] 3)).cell? ((⟨w.heap.size, 0, none⟩ : Addr).add j) = some u := by
  intro j u hj
  match j, hj with
  | 0, hj => simp at hj; subst hj; simp [Addr.add]
  | j + 1, hj => simp at hj

theorem below_of_new' {w w1 w2 : World} {pc : Nat} (hb : Below w.heap.size w w1) (hp : w.heap.size ≤ pc) (hg : w1.grownBy w2 (some pc)) : Below w.heap.size w w2 :=
  hb.grown hg hb.size (fun k hk => by have := Option.some.inj hk; omega)

/-- The drawn places. -/
def PlacesR (w : World) (e : Ending) (w' : World) : Prop :=
  ∃ (l : List Int) (v : Value), l.length = 12 ∧ (∀ z ∈ l, 0 ≤ z ∧ z < 10000) ∧ e = .returned v ∧ IBuf w.heap.size w w' v l

set_option maxRecDepth 100000 in
set_option maxHeartbeats 1000000 in
theorem drawPlaces_any (a : Option Addr) (len cap : Nat) (w : World) (hcode : CodeIn w a len) (hs : len ≤ 1048576) :
    Calls Tryz.prog 8 #[.slice a len cap] w fun e w' => PlacesR w e w' := by
  go_enter Tryz.func8, Tryz.ntmps8
  go_wp2_with fail
  refine (new_any a len cap _ hcode hs).mono ?_
  rintro e w1 ⟨pc, hp, rfl, hc1, hb1⟩
  go_wp2_with fail
  refine (byte_any pc a len cap _ hc1).mono ?_
  rintro e w2 ⟨x, hx, rfl, hc2, hg2⟩
  have hb2 := below_of_new' hb1 hp hg2
  have hst := IBuf.fresh w2
  have hpc := hc2.lt
  have hcl := hc2.codeLt
  go_wp2
  go_loopw [4, 5] (fun v iv wr => ∃ (k : Nat) (l : List Int), k ≤ 12 ∧ iv = .int .i64 (k : Int) ∧ l.length = k ∧ (∀ z ∈ l, 0 ≤ z ∧ z < 10000) ∧ IBuf w2.heap.size wr wr v l ∧ Cur wr pc a len cap ∧ Below w.heap.size w wr) (fun _ iv _ => (12 - intOf iv).toNat)
  case atStart => exact ⟨0, [], by omega, rfl, rfl, by simp, hst.here, hc2.below hst.bel hpc hcl, hb2.trans (hst.bel.mono hb2.size)⟩
  case round =>
    obtain ⟨k, l, hk, rfl, hlk, hlz, hb, hcr, hgr⟩ := hrel
    by_cases hlt : k < 12
    · go_wp2_with fail
      refine (below_any 10000 pc a len cap _ hcr (by omega)).mono ?_
      rintro e w3 ⟨y, hy, _, rfl, hc3, hg3⟩
      have hy2 := hy (by omega)
      have hb3 := hb.cursor hg3 hpc
      have hgr3 := below_of_new' hgr hp hg3
      clear hy hb hcr hgr hg3
      go_wp2_with (at_builtin; refine wpList_append_int rfl _ _ rfl _ _ l rfl (hb3.alloc _) ⟨w3.heap.size, 0, none⟩ (y : Int) rfl ?c1 ?c2 ?_)
      case c1 => exact one_int _ _
      case c2 => omega
      intro v' w4 hb4
      have hcr4 : Cur w4 pc a len cap := hc3.below hb4.bel hpc (fun b off h1 h2 => hcl b off h1 h2)
      have hgr4 : Below w.heap.size w w4 := hgr3.trans (hb4.bel.mono hb2.size)
      have hb5 := hb4.here
      clear hb4 hb3 hc3 hgr3
      go_wp2
      go_roundw
      case rel => exact ⟨k + 1, l ++ [(y : Int)], by omega, by go_num, by simp [hlk], fun z hz => by
        rcases List.mem_append.1 hz with h | h
        · exact hlz z h
        · simp at h; omega, hb5, hcr4, hgr4⟩
      case measure => simp [intOf]; omega
    · obtain rfl : k = 12 := by omega
      go_wp2
      go_ret
      exact ⟨l, _, hlk, hlz, rfl, hb.down hgr hb2.size⟩

end Go.Proofs.YtahebgceoidebaaGreat

/- What the laws on what is needed choose by places, and turn round. -/
namespace Go.Proofs.YtahebgceoidebaaGreat
open Go.RowKit

/-- Small numbers that can be read. -/
def PRow (w : World) (g off k : Nat) : Prop := ∀ X, Below w.heap.size w X → ∀ j, j < k → ∃ z : Int, 0 ≤ z ∧ z < 10000 ∧ X.cell? ⟨g, off + j, none⟩ = some (.int .i64 z)
theorem PRow.later {w w' : World} {g off k : Nat} (h : PRow w g off k) (hb : Below w.heap.size w w') : PRow w' g off k := fun X hX => h X (hb.trans (hX.mono hb.size))
theorem PRow.tail {w : World} {g off k : Nat} (h : PRow w g off k) (n : Nat) : PRow w g (off + n) (k - n) := fun X hX j hj => by
  obtain ⟨z, h0, h1, h2⟩ := h X hX (n + j) (by omega)
  exact ⟨z, h0, h1, by rw [show off + n + j = off + (n + j) by omega]; exact h2⟩
theorem places_row {w w' : World} {l : List Int} {v : Value} (hl : l.length = 12) (hlz : ∀ z ∈ l, 0 ≤ z ∧ z < 10000) (hib : IBuf w.heap.size w w' v l) : ∃ g c : Nat, v = .slice (some ⟨g, 0, none⟩) 12 c ∧ 12 ≤ c ∧ PRow w' g 0 12 := by
  rcases hib.own.2 with ⟨_, h0⟩ | ⟨g, cap, cur, rfl, hg, hh, hnc, hcp, hcs, htake⟩
  · omega
  · refine ⟨g, cap, by rw [hl], by omega, fun X hX j hj => ?_⟩
    have hjl : j < l.length := by omega
    refine ⟨l[j], (hlz _ (List.getElem_mem hjl)).1, (hlz _ (List.getElem_mem hjl)).2, ?_⟩
    rw [Nat.zero_add]
    refine (hX.cell (p := ⟨g, j, none⟩) (hib.own.lt g rfl).2).trans ?_
    have h9 := hib.own.cellAt j (by omega)
    rw [h9]
    unfold intV
    rw [List.getElem?_map, List.getElem?_eq_getElem hjl]
    rfl

set_option maxRecDepth 100000 in
set_option maxHeartbeats 2000000 in
theorem chosen_any (n k g off cp : Nat) (w : World) (h : PRow w g off k) (hk : 1 ≤ k) (_hk2 : k ≤ cp) (hk3 : k ≤ 1000) (hn : n ≤ 1000) :
    Calls Tryz.prog 9 #[.int .i64 (n : Int), .slice (some ⟨g, off, none⟩) k cp] w fun e w' => ∃ (d : List Bool) (v : Value), d.length = n ∧ e = .returned v ∧ RBuf boE w.heap.size w w' v d := by
  have HP := Lib.hid h
  clear h
  have I0 : RBuf boE w.heap.size w (w.alloc (.cells #[] 4)) (.slice (some ⟨w.heap.size, 0, none⟩) 0 0) [] := RBuf.fresh boE w
  go_enter Tryz.func9, Tryz.ntmps9
  go_wp2
  go_loopw [5, 6] (fun v iv wr => ∃ (d : List Bool) (i : Nat), i ≤ n ∧ d.length = i ∧ iv = .int .i64 (i : Int) ∧ RBuf boE w.heap.size w wr v d) (fun _ iv _ => n - (intOf iv).toNat)
  case atStart => exact ⟨[], 0, by omega, rfl, rfl, I0⟩
  case round =>
    clear I0
    obtain ⟨d, i, hi, hd, rfl, R⟩ := hrel
    have HD := Lib.hid hd
    clear hd
    by_cases hlt : (i : Int) < (n : Int)
    · obtain ⟨z, z0, z1, zc⟩ := HP.out _ R.bel (i % k) (Nat.mod_lt _ hk)
      obtain ⟨j, hj⟩ : ∃ j, i % k = j := ⟨_, rfl⟩
      have hjk : j < k := by rw [← hj]; exact Nat.mod_lt _ hk
      rw [hj] at zc
      have t1 : Int.tmod (i : Int) (k : Int) = (j : Int) := by rw [Int.tmod_eq_emod_of_nonneg (by omega), ← hj]; exact (Int.natCast_emod i k).symm
      have t2 : (i : Int) % (k : Int) = (j : Int) := by rw [← hj]; exact (Int.natCast_emod i k).symm
      have hj0 : (0 : Int) ≤ (j : Int) := by omega
      have hj1 : (j : Int) < (k : Int) := by omega
      have hkne : ¬ ((k : Int) = 0) := by omega
      clear hj
      obtain ⟨ad, cd, rfl⟩ := R.form
      have hl0 : d.length ≤ 1000 := by have := HD.out; omega
      rcases (show z % 2 = 0 ∨ z % 2 = 1 by omega) with hz | hz
      · have tz : Int.tmod z 2 = 0 := by rw [Int.tmod_eq_emod_of_nonneg z0]; exact hz
        have hb5 := Lib.hid (R.alloc (.cells #[.bool false] 4))
        have hL5 := Lib.hid (RBuf.lit1 boE wr false)
        have HR := Lib.hid R
        clear R z0 z1
        go_wp2_with (at_builtin; refine wpList_append_rows rfl _ _ boE rfl w.heap.size _ d rfl hb5.out.here wr.heap.size _ [false] rfl hL5.out (by show _ * 2 ≤ _; simp only [List.length_cons, List.length_nil]; omega) ?_; intro v8 w8 r8 g8 at8)
        exact ⟨⟨d ++ [false], i + 1, by omega, by simp [HD.out], by simp, ⟨r8.own, hb5.out.bel.grown g8 hb5.out.le (fun q hq => (hb5.out.own.lt q hq).1), r8.le⟩⟩, by first | omega | (simp [intOf]; omega)⟩
      · have tz : Int.tmod z 2 = 1 := by rw [Int.tmod_eq_emod_of_nonneg z0]; exact hz
        have hb5 := Lib.hid (R.alloc (.cells #[.bool true] 4))
        have hL5 := Lib.hid (RBuf.lit1 boE wr true)
        have HR := Lib.hid R
        clear R z0 z1
        go_wp2_with (at_builtin; refine wpList_append_rows rfl _ _ boE rfl w.heap.size _ d rfl hb5.out.here wr.heap.size _ [true] rfl hL5.out (by show _ * 2 ≤ _; simp only [List.length_cons, List.length_nil]; omega) ?_; intro v8 w8 r8 g8 at8)
        exact ⟨⟨d ++ [true], i + 1, by omega, by simp [HD.out], by simp, ⟨r8.own, hb5.out.bel.grown g8 hb5.out.le (fun q hq => (hb5.out.own.lt q hq).1), r8.le⟩⟩, by first | omega | (simp [intOf]; omega)⟩
    · have HIN : Hid (d.length = n) := by have := HD.out; show _ = _; omega
      clear hlt
      have hge : ¬ (i : Int) < (n : Int) := by have := HD.out; have := HIN.out; omega
      go_wp2
      go_ret
      exact ⟨d, HIN.out, _, rfl, R⟩

set_option maxRecDepth 100000 in
set_option maxHeartbeats 2000000 in
theorem flip_any (l : List Bool) (v : Value) (w : World) (h : Rows' boE w v l) (hl : l.length ≤ 1000) :
    Calls Tryz.prog 19 #[v] w fun e w' => ∃ v', e = .returned v' ∧ RBuf boE w.heap.size w w' v' (l.map (!·)) := by
  obtain ⟨ad, cap, rfl, hrow⟩ := h.bools
  have HR := Lib.hid hrow
  clear h hrow
  have I0 : RBuf boE w.heap.size w (w.alloc (.cells #[] 4)) (.slice (some ⟨w.heap.size, 0, none⟩) 0 0) ((l.take 0).map (!·)) := RBuf.fresh boE w
  obtain ⟨n, hn⟩ : ∃ n, l.length = n := ⟨_, rfl⟩
  rw [hn] at hl ⊢
  have HN := Lib.hid hn
  clear hn
  go_enter Tryz.func19, Tryz.ntmps19
  go_wp2
  go_loopw [3, 4] (fun v iv wr => ∃ i : Nat, i ≤ n ∧ iv = .int .i64 (i : Int) ∧ RBuf boE w.heap.size w wr v ((l.take i).map (!·))) (fun _ iv _ => n - (intOf iv).toNat)
  case atStart => exact ⟨0, by omega, rfl, I0⟩
  case round =>
    clear I0
    obtain ⟨i, hi, rfl, R⟩ := hrel
    by_cases hlt : i < n
    · obtain ⟨b, hgb⟩ : ∃ b, l[i]? = some b := ⟨_, List.getElem?_eq_getElem (by rw [HN.out]; exact hlt)⟩
      obtain ⟨gb, ob, rfl, pb⟩ := HR.out _ R.bel i b hgb
      have HT : Hid ((l.take (i + 1)).map (!·) = (l.take i).map (!·) ++ [!b]) := by show _ = _; rw [List.take_add_one, hgb, List.map_append]; rfl
      have hlen : ((l.take i).map (!·)).length ≤ 1000 := by rw [List.length_map, List.length_take]; omega
      obtain ⟨us, hus⟩ : ∃ us, (l.take i).map (!·) = us := ⟨_, rfl⟩
      rw [hus] at R HT hlen
      have hi0 : (0 : Int) ≤ (i : Int) := by omega
      have hi1 : (i : Int) < (n : Int) := by omega
      have hb5 := Lib.hid (R.alloc (.cells #[.bool (!b)] 4))
      have hL5 := Lib.hid (RBuf.lit1 boE wr (!b))
      obtain ⟨a3, c3, rfl⟩ := R.form
      clear hgb hus R
      go_wp2_with (at_builtin; refine wpList_append_rows rfl _ _ boE rfl w.heap.size _ us rfl hb5.out.here wr.heap.size _ [!b] rfl hL5.out (by show _ * 2 ≤ _; simp only [List.length_cons, List.length_nil]; omega) ?_; intro v8 w8 r8 g8 at8)
      exact ⟨⟨i + 1, by omega, by simp, by rw [HT.out]; exact ⟨r8.own, hb5.out.bel.grown g8 hb5.out.le (fun q hq => (hb5.out.own.lt q hq).1), r8.le⟩⟩, by first | omega | (simp [intOf]; omega)⟩
    · have HE : Hid (l.map (!·) = (l.take i).map (!·)) := by show _ = _; rw [List.take_of_length_le (by rw [HN.out]; omega)]
      have hge : ¬ (i : Int) < (n : Int) := by omega
      go_wp2
      go_ret
      exact ⟨_, rfl, by rw [HE.out]; exact R⟩

/-- What goes and what stays is all. -/
theorem wo_both {l : List Itm} {d : List Bool} (hd : d.length = l.length) : (wo l d).length + (wo l (d.map (!·))).length = l.length := by
  have h : ∀ i, i ≤ l.length → (woT l d i).length + (woT l (d.map (!·)) i).length = i := by
    intro i
    induction i with
    | zero => intro _; rfl
    | succ i ih =>
      intro hi
      have h1 := ih (by omega)
      obtain ⟨x, hx⟩ : ∃ x, l[i]? = some x := ⟨_, List.getElem?_eq_getElem (by omega)⟩
      obtain ⟨b, hb⟩ : ∃ b, d[i]? = some b := ⟨_, List.getElem?_eq_getElem (by omega)⟩
      have hb2 : (d.map (!·))[i]? = some (!b) := by rw [List.getElem?_map, hb]; rfl
      cases b with
      | true =>
        rw [woT_go hb, woT_stay (by rw [hb2]; decide) hx, List.length_append]
        simp; omega
      | false =>
        rw [woT_go hb2, woT_stay (by rw [hb]; decide) hx, List.length_append]
        simp; omega
  exact h l.length (Nat.le_refl _)

end Go.Proofs.YtahebgceoidebaaGreat
