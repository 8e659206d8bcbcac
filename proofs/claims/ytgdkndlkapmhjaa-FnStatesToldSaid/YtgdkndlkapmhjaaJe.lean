/- Texts of our own, joined. -/
import Derived.Test.YtgdkndlkapmhjaaJa
import Derived.Test.YtgdkndlkapmhjaaJc
import Derived.Test.YtgdkndlkapmhjaaJd
import Derived.Test.YtgdkndlkapmhjaaJb
/- What is drawn for the chapter on records: what spec.l01Pick, l06Text, l06Rec, l06Any and the draws of the chapter hand back. -/
namespace Go.Proofs.Ytgdkndlkapmhjaa
open Go.RowKit

theorem strs_cell' (w : World) (zs : List ByteArray) (t : TypeId) (j : Nat) (hj : j < zs.length) : (w.alloc (.cells (zs.map Value.string).toArray t)).cell? ⟨w.heap.size, j, none⟩ = some (.string zs[j]) := by
  rw [Joins.cell_of_block (heap_alloc_new w _)]
  simp [hj]

set_option maxRecDepth 100000 in
set_option maxHeartbeats 1000000 in
theorem pickStr_any (zs : List ByteArray) (n pc : Nat) (a : Option Addr) (len cap : Nat) (w : World) (hc : Cur w pc a len cap) (hl : zs.length = n) (h0 : 0 < n) (h1 : n ≤ 1048576) :
    Calls Try.prog 58 #[.pointer (some ⟨pc, 0, none⟩), .slice (some ⟨w.heap.size, 0, none⟩) n n] (w.alloc (.cells (zs.map Value.string).toArray 9)) fun e w' => ∃ x : ByteArray, x ∈ zs ∧ e = .returned (.string x) ∧ Cur w' pc a len cap ∧ w.grownBy w' (some pc) := by
  have hbel : Below w.heap.size w (w.alloc (.cells (zs.map Value.string).toArray 9)) := (Below.refl _ _).alloc (Nat.le_refl _) _
  have hpc := hc.lt
  have hc1 := hc.below hbel hpc hc.codeLt
  have HC : Hid (∀ j (hj : j < zs.length), (w.alloc (.cells (zs.map Value.string).toArray 9)).cell? ⟨w.heap.size, j, none⟩ = some (.string zs[j])) := fun j hj => strs_cell' w zs 9 j hj
  have HG : Hid (w.grownBy (w.alloc (.cells (zs.map Value.string).toArray 9)) (some pc)) := grownBy_below (World.grownBy.refl w (some pc)) hbel (Nat.le_refl _)
  clear hbel
  generalize w.alloc (.cells (zs.map Value.string).toArray 9) = W at *
  have hne : w.heap.size ≠ pc := by omega
  generalize w.heap.size = g at *
  go_enter Try.func58, Try.ntmps58
  go_wp2_with fail
  refine (below_any (n : Int) pc a len cap _ hc1 (by omega)).mono ?_
  rintro e w1 ⟨j, hj, _, rfl, hc2, hg1⟩
  have hj1 : j < n := by have := hj (by omega); omega
  have hx := HC.out j (by omega)
  have HM : Hid (zs[j]'(by omega) ∈ zs) := List.getElem_mem _
  generalize zs[j]'(by omega) = x at hx HM
  have hx1 : w1.cell? ⟨g, j, none⟩ = some (.string x) := hg1.cell hx (fun e => hne (Option.some.inj e))
  have hj2 : (j : Int) < (n : Int) := by omega
  clear hj
  go_wp2
  go_ret
  exact ⟨x, HM.out, rfl, hc2, HG.out.trans hg1⟩

/-- What is known while a record is drawn: its box, the answer's box, and the cursor. -/
structure RcI (pc : Nat) (a : Option Addr) (len cap : Nat) (w : World) (b : Nat) (cs : Array Value) (X : World) : Prop where
  cur : Cur X pc a len cap
  grown : w.grownBy X (some pc)
  res : Box X w.heap.size #[.int .i64 0, .int .i64 0, .int .i64 0, .int .i64 0, .int .i64 0, .string ⟨#[]⟩, .string ⟨#[]⟩, .string ⟨#[]⟩] 47
  rcd : Box X b cs 47
  lt : w.heap.size < b
  ne : b ≠ pc ∧ pc < w.heap.size

theorem RcI.next {pc : Nat} {a : Option Addr} {len cap : Nat} {w : World} {b : Nat} {cs : Array Value} {X Y : World} (h : RcI pc a len cap w b cs X) (hg : X.grownBy Y (some pc)) (hc : Cur Y pc a len cap) : RcI pc a len cap w b cs Y :=
  ⟨hc, h.grown.trans hg, h.res.cur hg (by have := h.ne.2; omega), h.rcd.cur hg h.ne.1, h.lt, h.ne⟩
theorem RcI.put {pc : Nat} {a : Option Addr} {len cap : Nat} {w : World} {b : Nat} {cs : Array Value} {X : World} (h : RcI pc a len cap w b cs X) (hw : Cur w pc a len cap) (j : Nat) (v : Value) : RcI pc a len cap w b (cs.setIfInBounds j v) (X.setCell ⟨b, j, none⟩ v) :=
  ⟨h.cur.new hw (Nat.le_of_lt h.lt) j v, grownBy_new h.grown (Nat.le_of_lt h.lt) j v, h.res.other (by have := h.lt; omega) j v, h.rcd.set j v, h.lt, h.ne⟩
theorem RcI.later {pc : Nat} {a : Option Addr} {len cap : Nat} {w : World} {b : Nat} {cs : Array Value} {X Y : World} (h : RcI pc a len cap w b cs X) (hb : Below X.heap.size X Y) : RcI pc a len cap w b cs Y :=
  ⟨h.cur.below hb h.cur.lt h.cur.codeLt, grownBy_below h.grown hb h.grown.size, h.res.later hb, h.rcd.later hb, h.lt, h.ne⟩
theorem grownBy_new8 {w X : World} {r : Option Nat} (h : w.grownBy X r) {b : Nat} (hb : w.heap.size ≤ b) (v0 v1 v2 v3 v4 v5 v6 v7 : Value) : w.grownBy (set8 X b v0 v1 v2 v3 v4 v5 v6 v7) r :=
  grownBy_new (grownBy_new (grownBy_new (grownBy_new (grownBy_new (grownBy_new (grownBy_new (grownBy_new h hb 0 v0) hb 1 v1) hb 2 v2) hb 3 v3) hb 4 v4) hb 5 v5) hb 6 v6) hb 7 v7
theorem Cur.new8 {w X : World} {pc : Nat} {a : Option Addr} {len cap : Nat} (h : Cur X pc a len cap) (hw : Cur w pc a len cap) {b : Nat} (hb : w.heap.size ≤ b) (v0 v1 v2 v3 v4 v5 v6 v7 : Value) : Cur (set8 X b v0 v1 v2 v3 v4 v5 v6 v7) pc a len cap :=
  (((((((h.new hw hb 0 v0).new hw hb 1 v1).new hw hb 2 v2).new hw hb 3 v3).new hw hb 4 v4).new hw hb 5 v5).new hw hb 6 v6).new hw hb 7 v7

theorem emp_le : emp.size ≤ 200 := by decide

/-- A drawn record. -/
def RcR (Pr : Rc → Prop) (pc : Nat) (a : Option Addr) (len cap : Nat) (w : World) (e : Ending) (w' : World) : Prop :=
  ∃ r : Rc, Pr r ∧ e = .returned r.v ∧ Cur w' pc a len cap ∧ w.grownBy w' (some pc)
def Rc.slim (r : Rc) : Prop := r.user.size ≤ 200 ∧ r.name.size ≤ 200 ∧ r.text.size ≤ 200

set_option maxRecDepth 100000 in
theorem recText_any (pc : Nat) (a : Option Addr) (len cap : Nat) (w : World) (hc : Cur w pc a len cap) :
    Calls Try.prog 59 #[.pointer (some ⟨pc, 0, none⟩)] w fun e w' => ∃ x : ByteArray, x.size ≤ 100 ∧ e = .returned (.string x) ∧ Cur w' pc a len cap ∧ w.grownBy w' (some pc) := by
  go_enter Try.func59, Try.ntmps59
  go_wp2_with fail
  refine (pickStr_any [⟨#[104, 101, 108, 108, 111]⟩, ⟨#[102, 114, 111, 109, 58, 32, 97, 110, 110, 10, 10, 104, 105]⟩, ⟨#[115, 117, 98, 106, 101, 99, 116, 58, 32, 120, 10, 10, 98, 111, 100, 121, 32, 111, 102, 32, 105, 116, 10, 46, 100, 111, 116, 10]⟩, ⟨#[]⟩, ⟨#[120, 10, 46, 46, 10]⟩] 5 pc a len cap _ hc rfl (by omega) (by omega)).mono ?_
  rintro e w1 ⟨x, hx, rfl, hc1, hg1⟩
  have hs : x.size ≤ 100 := by
    simp only [List.mem_cons, List.not_mem_nil, or_false] at hx
    rcases hx with rfl | rfl | rfl | rfl | rfl <;> decide
  clear hx
  go_wp2
  go_ret
  exact ⟨x, hs, rfl, hc1, hg1⟩

set_option maxRecDepth 100000 in
set_option maxHeartbeats 4000000 in
theorem recThree_any (pc : Nat) (a : Option Addr) (len cap : Nat) (w : World) (hc : Cur w pc a len cap) :
    Calls Try.prog 41 #[.pointer (some ⟨pc, 0, none⟩)] w fun e w' => RcR (fun r => (r.ok ∧ r.slim) ∧ r.valid ≤ 3) pc a len cap w e w' := by
  have hx := Box.new w #[.int .i64 0, .int .i64 0, .int .i64 0, .int .i64 0, .int .i64 0, .string ⟨#[]⟩, .string ⟨#[]⟩, .string ⟨#[]⟩] 47
  have hg0 : w.grownBy (w.alloc (.cells #[.int .i64 0, .int .i64 0, .int .i64 0, .int .i64 0, .int .i64 0, .string ⟨#[]⟩, .string ⟨#[]⟩, .string ⟨#[]⟩] 47)) (some pc) := World.grownBy_alloc _ _ _
  have hc0 := hc.alloc (.cells #[.int .i64 0, .int .i64 0, .int .i64 0, .int .i64 0, .int .i64 0, .string ⟨#[]⟩, .string ⟨#[]⟩, .string ⟨#[]⟩] 47)
  have hpc := hc.lt
  have hz0 : w.heap.size < (w.alloc (.cells #[.int .i64 0, .int .i64 0, .int .i64 0, .int .i64 0, .int .i64 0, .string ⟨#[]⟩, .string ⟨#[]⟩, .string ⟨#[]⟩] 47)).heap.size := by simp
  have hW : (w.alloc (.cells #[.int .i64 0, .int .i64 0, .int .i64 0, .int .i64 0, .int .i64 0, .string ⟨#[]⟩, .string ⟨#[]⟩, .string ⟨#[]⟩] 47)).heap.size = w.heap.size + 1 := by simp
  go_enter Try.func41, Try.ntmps41
  go_wp2_with fail
  generalize w.alloc (.cells #[.int .i64 0, .int .i64 0, .int .i64 0, .int .i64 0, .int .i64 0, .string ⟨#[]⟩, .string ⟨#[]⟩, .string ⟨#[]⟩] 47) = W at *
  have hpk := pickLit_any [1, 1, 2, 3, 3, 3, 3, 4, 4, 5, 5] 11 pc a len cap W hc0 rfl (by omega) (by omega)
  simp only [List.map_cons, List.map_nil] at hpk
  rw [hW] at hpk
  refine hpk.mono ?_
  clear hpk
  rintro e w1 ⟨kd, hkd, rfl, hc1, hg1⟩
  go_wp2_with fail
  refine (below_any 3 pc a len cap _ hc1 (by omega)).mono ?_
  rintro e w2 ⟨x1, h1, _, rfl, hc2, hg2⟩
  have h1' := h1 (by omega)
  have hz2 := (hg1.trans hg2).size
  have hk5 : kd = 1 ∨ kd = 2 ∨ kd = 3 ∨ kd = 4 ∨ kd = 5 := by
    simp only [List.mem_cons, List.not_mem_nil, or_false] at hkd
    omega
  have I : RcI pc a len cap w w2.heap.size #[.int .i64 kd, .int .i64 (1 + (x1 : Int)), .int .i64 0, .int .i64 0, .int .i64 0, .string ⟨#[]⟩, .string ⟨#[]⟩, .string ⟨#[]⟩] (w2.alloc (.cells #[.int .i64 kd, .int .i64 (1 + (x1 : Int)), .int .i64 0, .int .i64 0, .int .i64 0, .string ⟨#[]⟩, .string ⟨#[]⟩, .string ⟨#[]⟩] 47)) :=
    ⟨hc2.alloc _, (hg0.trans (hg1.trans hg2)).trans (World.grownBy_alloc _ _ _), (hx.cur (hg1.trans hg2) (by omega)).later (belNew _ _), Box.new w2 _ _, by omega, by omega, hpc⟩
  have HC := Lib.hid hc
  clear hkd h1 hx hg0 hg1 hg2 hc0 hc1 hc2 hz0 hc
  go_upto_region 2 with fail
  generalize w2.alloc (.cells #[.int .i64 kd, .int .i64 (1 + (x1 : Int)), .int .i64 0, .int .i64 0, .int .i64 0, .string ⟨#[]⟩, .string ⟨#[]⟩, .string ⟨#[]⟩] 47) = X at I ⊢
  generalize w2.heap.size = b at I ⊢
  clear hz2
  obtain ⟨y0, y1, y2, y3, y4, y5, y6, y7, f0, f1, f2, f3, f4, f5, f6, f7⟩ := I.rcd.eight
  rcases hk5 with rfl | rfl | rfl | rfl | rfl
  · go_wp2_with fail
    clear y0 y1 y2 y3 y4 y5 y6 y7 f0 f1 f2 f3 f4 f5 f6 f7
    have hpk := pickStr_any [⟨#[97, 110, 110]⟩, ⟨#[98, 111, 98]⟩] 2 pc a len cap _ I.cur rfl (by omega) (by omega)
    simp only [List.map_cons, List.map_nil] at hpk
    refine hpk.mono ?_
    clear hpk
    rintro e w3 ⟨us, hus, rfl, hcN, hgN⟩
    replace I := I.next hgN hcN
    have Hus : Hid (wdOk us ∧ us.size ≤ 8) := by
      simp only [List.mem_cons, List.not_mem_nil, or_false] at hus
      rcases hus with rfl | rfl <;> exact ⟨by decide, by decide⟩
    clear hus hcN hgN
    obtain ⟨y0, y1, y2, y3, y4, y5, y6, y7, f0, f1, f2, f3, f4, f5, f6, f7⟩ := I.rcd.eight
    go_wp2_with fail
    have I : RcI pc a len cap w b #[.int .i64 1, .int .i64 (1 + (x1 : Int)), .int .i64 0, .int .i64 0, .int .i64 0, .string us, .string ⟨#[]⟩, .string ⟨#[]⟩] _ := I.put HC.out 5 (.string us)
    have hszw3 : (w3.setCell ⟨b, 5, none⟩ (.string us)).heap.size = w3.heap.size := by simp
    generalize w3.setCell ⟨b, 5, none⟩ (.string us) = Xw3 at I hszw3 ⊢
    clear y0 y1 y2 y3 y4 y5 y6 y7 f0 f1 f2 f3 f4 f5 f6 f7
    have hpk := pickStr_any [⟨#[105, 110, 98, 111, 120]⟩, ⟨#[119, 111, 114, 107]⟩] 2 pc a len cap _ I.cur rfl (by omega) (by omega)
    simp only [List.map_cons, List.map_nil] at hpk
    rw [hszw3] at hpk
    refine hpk.mono ?_
    clear hpk
    rintro e w4 ⟨nm, hnm, rfl, hcN, hgN⟩
    replace I := I.next hgN hcN
    have Hnm : Hid (wdOk nm ∧ nm.size ≤ 8) := by
      simp only [List.mem_cons, List.not_mem_nil, or_false] at hnm
      rcases hnm with rfl | rfl <;> exact ⟨by decide, by decide⟩
    clear hnm hcN hgN
    obtain ⟨y0, y1, y2, y3, y4, y5, y6, y7, f0, f1, f2, f3, f4, f5, f6, f7⟩ := I.rcd.eight
    go_wp2_with fail
    have I : RcI pc a len cap w b #[.int .i64 1, .int .i64 (1 + (x1 : Int)), .int .i64 0, .int .i64 0, .int .i64 0, .string us, .string nm, .string ⟨#[]⟩] _ := I.put HC.out 6 (.string nm)
    have hszw4 : (w4.setCell ⟨b, 6, none⟩ (.string nm)).heap.size = w4.heap.size := by simp
    generalize w4.setCell ⟨b, 6, none⟩ (.string nm) = Xw4 at I hszw4 ⊢
    clear y0 y1 y2 y3 y4 y5 y6 y7 f0 f1 f2 f3 f4 f5 f6 f7
    refine (below_any 6 pc a len cap _ I.cur (by omega)).mono ?_
    rintro e w5 ⟨x2, hx2, _, rfl, hcN, hgN⟩
    have hx2' := hx2 (by omega)
    replace I := I.next hgN hcN
    clear hx2 hcN hgN
    obtain ⟨y0, y1, y2, y3, y4, y5, y6, y7, f0, f1, f2, f3, f4, f5, f6, f7⟩ := I.rcd.eight
    have J : RcI pc a len cap w b #[.int .i64 1, .int .i64 (1 + (x1 : Int)), .int .i64 0, .int .i64 (1 + (x2 : Int)), .int .i64 0, .string us, .string nm, .string ⟨#[]⟩] (w5.setCell ⟨b, 3, none⟩ (.int .i64 (1 + (x2 : Int)))) := I.put HC.out 3 (.int .i64 (1 + (x2 : Int)))
    obtain ⟨d0, d1, d2, d3, d4, d5, d6, d7, g0, g1, g2, g3, g4, g5, g6, g7⟩ := J.res.eight
    obtain ⟨p0, p1, p2, p3, p4, p5, p6, p7, _⟩ := J.rcd.eight
    obtain ⟨q0, q1, q2, q3, q4, q5, q6, q7, _⟩ := (J.res.set8 (.int .i64 1) (.int .i64 (1 + (x1 : Int))) (.int .i64 0) (.int .i64 (1 + (x2 : Int))) (.int .i64 0) (.string us) (.string nm) (.string ⟨#[]⟩)).eight
    unfold set8 at q0 q1 q2 q3 q4 q5 q6 q7
    have hlt := J.lt
    have hneb : w.heap.size ≠ b := by omega
    have hneb' : b ≠ w.heap.size := by omega
    have HF : Hid (Cur (set8 (w5.setCell ⟨b, 3, none⟩ (.int .i64 (1 + (x2 : Int)))) w.heap.size (.int .i64 1) (.int .i64 (1 + (x1 : Int))) (.int .i64 0) (.int .i64 (1 + (x2 : Int))) (.int .i64 0) (.string us) (.string nm) (.string ⟨#[]⟩)) pc a len cap ∧ w.grownBy (set8 (w5.setCell ⟨b, 3, none⟩ (.int .i64 (1 + (x2 : Int)))) w.heap.size (.int .i64 1) (.int .i64 (1 + (x1 : Int))) (.int .i64 0) (.int .i64 (1 + (x2 : Int))) (.int .i64 0) (.string us) (.string nm) (.string ⟨#[]⟩)) (some pc)) := ⟨J.cur.new8 HC.out (Nat.le_refl _) _ _ _ _ _ _ _ _, grownBy_new8 J.grown (Nat.le_refl _) _ _ _ _ _ _ _ _⟩
    clear I J hlt
    go_wp2
    refine bodyPost_ret (v := Rc.v ⟨1, 1 + (x1 : Int), 0, 1 + (x2 : Int), 0, us, nm, emp⟩) (by simp [results, Try.results41, go_sem, q0, q1, q2, q3, q4, q5, q6, q7, Rc.v, emp]) rfl ?_
    exact ⟨_, ⟨⟨by simp [Rc.ok, Hus.out.1, Hnm.out.1]; omega, by have := Hus.out.2; simp only; omega, by have := Hnm.out.2; simp only; omega, emp_le⟩, by simp only; omega⟩, rfl, HF.out.1, HF.out.2⟩
  · skip
    have J := I
    obtain ⟨d0, d1, d2, d3, d4, d5, d6, d7, g0, g1, g2, g3, g4, g5, g6, g7⟩ := J.res.eight
    obtain ⟨p0, p1, p2, p3, p4, p5, p6, p7, _⟩ := J.rcd.eight
    obtain ⟨q0, q1, q2, q3, q4, q5, q6, q7, _⟩ := (J.res.set8 (.int .i64 2) (.int .i64 (1 + (x1 : Int))) (.int .i64 0) (.int .i64 0) (.int .i64 0) (.string ⟨#[]⟩) (.string ⟨#[]⟩) (.string ⟨#[]⟩)).eight
    unfold set8 at q0 q1 q2 q3 q4 q5 q6 q7
    have hlt := J.lt
    have hneb : w.heap.size ≠ b := by omega
    have hneb' : b ≠ w.heap.size := by omega
    have HF : Hid (Cur (set8 X w.heap.size (.int .i64 2) (.int .i64 (1 + (x1 : Int))) (.int .i64 0) (.int .i64 0) (.int .i64 0) (.string ⟨#[]⟩) (.string ⟨#[]⟩) (.string ⟨#[]⟩)) pc a len cap ∧ w.grownBy (set8 X w.heap.size (.int .i64 2) (.int .i64 (1 + (x1 : Int))) (.int .i64 0) (.int .i64 0) (.int .i64 0) (.string ⟨#[]⟩) (.string ⟨#[]⟩) (.string ⟨#[]⟩)) (some pc)) := ⟨J.cur.new8 HC.out (Nat.le_refl _) _ _ _ _ _ _ _ _, grownBy_new8 J.grown (Nat.le_refl _) _ _ _ _ _ _ _ _⟩
    clear I J hlt
    go_wp2
    refine bodyPost_ret (v := Rc.v ⟨2, 1 + (x1 : Int), 0, 0, 0, emp, emp, emp⟩) (by simp [results, Try.results41, go_sem, q0, q1, q2, q3, q4, q5, q6, q7, Rc.v, emp]) rfl ?_
    exact ⟨_, ⟨⟨by simp [Rc.ok]; omega, emp_le, emp_le, emp_le⟩, by simp only; omega⟩, rfl, HF.out.1, HF.out.2⟩
  · go_wp2_with fail
    clear y0 y1 y2 y3 y4 y5 y6 y7 f0 f1 f2 f3 f4 f5 f6 f7
    refine (below_any 5 pc a len cap _ I.cur (by omega)).mono ?_
    rintro e w3 ⟨x2, hx2, _, rfl, hcN, hgN⟩
    have hx2' := hx2 (by omega)
    replace I := I.next hgN hcN
    clear hx2 hcN hgN
    obtain ⟨y0, y1, y2, y3, y4, y5, y6, y7, f0, f1, f2, f3, f4, f5, f6, f7⟩ := I.rcd.eight
    go_wp2_with fail
    have I : RcI pc a len cap w b #[.int .i64 3, .int .i64 (1 + (x1 : Int)), .int .i64 (1 + (x2 : Int)), .int .i64 0, .int .i64 0, .string ⟨#[]⟩, .string ⟨#[]⟩, .string ⟨#[]⟩] _ := I.put HC.out 2 (.int .i64 (1 + (x2 : Int)))
    have hszw3 : (w3.setCell ⟨b, 2, none⟩ (.int .i64 (1 + (x2 : Int)))).heap.size = w3.heap.size := by simp
    generalize w3.setCell ⟨b, 2, none⟩ (.int .i64 (1 + (x2 : Int))) = Xw3 at I hszw3 ⊢
    clear y0 y1 y2 y3 y4 y5 y6 y7 f0 f1 f2 f3 f4 f5 f6 f7
    refine (below_any 8 pc a len cap _ I.cur (by omega)).mono ?_
    rintro e w4 ⟨x3, hx3, _, rfl, hcN, hgN⟩
    have hx3' := hx3 (by omega)
    replace I := I.next hgN hcN
    clear hx3 hcN hgN
    obtain ⟨y0, y1, y2, y3, y4, y5, y6, y7, f0, f1, f2, f3, f4, f5, f6, f7⟩ := I.rcd.eight
    go_wp2_with fail
    have I : RcI pc a len cap w b #[.int .i64 3, .int .i64 (1 + (x1 : Int)), .int .i64 (1 + (x2 : Int)), .int .i64 0, .int .i64 (x3 : Int), .string ⟨#[]⟩, .string ⟨#[]⟩, .string ⟨#[]⟩] _ := I.put HC.out 4 (.int .i64 (x3 : Int))
    have hszw4 : (w4.setCell ⟨b, 4, none⟩ (.int .i64 (x3 : Int))).heap.size = w4.heap.size := by simp
    generalize w4.setCell ⟨b, 4, none⟩ (.int .i64 (x3 : Int)) = Xw4 at I hszw4 ⊢
    clear y0 y1 y2 y3 y4 y5 y6 y7 f0 f1 f2 f3 f4 f5 f6 f7
    refine (recText_any pc a len cap _ I.cur).mono ?_
    rintro e w5 ⟨tx, htx0, rfl, hcN, hgN⟩
    replace I := I.next hgN hcN
    have Htx := Lib.hid htx0
    clear htx0 hcN hgN
    obtain ⟨y0, y1, y2, y3, y4, y5, y6, y7, f0, f1, f2, f3, f4, f5, f6, f7⟩ := I.rcd.eight
    have J : RcI pc a len cap w b #[.int .i64 3, .int .i64 (1 + (x1 : Int)), .int .i64 (1 + (x2 : Int)), .int .i64 0, .int .i64 (x3 : Int), .string ⟨#[]⟩, .string ⟨#[]⟩, .string tx] (w5.setCell ⟨b, 7, none⟩ (.string tx)) := I.put HC.out 7 (.string tx)
    obtain ⟨d0, d1, d2, d3, d4, d5, d6, d7, g0, g1, g2, g3, g4, g5, g6, g7⟩ := J.res.eight
    obtain ⟨p0, p1, p2, p3, p4, p5, p6, p7, _⟩ := J.rcd.eight
    obtain ⟨q0, q1, q2, q3, q4, q5, q6, q7, _⟩ := (J.res.set8 (.int .i64 3) (.int .i64 (1 + (x1 : Int))) (.int .i64 (1 + (x2 : Int))) (.int .i64 0) (.int .i64 (x3 : Int)) (.string ⟨#[]⟩) (.string ⟨#[]⟩) (.string tx)).eight
    unfold set8 at q0 q1 q2 q3 q4 q5 q6 q7
    have hlt := J.lt
    have hneb : w.heap.size ≠ b := by omega
    have hneb' : b ≠ w.heap.size := by omega
    have HF : Hid (Cur (set8 (w5.setCell ⟨b, 7, none⟩ (.string tx)) w.heap.size (.int .i64 3) (.int .i64 (1 + (x1 : Int))) (.int .i64 (1 + (x2 : Int))) (.int .i64 0) (.int .i64 (x3 : Int)) (.string ⟨#[]⟩) (.string ⟨#[]⟩) (.string tx)) pc a len cap ∧ w.grownBy (set8 (w5.setCell ⟨b, 7, none⟩ (.string tx)) w.heap.size (.int .i64 3) (.int .i64 (1 + (x1 : Int))) (.int .i64 (1 + (x2 : Int))) (.int .i64 0) (.int .i64 (x3 : Int)) (.string ⟨#[]⟩) (.string ⟨#[]⟩) (.string tx)) (some pc)) := ⟨J.cur.new8 HC.out (Nat.le_refl _) _ _ _ _ _ _ _ _, grownBy_new8 J.grown (Nat.le_refl _) _ _ _ _ _ _ _ _⟩
    clear I J hlt
    go_wp2
    refine bodyPost_ret (v := Rc.v ⟨3, 1 + (x1 : Int), 1 + (x2 : Int), 0, (x3 : Int), emp, emp, tx⟩) (by simp [results, Try.results41, go_sem, q0, q1, q2, q3, q4, q5, q6, q7, Rc.v, emp]) rfl ?_
    exact ⟨_, ⟨⟨by have := Htx.out; simp [Rc.ok]; omega, emp_le, emp_le, by have := Htx.out; simp only; omega⟩, by simp only; omega⟩, rfl, HF.out.1, HF.out.2⟩
  · go_wp2_with fail
    clear y0 y1 y2 y3 y4 y5 y6 y7 f0 f1 f2 f3 f4 f5 f6 f7
    refine (below_any 5 pc a len cap _ I.cur (by omega)).mono ?_
    rintro e w3 ⟨x2, hx2, _, rfl, hcN, hgN⟩
    have hx2' := hx2 (by omega)
    replace I := I.next hgN hcN
    clear hx2 hcN hgN
    obtain ⟨y0, y1, y2, y3, y4, y5, y6, y7, f0, f1, f2, f3, f4, f5, f6, f7⟩ := I.rcd.eight
    go_wp2_with fail
    have I : RcI pc a len cap w b #[.int .i64 4, .int .i64 (1 + (x1 : Int)), .int .i64 (1 + (x2 : Int)), .int .i64 0, .int .i64 0, .string ⟨#[]⟩, .string ⟨#[]⟩, .string ⟨#[]⟩] _ := I.put HC.out 2 (.int .i64 (1 + (x2 : Int)))
    have hszw3 : (w3.setCell ⟨b, 2, none⟩ (.int .i64 (1 + (x2 : Int)))).heap.size = w3.heap.size := by simp
    generalize w3.setCell ⟨b, 2, none⟩ (.int .i64 (1 + (x2 : Int))) = Xw3 at I hszw3 ⊢
    clear y0 y1 y2 y3 y4 y5 y6 y7 f0 f1 f2 f3 f4 f5 f6 f7
    refine (below_any 8 pc a len cap _ I.cur (by omega)).mono ?_
    rintro e w4 ⟨x3, hx3, _, rfl, hcN, hgN⟩
    have hx3' := hx3 (by omega)
    replace I := I.next hgN hcN
    clear hx3 hcN hgN
    obtain ⟨y0, y1, y2, y3, y4, y5, y6, y7, f0, f1, f2, f3, f4, f5, f6, f7⟩ := I.rcd.eight
    have J : RcI pc a len cap w b #[.int .i64 4, .int .i64 (1 + (x1 : Int)), .int .i64 (1 + (x2 : Int)), .int .i64 0, .int .i64 (x3 : Int), .string ⟨#[]⟩, .string ⟨#[]⟩, .string ⟨#[]⟩] (w4.setCell ⟨b, 4, none⟩ (.int .i64 (x3 : Int))) := I.put HC.out 4 (.int .i64 (x3 : Int))
    obtain ⟨d0, d1, d2, d3, d4, d5, d6, d7, g0, g1, g2, g3, g4, g5, g6, g7⟩ := J.res.eight
    obtain ⟨p0, p1, p2, p3, p4, p5, p6, p7, _⟩ := J.rcd.eight
    obtain ⟨q0, q1, q2, q3, q4, q5, q6, q7, _⟩ := (J.res.set8 (.int .i64 4) (.int .i64 (1 + (x1 : Int))) (.int .i64 (1 + (x2 : Int))) (.int .i64 0) (.int .i64 (x3 : Int)) (.string ⟨#[]⟩) (.string ⟨#[]⟩) (.string ⟨#[]⟩)).eight
    unfold set8 at q0 q1 q2 q3 q4 q5 q6 q7
    have hlt := J.lt
    have hneb : w.heap.size ≠ b := by omega
    have hneb' : b ≠ w.heap.size := by omega
    have HF : Hid (Cur (set8 (w4.setCell ⟨b, 4, none⟩ (.int .i64 (x3 : Int))) w.heap.size (.int .i64 4) (.int .i64 (1 + (x1 : Int))) (.int .i64 (1 + (x2 : Int))) (.int .i64 0) (.int .i64 (x3 : Int)) (.string ⟨#[]⟩) (.string ⟨#[]⟩) (.string ⟨#[]⟩)) pc a len cap ∧ w.grownBy (set8 (w4.setCell ⟨b, 4, none⟩ (.int .i64 (x3 : Int))) w.heap.size (.int .i64 4) (.int .i64 (1 + (x1 : Int))) (.int .i64 (1 + (x2 : Int))) (.int .i64 0) (.int .i64 (x3 : Int)) (.string ⟨#[]⟩) (.string ⟨#[]⟩) (.string ⟨#[]⟩)) (some pc)) := ⟨J.cur.new8 HC.out (Nat.le_refl _) _ _ _ _ _ _ _ _, grownBy_new8 J.grown (Nat.le_refl _) _ _ _ _ _ _ _ _⟩
    clear I J hlt
    go_wp2
    refine bodyPost_ret (v := Rc.v ⟨4, 1 + (x1 : Int), 1 + (x2 : Int), 0, (x3 : Int), emp, emp, emp⟩) (by simp [results, Try.results41, go_sem, q0, q1, q2, q3, q4, q5, q6, q7, Rc.v, emp]) rfl ?_
    exact ⟨_, ⟨⟨by simp [Rc.ok]; omega, emp_le, emp_le, emp_le⟩, by simp only; omega⟩, rfl, HF.out.1, HF.out.2⟩
  · go_wp2_with fail
    clear y0 y1 y2 y3 y4 y5 y6 y7 f0 f1 f2 f3 f4 f5 f6 f7
    refine (below_any 5 pc a len cap _ I.cur (by omega)).mono ?_
    rintro e w3 ⟨x2, hx2, _, rfl, hcN, hgN⟩
    have hx2' := hx2 (by omega)
    replace I := I.next hgN hcN
    clear hx2 hcN hgN
    obtain ⟨y0, y1, y2, y3, y4, y5, y6, y7, f0, f1, f2, f3, f4, f5, f6, f7⟩ := I.rcd.eight
    have J : RcI pc a len cap w b #[.int .i64 5, .int .i64 (1 + (x1 : Int)), .int .i64 (1 + (x2 : Int)), .int .i64 0, .int .i64 0, .string ⟨#[]⟩, .string ⟨#[]⟩, .string ⟨#[]⟩] (w3.setCell ⟨b, 2, none⟩ (.int .i64 (1 + (x2 : Int)))) := I.put HC.out 2 (.int .i64 (1 + (x2 : Int)))
    obtain ⟨d0, d1, d2, d3, d4, d5, d6, d7, g0, g1, g2, g3, g4, g5, g6, g7⟩ := J.res.eight
    obtain ⟨p0, p1, p2, p3, p4, p5, p6, p7, _⟩ := J.rcd.eight
    obtain ⟨q0, q1, q2, q3, q4, q5, q6, q7, _⟩ := (J.res.set8 (.int .i64 5) (.int .i64 (1 + (x1 : Int))) (.int .i64 (1 + (x2 : Int))) (.int .i64 0) (.int .i64 0) (.string ⟨#[]⟩) (.string ⟨#[]⟩) (.string ⟨#[]⟩)).eight
    unfold set8 at q0 q1 q2 q3 q4 q5 q6 q7
    have hlt := J.lt
    have hneb : w.heap.size ≠ b := by omega
    have hneb' : b ≠ w.heap.size := by omega
    have HF : Hid (Cur (set8 (w3.setCell ⟨b, 2, none⟩ (.int .i64 (1 + (x2 : Int)))) w.heap.size (.int .i64 5) (.int .i64 (1 + (x1 : Int))) (.int .i64 (1 + (x2 : Int))) (.int .i64 0) (.int .i64 0) (.string ⟨#[]⟩) (.string ⟨#[]⟩) (.string ⟨#[]⟩)) pc a len cap ∧ w.grownBy (set8 (w3.setCell ⟨b, 2, none⟩ (.int .i64 (1 + (x2 : Int)))) w.heap.size (.int .i64 5) (.int .i64 (1 + (x1 : Int))) (.int .i64 (1 + (x2 : Int))) (.int .i64 0) (.int .i64 0) (.string ⟨#[]⟩) (.string ⟨#[]⟩) (.string ⟨#[]⟩)) (some pc)) := ⟨J.cur.new8 HC.out (Nat.le_refl _) _ _ _ _ _ _ _ _, grownBy_new8 J.grown (Nat.le_refl _) _ _ _ _ _ _ _ _⟩
    clear I J hlt
    go_wp2
    refine bodyPost_ret (v := Rc.v ⟨5, 1 + (x1 : Int), 1 + (x2 : Int), 0, 0, emp, emp, emp⟩) (by simp [results, Try.results41, go_sem, q0, q1, q2, q3, q4, q5, q6, q7, Rc.v, emp]) rfl ?_
    exact ⟨_, ⟨⟨by simp [Rc.ok]; omega, emp_le, emp_le, emp_le⟩, by simp only; omega⟩, rfl, HF.out.1, HF.out.2⟩
theorem recDrawn_any (pc : Nat) (a : Option Addr) (len cap : Nat) (w : World) (hc : Cur w pc a len cap) :
    Calls Try.prog 41 #[.pointer (some ⟨pc, 0, none⟩)] w fun e w' => RcR (fun r => r.ok ∧ r.slim) pc a len cap w e w' := by
  refine (recThree_any pc a len cap w hc).mono ?_
  rintro e w' ⟨r, hr, h1, h2, h3⟩
  exact ⟨r, hr.1, h1, h2, h3⟩

end Go.Proofs.Ytgdkndlkapmhjaa

/- Lists that can be read, and lists put anew element by element. -/
namespace Go.Proofs.Ytgdkndlkapmhjaa
open Go.RowKit

theorem Rows'.ways {α : Type} {E : Enc α} {w : World} {v : Value} {l : List α} (h : Rows' E w v l) : (l = [] ∧ ∃ (a : Option Addr) (cap : Nat), v = .slice a 0 cap) ∨
    (l ≠ [] ∧ ∃ g off cap : Nat, v = .slice (some ⟨g, off, none⟩) l.length cap ∧ l.length ≤ cap ∧ g < w.heap.size ∧ ∀ j x, l[j]? = some x → ∀ k u, (E.f x)[k]? = some u → w.cell? ⟨g, off + j * E.sz + k, none⟩ = some u) := by
  by_cases hl : l = []
  · subst hl
    rcases h with h | ⟨g, off, cap, hv, _⟩
    · exact .inl h
    · exact .inl ⟨rfl, _, _, hv⟩
  · rcases h with ⟨h, _⟩ | h
    · exact absurd h hl
    · exact .inr ⟨hl, h⟩

theorem grownBy_of_below {w w' : World} (hb : Below w.heap.size w w') (r : Option Nat) : w.grownBy w' r := ⟨hb.os, hb.tape, hb.output, hb.size, fun k hk _ => hb.block k hk⟩

theorem grownBy_store (w : World) (g i : Nat) (v : Value) : w.grownBy (w.setCell ⟨g, i, none⟩ v) (some g) :=
  have b := (Below.refl 0 w).setCell (p := ⟨g, i, none⟩) (Nat.zero_le _) v
  ⟨b.os, b.tape, b.output, b.size, fun k _ hne => Below.heap_setCell w _ _ _ (fun e => hne (by rw [e]))⟩

/-- The first i elements of l put anew. -/
def putTo {α : Type} (m : Nat → α) (l : List α) (i : Nat) : List α := (List.range i).map m ++ l.drop i
theorem putTo_length {α : Type} {m : Nat → α} {i : Nat} {l : List α} (h : i ≤ l.length) : (putTo m l i).length = l.length := by simp [putTo]; omega
theorem putTo_set {α : Type} {m : Nat → α} {i : Nat} {l : List α} (h : i < l.length) : (putTo m l i).set i (m i) = putTo m l (i + 1) := by
  unfold putTo
  rw [List.set_append_right _ _ (by simp)]
  simp only [List.length_map, List.length_range, Nat.sub_self]
  rw [List.drop_eq_getElem_cons h, List.set_cons_zero, List.range_succ, List.map_append, List.append_assoc]
  rfl
theorem putTo_zero {α : Type} (m : Nat → α) (l : List α) : putTo m l 0 = l := by simp [putTo]
theorem putTo_all {α : Type} (m : Nat → α) (l : List α) : putTo m l l.length = (List.range l.length).map m := by simp [putTo]
theorem putTo_at {α : Type} {m : Nat → α} {i : Nat} {l : List α} (h : i < l.length) : (putTo m l i)[i]? = some l[i] := by
  unfold putTo
  rw [List.getElem?_append_right (by simp)]
  simp [h]

end Go.Proofs.Ytgdkndlkapmhjaa

/- What is drawn for the chapter on frames: the draws themselves, and laws.sameFrames. -/
namespace Go.Proofs.Ytgdkndlkapmhjaa
open Go.RowKit



end Go.Proofs.Ytgdkndlkapmhjaa

/- What is drawn for the chapter on frames: a list of right frames of one Gen. -/
namespace Go.Proofs.Ytgdkndlkapmhjaa
open Go.RowKit

theorem RBuf.cursor {α : Type} {E : Enc α} {B : Nat} {w w' : World} {v : Value} {l : List α} {pc : Nat} (h : RBuf E B w w v l) (hg : w.grownBy w' (some pc)) (hp : pc < B) : RBuf E B w' w' v l := by
  refine ⟨h.own.kept hg ?_, Below.refl _ _, Nat.le_trans h.le hg.size⟩
  cases hv : v.ownBlock with
  | none => exact .inl rfl
  | some k => exact .inr (by intro e; have := (h.own.lt k hv).1; have := Option.some.inj e; omega)

/-- A list that lies in a row, be it empty. -/
def InRow (v : Value) (n : Nat) : Prop := ∃ g cap : Nat, v = .slice (some ⟨g, 0, none⟩) n cap ∧ n ≤ cap
theorem RBuf.inRow {α : Type} {E : Enc α} {B : Nat} {w0 w : World} {v : Value} {l : List α} (h : RBuf E B w0 w v l) (hl : l ≠ []) : InRow v l.length := by
  rcases h.own.2 with ⟨_, h0⟩ | ⟨g, cap, cur, rfl, _, _, hnc, _⟩
  · exact absurd (List.length_eq_zero_iff.1 h0) hl
  · exact ⟨g, cap, rfl, hnc⟩

/-- The frames that are drawn. -/
def Fr.three (f : Fr) : Prop := f.ok ∧ f.gen = 3 ∧ f.body.size ≤ 20


end Go.Proofs.Ytgdkndlkapmhjaa

/- Items: what the model's ItemFrame and FrameItem hand back. -/
namespace Go.Proofs.Ytgdkndlkapmhjaa
open Go.RowKit

/-- An item's value: its number and its record's cells. -/
def itV (seq : Int) (r : Rc) : Value := .agg #[.int .i64 seq, .int .i64 r.kind, .int .i64 r.valid, .int .i64 r.uid, .int .i64 r.next, .int .i64 r.flags, .string r.user, .string r.name, .string r.text]
/-- What ItemFrame hands back. -/
def ifT (seq : Int) (r : Rc) (gen : Int) : Value :=
  if r.ok ∧ (⟨gen, seq, r.tx⟩ : Fr).ok then .tuple #[(⟨gen, seq, r.tx⟩ : Fr).v, .bool true] else .tuple #[.agg #[.int .i64 0, .int .i64 0, .string ⟨#[]⟩], .bool false]
theorem ifT_yes {seq : Int} {r : Rc} {gen : Int} (h : r.ok) (h2 : (⟨gen, seq, r.tx⟩ : Fr).ok) : ifT seq r gen = .tuple #[(⟨gen, seq, r.tx⟩ : Fr).v, .bool true] := if_pos ⟨h, h2⟩
theorem ifT_no {seq : Int} {r : Rc} {gen : Int} (h : ¬ (r.ok ∧ (⟨gen, seq, r.tx⟩ : Fr).ok)) : ifT seq r gen = .tuple #[.agg #[.int .i64 0, .int .i64 0, .string ⟨#[]⟩], .bool false] := if_neg h


/-- What FrameItem hands back. -/
def fiT (f : Fr) : Value := if f.ok then (match rrO f.body with
  | some r => .tuple #[itV f.seq r, .bool true]
  | none => .tuple #[itV 0 Rc.nil, .bool false]) else .tuple #[itV 0 Rc.nil, .bool false]
theorem fiT_out {f : Fr} (h : ¬ f.ok) : fiT f = .tuple #[itV 0 Rc.nil, .bool false] := if_neg h
theorem fiT_none {f : Fr} (h : rrO f.body = none) : fiT f = .tuple #[itV 0 Rc.nil, .bool false] := by
  unfold fiT; rw [h]; exact ite_self _
theorem fiT_some {f : Fr} {r : Rc} (h : f.ok) (hr : rrO f.body = some r) : fiT f = .tuple #[itV f.seq r, .bool true] := by
  unfold fiT; rw [hr, if_pos h]

theorem Box.nine {w : World} {b : Nat} {u0 u1 u2 u3 u4 u5 u6 u7 u8 : Value} {t : TypeId} (h : Box w b #[u0, u1, u2, u3, u4, u5, u6, u7, u8] t) :
    w.cell? ⟨b, 0, none⟩ = some u0 ∧ w.cell? ⟨b, 1, none⟩ = some u1 ∧ w.cell? ⟨b, 2, none⟩ = some u2 ∧ w.cell? ⟨b, 3, none⟩ = some u3 ∧ w.cell? ⟨b, 4, none⟩ = some u4 ∧ w.cell? ⟨b, 5, none⟩ = some u5 ∧ w.cell? ⟨b, 6, none⟩ = some u6 ∧ w.cell? ⟨b, 7, none⟩ = some u7 ∧ w.cell? ⟨b, 8, none⟩ = some u8 ∧
    w.frozen? ⟨b, 0, none⟩ = false ∧ w.frozen? ⟨b, 1, none⟩ = false ∧ w.frozen? ⟨b, 2, none⟩ = false ∧ w.frozen? ⟨b, 3, none⟩ = false ∧ w.frozen? ⟨b, 4, none⟩ = false ∧ w.frozen? ⟨b, 5, none⟩ = false ∧ w.frozen? ⟨b, 6, none⟩ = false ∧ w.frozen? ⟨b, 7, none⟩ = false ∧ w.frozen? ⟨b, 8, none⟩ = false :=
  ⟨h.cell 0 _ rfl, h.cell 1 _ rfl, h.cell 2 _ rfl, h.cell 3 _ rfl, h.cell 4 _ rfl, h.cell 5 _ rfl, h.cell 6 _ rfl, h.cell 7 _ rfl, h.cell 8 _ rfl, h.loose 0, h.loose 1, h.loose 2, h.loose 3, h.loose 4, h.loose 5, h.loose 6, h.loose 7, h.loose 8⟩
theorem below_set9 {B b : Nat} {w0 w : World} (h : Below B w0 w) (hb : B ≤ b) (v0 v1 v2 v3 v4 v5 v6 v7 v8 : Value) : Below B w0 ((set8 w b v0 v1 v2 v3 v4 v5 v6 v7).setCell ⟨b, 8, none⟩ v8) :=
  (below_set8 h hb v0 v1 v2 v3 v4 v5 v6 v7).setCell (p := ⟨b, 8, none⟩) hb v8



end Go.Proofs.Ytgdkndlkapmhjaa

/- What records tell, plainly: whatever the order in which they lie, and however often one lies there. -/
namespace Go.Proofs.Ytgdkndlkapmhjaa

/-- An item: its number and its record. -/
abbrev Itm := Int × Rc

/-- x stands ahead of y: by the key, and of two with one key by the number. -/
def aheadB (k : Itm → Int) (x y : Itm) : Bool := decide (k y < k x ∨ (k x = k y ∧ y.1 < x.1))

/-- One step of the choice. -/
def bestStep (k : Itm → Int) (p : Itm → Bool) (o : Option Itm) (x : Itm) : Option Itm :=
  if p x = true then (match o with
    | none => some x
    | some y => if aheadB k x y = true then some x else some y) else o
/-- The first of those that p takes. -/
def bestO (k : Itm → Int) (p : Itm → Bool) (l : List Itm) : Option Itm := l.foldl (bestStep k p) none

/-- What the choice has seen. -/
def BestI (k : Itm → Int) (p : Itm → Bool) (l : List Itm) (o : Option Itm) : Prop :=
  match o with
  | none => ∀ y ∈ l, p y = false
  | some x => x ∈ l ∧ p x = true ∧ ∀ y ∈ l, p y = true → k y < k x ∨ (k y = k x ∧ y.1 ≤ x.1)

theorem bestStep_I {k : Itm → Int} {p : Itm → Bool} {l : List Itm} {o : Option Itm} (h : BestI k p l o) (x : Itm) : BestI k p (l ++ [x]) (bestStep k p o x) := by
  unfold bestStep
  by_cases hp : p x = true
  · rw [if_pos hp]
    cases o with
    | none =>
      refine ⟨by simp, hp, fun y hy hpy => ?_⟩
      rcases List.mem_append.1 hy with hy | hy
      · rw [h y hy] at hpy; cases hpy
      · rw [List.mem_singleton.1 hy]; exact .inr ⟨rfl, Int.le_refl _⟩
    | some z =>
      obtain ⟨h1, h2, h3⟩ := h
      dsimp only
      by_cases ha : aheadB k x z = true
      · rw [if_pos ha]
        have ha := of_decide_eq_true ha
        refine ⟨by simp, hp, fun y hy hpy => ?_⟩
        rcases List.mem_append.1 hy with hy | hy
        · have := h3 y hy hpy; omega
        · rw [List.mem_singleton.1 hy]; exact .inr ⟨rfl, Int.le_refl _⟩
      · rw [if_neg ha]
        have ha : ¬ (k z < k x ∨ (k x = k z ∧ z.1 < x.1)) := fun c => ha (decide_eq_true c)
        refine ⟨List.mem_append_left _ h1, h2, fun y hy hpy => ?_⟩
        rcases List.mem_append.1 hy with hy | hy
        · exact h3 y hy hpy
        · rw [List.mem_singleton.1 hy]; omega
  · rw [if_neg hp]
    have hp : p x = false := by simpa using hp
    cases o with
    | none =>
      intro y hy
      rcases List.mem_append.1 hy with hy | hy
      · exact h y hy
      · rw [List.mem_singleton.1 hy]; exact hp
    | some z =>
      obtain ⟨h1, h2, h3⟩ := h
      refine ⟨List.mem_append_left _ h1, h2, fun y hy hpy => ?_⟩
      rcases List.mem_append.1 hy with hy | hy
      · exact h3 y hy hpy
      · rw [List.mem_singleton.1 hy, hp] at hpy; cases hpy

theorem bestFold_I {k : Itm → Int} {p : Itm → Bool} : ∀ (m l : List Itm) (o : Option Itm), BestI k p l o → BestI k p (l ++ m) (m.foldl (bestStep k p) o)
  | [], l, o, h => by rw [List.append_nil]; exact h
  | x :: m, l, o, h => by
    have := bestFold_I m (l ++ [x]) _ (bestStep_I h x)
    rw [List.append_assoc] at this
    exact this

theorem bestO_I (k : Itm → Int) (p : Itm → Bool) (l : List Itm) : BestI k p l (bestO k p l) := by
  have := bestFold_I (k := k) (p := p) l [] none (fun y hy => by cases hy)
  exact this

/-- No number lies twice with two records. -/
def Uniq (l : List Itm) : Prop := ∀ x ∈ l, ∀ y ∈ l, x.1 = y.1 → x = y

theorem BestI.same {k : Itm → Int} {p : Itm → Bool} {l m : List Itm} {o o' : Option Itm} (hu : Uniq l) (hm : ∀ x, x ∈ l ↔ x ∈ m) (h : BestI k p l o) (h' : BestI k p m o') : o = o' := by
  cases o with
  | none =>
    cases o' with
    | none => rfl
    | some y => have := h y ((hm y).2 h'.1); rw [h'.2.1] at this; cases this
  | some x =>
    cases o' with
    | none => have := h' x ((hm x).1 h.1); rw [h.2.1] at this; cases this
    | some y =>
      have a := h.2.2 y ((hm y).2 h'.1) h'.2.1
      have b := h'.2.2 x ((hm x).1 h.1) h.2.1
      rw [hu x h.1 y ((hm y).2 h'.1) (by omega)]

/-- The choice hangs on what lies there, not on where. -/
theorem bestO_same {k : Itm → Int} {p : Itm → Bool} {l m : List Itm} (hu : Uniq l) (hm : ∀ x, x ∈ l ↔ x ∈ m) : bestO k p l = bestO k p m :=
  (bestO_I k p l).same hu hm (bestO_I k p m)

/-- A number put into its place. -/
def insI (l : List Int) (x : Int) : List Int := l.filter (fun y => decide (y < x)) ++ (x :: l.filter (fun y => decide (x < y)))
theorem mem_insI {l : List Int} {x y : Int} : y ∈ insI l x ↔ y = x ∨ y ∈ l := by
  unfold insI
  simp only [List.mem_append, List.mem_cons, List.mem_filter, decide_eq_true_eq]
  constructor
  · rintro (⟨h, _⟩ | h | ⟨h, _⟩)
    · exact .inr h
    · exact .inl h
    · exact .inr h
  · rintro (h | h)
    · exact .inr (.inl h)
    · by_cases h1 : y < x
      · exact .inl ⟨h, h1⟩
      · by_cases h2 : x < y
        · exact .inr (.inr ⟨h, h2⟩)
        · exact .inr (.inl (by omega))
theorem insI_up {l : List Int} {x : Int} (h : l.Pairwise (· < ·)) : (insI l x).Pairwise (· < ·) := by
  unfold insI
  rw [List.pairwise_append]
  refine ⟨h.filter _, ?_, ?_⟩
  · rw [List.pairwise_cons]
    exact ⟨fun y hy => by simpa using (List.mem_filter.1 hy).2, h.filter _⟩
  · intro a ha b hb
    have ha := (List.mem_filter.1 ha).2
    simp only [decide_eq_true_eq] at ha
    rcases List.mem_cons.1 hb with rfl | hb
    · exact ha
    · have hb := (List.mem_filter.1 hb).2
      simp only [decide_eq_true_eq] at hb
      omega

/-- Two rising rows of the same numbers are one. -/
theorem up_same : ∀ {l m : List Int}, l.Pairwise (· < ·) → m.Pairwise (· < ·) → (∀ x, x ∈ l ↔ x ∈ m) → l = m
  | [], [], _, _, _ => rfl
  | [], y :: m, _, _, h => by have := (h y).2 (by simp); cases this
  | x :: l, [], _, _, h => by have := (h x).1 (by simp); cases this
  | x :: l, y :: m, hl, hm, h => by
    rw [List.pairwise_cons] at hl hm
    have e : x = y := by
      rcases List.mem_cons.1 ((h x).1 (by simp)) with e | hx
      · exact e
      · rcases List.mem_cons.1 ((h y).2 (by simp)) with e | hy
        · exact e.symm
        · have := hl.1 y hy; have := hm.1 x hx; omega
    subst e
    rw [up_same hl.2 hm.2 (fun z => ?_)]
    constructor
    · intro hz
      rcases List.mem_cons.1 ((h z).1 (List.mem_cons_of_mem _ hz)) with e | hz'
      · have := hl.1 z hz; omega
      · exact hz'
    · intro hz
      rcases List.mem_cons.1 ((h z).2 (List.mem_cons_of_mem _ hz)) with e | hz'
      · have := hm.1 z hz; omega
      · exact hz'

/-- The numbers that f takes out of the items, rising. -/
def upOf (f : Itm → Option Int) (l : List Itm) : List Int := l.foldl (fun o x => match f x with | some n => insI o n | none => o) []
theorem upFold (f : Itm → Option Int) : ∀ (l : List Itm) (o : List Int), o.Pairwise (· < ·) →
    (l.foldl (fun o x => match f x with | some n => insI o n | none => o) o).Pairwise (· < ·) ∧
    ∀ n, n ∈ l.foldl (fun o x => match f x with | some n => insI o n | none => o) o ↔ n ∈ o ∨ ∃ x ∈ l, f x = some n
  | [], o, h => ⟨h, fun n => by simp⟩
  | x :: l, o, h => by
    rw [List.foldl_cons]
    cases hf : f x with
    | none =>
      obtain ⟨a, b⟩ := upFold f l o h
      refine ⟨a, fun n => ?_⟩
      rw [b n]
      constructor
      · rintro (h | ⟨y, hy, e⟩)
        · exact .inl h
        · exact .inr ⟨y, List.mem_cons_of_mem _ hy, e⟩
      · rintro (h | ⟨y, hy, e⟩)
        · exact .inl h
        · rcases List.mem_cons.1 hy with rfl | hy
          · rw [hf] at e; cases e
          · exact .inr ⟨y, hy, e⟩
    | some k =>
      obtain ⟨a, b⟩ := upFold f l (insI o k) (insI_up h)
      refine ⟨a, fun n => ?_⟩
      rw [b n, mem_insI]
      constructor
      · rintro ((rfl | h) | ⟨y, hy, e⟩)
        · exact .inr ⟨x, by simp, hf⟩
        · exact .inl h
        · exact .inr ⟨y, List.mem_cons_of_mem _ hy, e⟩
      · rintro (h | ⟨y, hy, e⟩)
        · exact .inl (.inr h)
        · rcases List.mem_cons.1 hy with rfl | hy
          · rw [hf] at e; cases e; exact .inl (.inl rfl)
          · exact .inr ⟨y, hy, e⟩
theorem upOf_up (f : Itm → Option Int) (l : List Itm) : (upOf f l).Pairwise (· < ·) := (upFold f l [] List.Pairwise.nil).1
theorem mem_upOf {f : Itm → Option Int} {l : List Itm} {n : Int} : n ∈ upOf f l ↔ ∃ x ∈ l, f x = some n := by
  have := (upFold f l [] List.Pairwise.nil).2 n
  rw [upOf, this]; simp
theorem upOf_same {f g : Itm → Option Int} {l m : List Itm} (hm : ∀ x, x ∈ l ↔ x ∈ m) (hf : ∀ x ∈ l, f x = g x) : upOf f l = upOf g m :=
  up_same (upOf_up f l) (upOf_up g m) (fun n => by
    rw [mem_upOf, mem_upOf]
    constructor
    · rintro ⟨x, hx, e⟩; exact ⟨x, (hm x).1 hx, by rw [← hf x hx]; exact e⟩
    · rintro ⟨x, hx, e⟩; exact ⟨x, (hm x).2 hx, by rw [hf x ((hm x).2 hx)]; exact e⟩)

/-- The greatest of what f takes out, and of b. -/
def mostOf (b : Int) (f : Itm → Int) (l : List Itm) : Int := l.foldl (fun n x => if n < f x then f x else n) b
theorem mostFold (f : Itm → Int) : ∀ (l : List Itm) (b : Int), b ≤ l.foldl (fun n x => if n < f x then f x else n) b ∧ (∀ x ∈ l, f x ≤ l.foldl (fun n x => if n < f x then f x else n) b) ∧
    (l.foldl (fun n x => if n < f x then f x else n) b = b ∨ ∃ x ∈ l, l.foldl (fun n x => if n < f x then f x else n) b = f x)
  | [], b => ⟨Int.le_refl _, fun x hx => (by cases hx), .inl rfl⟩
  | x :: l, b => by
    rw [List.foldl_cons]
    obtain ⟨a1, a2, a3⟩ := mostFold f l (if b < f x then f x else b)
    have hb : b ≤ (if b < f x then f x else b) ∧ f x ≤ (if b < f x then f x else b) ∧ ((if b < f x then f x else b) = b ∨ (if b < f x then f x else b) = f x) := by
      split
      · exact ⟨by omega, by omega, .inr rfl⟩
      · exact ⟨by omega, by omega, .inl rfl⟩
    refine ⟨Int.le_trans hb.1 a1, fun y hy => ?_, ?_⟩
    · rcases List.mem_cons.1 hy with rfl | hy
      · exact Int.le_trans hb.2.1 a1
      · exact a2 y hy
    · rcases a3 with e | ⟨y, hy, e⟩
      · rw [e]
        rcases hb.2.2 with h | h
        · exact .inl h
        · exact .inr ⟨x, by simp, h⟩
      · exact .inr ⟨y, List.mem_cons_of_mem _ hy, e⟩
theorem mostOf_same {b : Int} {f : Itm → Int} {l m : List Itm} (hm : ∀ x, x ∈ l ↔ x ∈ m) : mostOf b f l = mostOf b f m := by
  obtain ⟨a1, a2, a3⟩ := mostFold f l b
  obtain ⟨b1, b2, b3⟩ := mostFold f m b
  unfold mostOf
  have h1 : l.foldl (fun n x => if n < f x then f x else n) b ≤ m.foldl (fun n x => if n < f x then f x else n) b := by
    rcases a3 with e | ⟨x, hx, e⟩
    · rw [e]; exact b1
    · rw [e]; exact b2 x ((hm x).1 hx)
  have h2 : m.foldl (fun n x => if n < f x then f x else n) b ≤ l.foldl (fun n x => if n < f x then f x else n) b := by
    rcases b3 with e | ⟨x, hx, e⟩
    · rw [e]; exact a1
    · rw [e]; exact a2 x ((hm x).2 hx)
  omega

/-- A mail, and a box. -/
structure Ml where
  uid : Int
  flags : Int
  text : ByteArray
structure Bx where
  valid : Int
  user : ByteArray
  name : ByteArray
  next : Int
  mails : List Ml

/-- The record of a kind, a box and a mail with the greatest number. -/
def bestR (kind valid uid : Int) (l : List Itm) : Option Itm := bestO (fun _ => 0) (fun x => decide (x.2.kind = kind ∧ x.2.valid = valid ∧ x.2.uid = uid)) l
/-- The record of a box that tells its user and name. -/
def tellO (valid : Int) (l : List Itm) : Option Itm := bestO (fun x => x.2.next) (fun x => decide (x.2.kind = 1 ∧ x.2.valid = valid)) l
/-- What one record says of the next mail's number. -/
def nextK (valid : Int) (x : Itm) : Int := if x.2.valid = valid then (if x.2.kind = 1 then x.2.next else if x.2.kind = 3 ∨ x.2.kind = 5 then x.2.uid + 1 else 0) else 0
def nextOf (valid : Int) (l : List Itm) : Int := mostOf 1 (nextK valid) l
def uidK (valid : Int) (l : List Itm) (x : Itm) : Option Int := if x.2.kind = 3 ∧ x.2.valid = valid ∧ bestR 5 valid x.2.uid l = none then some x.2.uid else none
def mailK (valid : Int) (l : List Itm) (u : Int) : Ml :=
  ⟨u, ((bestR 4 valid u l).or (bestR 3 valid u l)).elim 0 (fun y => y.2.flags), (bestR 3 valid u l).elim emp (fun y => y.2.text)⟩
def mailsOf (valid : Int) (l : List Itm) : List Ml := (upOf (uidK valid l) l).map (mailK valid l)
def validK (l : List Itm) (x : Itm) : Option Int := if x.2.kind = 1 ∧ bestR 2 x.2.valid 0 l = none then some x.2.valid else none
def boxK (l : List Itm) (v : Int) : Bx := ⟨v, (tellO v l).elim emp (fun y => y.2.user), (tellO v l).elim emp (fun y => y.2.name), nextOf v l, mailsOf v l⟩
/-- Right items. -/
def itemsOk (l : List Itm) : Prop := (∀ x ∈ l, (1 ≤ x.1 ∧ x.1 ≤ 1000000000) ∧ x.2.ok) ∧ Uniq l ∧ l.length ≤ 200
/-- What right items tell. -/
def tellAll (l : List Itm) : List Bx := (upOf (validK l) l).map (boxK l)

theorem mailsOf_same {l m : List Itm} (hu : Uniq l) (hm : ∀ x, x ∈ l ↔ x ∈ m) (v : Int) : mailsOf v l = mailsOf v m := by
  have hb : ∀ k v u, bestR k v u l = bestR k v u m := fun k v u => bestO_same hu hm
  have e1 : uidK v l = uidK v m := by funext x; unfold uidK; rw [hb]
  have e2 : mailK v l = mailK v m := by funext u; unfold mailK; rw [hb, hb]
  unfold mailsOf
  rw [e2, e1, upOf_same hm (fun x _ => rfl)]
/-- All is told the same, in whatever order the records lie, and however often one lies there. -/
theorem tellAll_same {l m : List Itm} (hu : Uniq l) (hm : ∀ x, x ∈ l ↔ x ∈ m) : tellAll l = tellAll m := by
  have hb : ∀ k v u, bestR k v u l = bestR k v u m := fun k v u => bestO_same hu hm
  have ht : ∀ v, tellO v l = tellO v m := fun v => bestO_same hu hm
  have e1 : validK l = validK m := by funext x; unfold validK; rw [hb]
  have e2 : boxK l = boxK m := by funext v; unfold boxK nextOf; rw [ht, mailsOf_same hu hm, mostOf_same hm]
  unfold tellAll
  rw [e2, e1, upOf_same hm (fun x _ => rfl)]

theorem bestR_none {kind valid uid : Int} {l : List Itm} (h : bestR kind valid uid l = none) (x : Itm) (hx : x ∈ l) : ¬ (x.2.kind = kind ∧ x.2.valid = valid ∧ x.2.uid = uid) := by
  have := bestO_I (fun _ => 0) (fun x => decide (x.2.kind = kind ∧ x.2.valid = valid ∧ x.2.uid = uid)) l
  unfold bestR at h
  rw [h] at this
  exact of_decide_eq_false (this x hx)
theorem bestR_some {kind valid uid : Int} {l : List Itm} {x : Itm} (h : bestR kind valid uid l = some x) : x ∈ l ∧ (x.2.kind = kind ∧ x.2.valid = valid ∧ x.2.uid = uid) ∧ ∀ y ∈ l, y.2.kind = kind → y.2.valid = valid → y.2.uid = uid → y.1 ≤ x.1 := by
  have := bestO_I (fun _ => 0) (fun x => decide (x.2.kind = kind ∧ x.2.valid = valid ∧ x.2.uid = uid)) l
  unfold bestR at h
  rw [h] at this
  refine ⟨this.1, of_decide_eq_true this.2.1, fun y hy a b c => ?_⟩
  have := this.2.2 y hy (decide_eq_true ⟨a, b, c⟩)
  dsimp only at this
  omega
theorem bestR_there {kind valid uid : Int} {l : List Itm} {x : Itm} (hx : x ∈ l) (h : x.2.kind = kind ∧ x.2.valid = valid ∧ x.2.uid = uid) : ∃ y, bestR kind valid uid l = some y := by
  cases hb : bestR kind valid uid l with
  | none => exact absurd h (bestR_none hb x hx)
  | some y => exact ⟨y, rfl⟩

/-- The numbers of a box's mails: added, and not gone. -/
theorem mem_uids {v : Int} {l : List Itm} {n : Int} : n ∈ upOf (uidK v l) l ↔ (∃ x ∈ l, x.2.kind = 3 ∧ x.2.valid = v ∧ x.2.uid = n) ∧ bestR 5 v n l = none := by
  rw [mem_upOf]
  constructor
  · rintro ⟨x, hx, e⟩
    unfold uidK at e
    split at e
    · rename_i h
      cases e
      exact ⟨⟨x, hx, h.1, h.2.1, rfl⟩, h.2.2⟩
    · cases e
  · rintro ⟨⟨x, hx, a, b, rfl⟩, h⟩
    refine ⟨x, hx, ?_⟩
    unfold uidK
    rw [if_pos ⟨a, b, h⟩]
theorem mails_uids (v : Int) (l : List Itm) : (mailsOf v l).map (·.uid) = upOf (uidK v l) l := by
  unfold mailsOf
  rw [List.map_map]
  exact List.map_id' _
theorem mails_up (v : Int) (l : List Itm) : (mailsOf v l).Pairwise (fun a b => a.uid < b.uid) := by
  have := upOf_up (uidK v l) l
  rw [← mails_uids] at this
  exact List.pairwise_map.1 this
/-- A mail that is told was added; it is not gone; its number lies below the next one. -/
theorem mails_told {v : Int} {l : List Itm} {m : Ml} (h : m ∈ mailsOf v l) : m.uid < nextOf v l ∧ (∀ x ∈ l, ¬ (x.2.kind = 5 ∧ x.2.valid = v ∧ x.2.uid = m.uid)) := by
  have hu : m.uid ∈ upOf (uidK v l) l := by rw [← mails_uids]; exact List.mem_map_of_mem h
  obtain ⟨⟨x, hx, a, b, c⟩, hg⟩ := mem_uids.1 hu
  refine ⟨?_, fun y hy => bestR_none hg y hy⟩
  have := (mostFold (nextK v) l 1).2.1 x hx
  have e : nextK v x = x.2.uid + 1 := by
    unfold nextK
    rw [if_pos b, if_neg (by omega), if_pos (.inl a)]
  rw [e] at this
  unfold nextOf mostOf
  omega
theorem add_below {v : Int} {l : List Itm} {x : Itm} (hx : x ∈ l) (a : x.2.kind = 3) (b : x.2.valid = v) : x.2.uid < nextOf v l := by
  have := (mostFold (nextK v) l 1).2.1 x hx
  have e : nextK v x = x.2.uid + 1 := by
    unfold nextK
    rw [if_pos b, if_neg (by omega), if_pos (.inl a)]
  rw [e] at this
  unfold nextOf mostOf
  omega
/-- The boxes that are told: told of, and not dropped; their numbers rise. -/
theorem mem_valids {l : List Itm} {n : Int} : n ∈ upOf (validK l) l ↔ (∃ x ∈ l, x.2.kind = 1 ∧ x.2.valid = n) ∧ bestR 2 n 0 l = none := by
  rw [mem_upOf]
  constructor
  · rintro ⟨x, hx, e⟩
    unfold validK at e
    split at e
    · rename_i h
      cases e
      exact ⟨⟨x, hx, h.1, rfl⟩, h.2⟩
    · cases e
  · rintro ⟨⟨x, hx, a, rfl⟩, h⟩
    refine ⟨x, hx, ?_⟩
    unfold validK
    rw [if_pos ⟨a, h⟩]
theorem boxes_valids (l : List Itm) : (tellAll l).map (·.valid) = upOf (validK l) l := by
  unfold tellAll
  rw [List.map_map]
  exact List.map_id' _
theorem boxes_up (l : List Itm) : (tellAll l).Pairwise (fun a b => a.valid < b.valid) := by
  have := upOf_up (validK l) l
  rw [← boxes_valids] at this
  exact List.pairwise_map.1 this
theorem box_form {l : List Itm} {b : Bx} (h : b ∈ tellAll l) : b = boxK l b.valid := by
  obtain ⟨v, _, rfl⟩ := List.mem_map.1 h
  rfl
theorem box_kept {l : List Itm} {b : Bx} (h : b ∈ tellAll l) (x : Itm) (hx : x ∈ l) (hok : x.2.ok) (hv : x.2.valid = b.valid) : x.2.kind ≠ 2 := by
  intro hk
  have hu : b.valid ∈ upOf (validK l) l := by rw [← boxes_valids]; exact List.mem_map_of_mem h
  refine bestR_none (mem_valids.1 hu).2 x hx ⟨hk, hv, ?_⟩
  have h4 := hok.2.2.2.1
  split at h4 <;> omega

end Go.Proofs.Ytgdkndlkapmhjaa

/- How items lie in memory. -/
namespace Go.Proofs.Ytgdkndlkapmhjaa
open Go.RowKit

def itE : Enc Itm where
  ty := 49
  sty := 24
  sz := 9
  bytes := 96
  zero := .agg #[.int .i64 0, .int .i64 0, .int .i64 0, .int .i64 0, .int .i64 0, .int .i64 0, .string ⟨#[]⟩, .string ⟨#[]⟩, .string ⟨#[]⟩]
  f := fun x => [.int .i64 x.1, .int .i64 x.2.kind, .int .i64 x.2.valid, .int .i64 x.2.uid, .int .i64 x.2.next, .int .i64 x.2.flags, .string x.2.user, .string x.2.name, .string x.2.text]
  len := fun _ => rfl
  pos := by decide
  one := fun _ u hu => by simp at hu; rcases hu with rfl | rfl | rfl | rfl | rfl | rfl | rfl | rfl | rfl <;> rfl
  und := Try.underlying24
  info := by kernel_rfl
  zc := rfl
  z0 := (0, Rc.nil)
  zf := rfl

/-- The nine cells of an item. -/
theorem it_cells {w w' : World} {g off : Nat} {l : List Itm} (hc : ∀ j x, l[j]? = some x → ∀ k u, (itE.f x)[k]? = some u → w.cell? ⟨g, off + j * itE.sz + k, none⟩ = some u)
    (hg : g < w.heap.size) (hb : Below w.heap.size w w') (i : Nat) (x : Itm) (hi : l[i]? = some x) :
    w'.cell? ⟨g, off + i * 9, none⟩ = some (.int .i64 x.1) ∧ w'.cell? ⟨g, off + i * 9 + 1, none⟩ = some (.int .i64 x.2.kind) ∧ w'.cell? ⟨g, off + i * 9 + 2, none⟩ = some (.int .i64 x.2.valid) ∧ w'.cell? ⟨g, off + i * 9 + 3, none⟩ = some (.int .i64 x.2.uid) ∧ w'.cell? ⟨g, off + i * 9 + 4, none⟩ = some (.int .i64 x.2.next) ∧
    w'.cell? ⟨g, off + i * 9 + 5, none⟩ = some (.int .i64 x.2.flags) ∧ w'.cell? ⟨g, off + i * 9 + 6, none⟩ = some (.string x.2.user) ∧ w'.cell? ⟨g, off + i * 9 + 7, none⟩ = some (.string x.2.name) ∧ w'.cell? ⟨g, off + i * 9 + 8, none⟩ = some (.string x.2.text) := by
  have h : ∀ k u, (itE.f x)[k]? = some u → w'.cell? ⟨g, off + i * 9 + k, none⟩ = some u := fun k u hu => (hb.cell (p := ⟨g, off + i * 9 + k, none⟩) hg).trans (hc i x hi k u hu)
  exact ⟨h 0 _ rfl, h 1 _ rfl, h 2 _ rfl, h 3 _ rfl, h 4 _ rfl, h 5 _ rfl, h 6 _ rfl, h 7 _ rfl, h 8 _ rfl⟩

end Go.Proofs.Ytgdkndlkapmhjaa
