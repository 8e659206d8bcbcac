/- What is drawn for the chapter on records: what spec.l01Pick, l06Text, l06Rec, l06Any and the draws of the chapter hand back. -/
import Derived.Test.YthlbokfajiahpaaDrawKit
import Derived.Test.YthlbokfajiahpaaDrawFr2
import Derived.Test.YthlbokfajiahpaaRecR
namespace Go.Proofs.Ythlbokfajiahpaa
open Go.RowKit

theorem strs_cell' (w : World) (zs : List ByteArray) (t : TypeId) (j : Nat) (hj : j < zs.length) : (w.alloc (.cells (zs.map Value.string).toArray t)).cell? ⟨w.heap.size, j, none⟩ = some (.string zs[j]) := by
  rw [Joins.cell_of_block (heap_alloc_new w _)]
  simp [hj]

set_option maxRecDepth 100000 in
set_option maxHeartbeats 1000000 in
theorem pickStr_any (zs : List ByteArray) (n pc : Nat) (a : Option Addr) (len cap : Nat) (w : World) (hc : Cur w pc a len cap) (hl : zs.length = n) (h0 : 0 < n) (h1 : n ≤ 1048576) :
    Calls Try.prog 60 #[.pointer (some ⟨pc, 0, none⟩), .slice (some ⟨w.heap.size, 0, none⟩) n n] (w.alloc (.cells (zs.map Value.string).toArray 9)) fun e w' => ∃ x : ByteArray, x ∈ zs ∧ e = .returned (.string x) ∧ Cur w' pc a len cap ∧ w.grownBy w' (some pc) := by
  have hbel : Below w.heap.size w (w.alloc (.cells (zs.map Value.string).toArray 9)) := (Below.refl _ _).alloc (Nat.le_refl _) _
  have hpc := hc.lt
  have hc1 := hc.below hbel hpc hc.codeLt
  have HC : Hid (∀ j (hj : j < zs.length), (w.alloc (.cells (zs.map Value.string).toArray 9)).cell? ⟨w.heap.size, j, none⟩ = some (.string zs[j])) := fun j hj => strs_cell' w zs 9 j hj
  have HG : Hid (w.grownBy (w.alloc (.cells (zs.map Value.string).toArray 9)) (some pc)) := grownBy_below (World.grownBy.refl w (some pc)) hbel (Nat.le_refl _)
  clear hbel
  generalize w.alloc (.cells (zs.map Value.string).toArray 9) = W at *
  have hne : w.heap.size ≠ pc := by omega
  generalize w.heap.size = g at *
  go_enter Try.func60, Try.ntmps60
  go_wp2_with fail
  refine (below_any (n : Int) pc a len cap _ hc1 (by omega)).mono ?_
  rintro e w1 ⟨j, hj, _, rfl, hc2, hg1⟩
  have hj1 : j < n := by have := hj (by omega); omega
  have hx := HC.out j (by omega)
  have HM : Hid (zs[j]'(by omega) ∈ zs) := List.getElem_mem _
  generalize zs[j]'(by omega) = x at hx HM
  have hx1 : w1.cell? ⟨g, j, none⟩ = some (.string x) := hg1.cell hx (fun e => hne (Option.some.inj e))
  have hj2 : (j : Int) < (n : Int) := by omega
  clear hj
  go_wp2
  go_ret
  exact ⟨x, HM.out, rfl, hc2, HG.out.trans hg1⟩

/-- What is known while a record is drawn: its box, the answer's box, and the cursor. -/
structure RcI (pc : Nat) (a : Option Addr) (len cap : Nat) (w : World) (b : Nat) (cs : Array Value) (X : World) : Prop where
  cur : Cur X pc a len cap
  grown : w.grownBy X (some pc)
  res : Box X w.heap.size #[.int .i64 0, .int .i64 0, .int .i64 0, .int .i64 0, .int .i64 0, .string ⟨#[]⟩, .string ⟨#[]⟩, .string ⟨#[]⟩] 25
  rcd : Box X b cs 25
  lt : w.heap.size < b
  ne : b ≠ pc ∧ pc < w.heap.size

theorem RcI.next {pc : Nat} {a : Option Addr} {len cap : Nat} {w : World} {b : Nat} {cs : Array Value} {X Y : World} (h : RcI pc a len cap w b cs X) (hg : X.grownBy Y (some pc)) (hc : Cur Y pc a len cap) : RcI pc a len cap w b cs Y :=
  ⟨hc, h.grown.trans hg, h.res.cur hg (by have := h.ne.2; omega), h.rcd.cur hg h.ne.1, h.lt, h.ne⟩
theorem RcI.put {pc : Nat} {a : Option Addr} {len cap : Nat} {w : World} {b : Nat} {cs : Array Value} {X : World} (h : RcI pc a len cap w b cs X) (hw : Cur w pc a len cap) (j : Nat) (v : Value) : RcI pc a len cap w b (cs.setIfInBounds j v) (X.setCell ⟨b, j, none⟩ v) :=
  ⟨h.cur.new hw (Nat.le_of_lt h.lt) j v, grownBy_new h.grown (Nat.le_of_lt h.lt) j v, h.res.other (by have := h.lt; omega) j v, h.rcd.set j v, h.lt, h.ne⟩
theorem RcI.later {pc : Nat} {a : Option Addr} {len cap : Nat} {w : World} {b : Nat} {cs : Array Value} {X Y : World} (h : RcI pc a len cap w b cs X) (hb : Below X.heap.size X Y) : RcI pc a len cap w b cs Y :=
  ⟨h.cur.below hb h.cur.lt h.cur.codeLt, grownBy_below h.grown hb h.grown.size, h.res.later hb, h.rcd.later hb, h.lt, h.ne⟩
theorem grownBy_new8 {w X : World} {r : Option Nat} (h : w.grownBy X r) {b : Nat} (hb : w.heap.size ≤ b) (v0 v1 v2 v3 v4 v5 v6 v7 : Value) : w.grownBy (set8 X b v0 v1 v2 v3 v4 v5 v6 v7) r :=
  grownBy_new (grownBy_new (grownBy_new (grownBy_new (grownBy_new (grownBy_new (grownBy_new (grownBy_new h hb 0 v0) hb 1 v1) hb 2 v2) hb 3 v3) hb 4 v4) hb 5 v5) hb 6 v6) hb 7 v7
theorem Cur.new8 {w X : World} {pc : Nat} {a : Option Addr} {len cap : Nat} (h : Cur X pc a len cap) (hw : Cur w pc a len cap) {b : Nat} (hb : w.heap.size ≤ b) (v0 v1 v2 v3 v4 v5 v6 v7 : Value) : Cur (set8 X b v0 v1 v2 v3 v4 v5 v6 v7) pc a len cap :=
  (((((((h.new hw hb 0 v0).new hw hb 1 v1).new hw hb 2 v2).new hw hb 3 v3).new hw hb 4 v4).new hw hb 5 v5).new hw hb 6 v6).new hw hb 7 v7

theorem emp_le : emp.size ≤ 200 := by decide

/-- A drawn record. -/
def RcR (Pr : Rc → Prop) (pc : Nat) (a : Option Addr) (len cap : Nat) (w : World) (e : Ending) (w' : World) : Prop :=
  ∃ r : Rc, Pr r ∧ e = .returned r.v ∧ Cur w' pc a len cap ∧ w.grownBy w' (some pc)
def Rc.slim (r : Rc) : Prop := r.user.size ≤ 200 ∧ r.name.size ≤ 200 ∧ r.text.size ≤ 200

set_option maxRecDepth 100000 in
theorem recText_any (pc : Nat) (a : Option Addr) (len cap : Nat) (w : World) (hc : Cur w pc a len cap) :
    Calls Try.prog 106 #[.pointer (some ⟨pc, 0, none⟩)] w fun e w' => ∃ x : ByteArray, x.size ≤ 100 ∧ e = .returned (.string x) ∧ Cur w' pc a len cap ∧ w.grownBy w' (some pc) := by
  go_enter Try.func106, Try.ntmps106
  go_wp2_with fail
  refine (pickStr_any [⟨#[104, 101, 108, 108, 111]⟩, ⟨#[102, 114, 111, 109, 58, 32, 97, 110, 110, 10, 10, 104, 105]⟩, ⟨#[115, 117, 98, 106, 101, 99, 116, 58, 32, 120, 10, 10, 98, 111, 100, 121, 32, 111, 102, 32, 105, 116, 10, 46, 100, 111, 116, 10]⟩, ⟨#[]⟩, ⟨#[120, 10, 46, 46, 10]⟩] 5 pc a len cap _ hc rfl (by omega) (by omega)).mono ?_
  rintro e w1 ⟨x, hx, rfl, hc1, hg1⟩
  have hs : x.size ≤ 100 := by
    simp only [List.mem_cons, List.not_mem_nil, or_false] at hx
    rcases hx with rfl | rfl | rfl | rfl | rfl <;> decide
  clear hx
  go_wp2
  go_ret
  exact ⟨x, hs, rfl, hc1, hg1⟩

set_option maxRecDepth 100000 in
set_option maxHeartbeats 4000000 in
theorem recDrawn_any (pc : Nat) (a : Option Addr) (len cap : Nat) (w : World) (hc : Cur w pc a len cap) :
    Calls Try.prog 84 #[.pointer (some ⟨pc, 0, none⟩)] w fun e w' => RcR (fun r => r.ok ∧ r.slim) pc a len cap w e w' := by
  have hx := Box.new w #[.int .i64 0, .int .i64 0, .int .i64 0, .int .i64 0, .int .i64 0, .string ⟨#[]⟩, .string ⟨#[]⟩, .string ⟨#[]⟩] 25
  have hg0 : w.grownBy (w.alloc (.cells #[.int .i64 0, .int .i64 0, .int .i64 0, .int .i64 0, .int .i64 0, .string ⟨#[]⟩, .string ⟨#[]⟩, .string ⟨#[]⟩] 25)) (some pc) := World.grownBy_alloc _ _ _
  have hc0 := hc.alloc (.cells #[.int .i64 0, .int .i64 0, .int .i64 0, .int .i64 0, .int .i64 0, .string ⟨#[]⟩, .string ⟨#[]⟩, .string ⟨#[]⟩] 25)
  have hpc := hc.lt
  have hz0 : w.heap.size < (w.alloc (.cells #[.int .i64 0, .int .i64 0, .int .i64 0, .int .i64 0, .int .i64 0, .string ⟨#[]⟩, .string ⟨#[]⟩, .string ⟨#[]⟩] 25)).heap.size := by simp
  have hW : (w.alloc (.cells #[.int .i64 0, .int .i64 0, .int .i64 0, .int .i64 0, .int .i64 0, .string ⟨#[]⟩, .string ⟨#[]⟩, .string ⟨#[]⟩] 25)).heap.size = w.heap.size + 1 := by simp
  go_enter Try.func84, Try.ntmps84
  go_wp2_with fail
  generalize w.alloc (.cells #[.int .i64 0, .int .i64 0, .int .i64 0, .int .i64 0, .int .i64 0, .string ⟨#[]⟩, .string ⟨#[]⟩, .string ⟨#[]⟩] 25) = W at *
  have hpk := pickLit_any [1, 1, 2, 3, 3, 3, 3, 4, 4, 5, 5] 11 pc a len cap W hc0 rfl (by omega) (by omega)
  simp only [List.map_cons, List.map_nil] at hpk
  rw [hW] at hpk
  refine hpk.mono ?_
  clear hpk
  rintro e w1 ⟨kd, hkd, rfl, hc1, hg1⟩
  go_wp2_with fail
  refine (below_any 3 pc a len cap _ hc1 (by omega)).mono ?_
  rintro e w2 ⟨x1, h1, _, rfl, hc2, hg2⟩
  have h1' := h1 (by omega)
  have hz2 := (hg1.trans hg2).size
  have hk5 : kd = 1 ∨ kd = 2 ∨ kd = 3 ∨ kd = 4 ∨ kd = 5 := by
    simp only [List.mem_cons, List.not_mem_nil, or_false] at hkd
    omega
  have I : RcI pc a len cap w w2.heap.size #[.int .i64 kd, .int .i64 (1 + (x1 : Int)), .int .i64 0, .int .i64 0, .int .i64 0, .string ⟨#[]⟩, .string ⟨#[]⟩, .string ⟨#[]⟩] (w2.alloc (.cells #[.int .i64 kd, .int .i64 (1 + (x1 : Int)), .int .i64 0, .int .i64 0, .int .i64 0, .string ⟨#[]⟩, .string ⟨#[]⟩, .string ⟨#[]⟩] 25)) :=
    ⟨hc2.alloc _, (hg0.trans (hg1.trans hg2)).trans (World.grownBy_alloc _ _ _), (hx.cur (hg1.trans hg2) (by omega)).later (belNew _ _), Box.new w2 _ _, by omega, by omega, hpc⟩
  have HC := Lib.hid hc
  clear hkd h1 hx hg0 hg1 hg2 hc0 hc1 hc2 hz0 hc
  go_upto_region 2 with fail
  generalize w2.alloc (.cells #[.int .i64 kd, .int .i64 (1 + (x1 : Int)), .int .i64 0, .int .i64 0, .int .i64 0, .string ⟨#[]⟩, .string ⟨#[]⟩, .string ⟨#[]⟩] 25) = X at I ⊢
  generalize w2.heap.size = b at I ⊢
  clear hz2
  obtain ⟨y0, y1, y2, y3, y4, y5, y6, y7, f0, f1, f2, f3, f4, f5, f6, f7⟩ := I.rcd.eight
  rcases hk5 with rfl | rfl | rfl | rfl | rfl
  · go_wp2_with fail
    clear y0 y1 y2 y3 y4 y5 y6 y7 f0 f1 f2 f3 f4 f5 f6 f7
    have hpk := pickStr_any [⟨#[97, 110, 110]⟩, ⟨#[98, 111, 98]⟩] 2 pc a len cap _ I.cur rfl (by omega) (by omega)
    simp only [List.map_cons, List.map_nil] at hpk
    refine hpk.mono ?_
    clear hpk
    rintro e w3 ⟨us, hus, rfl, hcN, hgN⟩
    replace I := I.next hgN hcN
    have Hus : Hid (wdOk us ∧ us.size ≤ 8) := by
      simp only [List.mem_cons, List.not_mem_nil, or_false] at hus
      rcases hus with rfl | rfl <;> exact ⟨by decide, by decide⟩
    clear hus hcN hgN
    obtain ⟨y0, y1, y2, y3, y4, y5, y6, y7, f0, f1, f2, f3, f4, f5, f6, f7⟩ := I.rcd.eight
    go_wp2_with fail
    have I : RcI pc a len cap w b #[.int .i64 1, .int .i64 (1 + (x1 : Int)), .int .i64 0, .int .i64 0, .int .i64 0, .string us, .string ⟨#[]⟩, .string ⟨#[]⟩] _ := I.put HC.out 5 (.string us)
    have hszw3 : (w3.setCell ⟨b, 5, none⟩ (.string us)).heap.size = w3.heap.size := by simp
    generalize w3.setCell ⟨b, 5, none⟩ (.string us) = Xw3 at I hszw3 ⊢
    clear y0 y1 y2 y3 y4 y5 y6 y7 f0 f1 f2 f3 f4 f5 f6 f7
    have hpk := pickStr_any [⟨#[105, 110, 98, 111, 120]⟩, ⟨#[119, 111, 114, 107]⟩] 2 pc a len cap _ I.cur rfl (by omega) (by omega)
    simp only [List.map_cons, List.map_nil] at hpk
    rw [hszw3] at hpk
    refine hpk.mono ?_
    clear hpk
    rintro e w4 ⟨nm, hnm, rfl, hcN, hgN⟩
    replace I := I.next hgN hcN
    have Hnm : Hid (wdOk nm ∧ nm.size ≤ 8) := by
      simp only [List.mem_cons, List.not_mem_nil, or_false] at hnm
      rcases hnm with rfl | rfl <;> exact ⟨by decide, by decide⟩
    clear hnm hcN hgN
    obtain ⟨y0, y1, y2, y3, y4, y5, y6, y7, f0, f1, f2, f3, f4, f5, f6, f7⟩ := I.rcd.eight
    go_wp2_with fail
    have I : RcI pc a len cap w b #[.int .i64 1, .int .i64 (1 + (x1 : Int)), .int .i64 0, .int .i64 0, .int .i64 0, .string us, .string nm, .string ⟨#[]⟩] _ := I.put HC.out 6 (.string nm)
    have hszw4 : (w4.setCell ⟨b, 6, none⟩ (.string nm)).heap.size = w4.heap.size := by simp
    generalize w4.setCell ⟨b, 6, none⟩ (.string nm) = Xw4 at I hszw4 ⊢
    clear y0 y1 y2 y3 y4 y5 y6 y7 f0 f1 f2 f3 f4 f5 f6 f7
    refine (below_any 6 pc a len cap _ I.cur (by omega)).mono ?_
    rintro e w5 ⟨x2, hx2, _, rfl, hcN, hgN⟩
    have hx2' := hx2 (by omega)
    replace I := I.next hgN hcN
    clear hx2 hcN hgN
    obtain ⟨y0, y1, y2, y3, y4, y5, y6, y7, f0, f1, f2, f3, f4, f5, f6, f7⟩ := I.rcd.eight
    have J : RcI pc a len cap w b #[.int .i64 1, .int .i64 (1 + (x1 : Int)), .int .i64 0, .int .i64 (1 + (x2 : Int)), .int .i64 0, .string us, .string nm, .string ⟨#[]⟩] (w5.setCell ⟨b, 3, none⟩ (.int .i64 (1 + (x2 : Int)))) := I.put HC.out 3 (.int .i64 (1 + (x2 : Int)))
    obtain ⟨d0, d1, d2, d3, d4, d5, d6, d7, g0, g1, g2, g3, g4, g5, g6, g7⟩ := J.res.eight
    obtain ⟨p0, p1, p2, p3, p4, p5, p6, p7, _⟩ := J.rcd.eight
    obtain ⟨q0, q1, q2, q3, q4, q5, q6, q7, _⟩ := (J.res.set8 (.int .i64 1) (.int .i64 (1 + (x1 : Int))) (.int .i64 0) (.int .i64 (1 + (x2 : Int))) (.int .i64 0) (.string us) (.string nm) (.string ⟨#[]⟩)).eight
    unfold set8 at q0 q1 q2 q3 q4 q5 q6 q7
    have hlt := J.lt
    have hneb : w.heap.size ≠ b := by omega
    have hneb' : b ≠ w.heap.size := by omega
    have HF : Hid (Cur (set8 (w5.setCell ⟨b, 3, none⟩ (.int .i64 (1 + (x2 : Int)))) w.heap.size (.int .i64 1) (.int .i64 (1 + (x1 : Int))) (.int .i64 0) (.int .i64 (1 + (x2 : Int))) (.int .i64 0) (.string us) (.string nm) (.string ⟨#[]⟩)) pc a len cap ∧ w.grownBy (set8 (w5.setCell ⟨b, 3, none⟩ (.int .i64 (1 + (x2 : Int)))) w.heap.size (.int .i64 1) (.int .i64 (1 + (x1 : Int))) (.int .i64 0) (.int .i64 (1 + (x2 : Int))) (.int .i64 0) (.string us) (.string nm) (.string ⟨#[]⟩)) (some pc)) := ⟨J.cur.new8 HC.out (Nat.le_refl _) _ _ _ _ _ _ _ _, grownBy_new8 J.grown (Nat.le_refl _) _ _ _ _ _ _ _ _⟩
    clear I J hlt
    go_wp2
    refine bodyPost_ret (v := Rc.v ⟨1, 1 + (x1 : Int), 0, 1 + (x2 : Int), 0, us, nm, emp⟩) (by simp [results, Try.results84, go_sem, q0, q1, q2, q3, q4, q5, q6, q7, Rc.v, emp]) rfl ?_
    exact ⟨_, ⟨by simp [Rc.ok, Hus.out.1, Hnm.out.1]; omega, by have := Hus.out.2; simp only; omega, by have := Hnm.out.2; simp only; omega, emp_le⟩, rfl, HF.out.1, HF.out.2⟩
  · skip
    have J := I
    obtain ⟨d0, d1, d2, d3, d4, d5, d6, d7, g0, g1, g2, g3, g4, g5, g6, g7⟩ := J.res.eight
    obtain ⟨p0, p1, p2, p3, p4, p5, p6, p7, _⟩ := J.rcd.eight
    obtain ⟨q0, q1, q2, q3, q4, q5, q6, q7, _⟩ := (J.res.set8 (.int .i64 2) (.int .i64 (1 + (x1 : Int))) (.int .i64 0) (.int .i64 0) (.int .i64 0) (.string ⟨#[]⟩) (.string ⟨#[]⟩) (.string ⟨#[]⟩)).eight
    unfold set8 at q0 q1 q2 q3 q4 q5 q6 q7
    have hlt := J.lt
    have hneb : w.heap.size ≠ b := by omega
    have hneb' : b ≠ w.heap.size := by omega
    have HF : Hid (Cur (set8 X w.heap.size (.int .i64 2) (.int .i64 (1 + (x1 : Int))) (.int .i64 0) (.int .i64 0) (.int .i64 0) (.string ⟨#[]⟩) (.string ⟨#[]⟩) (.string ⟨#[]⟩)) pc a len cap ∧ w.grownBy (set8 X w.heap.size (.int .i64 2) (.int .i64 (1 + (x1 : Int))) (.int .i64 0) (.int .i64 0) (.int .i64 0) (.string ⟨#[]⟩) (.string ⟨#[]⟩) (.string ⟨#[]⟩)) (some pc)) := ⟨J.cur.new8 HC.out (Nat.le_refl _) _ _ _ _ _ _ _ _, grownBy_new8 J.grown (Nat.le_refl _) _ _ _ _ _ _ _ _⟩
    clear I J hlt
    go_wp2
    refine bodyPost_ret (v := Rc.v ⟨2, 1 + (x1 : Int), 0, 0, 0, emp, emp, emp⟩) (by simp [results, Try.results84, go_sem, q0, q1, q2, q3, q4, q5, q6, q7, Rc.v, emp]) rfl ?_
    exact ⟨_, ⟨by simp [Rc.ok]; omega, emp_le, emp_le, emp_le⟩, rfl, HF.out.1, HF.out.2⟩
  · go_wp2_with fail
    clear y0 y1 y2 y3 y4 y5 y6 y7 f0 f1 f2 f3 f4 f5 f6 f7
    refine (below_any 5 pc a len cap _ I.cur (by omega)).mono ?_
    rintro e w3 ⟨x2, hx2, _, rfl, hcN, hgN⟩
    have hx2' := hx2 (by omega)
    replace I := I.next hgN hcN
    clear hx2 hcN hgN
    obtain ⟨y0, y1, y2, y3, y4, y5, y6, y7, f0, f1, f2, f3, f4, f5, f6, f7⟩ := I.rcd.eight
    go_wp2_with fail
    have I : RcI pc a len cap w b #[.int .i64 3, .int .i64 (1 + (x1 : Int)), .int .i64 (1 + (x2 : Int)), .int .i64 0, .int .i64 0, .string ⟨#[]⟩, .string ⟨#[]⟩, .string ⟨#[]⟩] _ := I.put HC.out 2 (.int .i64 (1 + (x2 : Int)))
    have hszw3 : (w3.setCell ⟨b, 2, none⟩ (.int .i64 (1 + (x2 : Int)))).heap.size = w3.heap.size := by simp
    generalize w3.setCell ⟨b, 2, none⟩ (.int .i64 (1 + (x2 : Int))) = Xw3 at I hszw3 ⊢
    clear y0 y1 y2 y3 y4 y5 y6 y7 f0 f1 f2 f3 f4 f5 f6 f7
    refine (below_any 8 pc a len cap _ I.cur (by omega)).mono ?_
    rintro e w4 ⟨x3, hx3, _, rfl, hcN, hgN⟩
    have hx3' := hx3 (by omega)
    replace I := I.next hgN hcN
    clear hx3 hcN hgN
    obtain ⟨y0, y1, y2, y3, y4, y5, y6, y7, f0, f1, f2, f3, f4, f5, f6, f7⟩ := I.rcd.eight
    go_wp2_with fail
    have I : RcI pc a len cap w b #[.int .i64 3, .int .i64 (1 + (x1 : Int)), .int .i64 (1 + (x2 : Int)), .int .i64 0, .int .i64 (x3 : Int), .string ⟨#[]⟩, .string ⟨#[]⟩, .string ⟨#[]⟩] _ := I.put HC.out 4 (.int .i64 (x3 : Int))
    have hszw4 : (w4.setCell ⟨b, 4, none⟩ (.int .i64 (x3 : Int))).heap.size = w4.heap.size := by simp
    generalize w4.setCell ⟨b, 4, none⟩ (.int .i64 (x3 : Int)) = Xw4 at I hszw4 ⊢
    clear y0 y1 y2 y3 y4 y5 y6 y7 f0 f1 f2 f3 f4 f5 f6 f7
    refine (recText_any pc a len cap _ I.cur).mono ?_
    rintro e w5 ⟨tx, htx0, rfl, hcN, hgN⟩
    replace I := I.next hgN hcN
    have Htx := Lib.hid htx0
    clear htx0 hcN hgN
    obtain ⟨y0, y1, y2, y3, y4, y5, y6, y7, f0, f1, f2, f3, f4, f5, f6, f7⟩ := I.rcd.eight
    have J : RcI pc a len cap w b #[.int .i64 3, .int .i64 (1 + (x1 : Int)), .int .i64 (1 + (x2 : Int)), .int .i64 0, .int .i64 (x3 : Int), .string ⟨#[]⟩, .string ⟨#[]⟩, .string tx] (w5.setCell ⟨b, 7, none⟩ (.string tx)) := I.put HC.out 7 (.string tx)
    obtain ⟨d0, d1, d2, d3, d4, d5, d6, d7, g0, g1, g2, g3, g4, g5, g6, g7⟩ := J.res.eight
    obtain ⟨p0, p1, p2, p3, p4, p5, p6, p7, _⟩ := J.rcd.eight
    obtain ⟨q0, q1, q2, q3, q4, q5, q6, q7, _⟩ := (J.res.set8 (.int .i64 3) (.int .i64 (1 + (x1 : Int))) (.int .i64 (1 + (x2 : Int))) (.int .i64 0) (.int .i64 (x3 : Int)) (.string ⟨#[]⟩) (.string ⟨#[]⟩) (.string tx)).eight
    unfold set8 at q0 q1 q2 q3 q4 q5 q6 q7
    have hlt := J.lt
    have hneb : w.heap.size ≠ b := by omega
    have hneb' : b ≠ w.heap.size := by omega
    have HF : Hid (Cur (set8 (w5.setCell ⟨b, 7, none⟩ (.string tx)) w.heap.size (.int .i64 3) (.int .i64 (1 + (x1 : Int))) (.int .i64 (1 + (x2 : Int))) (.int .i64 0) (.int .i64 (x3 : Int)) (.string ⟨#[]⟩) (.string ⟨#[]⟩) (.string tx)) pc a len cap ∧ w.grownBy (set8 (w5.setCell ⟨b, 7, none⟩ (.string tx)) w.heap.size (.int .i64 3) (.int .i64 (1 + (x1 : Int))) (.int .i64 (1 + (x2 : Int))) (.int .i64 0) (.int .i64 (x3 : Int)) (.string ⟨#[]⟩) (.string ⟨#[]⟩) (.string tx)) (some pc)) := ⟨J.cur.new8 HC.out (Nat.le_refl _) _ _ _ _ _ _ _ _, grownBy_new8 J.grown (Nat.le_refl _) _ _ _ _ _ _ _ _⟩
    clear I J hlt
    go_wp2
    refine bodyPost_ret (v := Rc.v ⟨3, 1 + (x1 : Int), 1 + (x2 : Int), 0, (x3 : Int), emp, emp, tx⟩) (by simp [results, Try.results84, go_sem, q0, q1, q2, q3, q4, q5, q6, q7, Rc.v, emp]) rfl ?_
    exact ⟨_, ⟨by have := Htx.out; simp [Rc.ok]; omega, emp_le, emp_le, by have := Htx.out; simp only; omega⟩, rfl, HF.out.1, HF.out.2⟩
  · go_wp2_with fail
    clear y0 y1 y2 y3 y4 y5 y6 y7 f0 f1 f2 f3 f4 f5 f6 f7
    refine (below_any 5 pc a len cap _ I.cur (by omega)).mono ?_
    rintro e w3 ⟨x2, hx2, _, rfl, hcN, hgN⟩
    have hx2' := hx2 (by omega)
    replace I := I.next hgN hcN
    clear hx2 hcN hgN
    obtain ⟨y0, y1, y2, y3, y4, y5, y6, y7, f0, f1, f2, f3, f4, f5, f6, f7⟩ := I.rcd.eight
    go_wp2_with fail
    have I : RcI pc a len cap w b #[.int .i64 4, .int .i64 (1 + (x1 : Int)), .int .i64 (1 + (x2 : Int)), .int .i64 0, .int .i64 0, .string ⟨#[]⟩, .string ⟨#[]⟩, .string ⟨#[]⟩] _ := I.put HC.out 2 (.int .i64 (1 + (x2 : Int)))
    have hszw3 : (w3.setCell ⟨b, 2, none⟩ (.int .i64 (1 + (x2 : Int)))).heap.size = w3.heap.size := by simp
    generalize w3.setCell ⟨b, 2, none⟩ (.int .i64 (1 + (x2 : Int))) = Xw3 at I hszw3 ⊢
    clear y0 y1 y2 y3 y4 y5 y6 y7 f0 f1 f2 f3 f4 f5 f6 f7
    refine (below_any 8 pc a len cap _ I.cur (by omega)).mono ?_
    rintro e w4 ⟨x3, hx3, _, rfl, hcN, hgN⟩
    have hx3' := hx3 (by omega)
    replace I := I.next hgN hcN
    clear hx3 hcN hgN
    obtain ⟨y0, y1, y2, y3, y4, y5, y6, y7, f0, f1, f2, f3, f4, f5, f6, f7⟩ := I.rcd.eight
    have J : RcI pc a len cap w b #[.int .i64 4, .int .i64 (1 + (x1 : Int)), .int .i64 (1 + (x2 : Int)), .int .i64 0, .int .i64 (x3 : Int), .string ⟨#[]⟩, .string ⟨#[]⟩, .string ⟨#[]⟩] (w4.setCell ⟨b, 4, none⟩ (.int .i64 (x3 : Int))) := I.put HC.out 4 (.int .i64 (x3 : Int))
    obtain ⟨d0, d1, d2, d3, d4, d5, d6, d7, g0, g1, g2, g3, g4, g5, g6, g7⟩ := J.res.eight
    obtain ⟨p0, p1, p2, p3, p4, p5, p6, p7, _⟩ := J.rcd.eight
    obtain ⟨q0, q1, q2, q3, q4, q5, q6, q7, _⟩ := (J.res.set8 (.int .i64 4) (.int .i64 (1 + (x1 : Int))) (.int .i64 (1 + (x2 : Int))) (.int .i64 0) (.int .i64 (x3 : Int)) (.string ⟨#[]⟩) (.string ⟨#[]⟩) (.string ⟨#[]⟩)).eight
    unfold set8 at q0 q1 q2 q3 q4 q5 q6 q7
    have hlt := J.lt
    have hneb : w.heap.size ≠ b := by omega
    have hneb' : b ≠ w.heap.size := by omega
    have HF : Hid (Cur (set8 (w4.setCell ⟨b, 4, none⟩ (.int .i64 (x3 : Int))) w.heap.size (.int .i64 4) (.int .i64 (1 + (x1 : Int))) (.int .i64 (1 + (x2 : Int))) (.int .i64 0) (.int .i64 (x3 : Int)) (.string ⟨#[]⟩) (.string ⟨#[]⟩) (.string ⟨#[]⟩)) pc a len cap ∧ w.grownBy (set8 (w4.setCell ⟨b, 4, none⟩ (.int .i64 (x3 : Int))) w.heap.size (.int .i64 4) (.int .i64 (1 + (x1 : Int))) (.int .i64 (1 + (x2 : Int))) (.int .i64 0) (.int .i64 (x3 : Int)) (.string ⟨#[]⟩) (.string ⟨#[]⟩) (.string ⟨#[]⟩)) (some pc)) := ⟨J.cur.new8 HC.out (Nat.le_refl _) _ _ _ _ _ _ _ _, grownBy_new8 J.grown (Nat.le_refl _) _ _ _ _ _ _ _ _⟩
    clear I J hlt
    go_wp2
    refine bodyPost_ret (v := Rc.v ⟨4, 1 + (x1 : Int), 1 + (x2 : Int), 0, (x3 : Int), emp, emp, emp⟩) (by simp [results, Try.results84, go_sem, q0, q1, q2, q3, q4, q5, q6, q7, Rc.v, emp]) rfl ?_
    exact ⟨_, ⟨by simp [Rc.ok]; omega, emp_le, emp_le, emp_le⟩, rfl, HF.out.1, HF.out.2⟩
  · go_wp2_with fail
    clear y0 y1 y2 y3 y4 y5 y6 y7 f0 f1 f2 f3 f4 f5 f6 f7
    refine (below_any 5 pc a len cap _ I.cur (by omega)).mono ?_
    rintro e w3 ⟨x2, hx2, _, rfl, hcN, hgN⟩
    have hx2' := hx2 (by omega)
    replace I := I.next hgN hcN
    clear hx2 hcN hgN
    obtain ⟨y0, y1, y2, y3, y4, y5, y6, y7, f0, f1, f2, f3, f4, f5, f6, f7⟩ := I.rcd.eight
    have J : RcI pc a len cap w b #[.int .i64 5, .int .i64 (1 + (x1 : Int)), .int .i64 (1 + (x2 : Int)), .int .i64 0, .int .i64 0, .string ⟨#[]⟩, .string ⟨#[]⟩, .string ⟨#[]⟩] (w3.setCell ⟨b, 2, none⟩ (.int .i64 (1 + (x2 : Int)))) := I.put HC.out 2 (.int .i64 (1 + (x2 : Int)))
    obtain ⟨d0, d1, d2, d3, d4, d5, d6, d7, g0, g1, g2, g3, g4, g5, g6, g7⟩ := J.res.eight
    obtain ⟨p0, p1, p2, p3, p4, p5, p6, p7, _⟩ := J.rcd.eight
    obtain ⟨q0, q1, q2, q3, q4, q5, q6, q7, _⟩ := (J.res.set8 (.int .i64 5) (.int .i64 (1 + (x1 : Int))) (.int .i64 (1 + (x2 : Int))) (.int .i64 0) (.int .i64 0) (.string ⟨#[]⟩) (.string ⟨#[]⟩) (.string ⟨#[]⟩)).eight
    unfold set8 at q0 q1 q2 q3 q4 q5 q6 q7
    have hlt := J.lt
    have hneb : w.heap.size ≠ b := by omega
    have hneb' : b ≠ w.heap.size := by omega
    have HF : Hid (Cur (set8 (w3.setCell ⟨b, 2, none⟩ (.int .i64 (1 + (x2 : Int)))) w.heap.size (.int .i64 5) (.int .i64 (1 + (x1 : Int))) (.int .i64 (1 + (x2 : Int))) (.int .i64 0) (.int .i64 0) (.string ⟨#[]⟩) (.string ⟨#[]⟩) (.string ⟨#[]⟩)) pc a len cap ∧ w.grownBy (set8 (w3.setCell ⟨b, 2, none⟩ (.int .i64 (1 + (x2 : Int)))) w.heap.size (.int .i64 5) (.int .i64 (1 + (x1 : Int))) (.int .i64 (1 + (x2 : Int))) (.int .i64 0) (.int .i64 0) (.string ⟨#[]⟩) (.string ⟨#[]⟩) (.string ⟨#[]⟩)) (some pc)) := ⟨J.cur.new8 HC.out (Nat.le_refl _) _ _ _ _ _ _ _ _, grownBy_new8 J.grown (Nat.le_refl _) _ _ _ _ _ _ _ _⟩
    clear I J hlt
    go_wp2
    refine bodyPost_ret (v := Rc.v ⟨5, 1 + (x1 : Int), 1 + (x2 : Int), 0, 0, emp, emp, emp⟩) (by simp [results, Try.results84, go_sem, q0, q1, q2, q3, q4, q5, q6, q7, Rc.v, emp]) rfl ?_
    exact ⟨_, ⟨by simp [Rc.ok]; omega, emp_le, emp_le, emp_le⟩, rfl, HF.out.1, HF.out.2⟩

end Go.Proofs.Ythlbokfajiahpaa
