/- Texts of our own, joined. -/
import Derived.Test.YthlbokfajiahpaaJh
import Derived.Test.YthlbokfajiahpaaJf
import Derived.Test.YthlbokfajiahpaaJg
import Derived.Test.YthlbokfajiahpaaJb
import Derived.Maps.AppendAt
/- What is drawn for the chapter on records: what spec.l01Pick, l06Text, l06Rec, l06Any and the draws of the chapter hand back. -/
namespace Go.Proofs.Ythlbokfajiahpaa
open Go.RowKit

theorem strs_cell' (w : World) (zs : List ByteArray) (t : TypeId) (j : Nat) (hj : j < zs.length) : (w.alloc (.cells (zs.map Value.string).toArray t)).cell? ⟨w.heap.size, j, none⟩ = some (.string zs[j]) := by
  rw [Joins.cell_of_block (heap_alloc_new w _)]
  simp [hj]

set_option maxRecDepth 100000 in
set_option maxHeartbeats 1000000 in
theorem pickStr_any (zs : List ByteArray) (n pc : Nat) (a : Option Addr) (len cap : Nat) (w : World) (hc : Cur w pc a len cap) (hl : zs.length = n) (h0 : 0 < n) (h1 : n ≤ 1048576) :
    Calls Try.prog 60 #[.pointer (some ⟨pc, 0, none⟩), .slice (some ⟨w.heap.size, 0, none⟩) n n] (w.alloc (.cells (zs.map Value.string).toArray 9)) fun e w' => ∃ x : ByteArray, x ∈ zs ∧ e = .returned (.string x) ∧ Cur w' pc a len cap ∧ w.grownBy w' (some pc) := by
  have hbel : Below w.heap.size w (w.alloc (.cells (zs.map Value.string).toArray 9)) := (Below.refl _ _).alloc (Nat.le_refl _) _
  have hpc := hc.lt
  have hc1 := hc.below hbel hpc hc.codeLt
  have HC : Hid (∀ j (hj : j < zs.length), (w.alloc (.cells (zs.map Value.string).toArray 9)).cell? ⟨w.heap.size, j, none⟩ = some (.string zs[j])) := fun j hj => strs_cell' w zs 9 j hj
  have HG : Hid (w.grownBy (w.alloc (.cells (zs.map Value.string).toArray 9)) (some pc)) := grownBy_below (World.grownBy.refl w (some pc)) hbel (Nat.le_refl _)
  clear hbel
  generalize w.alloc (.cells (zs.map Value.string).toArray 9) = W at *
  have hne : w.heap.size ≠ pc := by omega
  generalize w.heap.size = g at *
  go_enter Try.func60, Try.ntmps60
  go_wp2_with fail
  refine (below_any (n : Int) pc a len cap _ hc1 (by omega)).mono ?_
  rintro e w1 ⟨j, hj, _, rfl, hc2, hg1⟩
  have hj1 : j < n := by have := hj (by omega); omega
  have hx := HC.out j (by omega)
  have HM : Hid (zs[j]'(by omega) ∈ zs) := List.getElem_mem _
  generalize zs[j]'(by omega) = x at hx HM
  have hx1 : w1.cell? ⟨g, j, none⟩ = some (.string x) := hg1.cell hx (fun e => hne (Option.some.inj e))
  have hj2 : (j : Int) < (n : Int) := by omega
  clear hj
  go_wp2
  go_ret
  exact ⟨x, HM.out, rfl, hc2, HG.out.trans hg1⟩

/-- What is known while a record is drawn: its box, the answer's box, and the cursor. -/
structure RcI (pc : Nat) (a : Option Addr) (len cap : Nat) (w : World) (b : Nat) (cs : Array Value) (X : World) : Prop where
  cur : Cur X pc a len cap
  grown : w.grownBy X (some pc)
  res : Box X w.heap.size #[.int .i64 0, .int .i64 0, .int .i64 0, .int .i64 0, .int .i64 0, .string ⟨#[]⟩, .string ⟨#[]⟩, .string ⟨#[]⟩] 25
  rcd : Box X b cs 25
  lt : w.heap.size < b
  ne : b ≠ pc ∧ pc < w.heap.size

theorem RcI.next {pc : Nat} {a : Option Addr} {len cap : Nat} {w : World} {b : Nat} {cs : Array Value} {X Y : World} (h : RcI pc a len cap w b cs X) (hg : X.grownBy Y (some pc)) (hc : Cur Y pc a len cap) : RcI pc a len cap w b cs Y :=
  ⟨hc, h.grown.trans hg, h.res.cur hg (by have := h.ne.2; omega), h.rcd.cur hg h.ne.1, h.lt, h.ne⟩
theorem RcI.put {pc : Nat} {a : Option Addr} {len cap : Nat} {w : World} {b : Nat} {cs : Array Value} {X : World} (h : RcI pc a len cap w b cs X) (hw : Cur w pc a len cap) (j : Nat) (v : Value) : RcI pc a len cap w b (cs.setIfInBounds j v) (X.setCell ⟨b, j, none⟩ v) :=
  ⟨h.cur.new hw (Nat.le_of_lt h.lt) j v, grownBy_new h.grown (Nat.le_of_lt h.lt) j v, h.res.other (by have := h.lt; omega) j v, h.rcd.set j v, h.lt, h.ne⟩
theorem RcI.later {pc : Nat} {a : Option Addr} {len cap : Nat} {w : World} {b : Nat} {cs : Array Value} {X Y : World} (h : RcI pc a len cap w b cs X) (hb : Below X.heap.size X Y) : RcI pc a len cap w b cs Y :=
  ⟨h.cur.below hb h.cur.lt h.cur.codeLt, grownBy_below h.grown hb h.grown.size, h.res.later hb, h.rcd.later hb, h.lt, h.ne⟩
theorem grownBy_new8 {w X : World} {r : Option Nat} (h : w.grownBy X r) {b : Nat} (hb : w.heap.size ≤ b) (v0 v1 v2 v3 v4 v5 v6 v7 : Value) : w.grownBy (set8 X b v0 v1 v2 v3 v4 v5 v6 v7) r :=
  grownBy_new (grownBy_new (grownBy_new (grownBy_new (grownBy_new (grownBy_new (grownBy_new (grownBy_new h hb 0 v0) hb 1 v1) hb 2 v2) hb 3 v3) hb 4 v4) hb 5 v5) hb 6 v6) hb 7 v7
theorem Cur.new8 {w X : World} {pc : Nat} {a : Option Addr} {len cap : Nat} (h : Cur X pc a len cap) (hw : Cur w pc a len cap) {b : Nat} (hb : w.heap.size ≤ b) (v0 v1 v2 v3 v4 v5 v6 v7 : Value) : Cur (set8 X b v0 v1 v2 v3 v4 v5 v6 v7) pc a len cap :=
  (((((((h.new hw hb 0 v0).new hw hb 1 v1).new hw hb 2 v2).new hw hb 3 v3).new hw hb 4 v4).new hw hb 5 v5).new hw hb 6 v6).new hw hb 7 v7

theorem emp_le : emp.size ≤ 200 := by decide

/-- A drawn record. -/
def RcR (Pr : Rc → Prop) (pc : Nat) (a : Option Addr) (len cap : Nat) (w : World) (e : Ending) (w' : World) : Prop :=
  ∃ r : Rc, Pr r ∧ e = .returned r.v ∧ Cur w' pc a len cap ∧ w.grownBy w' (some pc)
def Rc.slim (r : Rc) : Prop := r.user.size ≤ 200 ∧ r.name.size ≤ 200 ∧ r.text.size ≤ 200

set_option maxRecDepth 100000 in
theorem recText_any (pc : Nat) (a : Option Addr) (len cap : Nat) (w : World) (hc : Cur w pc a len cap) :
    Calls Try.prog 106 #[.pointer (some ⟨pc, 0, none⟩)] w fun e w' => ∃ x : ByteArray, x.size ≤ 100 ∧ e = .returned (.string x) ∧ Cur w' pc a len cap ∧ w.grownBy w' (some pc) := by
  go_enter Try.func106, Try.ntmps106
  go_wp2_with fail
  refine (pickStr_any [⟨#[104, 101, 108, 108, 111]⟩, ⟨#[102, 114, 111, 109, 58, 32, 97, 110, 110, 10, 10, 104, 105]⟩, ⟨#[115, 117, 98, 106, 101, 99, 116, 58, 32, 120, 10, 10, 98, 111, 100, 121, 32, 111, 102, 32, 105, 116, 10, 46, 100, 111, 116, 10]⟩, ⟨#[]⟩, ⟨#[120, 10, 46, 46, 10]⟩] 5 pc a len cap _ hc rfl (by omega) (by omega)).mono ?_
  rintro e w1 ⟨x, hx, rfl, hc1, hg1⟩
  have hs : x.size ≤ 100 := by
    simp only [List.mem_cons, List.not_mem_nil, or_false] at hx
    rcases hx with rfl | rfl | rfl | rfl | rfl <;> decide
  clear hx
  go_wp2
  go_ret
  exact ⟨x, hs, rfl, hc1, hg1⟩

set_option maxRecDepth 100000 in
set_option maxHeartbeats 4000000 in
theorem recDrawn_any (pc : Nat) (a : Option Addr) (len cap : Nat) (w : World) (hc : Cur w pc a len cap) :
    Calls Try.prog 84 #[.pointer (some ⟨pc, 0, none⟩)] w fun e w' => RcR (fun r => r.ok ∧ r.slim) pc a len cap w e w' := by
  have hx := Box.new w #[.int .i64 0, .int .i64 0, .int .i64 0, .int .i64 0, .int .i64 0, .string ⟨#[]⟩, .string ⟨#[]⟩, .string ⟨#[]⟩] 25
  have hg0 : w.grownBy (w.alloc (.cells #[.int .i64 0, .int .i64 0, .int .i64 0, .int .i64 0, .int .i64 0, .string ⟨#[]⟩, .string ⟨#[]⟩, .string ⟨#[]⟩] 25)) (some pc) := World.grownBy_alloc _ _ _
  have hc0 := hc.alloc (.cells #[.int .i64 0, .int .i64 0, .int .i64 0, .int .i64 0, .int .i64 0, .string ⟨#[]⟩, .string ⟨#[]⟩, .string ⟨#[]⟩] 25)
  have hpc := hc.lt
  have hz0 : w.heap.size < (w.alloc (.cells #[.int .i64 0, .int .i64 0, .int .i64 0, .int .i64 0, .int .i64 0, .string ⟨#[]⟩, .string ⟨#[]⟩, .string ⟨#[]⟩] 25)).heap.size := by simp
  have hW : (w.alloc (.cells #[.int .i64 0, .int .i64 0, .int .i64 0, .int .i64 0, .int .i64 0, .string ⟨#[]⟩, .string ⟨#[]⟩, .string ⟨#[]⟩] 25)).heap.size = w.heap.size + 1 := by simp
  go_enter Try.func84, Try.ntmps84
  go_wp2_with fail
  generalize w.alloc (.cells #[.int .i64 0, .int .i64 0, .int .i64 0, .int .i64 0, .int .i64 0, .string ⟨#[]⟩, .string ⟨#[]⟩, .string ⟨#[]⟩] 25) = W at *
  have hpk := pickLit_any [1, 1, 2, 3, 3, 3, 3, 4, 4, 5, 5] 11 pc a len cap W hc0 rfl (by omega) (by omega)
  simp only [List.map_cons, List.map_nil] at hpk
  rw [hW] at hpk
  refine hpk.mono ?_
  clear hpk
  rintro e w1 ⟨kd, hkd, rfl, hc1, hg1⟩
  go_wp2_with fail
  refine (below_any 3 pc a len cap _ hc1 (by omega)).mono ?_
  rintro e w2 ⟨x1, h1, _, rfl, hc2, hg2⟩
  have h1' := h1 (by omega)
  have hz2 := (hg1.trans hg2).size
  have hk5 : kd = 1 ∨ kd = 2 ∨ kd = 3 ∨ kd = 4 ∨ kd = 5 := by
    simp only [List.mem_cons, List.not_mem_nil, or_false] at hkd
    omega
  have I : RcI pc a len cap w w2.heap.size #[.int .i64 kd, .int .i64 (1 + (x1 : Int)), .int .i64 0, .int .i64 0, .int .i64 0, .string ⟨#[]⟩, .string ⟨#[]⟩, .string ⟨#[]⟩] (w2.alloc (.cells #[.int .i64 kd, .int .i64 (1 + (x1 : Int)), .int .i64 0, .int .i64 0, .int .i64 0, .string ⟨#[]⟩, .string ⟨#[]⟩, .string ⟨#[]⟩] 25)) :=
    ⟨hc2.alloc _, (hg0.trans (hg1.trans hg2)).trans (World.grownBy_alloc _ _ _), (hx.cur (hg1.trans hg2) (by omega)).later (belNew _ _), Box.new w2 _ _, by omega, by omega, hpc⟩
  have HC := Lib.hid hc
  clear hkd h1 hx hg0 hg1 hg2 hc0 hc1 hc2 hz0 hc
  go_upto_region 2 with fail
  generalize w2.alloc (.cells #[.int .i64 kd, .int .i64 (1 + (x1 : Int)), .int .i64 0, .int .i64 0, .int .i64 0, .string ⟨#[]⟩, .string ⟨#[]⟩, .string ⟨#[]⟩] 25) = X at I ⊢
  generalize w2.heap.size = b at I ⊢
  clear hz2
  obtain ⟨y0, y1, y2, y3, y4, y5, y6, y7, f0, f1, f2, f3, f4, f5, f6, f7⟩ := I.rcd.eight
  rcases hk5 with rfl | rfl | rfl | rfl | rfl
  · go_wp2_with fail
    clear y0 y1 y2 y3 y4 y5 y6 y7 f0 f1 f2 f3 f4 f5 f6 f7
    have hpk := pickStr_any [⟨#[97, 110, 110]⟩, ⟨#[98, 111, 98]⟩] 2 pc a len cap _ I.cur rfl (by omega) (by omega)
    simp only [List.map_cons, List.map_nil] at hpk
    refine hpk.mono ?_
    clear hpk
    rintro e w3 ⟨us, hus, rfl, hcN, hgN⟩
    replace I := I.next hgN hcN
    have Hus : Hid (wdOk us ∧ us.size ≤ 8) := by
      simp only [List.mem_cons, List.not_mem_nil, or_false] at hus
      rcases hus with rfl | rfl <;> exact ⟨by decide, by decide⟩
    clear hus hcN hgN
    obtain ⟨y0, y1, y2, y3, y4, y5, y6, y7, f0, f1, f2, f3, f4, f5, f6, f7⟩ := I.rcd.eight
    go_wp2_with fail
    have I : RcI pc a len cap w b #[.int .i64 1, .int .i64 (1 + (x1 : Int)), .int .i64 0, .int .i64 0, .int .i64 0, .string us, .string ⟨#[]⟩, .string ⟨#[]⟩] _ := I.put HC.out 5 (.string us)
    have hszw3 : (w3.setCell ⟨b, 5, none⟩ (.string us)).heap.size = w3.heap.size := by simp
    generalize w3.setCell ⟨b, 5, none⟩ (.string us) = Xw3 at I hszw3 ⊢
    clear y0 y1 y2 y3 y4 y5 y6 y7 f0 f1 f2 f3 f4 f5 f6 f7
    have hpk := pickStr_any [⟨#[105, 110, 98, 111, 120]⟩, ⟨#[119, 111, 114, 107]⟩] 2 pc a len cap _ I.cur rfl (by omega) (by omega)
    simp only [List.map_cons, List.map_nil] at hpk
    rw [hszw3] at hpk
    refine hpk.mono ?_
    clear hpk
    rintro e w4 ⟨nm, hnm, rfl, hcN, hgN⟩
    replace I := I.next hgN hcN
    have Hnm : Hid (wdOk nm ∧ nm.size ≤ 8) := by
      simp only [List.mem_cons, List.not_mem_nil, or_false] at hnm
      rcases hnm with rfl | rfl <;> exact ⟨by decide, by decide⟩
    clear hnm hcN hgN
    obtain ⟨y0, y1, y2, y3, y4, y5, y6, y7, f0, f1, f2, f3, f4, f5, f6, f7⟩ := I.rcd.eight
    go_wp2_with fail
    have I : RcI pc a len cap w b #[.int .i64 1, .int .i64 (1 + (x1 : Int)), .int .i64 0, .int .i64 0, .int .i64 0, .string us, .string nm, .string ⟨#[]⟩] _ := I.put HC.out 6 (.string nm)
    have hszw4 : (w4.setCell ⟨b, 6, none⟩ (.string nm)).heap.size = w4.heap.size := by simp
    generalize w4.setCell ⟨b, 6, none⟩ (.string nm) = Xw4 at I hszw4 ⊢
    clear y0 y1 y2 y3 y4 y5 y6 y7 f0 f1 f2 f3 f4 f5 f6 f7
    refine (below_any 6 pc a len cap _ I.cur (by omega)).mono ?_
    rintro e w5 ⟨x2, hx2, _, rfl, hcN, hgN⟩
    have hx2' := hx2 (by omega)
    replace I := I.next hgN hcN
    clear hx2 hcN hgN
    obtain ⟨y0, y1, y2, y3, y4, y5, y6, y7, f0, f1, f2, f3, f4, f5, f6, f7⟩ := I.rcd.eight
    have J : RcI pc a len cap w b #[.int .i64 1, .int .i64 (1 + (x1 : Int)), .int .i64 0, .int .i64 (1 + (x2 : Int)), .int .i64 0, .string us, .string nm, .string ⟨#[]⟩] (w5.setCell ⟨b, 3, none⟩ (.int .i64 (1 + (x2 : Int)))) := I.put HC.out 3 (.int .i64 (1 + (x2 : Int)))
    obtain ⟨d0, d1, d2, d3, d4, d5, d6, d7, g0, g1, g2, g3, g4, g5, g6, g7⟩ := J.res.eight
    obtain ⟨p0, p1, p2, p3, p4, p5, p6, p7, _⟩ := J.rcd.eight
    obtain ⟨q0, q1, q2, q3, q4, q5, q6, q7, _⟩ := (J.res.set8 (.int .i64 1) (.int .i64 (1 + (x1 : Int))) (.int .i64 0) (.int .i64 (1 + (x2 : Int))) (.int .i64 0) (.string us) (.string nm) (.string ⟨#[]⟩)).eight
    unfold set8 at q0 q1 q2 q3 q4 q5 q6 q7
    have hlt := J.lt
    have hneb : w.heap.size ≠ b := by omega
    have hneb' : b ≠ w.heap.size := by omega
    have HF : Hid (Cur (set8 (w5.setCell ⟨b, 3, none⟩ (.int .i64 (1 + (x2 : Int)))) w.heap.size (.int .i64 1) (.int .i64 (1 + (x1 : Int))) (.int .i64 0) (.int .i64 (1 + (x2 : Int))) (.int .i64 0) (.string us) (.string nm) (.string ⟨#[]⟩)) pc a len cap ∧ w.grownBy (set8 (w5.setCell ⟨b, 3, none⟩ (.int .i64 (1 + (x2 : Int)))) w.heap.size (.int .i64 1) (.int .i64 (1 + (x1 : Int))) (.int .i64 0) (.int .i64 (1 + (x2 : Int))) (.int .i64 0) (.string us) (.string nm) (.string ⟨#[]⟩)) (some pc)) := ⟨J.cur.new8 HC.out (Nat.le_refl _) _ _ _ _ _ _ _ _, grownBy_new8 J.grown (Nat.le_refl _) _ _ _ _ _ _ _ _⟩
    clear I J hlt
    go_wp2
    refine bodyPost_ret (v := Rc.v ⟨1, 1 + (x1 : Int), 0, 1 + (x2 : Int), 0, us, nm, emp⟩) (by simp [results, Try.results84, go_sem, q0, q1, q2, q3, q4, q5, q6, q7, Rc.v, emp]) rfl ?_
    exact ⟨_, ⟨by simp [Rc.ok, Hus.out.1, Hnm.out.1]; omega, by have := Hus.out.2; simp only; omega, by have := Hnm.out.2; simp only; omega, emp_le⟩, rfl, HF.out.1, HF.out.2⟩
  · skip
    have J := I
    obtain ⟨d0, d1, d2, d3, d4, d5, d6, d7, g0, g1, g2, g3, g4, g5, g6, g7⟩ := J.res.eight
    obtain ⟨p0, p1, p2, p3, p4, p5, p6, p7, _⟩ := J.rcd.eight
    obtain ⟨q0, q1, q2, q3, q4, q5, q6, q7, _⟩ := (J.res.set8 (.int .i64 2) (.int .i64 (1 + (x1 : Int))) (.int .i64 0) (.int .i64 0) (.int .i64 0) (.string ⟨#[]⟩) (.string ⟨#[]⟩) (.string ⟨#[]⟩)).eight
    unfold set8 at q0 q1 q2 q3 q4 q5 q6 q7
    have hlt := J.lt
    have hneb : w.heap.size ≠ b := by omega
    have hneb' : b ≠ w.heap.size := by omega
    have HF : Hid (Cur (set8 X w.heap.size (.int .i64 2) (.int .i64 (1 + (x1 : Int))) (.int .i64 0) (.int .i64 0) (.int .i64 0) (.string ⟨#[]⟩) (.string ⟨#[]⟩) (.string ⟨#[]⟩)) pc a len cap ∧ w.grownBy (set8 X w.heap.size (.int .i64 2) (.int .i64 (1 + (x1 : Int))) (.int .i64 0) (.int .i64 0) (.int .i64 0) (.string ⟨#[]⟩) (.string ⟨#[]⟩) (.string ⟨#[]⟩)) (some pc)) := ⟨J.cur.new8 HC.out (Nat.le_refl _) _ _ _ _ _ _ _ _, grownBy_new8 J.grown (Nat.le_refl _) _ _ _ _ _ _ _ _⟩
    clear I J hlt
    go_wp2
    refine bodyPost_ret (v := Rc.v ⟨2, 1 + (x1 : Int), 0, 0, 0, emp, emp, emp⟩) (by simp [results, Try.results84, go_sem, q0, q1, q2, q3, q4, q5, q6, q7, Rc.v, emp]) rfl ?_
    exact ⟨_, ⟨by simp [Rc.ok]; omega, emp_le, emp_le, emp_le⟩, rfl, HF.out.1, HF.out.2⟩
  · go_wp2_with fail
    clear y0 y1 y2 y3 y4 y5 y6 y7 f0 f1 f2 f3 f4 f5 f6 f7
    refine (below_any 5 pc a len cap _ I.cur (by omega)).mono ?_
    rintro e w3 ⟨x2, hx2, _, rfl, hcN, hgN⟩
    have hx2' := hx2 (by omega)
    replace I := I.next hgN hcN
    clear hx2 hcN hgN
    obtain ⟨y0, y1, y2, y3, y4, y5, y6, y7, f0, f1, f2, f3, f4, f5, f6, f7⟩ := I.rcd.eight
    go_wp2_with fail
    have I : RcI pc a len cap w b #[.int .i64 3, .int .i64 (1 + (x1 : Int)), .int .i64 (1 + (x2 : Int)), .int .i64 0, .int .i64 0, .string ⟨#[]⟩, .string ⟨#[]⟩, .string ⟨#[]⟩] _ := I.put HC.out 2 (.int .i64 (1 + (x2 : Int)))
    have hszw3 : (w3.setCell ⟨b, 2, none⟩ (.int .i64 (1 + (x2 : Int)))).heap.size = w3.heap.size := by simp
    generalize w3.setCell ⟨b, 2, none⟩ (.int .i64 (1 + (x2 : Int))) = Xw3 at I hszw3 ⊢
    clear y0 y1 y2 y3 y4 y5 y6 y7 f0 f1 f2 f3 f4 f5 f6 f7
    refine (below_any 8 pc a len cap _ I.cur (by omega)).mono ?_
    rintro e w4 ⟨x3, hx3, _, rfl, hcN, hgN⟩
    have hx3' := hx3 (by omega)
    replace I := I.next hgN hcN
    clear hx3 hcN hgN
    obtain ⟨y0, y1, y2, y3, y4, y5, y6, y7, f0, f1, f2, f3, f4, f5, f6, f7⟩ := I.rcd.eight
    go_wp2_with fail
    have I : RcI pc a len cap w b #[.int .i64 3, .int .i64 (1 + (x1 : Int)), .int .i64 (1 + (x2 : Int)), .int .i64 0, .int .i64 (x3 : Int), .string ⟨#[]⟩, .string ⟨#[]⟩, .string ⟨#[]⟩] _ := I.put HC.out 4 (.int .i64 (x3 : Int))
    have hszw4 : (w4.setCell ⟨b, 4, none⟩ (.int .i64 (x3 : Int))).heap.size = w4.heap.size := by simp
    generalize w4.setCell ⟨b, 4, none⟩ (.int .i64 (x3 : Int)) = Xw4 at I hszw4 ⊢
    clear y0 y1 y2 y3 y4 y5 y6 y7 f0 f1 f2 f3 f4 f5 f6 f7
    refine (recText_any pc a len cap _ I.cur).mono ?_
    rintro e w5 ⟨tx, htx0, rfl, hcN, hgN⟩
    replace I := I.next hgN hcN
    have Htx := Lib.hid htx0
    clear htx0 hcN hgN
    obtain ⟨y0, y1, y2, y3, y4, y5, y6, y7, f0, f1, f2, f3, f4, f5, f6, f7⟩ := I.rcd.eight
    have J : RcI pc a len cap w b #[.int .i64 3, .int .i64 (1 + (x1 : Int)), .int .i64 (1 + (x2 : Int)), .int .i64 0, .int .i64 (x3 : Int), .string ⟨#[]⟩, .string ⟨#[]⟩, .string tx] (w5.setCell ⟨b, 7, none⟩ (.string tx)) := I.put HC.out 7 (.string tx)
    obtain ⟨d0, d1, d2, d3, d4, d5, d6, d7, g0, g1, g2, g3, g4, g5, g6, g7⟩ := J.res.eight
    obtain ⟨p0, p1, p2, p3, p4, p5, p6, p7, _⟩ := J.rcd.eight
    obtain ⟨q0, q1, q2, q3, q4, q5, q6, q7, _⟩ := (J.res.set8 (.int .i64 3) (.int .i64 (1 + (x1 : Int))) (.int .i64 (1 + (x2 : Int))) (.int .i64 0) (.int .i64 (x3 : Int)) (.string ⟨#[]⟩) (.string ⟨#[]⟩) (.string tx)).eight
    unfold set8 at q0 q1 q2 q3 q4 q5 q6 q7
    have hlt := J.lt
    have hneb : w.heap.size ≠ b := by omega
    have hneb' : b ≠ w.heap.size := by omega
    have HF : Hid (Cur (set8 (w5.setCell ⟨b, 7, none⟩ (.string tx)) w.heap.size (.int .i64 3) (.int .i64 (1 + (x1 : Int))) (.int .i64 (1 + (x2 : Int))) (.int .i64 0) (.int .i64 (x3 : Int)) (.string ⟨#[]⟩) (.string ⟨#[]⟩) (.string tx)) pc a len cap ∧ w.grownBy (set8 (w5.setCell ⟨b, 7, none⟩ (.string tx)) w.heap.size (.int .i64 3) (.int .i64 (1 + (x1 : Int))) (.int .i64 (1 + (x2 : Int))) (.int .i64 0) (.int .i64 (x3 : Int)) (.string ⟨#[]⟩) (.string ⟨#[]⟩) (.string tx)) (some pc)) := ⟨J.cur.new8 HC.out (Nat.le_refl _) _ _ _ _ _ _ _ _, grownBy_new8 J.grown (Nat.le_refl _) _ _ _ _ _ _ _ _⟩
    clear I J hlt
    go_wp2
    refine bodyPost_ret (v := Rc.v ⟨3, 1 + (x1 : Int), 1 + (x2 : Int), 0, (x3 : Int), emp, emp, tx⟩) (by simp [results, Try.results84, go_sem, q0, q1, q2, q3, q4, q5, q6, q7, Rc.v, emp]) rfl ?_
    exact ⟨_, ⟨by have := Htx.out; simp [Rc.ok]; omega, emp_le, emp_le, by have := Htx.out; simp only; omega⟩, rfl, HF.out.1, HF.out.2⟩
  · go_wp2_with fail
    clear y0 y1 y2 y3 y4 y5 y6 y7 f0 f1 f2 f3 f4 f5 f6 f7
    refine (below_any 5 pc a len cap _ I.cur (by omega)).mono ?_
    rintro e w3 ⟨x2, hx2, _, rfl, hcN, hgN⟩
    have hx2' := hx2 (by omega)
    replace I := I.next hgN hcN
    clear hx2 hcN hgN
    obtain ⟨y0, y1, y2, y3, y4, y5, y6, y7, f0, f1, f2, f3, f4, f5, f6, f7⟩ := I.rcd.eight
    go_wp2_with fail
    have I : RcI pc a len cap w b #[.int .i64 4, .int .i64 (1 + (x1 : Int)), .int .i64 (1 + (x2 : Int)), .int .i64 0, .int .i64 0, .string ⟨#[]⟩, .string ⟨#[]⟩, .string ⟨#[]⟩] _ := I.put HC.out 2 (.int .i64 (1 + (x2 : Int)))
    have hszw3 : (w3.setCell ⟨b, 2, none⟩ (.int .i64 (1 + (x2 : Int)))).heap.size = w3.heap.size := by simp
    generalize w3.setCell ⟨b, 2, none⟩ (.int .i64 (1 + (x2 : Int))) = Xw3 at I hszw3 ⊢
    clear y0 y1 y2 y3 y4 y5 y6 y7 f0 f1 f2 f3 f4 f5 f6 f7
    refine (below_any 8 pc a len cap _ I.cur (by omega)).mono ?_
    rintro e w4 ⟨x3, hx3, _, rfl, hcN, hgN⟩
    have hx3' := hx3 (by omega)
    replace I := I.next hgN hcN
    clear hx3 hcN hgN
    obtain ⟨y0, y1, y2, y3, y4, y5, y6, y7, f0, f1, f2, f3, f4, f5, f6, f7⟩ := I.rcd.eight
    have J : RcI pc a len cap w b #[.int .i64 4, .int .i64 (1 + (x1 : Int)), .int .i64 (1 + (x2 : Int)), .int .i64 0, .int .i64 (x3 : Int), .string ⟨#[]⟩, .string ⟨#[]⟩, .string ⟨#[]⟩] (w4.setCell ⟨b, 4, none⟩ (.int .i64 (x3 : Int))) := I.put HC.out 4 (.int .i64 (x3 : Int))
    obtain ⟨d0, d1, d2, d3, d4, d5, d6, d7, g0, g1, g2, g3, g4, g5, g6, g7⟩ := J.res.eight
    obtain ⟨p0, p1, p2, p3, p4, p5, p6, p7, _⟩ := J.rcd.eight
    obtain ⟨q0, q1, q2, q3, q4, q5, q6, q7, _⟩ := (J.res.set8 (.int .i64 4) (.int .i64 (1 + (x1 : Int))) (.int .i64 (1 + (x2 : Int))) (.int .i64 0) (.int .i64 (x3 : Int)) (.string ⟨#[]⟩) (.string ⟨#[]⟩) (.string ⟨#[]⟩)).eight
    unfold set8 at q0 q1 q2 q3 q4 q5 q6 q7
    have hlt := J.lt
    have hneb : w.heap.size ≠ b := by omega
    have hneb' : b ≠ w.heap.size := by omega
    have HF : Hid (Cur (set8 (w4.setCell ⟨b, 4, none⟩ (.int .i64 (x3 : Int))) w.heap.size (.int .i64 4) (.int .i64 (1 + (x1 : Int))) (.int .i64 (1 + (x2 : Int))) (.int .i64 0) (.int .i64 (x3 : Int)) (.string ⟨#[]⟩) (.string ⟨#[]⟩) (.string ⟨#[]⟩)) pc a len cap ∧ w.grownBy (set8 (w4.setCell ⟨b, 4, none⟩ (.int .i64 (x3 : Int))) w.heap.size (.int .i64 4) (.int .i64 (1 + (x1 : Int))) (.int .i64 (1 + (x2 : Int))) (.int .i64 0) (.int .i64 (x3 : Int)) (.string ⟨#[]⟩) (.string ⟨#[]⟩) (.string ⟨#[]⟩)) (some pc)) := ⟨J.cur.new8 HC.out (Nat.le_refl _) _ _ _ _ _ _ _ _, grownBy_new8 J.grown (Nat.le_refl _) _ _ _ _ _ _ _ _⟩
    clear I J hlt
    go_wp2
    refine bodyPost_ret (v := Rc.v ⟨4, 1 + (x1 : Int), 1 + (x2 : Int), 0, (x3 : Int), emp, emp, emp⟩) (by simp [results, Try.results84, go_sem, q0, q1, q2, q3, q4, q5, q6, q7, Rc.v, emp]) rfl ?_
    exact ⟨_, ⟨by simp [Rc.ok]; omega, emp_le, emp_le, emp_le⟩, rfl, HF.out.1, HF.out.2⟩
  · go_wp2_with fail
    clear y0 y1 y2 y3 y4 y5 y6 y7 f0 f1 f2 f3 f4 f5 f6 f7
    refine (below_any 5 pc a len cap _ I.cur (by omega)).mono ?_
    rintro e w3 ⟨x2, hx2, _, rfl, hcN, hgN⟩
    have hx2' := hx2 (by omega)
    replace I := I.next hgN hcN
    clear hx2 hcN hgN
    obtain ⟨y0, y1, y2, y3, y4, y5, y6, y7, f0, f1, f2, f3, f4, f5, f6, f7⟩ := I.rcd.eight
    have J : RcI pc a len cap w b #[.int .i64 5, .int .i64 (1 + (x1 : Int)), .int .i64 (1 + (x2 : Int)), .int .i64 0, .int .i64 0, .string ⟨#[]⟩, .string ⟨#[]⟩, .string ⟨#[]⟩] (w3.setCell ⟨b, 2, none⟩ (.int .i64 (1 + (x2 : Int)))) := I.put HC.out 2 (.int .i64 (1 + (x2 : Int)))
    obtain ⟨d0, d1, d2, d3, d4, d5, d6, d7, g0, g1, g2, g3, g4, g5, g6, g7⟩ := J.res.eight
    obtain ⟨p0, p1, p2, p3, p4, p5, p6, p7, _⟩ := J.rcd.eight
    obtain ⟨q0, q1, q2, q3, q4, q5, q6, q7, _⟩ := (J.res.set8 (.int .i64 5) (.int .i64 (1 + (x1 : Int))) (.int .i64 (1 + (x2 : Int))) (.int .i64 0) (.int .i64 0) (.string ⟨#[]⟩) (.string ⟨#[]⟩) (.string ⟨#[]⟩)).eight
    unfold set8 at q0 q1 q2 q3 q4 q5 q6 q7
    have hlt := J.lt
    have hneb : w.heap.size ≠ b := by omega
    have hneb' : b ≠ w.heap.size := by omega
    have HF : Hid (Cur (set8 (w3.setCell ⟨b, 2, none⟩ (.int .i64 (1 + (x2 : Int)))) w.heap.size (.int .i64 5) (.int .i64 (1 + (x1 : Int))) (.int .i64 (1 + (x2 : Int))) (.int .i64 0) (.int .i64 0) (.string ⟨#[]⟩) (.string ⟨#[]⟩) (.string ⟨#[]⟩)) pc a len cap ∧ w.grownBy (set8 (w3.setCell ⟨b, 2, none⟩ (.int .i64 (1 + (x2 : Int)))) w.heap.size (.int .i64 5) (.int .i64 (1 + (x1 : Int))) (.int .i64 (1 + (x2 : Int))) (.int .i64 0) (.int .i64 0) (.string ⟨#[]⟩) (.string ⟨#[]⟩) (.string ⟨#[]⟩)) (some pc)) := ⟨J.cur.new8 HC.out (Nat.le_refl _) _ _ _ _ _ _ _ _, grownBy_new8 J.grown (Nat.le_refl _) _ _ _ _ _ _ _ _⟩
    clear I J hlt
    go_wp2
    refine bodyPost_ret (v := Rc.v ⟨5, 1 + (x1 : Int), 1 + (x2 : Int), 0, 0, emp, emp, emp⟩) (by simp [results, Try.results84, go_sem, q0, q1, q2, q3, q4, q5, q6, q7, Rc.v, emp]) rfl ?_
    exact ⟨_, ⟨by simp [Rc.ok]; omega, emp_le, emp_le, emp_le⟩, rfl, HF.out.1, HF.out.2⟩

end Go.Proofs.Ythlbokfajiahpaa

/- What is drawn for the chapter on what records tell: right items. -/
namespace Go.Proofs.Ythlbokfajiahpaa
open Go.RowKit

/-- Items that are drawn in a row: Seqs from 2 on, right records. -/
def ItsUp (l : List Itm) : Prop := ∀ (j : Nat) (x : Itm), l[j]? = some x → x.1 = 2 + (j : Int) ∧ x.2.ok ∧ x.2.slim
theorem ItsUp.nil : ItsUp [] := by intro j x h; simp at h
theorem ItsUp.push {l : List Itm} (h : ItsUp l) {r : Rc} (hr : r.ok ∧ r.slim) : ItsUp (l ++ [(2 + (l.length : Int), r)]) := by
  intro j x hx
  by_cases c : j < l.length
  · rw [List.getElem?_append_left c] at hx
    exact h j x hx
  · rw [List.getElem?_append_right (by omega)] at hx
    have hj : j - l.length = 0 := by
      have := (List.getElem?_eq_some_iff.1 hx).1
      simp at this; omega
    rw [hj] at hx
    have e : j = l.length := by omega
    simp at hx
    subst hx e
    exact ⟨rfl, hr⟩

/-- Items that are drawn. -/
def ItsD (l : List Itm) : Prop := itemsOk l ∧ l.length ≤ 23 ∧ ∀ x ∈ l, x.2.slim
theorem ItsUp.uniq {l : List Itm} (h : ItsUp l) : Uniq l := by
  intro x hx y hy e
  obtain ⟨i, hi⟩ := List.getElem?_of_mem hx
  obtain ⟨j, hj⟩ := List.getElem?_of_mem hy
  have h1 := (h i x hi).1
  have h2 := (h j y hj).1
  have : i = j := by omega
  subst this
  rw [hi] at hj
  exact Option.some.inj hj
theorem ItsUp.done {l : List Itm} (h : ItsUp l) (hl : l.length ≤ 22) : ItsD l := by
  refine ⟨⟨fun x hx => ?_, h.uniq, by omega⟩, by omega, fun x hx => ?_⟩
  · obtain ⟨i, hi⟩ := List.getElem?_of_mem hx
    have h1 := h i x hi
    have := (List.getElem?_eq_some_iff.1 hi).1
    exact ⟨by omega, h1.2.1⟩
  · obtain ⟨i, hi⟩ := List.getElem?_of_mem hx
    exact (h i x hi).2.2
theorem ItsUp.twice {l : List Itm} (h : ItsUp l) (hl : l.length ≤ 22) {j : Nat} {x : Itm} (hj : l[j]? = some x) : ItsD (l ++ [x]) := by
  have hm : x ∈ l := List.mem_of_getElem? hj
  have hall : ∀ y ∈ l ++ [x], y ∈ l := fun y hy => by
    rcases List.mem_append.1 hy with h | h
    · exact h
    · simp at h; rw [h]; exact hm
  obtain ⟨⟨a1, a2, _⟩, _, a5⟩ := h.done hl
  exact ⟨⟨fun y hy => a1 y (hall y hy), fun y hy z hz => a2 y (hall y hy) z (hall z hz), by simp; omega⟩, by simp; omega, fun y hy => a5 y (hall y hy)⟩

set_option maxRecDepth 100000 in
set_option maxHeartbeats 4000000 in
theorem items_any (pc : Nat) (a : Option Addr) (len cap : Nat) (w : World) (hc : Cur w pc a len cap) :
    Calls Try.prog 61 #[.pointer (some ⟨pc, 0, none⟩)] w fun e w' => ∃ (l : List Itm) (v : Value), ItsD l ∧ e = .returned v ∧ RBuf itE w.heap.size w' w' v l ∧ InRow v l.length ∧ Cur w' pc a len cap ∧ w.grownBy w' (some pc) := by
  have hst : RBuf itE w.heap.size w (w.alloc (.cells #[] 34)) (.slice (some ⟨w.heap.size, 0, none⟩) 0 0) [] := RBuf.fresh itE w
  have hpc := hc.lt
  have hcl := Lib.hid hc.codeLt
  have hc0 := hc.alloc (.cells #[] 34)
  have hg0 : w.grownBy (w.alloc (.cells #[] 34)) (some pc) := World.grownBy_alloc _ _ _
  go_enter Try.func61, Try.ntmps61
  go_wp2
  go_loopw [3, 4] (fun v iv wr => ∃ (l : List Itm) (i : Nat), i ≤ 22 ∧ l.length = i ∧ iv = .int .i64 (i : Int) ∧ ItsUp l ∧ RBuf itE w.heap.size wr wr v l ∧ InRow v l.length ∧ Cur wr pc a len cap ∧ w.grownBy wr (some pc)) (fun _ iv _ => (22 - intOf iv).toNat)
  case atStart => exact ⟨[], 0, by omega, rfl, rfl, ItsUp.nil, hst.here, ⟨_, _, rfl, Nat.le_refl _⟩, hc0, hg0⟩
  case round =>
    clear hst hc0 hg0 hc
    obtain ⟨l, i, hi, hli, rfl, hall, hb, hrow, hcr, hgr⟩ := hrel
    have HA := Lib.hid hall
    have HR := Lib.hid hrow
    clear hall hrow
    go_wp2_with fail
    refine (below_any 22 pc a len cap _ hcr (by omega)).mono ?_
    rintro e w3 ⟨y, hy, _, rfl, hc3, hg3⟩
    have hy2 := hy (by omega)
    have hgr3 := hgr.trans hg3
    have hb3 := hb.cursor hg3 hpc
    clear hy hg3 hcr hb hgr
    by_cases hlt : (i : Int) < (y : Int)
    · go_wp2_with fail
      refine (recDrawn_any pc a len cap _ hc3).mono ?_
      rintro e w4 ⟨r, hr, rfl, hc4, hg4⟩
      have HRr := Lib.hid hr
      have hgr4 := hgr3.trans hg4
      have hb4 := hb3.cursor hg4 hpc
      have hw2 : IntKind.i64.wrap (2 + (i : Int)) = 2 + (i : Int) := IntWalk.i64_in _ ⟨by omega, by omega⟩
      obtain ⟨z, hz⟩ : ∃ z : Itm, ((2 + (i : Int), r) : Itm) = z := ⟨_, rfl⟩
      have HZ := Lib.hid hz
      have hb5 := Lib.hid (hb4.alloc (.cells #[.int .i64 (2 + (i : Int)), .int .i64 r.kind, .int .i64 r.valid, .int .i64 r.uid, .int .i64 r.next, .int .i64 r.flags, .string r.user, .string r.name, .string r.text] 34))
      have hnew : Hid (∀ j u, (itE.row [z])[j]? = some u → (w4.alloc (.cells #[.int .i64 (2 + (i : Int)), .int .i64 r.kind, .int .i64 r.valid, .int .i64 r.uid, .int .i64 r.next, .int .i64 r.flags, .string r.user, .string r.name, .string r.text] 34)).cell? ((⟨w4.heap.size, 0, none⟩ : Addr).add j) = some u) := by rw [← hz]; exact row_new itE w4 (2 + (i : Int), r)
      have hl0 : Hid ((l.length + [z].length) * (itE.bytes + 1) ≤ 140737488355328) := by show _ ≤ _; simp only [itE, List.length_cons, List.length_nil]; omega
      have hc5 := hc4.alloc (.cells #[.int .i64 (2 + (i : Int)), .int .i64 r.kind, .int .i64 r.valid, .int .i64 r.uid, .int .i64 r.next, .int .i64 r.flags, .string r.user, .string r.name, .string r.text] 34)
      have hg5 := hgr4.trans (World.grownBy_alloc w4 (.cells #[.int .i64 (2 + (i : Int)), .int .i64 r.kind, .int .i64 r.valid, .int .i64 r.uid, .int .i64 r.next, .int .i64 r.flags, .string r.user, .string r.name, .string r.text] 34) (some pc))
      clear hz hr hg4 hc3 hb3 hgr3 hc4 hgr4
      unfold Rc.v
      go_wp2_with (at_builtin; refine wpList_append_row rfl _ _ itE rfl w.heap.size _ l rfl hb5.out ⟨w4.heap.size, 0, none⟩ [z] 1 rfl ?c1 ?c2 ?_)
      case c1 => exact hnew.out
      case c2 => exact hl0.out
      intro v8 w8 hb8 hg8 _
      have hb7 : RBuf itE w.heap.size (w4.alloc (.cells #[.int .i64 (2 + (i : Int)), .int .i64 r.kind, .int .i64 r.valid, .int .i64 r.uid, .int .i64 r.next, .int .i64 r.flags, .string r.user, .string r.name, .string r.text] 34)) w8 v8 (l ++ [z]) := by
        have hle := hb4.le
        refine ⟨hb8.own, (Below.refl _ _).grown hg8 (by simp; omega) (fun k hk => (hb4.own.lt k hk).1), hb8.le⟩
      have hc8 : Cur w8 pc a len cap := hc5.below hb7.bel hpc hcl.out
      have hg9 : w.grownBy w8 (some pc) := grownBy_below hg5 hb7.bel (Nat.le_refl _)
      clear hb5 hnew hl0 hc5 hg5 hg8 hb4 hb7
      go_wp2
      go_roundw
      case rel => exact ⟨l ++ [z], i + 1, by omega, by simp [hli], by go_num, by
        have h1 := HA.out.push HRr.out
        rw [hli] at h1
        rw [← HZ.out]; exact h1, hb8.here, hb8.inRow (by simp), hc8, hg9⟩
      case measure => simp [intOf]; omega
    · clear hy2
      subst hli
      by_cases h1 : (1 : Int) < (l.length : Int)
      · obtain ⟨g, cap2, rfl, hcap2⟩ := HR.out
        go_wp2_with fail
        refine (once_any 3 pc a len cap _ hc3 (by omega)).mono ?_
        rintro e w4 ⟨he, hc4, hg4⟩
        have hgr4 := hgr3.trans hg4
        have hb4 := hb3.cursor hg4 hpc
        clear hg4 hc3 hb3 hgr3
        rcases he with rfl | rfl
        · go_wp2_with fail
          refine (below_any (l.length : Int) pc a len cap _ hc4 (by omega)).mono ?_
          rintro e w5 ⟨j, hj, _, rfl, hc5, hg5⟩
          have hj2 := hj (by omega)
          have hgr5 := hgr4.trans hg5
          have hb5 := hb4.cursor hg5 hpc
          clear hj hg5 hc4 hb4 hgr4
          have hjl : l[j]? = some (l[j]'(by omega)) := List.getElem?_eq_getElem (by omega)
          generalize l[j]'(by omega) = z at hjl
          obtain ⟨sq, r⟩ := z
          have HJ := Lib.hid hjl
          have hcell : ∀ k u, (itE.f (sq, r))[k]? = some u → w5.cell? ⟨g, j * 9 + k, none⟩ = some u := fun k u hu => hb5.cell rfl j _ hjl k u hu
          have d0 := hcell 0 _ rfl
          have d1 := hcell 1 _ rfl
          have d2 := hcell 2 _ rfl
          have d3 := hcell 3 _ rfl
          have d4 := hcell 4 _ rfl
          have d5 := hcell 5 _ rfl
          have d6 := hcell 6 _ rfl
          have d7 := hcell 7 _ rfl
          have d8 := hcell 8 _ rfl
          dsimp only at d0 d1 d2 d3 d4 d5 d6 d7 d8
          simp only [Nat.add_zero] at d0
          have hj3 : (j : Int) < (l.length : Int) := by omega
          have hb6 := Lib.hid (hb5.alloc (.cells #[.int .i64 sq, .int .i64 r.kind, .int .i64 r.valid, .int .i64 r.uid, .int .i64 r.next, .int .i64 r.flags, .string r.user, .string r.name, .string r.text] 34))
          have hnew : Hid (∀ j u, (itE.row [((sq, r) : Itm)])[j]? = some u → (w5.alloc (.cells #[.int .i64 sq, .int .i64 r.kind, .int .i64 r.valid, .int .i64 r.uid, .int .i64 r.next, .int .i64 r.flags, .string r.user, .string r.name, .string r.text] 34)).cell? ((⟨w5.heap.size, 0, none⟩ : Addr).add j) = some u) := row_new itE w5 (sq, r)
          have hl0 : Hid ((l.length + [((sq, r) : Itm)].length) * (itE.bytes + 1) ≤ 140737488355328) := by show _ ≤ _; simp only [itE, List.length_cons, List.length_nil]; omega
          have hc6 := hc5.alloc (.cells #[.int .i64 sq, .int .i64 r.kind, .int .i64 r.valid, .int .i64 r.uid, .int .i64 r.next, .int .i64 r.flags, .string r.user, .string r.name, .string r.text] 34)
          have hg6 := hgr5.trans (World.grownBy_alloc w5 (.cells #[.int .i64 sq, .int .i64 r.kind, .int .i64 r.valid, .int .i64 r.uid, .int .i64 r.next, .int .i64 r.flags, .string r.user, .string r.name, .string r.text] 34) (some pc))
          clear hcell hc5 hgr5 hjl
          go_wp2_with (at_builtin; refine wpList_append_row rfl _ _ itE rfl w.heap.size _ l rfl hb6.out ⟨w5.heap.size, 0, none⟩ [((sq, r) : Itm)] 1 rfl ?c1 ?c2 ?_)
          case c1 => exact hnew.out
          case c2 => exact hl0.out
          intro v8 w8 hb8 hg8 _
          have hb7 : Below w.heap.size (w5.alloc (.cells #[.int .i64 sq, .int .i64 r.kind, .int .i64 r.valid, .int .i64 r.uid, .int .i64 r.next, .int .i64 r.flags, .string r.user, .string r.name, .string r.text] 34)) w8 := by
            have hle := hb5.le
            exact (Below.refl _ _).grown hg8 (by simp; omega) (fun k hk => (hb5.own.lt k hk).1)
          have hc8 : Cur w8 pc a len cap := hc6.below hb7 hpc hcl.out
          have hg9 : w.grownBy w8 (some pc) := grownBy_below hg6 hb7 (Nat.le_refl _)
          clear hb6 hnew hl0 hc6 hg6 hg8 hb5 hb7 d0 d1 d2 d3 d4 d5 d6 d7 d8
          go_wp2
          go_ret
          exact ⟨l ++ [(sq, r)], v8, HA.out.twice (by omega) HJ.out, rfl, hb8.here, hb8.inRow (by simp), hc8, hg9⟩
        · go_wp2
          go_ret
          exact ⟨l, _, HA.out.done (by omega), rfl, hb4, ⟨_, _, rfl, by omega⟩, hc4, hgr4⟩
      · obtain ⟨g, cap2, rfl, hcap2⟩ := HR.out
        go_wp2
        go_ret
        exact ⟨l, HA.out.done (by omega), _, rfl, hb3, ⟨_, _, rfl, by omega⟩, hc3, hgr3⟩

set_option maxRecDepth 100000 in
theorem drawItems_any (a : Option Addr) (len cap : Nat) (w : World) (hcode : CodeIn w a len) (hs : len ≤ 1048576) :
    Calls Try.prog 22 #[.slice a len cap] w fun e w' => ∃ (l : List Itm) (v : Value), ItsD l ∧ e = .returned v ∧ RBuf itE w.heap.size w w' v l ∧ InRow v l.length := by
  go_enter Try.func22, Try.ntmps22
  go_wp2_with fail
  refine (new_any a len cap _ hcode hs).mono ?_
  rintro e w1 ⟨pc, hp, rfl, hc1, hb1⟩
  have D1 : Drw w pc a len cap w1 := ⟨hc1, hb1, hp⟩
  have hz1 : w.heap.size ≤ w1.heap.size := hb1.size
  clear hc1 hb1
  go_wp2_with fail
  refine (items_any pc a len cap _ D1.cur).mono ?_
  rintro e w2 ⟨l, v, hl, rfl, hb, hrow, hc2, hg2⟩
  have D2 := D1.step hc2 hg2
  obtain ⟨g, cap2, rfl, hcap2⟩ := hrow
  go_wp2
  go_ret
  exact ⟨l, _, hl, rfl, hb.down D2.bel hz1, ⟨_, _, rfl, hcap2⟩⟩

end Go.Proofs.Ythlbokfajiahpaa

/- What a list of numbers is that a call builds in memory of its own, and the laws by which it grows, is read and is written. -/
namespace Go.Proofs.Ythlbokfajiahpaa
open Go.RowKit

theorem Try.info_int : (Try.prog.info? 3).map (fun i => (i.zero, i.size, i.bytes)) = some (some (.int .i64 0), 1, 8) := by kernel_rfl

def intV (l : List Int) : List Value := l.map fun c => .int .i64 c
theorem intV_length (l : List Int) : (intV l).length = l.length := by simp [intV]

/-- The slice v holds the numbers l in memory that the call made itself (blocks from B on); below B all is as it was in w0. -/
structure IBuf (B : Nat) (w0 w : World) (v : Value) (l : List Int) : Prop where
  own : w.ownsRow B 3 1 v l.length (intV l)
  bel : Below B w0 w
  le : B ≤ w.heap.size

theorem IBuf.alloc {B : Nat} {w0 w : World} {v : Value} {l : List Int} (h : IBuf B w0 w v l) (o : Obj) : IBuf B w0 (w.alloc o) v l :=
  ⟨h.own.alloc o, h.bel.alloc h.le o, by have := h.le; simp; omega⟩
theorem IBuf.drew {B : Nat} {w0 w : World} {v : Value} {l : List Int} (h : IBuf B w0 w v l) : IBuf B w0 w.drew v l :=
  ⟨h.own.drew, h.bel.drew, h.le⟩
theorem IBuf.fresh (w : World) : IBuf w.heap.size w (w.alloc (.cells #[] 3)) (.slice (some ⟨w.heap.size, 0, none⟩) 0 0) [] :=
  ⟨World.ownsRow_made w #[] 0 (Nat.le_refl _) (by decide) rfl, (Below.refl _ _).alloc (Nat.le_refl _) _, by simp⟩

/-- What is laid behind the heap's end, and nothing else, leaves the numbers where they are. -/
theorem IBuf.later {B : Nat} {w0 w w' : World} {v : Value} {l : List Int} (h : IBuf B w0 w v l) (hb : Below w.heap.size w w') : IBuf B w0 w' v l := by
  have hg : w.grownBy w' none := ⟨hb.os, hb.tape, hb.output, hb.size, fun k hk _ => hb.block k hk⟩
  refine ⟨h.own.kept hg ?_, h.bel.trans (hb.mono h.le), Nat.le_trans h.le hb.size⟩
  cases hv : v.ownBlock with
  | none => exact .inl rfl
  | some k => exact .inr (by simp)

theorem wpList_append_int {w0 w : World} {ops : Array Oper} {rest : List Oper} {o : Oper} {a : Act} {Q : Exit → Act → World → Prop} (hgd : o.guard = none) (s x : Operand)
    (ho : o.op = .call { callee := .builtin .append, args := #[s, x], argTypes := #[44, 44] })
    (B : Nat) (v : Value) (l : List Int) (hs : a.eval s = v) (hb : IBuf B w0 w v l)
    (ad : Addr) (t : Int) (hx : a.eval x = .slice (some ad) 1 1)
    (hnews : ∀ j u, [Value.int .i64 t][j]? = some u → w.cell? (ad.add j) = some u)
    (hlen : l.length + 1 ≤ 8796093022208)
    (h : ∀ v' w', IBuf B w0 w' v' (l ++ [t]) → wpList Try.prog ops Q rest (a.put o.dst v') w') : wpList Try.prog ops Q (o :: rest) a w := by
  obtain ⟨i0, hi, hz0, hz1, hz2⟩ := info_parts Try.info_int
  refine wpList_append_own _ hgd s x 44 ho B 3 i0 (.int .i64 0) 1 8 Try.underlying44 hi hz0 hz1 hz2 rfl (by decide) v l.length (intV l) hs hb.own ad 1 1 [.int .i64 t] hx (by simp) hnews ?_ (by unfold maxLen; omega) (by omega) hb.le ?_
  · intro u hu
    simp at hu
    subst hu
    rfl
  · intro v' w' hown hgrow _
    refine h v' w' ⟨?_, hb.bel.grown hgrow hb.le (fun k hk => (hb.own.lt k hk).1), Nat.le_trans hb.le hgrow.size⟩
    have e1 : (l ++ [t]).length = l.length + 1 := by simp
    have e2 : intV (l ++ [t]) = intV l ++ [.int .i64 t] := by simp [intV]
    rw [e1, e2]
    exact hown

theorem IBuf.form {B : Nat} {w0 w : World} {v : Value} {l : List Int} (h : IBuf B w0 w v l) : ∃ (a : Option Addr) (cap : Nat), v = .slice a l.length cap := by
  rcases h.own.2 with ⟨rfl, h0⟩ | ⟨g, cap, cur, rfl, _⟩
  · exact ⟨none, 0, by rw [h0]⟩
  · exact ⟨_, _, rfl⟩

/-- Numbers that can be read: each in its cell of a row; nothing where there is none. -/
def Ints (w : World) (v : Value) (l : List Int) : Prop :=
  (l = [] ∧ ∃ (a : Option Addr) (cap : Nat), v = .slice a 0 cap) ∨
  ∃ g cap : Nat, v = .slice (some ⟨g, 0, none⟩) l.length cap ∧ l.length ≤ cap ∧ g < w.heap.size ∧ ∀ j b, l[j]? = some b → w.cell? ⟨g, j, none⟩ = some (.int .i64 b)

theorem IBuf.ints {B : Nat} {w0 w : World} {v : Value} {l : List Int} (h : IBuf B w0 w v l) : Ints w v l := by
  rcases h.own.2 with ⟨rfl, h0⟩ | ⟨g, cap, cur, rfl, hg, hh, hnc, hcp, hcs, htake⟩
  · exact .inl ⟨List.length_eq_zero_iff.1 h0, _, _, rfl⟩
  · refine .inr ⟨g, cap, rfl, hnc, (h.own.lt g rfl).2, fun j b hj => ?_⟩
    have hlt : j < l.length := (List.getElem?_eq_some_iff.1 hj).1
    rw [h.own.cellAt j (by omega)]
    simp [intV, hj]

theorem Ints.later {w w' : World} {v : Value} {l : List Int} (h : Ints w v l) (hb : Below w.heap.size w w') : Ints w' v l := by
  rcases h with h | ⟨g, cap, hv, hc, hg, hcl⟩
  · exact .inl h
  · exact .inr ⟨g, cap, hv, hc, Nat.lt_of_lt_of_le hg hb.size, fun j b hj => (hb.cell (p := ⟨g, j, none⟩) hg).trans (hcl j b hj)⟩

/-- A store into the row. -/
theorem IBuf.stored {B : Nat} {w0 w : World} {g cap : Nat} {l : List Int} (h : IBuf B w0 w (.slice (some ⟨g, 0, none⟩) l.length cap) l) (j : Nat) (t : Int) :
    IBuf B w0 (w.setCell ⟨g, j, none⟩ (.int .i64 t)) (.slice (some ⟨g, 0, none⟩) l.length cap) (l.set j t) := by
  have hst := h.own.stored j (.int .i64 t)
  have e : intV (l.set j t) = (intV l).set j (.int .i64 t) := by simp [intV, List.map_set]
  refine ⟨?_, h.bel.setCell (h.own.lt g rfl).1 _, by have := h.le; simpa using this⟩
  have hl : (l.set j t).length = l.length := by simp
  rw [hl, e]
  exact hst.1

theorem IBuf.under {w0 w1 w : World} {v : Value} {l : List Int} (hb : Below w0.heap.size w0 w1) (h : IBuf w1.heap.size w1 w v l) : IBuf w0.heap.size w0 w v l := by
  refine ⟨⟨h.own.1, ?_⟩, hb.trans (h.bel.mono hb.size), Nat.le_trans hb.size h.le⟩
  rcases h.own.2 with h1 | ⟨g, cap, cur, h1, h2, h3⟩
  · exact .inl h1
  · exact .inr ⟨g, cap, cur, h1, Nat.le_trans hb.size h2, h3⟩

end Go.Proofs.Ythlbokfajiahpaa

/- The drawn places: twelve numbers, each in 0 .. 9999, in a list of the call's own. -/
namespace Go.Proofs.Ythlbokfajiahpaa
open Go.RowKit

theorem IBuf.cursor {B : Nat} {w w' : World} {v : Value} {l : List Int} {pc : Nat} (h : IBuf B w w v l) (hg : w.grownBy w' (some pc)) (hp : pc < B) : IBuf B w' w' v l := by
  refine ⟨h.own.kept hg ?_, Below.refl _ _, Nat.le_trans h.le hg.size⟩
  cases hv : v.ownBlock with
  | none => exact .inl rfl
  | some k => exact .inr (by intro e; have := (h.own.lt k hv).1; have := Option.some.inj e; omega)

theorem IBuf.here {B : Nat} {w0 w : World} {v : Value} {l : List Int} (h : IBuf B w0 w v l) : IBuf B w w v l := ⟨h.own, Below.refl _ _, h.le⟩

theorem IBuf.down {B0 B : Nat} {w0 w1 w : World} {v : Value} {l : List Int} (h : IBuf B w1 w v l) (hb : Below B0 w0 w) (hB : B0 ≤ B) : IBuf B0 w0 w v l := by
  refine ⟨⟨h.own.1, ?_⟩, hb, Nat.le_trans hB h.le⟩
  rcases h.own.2 with h1 | ⟨g, cap, cur, h1, h2, h3⟩
  · exact .inl h1
  · exact .inr ⟨g, cap, cur, h1, Nat.le_trans hB h2, h3⟩

theorem one_int (w : World) (x : Int) : ∀ j u, [Value.int .i64 x][j]? = some u → (w.alloc (.cells #[.int .i64 x] 3)).cell? ((⟨w.heap.size, 0, none⟩ : Addr).add j) = some u := by
  intro j u hj
  match j, hj with
  | 0, hj => simp at hj; subst hj; simp [Addr.add]
  | j + 1, hj => simp at hj

theorem below_of_new' {w w1 w2 : World} {pc : Nat} (hb : Below w.heap.size w w1) (hp : w.heap.size ≤ pc) (hg : w1.grownBy w2 (some pc)) : Below w.heap.size w w2 :=
  hb.grown hg hb.size (fun k hk => by have := Option.some.inj hk; omega)

/-- The drawn places. -/
def PlacesR (w : World) (e : Ending) (w' : World) : Prop :=
  ∃ (l : List Int) (v : Value), l.length = 12 ∧ (∀ z ∈ l, 0 ≤ z ∧ z < 10000) ∧ e = .returned v ∧ IBuf w.heap.size w w' v l

set_option maxRecDepth 100000 in
set_option maxHeartbeats 1000000 in
theorem drawPlaces_any (a : Option Addr) (len cap : Nat) (w : World) (hcode : CodeIn w a len) (hs : len ≤ 1048576) :
    Calls Try.prog 23 #[.slice a len cap] w fun e w' => PlacesR w e w' := by
  go_enter Try.func23, Try.ntmps23
  go_wp2_with fail
  refine (new_any a len cap _ hcode hs).mono ?_
  rintro e w1 ⟨pc, hp, rfl, hc1, hb1⟩
  go_wp2_with fail
  refine (byte_any pc a len cap _ hc1).mono ?_
  rintro e w2 ⟨x, hx, rfl, hc2, hg2⟩
  have hb2 := below_of_new' hb1 hp hg2
  have hst := IBuf.fresh w2
  have hpc := hc2.lt
  have hcl := hc2.codeLt
  go_wp2
  go_loopw [4, 5] (fun v iv wr => ∃ (k : Nat) (l : List Int), k ≤ 12 ∧ iv = .int .i64 (k : Int) ∧ l.length = k ∧ (∀ z ∈ l, 0 ≤ z ∧ z < 10000) ∧ IBuf w2.heap.size wr wr v l ∧ Cur wr pc a len cap ∧ Below w.heap.size w wr) (fun _ iv _ => (12 - intOf iv).toNat)
  case atStart => exact ⟨0, [], by omega, rfl, rfl, by simp, hst.here, hc2.below hst.bel hpc hcl, hb2.trans (hst.bel.mono hb2.size)⟩
  case round =>
    obtain ⟨k, l, hk, rfl, hlk, hlz, hb, hcr, hgr⟩ := hrel
    by_cases hlt : k < 12
    · go_wp2_with fail
      refine (below_any 10000 pc a len cap _ hcr (by omega)).mono ?_
      rintro e w3 ⟨y, hy, _, rfl, hc3, hg3⟩
      have hy2 := hy (by omega)
      have hb3 := hb.cursor hg3 hpc
      have hgr3 := below_of_new' hgr hp hg3
      clear hy hb hcr hgr hg3
      go_wp2_with (at_builtin; refine wpList_append_int rfl _ _ rfl _ _ l rfl (hb3.alloc _) ⟨w3.heap.size, 0, none⟩ (y : Int) rfl ?c1 ?c2 ?_)
      case c1 => exact one_int _ _
      case c2 => omega
      intro v' w4 hb4
      have hcr4 : Cur w4 pc a len cap := hc3.below hb4.bel hpc (fun b off h1 h2 => hcl b off h1 h2)
      have hgr4 : Below w.heap.size w w4 := hgr3.trans (hb4.bel.mono hb2.size)
      have hb5 := hb4.here
      clear hb4 hb3 hc3 hgr3
      go_wp2
      go_roundw
      case rel => exact ⟨k + 1, l ++ [(y : Int)], by omega, by go_num, by simp [hlk], fun z hz => by
        rcases List.mem_append.1 hz with h | h
        · exact hlz z h
        · simp at h; omega, hb5, hcr4, hgr4⟩
      case measure => simp [intOf]; omega
    · obtain rfl : k = 12 := by omega
      go_wp2
      go_ret
      exact ⟨l, _, hlk, hlz, rfl, hb.down hgr hb2.size⟩

end Go.Proofs.Ythlbokfajiahpaa

/- A list that can be read, appended to one of the call's own. -/
namespace Go.Proofs.Ythlbokfajiahpaa
open Go.RowKit

variable {α : Type} {E : Enc α}

theorem run_append_zero {P : Program} {w : World} (base : Nat) (t ty e : TypeId) (i : TypeInfo) (size : Nat) (ht : P.underlying t = some (.slice e)) (hi : P.info? e = some i)
    (v : Value) (n : Nat) (xs : List Value) (hown : w.ownsRow base e size v n xs) (a : Option Addr) (c : Nat) :
    (Builtin.append_ #[t, t] ty #[v, .slice a 0 c]).run P w = .ok v w := by
  rcases hown.2 with ⟨rfl, rfl⟩ | ⟨g, cap, cur, rfl, _, _, hnc, _⟩
  · cases a <;> simp [Builtin.append_, run_underlying ht, sizeOf, typeInfo, hi, Builtin.lenOf, Builtin.firstCells, loadCells, loadCellsFrom]
  · cases a <;> simp [Builtin.append_, run_underlying ht, sizeOf, typeInfo, hi, Builtin.lenOf, Builtin.firstCells, hnc, storeCells, loadCells, loadCellsFrom]

theorem run_append_rd {w : World} (ty : TypeId) (B : Nat) (v : Value) (l : List α) (hb : RBuf E B w w v l) (vx : Value) (m : List α) (hx : Rows' E w vx m)
    (hlen : (l.length + m.length) * (E.bytes + 1) ≤ 140737488355328) :
    ∃ v' w', (Builtin.append_ #[E.sty, E.sty] ty #[v, vx]).run Try.prog w = .ok v' w' ∧ RBuf E B w' w' v' (l ++ m) ∧ w.grownBy w' v.ownBlock ∧ (v'.ownBlock = v.ownBlock ∨ v'.ownBlock = some w.heap.size) := by
  obtain ⟨i0, hi, hz0, hz1, hz2⟩ := info_parts E.info
  have e0 : (l.length + m.length) * (E.bytes + 1) = (l.length + m.length) * E.bytes + (l.length + m.length) := Nat.mul_succ _ _
  rcases hx with ⟨rfl, a, c, rfl⟩ | ⟨g, off, cap, rfl, hc, hg, hcl⟩
  · exact ⟨v, w, run_append_zero (P := Try.prog) B E.sty ty E.ty i0 E.sz E.und hi v l.length (E.row l) hb.own a c, by simpa using hb, World.grownBy.refl _ _, .inl rfl⟩
  · obtain ⟨v', w', h1, h2, h3, _, h5⟩ := run_append_own_at (P := Try.prog) w B E.sty ty E.ty i0 E.zero E.sz E.bytes E.und hi hz0 hz1 hz2 E.zc E.pos v l.length (E.row l) hb.own ⟨g, off, none⟩ m.length cap (E.row m) (E.row_length m)
      (fun j u hu => by
        have hjl : j < m.length * E.sz := by have := (List.getElem?_eq_some_iff.1 hu).1; rwa [E.row_length] at this
        have hp := E.pos
        have hq : j / E.sz < m.length := Nat.div_lt_of_lt_mul (by rw [Nat.mul_comm]; exact hjl)
        have hr : j % E.sz < E.sz := Nat.mod_lt _ hp
        have hj : j / E.sz * E.sz + j % E.sz = j := Nat.div_add_mod' j E.sz
        have hgq : m[j / E.sz]? = some m[j / E.sz] := List.getElem?_eq_getElem hq
        have h6 := E.row_at m (j / E.sz) _ hgq (j % E.sz) hr
        rw [hj, hu] at h6
        have h7 := hcl (j / E.sz) _ hgq (j % E.sz) u h6.symm
        rw [Nat.add_assoc, hj] at h7
        rw [Addr.add_lit]
        exact h7) (E.row_one' m) (by unfold maxLen; omega) (by omega) hb.le
    refine ⟨v', w', h1, ⟨?_, Below.refl _ _, Nat.le_trans hb.le h3.size⟩, h3, h5⟩
    rw [List.length_append, E.row_append]
    exact h2

theorem wp_append_rd {w : World} {o : Oper} {a : Act} {K : Act → World → Prop} {Q : Exit → Act → World → Prop} (s x : Operand) (E : Enc α)
    (ho : o.op = .call { callee := .builtin .append, args := #[s, x], argTypes := #[E.sty, E.sty] })
    (B : Nat) (v : Value) (l : List α) (hs : a.eval s = v) (hb : RBuf E B w w v l) (vx : Value) (m : List α) (hxv : a.eval x = vx) (hx : Rows' E w vx m)
    (hlen : (l.length + m.length) * (E.bytes + 1) ≤ 140737488355328)
    (h : ∀ v' w', RBuf E B w' w' v' (l ++ m) → w.grownBy w' v.ownBlock → (v'.ownBlock = v.ownBlock ∨ v'.ownBlock = some w.heap.size) → K (a.put o.dst v') w') : o.wp Try.prog a w K Q := by
  obtain ⟨v', w', hr, h2, h3, h4⟩ := run_append_rd o.type B v l hb vx m hx hlen
  unfold Oper.wp execOp
  simp only [ho, resolve, invoke, builtin, Sem.run_bind, Sem.run_pure, Result.andThen_ok, List.map_toArray, List.map_cons, List.map_nil, hs, hxv, hr]
  exact h v' w' h2 h3 h4

theorem wpList_append_rd {w : World} {ops : Array Oper} {rest : List Oper} {o : Oper} {a : Act} {Q : Exit → Act → World → Prop} (hgd : o.guard = none) (s x : Operand) (E : Enc α)
    (ho : o.op = .call { callee := .builtin .append, args := #[s, x], argTypes := #[E.sty, E.sty] })
    (B : Nat) (v : Value) (l : List α) (hs : a.eval s = v) (hb : RBuf E B w w v l) (vx : Value) (m : List α) (hxv : a.eval x = vx) (hx : Rows' E w vx m)
    (hlen : (l.length + m.length) * (E.bytes + 1) ≤ 140737488355328)
    (h : ∀ v' w', RBuf E B w' w' v' (l ++ m) → w.grownBy w' v.ownBlock → (v'.ownBlock = v.ownBlock ∨ v'.ownBlock = some w.heap.size) → wpList Try.prog ops Q rest (a.put o.dst v') w') : wpList Try.prog ops Q (o :: rest) a w :=
  wpList_plain hgd fun _ hK => wp_append_rd s x E ho B v l hs hb vx m hxv hx hlen fun v' w' h2 h3 h4 => hK _ _ (h v' w' h2 h3 h4)

end Go.Proofs.Ythlbokfajiahpaa

/- How mails lie in memory. -/
namespace Go.Proofs.Ythlbokfajiahpaa
open Go.RowKit

def mlE : Enc Ml where
  ty := 57
  sty := 53
  sz := 3
  bytes := 32
  zero := .agg #[.int .i64 0, .int .i64 0, .string ⟨#[]⟩]
  f := fun x => [.int .i64 x.uid, .int .i64 x.flags, .string x.text]
  len := fun _ => rfl
  pos := by decide
  one := fun _ u hu => by simp at hu; rcases hu with rfl | rfl | rfl <;> rfl
  und := Try.underlying53
  info := by kernel_rfl
  zc := rfl
  z0 := ⟨0, 0, ⟨#[]⟩⟩
  zf := rfl

end Go.Proofs.Ythlbokfajiahpaa

/- How boxes lie in memory: a row of boxes, each with a row of mails of its own. -/
namespace Go.Proofs.Ythlbokfajiahpaa
open Go.RowKit

/-- A box as it lies in its row: its mails are a slice. -/
structure BxH where
  valid : Int
  user : ByteArray
  name : ByteArray
  next : Int
  a : Option Addr
  n : Nat
  c : Nat
def BxH.mv (h : BxH) : Value := .slice h.a h.n h.c

def hdE : Enc BxH where
  ty := 55
  sty := 46
  sz := 5
  bytes := 72
  zero := .agg #[.int .i64 0, .string ⟨#[]⟩, .string ⟨#[]⟩, .int .i64 0, .slice none 0 0]
  f := fun x => [.int .i64 x.valid, .string x.user, .string x.name, .int .i64 x.next, .slice x.a x.n x.c]
  len := fun _ => rfl
  pos := by decide
  one := fun _ u hu => by simp at hu; rcases hu with rfl | rfl | rfl | rfl | rfl <;> rfl
  und := Try.underlying46
  info := by kernel_rfl
  zc := rfl
  z0 := ⟨0, ⟨#[]⟩, ⟨#[]⟩, 0, none, 0, 0⟩
  zf := rfl

/-- Boxes in memory of their own (blocks from B on): the row, and the mails of each, all apart. -/
structure StO (B : Nat) (w : World) (v : Value) (bs : List Bx) (hs : List BxH) : Prop where
  row : RBuf hdE B w w v hs
  len : hs.length = bs.length
  at' : ∀ (j : Nat) (h : BxH) (b : Bx), hs[j]? = some h → bs[j]? = some b → (h.valid = b.valid ∧ h.user = b.user ∧ h.name = b.name ∧ h.next = b.next) ∧ RBuf mlE B w w h.mv b.mails
  far : ∀ (j : Nat) (h : BxH), hs[j]? = some h → ∀ k, h.mv.ownBlock = some k → v.ownBlock ≠ some k
  apart : ∀ (i j : Nat) (h h' : BxH), hs[i]? = some h → hs[j]? = some h' → i ≠ j → ∀ k, h.mv.ownBlock = some k → h'.mv.ownBlock ≠ some k

theorem RBuf.here' {α : Type} {E : Enc α} {B : Nat} {w0 w w' : World} {v : Value} {l : List α} (h : RBuf E B w0 w v l) (hb : Below w.heap.size w w') : RBuf E B w' w' v l := (h.later hb).here
theorem StO.later {B : Nat} {w w' : World} {v : Value} {bs : List Bx} {hs : List BxH} (h : StO B w v bs hs) (hb : Below w.heap.size w w') : StO B w' v bs hs :=
  ⟨h.row.here' hb, h.len, fun j x b h1 h2 => ⟨(h.at' j x b h1 h2).1, (h.at' j x b h1 h2).2.here' hb⟩, h.far, h.apart⟩
theorem StO.nil (w : World) : StO w.heap.size w (.slice none 0 0) [] [] :=
  ⟨RBuf.nil hdE w, rfl, fun j h b h1 => by simp at h1, fun j h h1 => by simp at h1, fun i j h h' h1 => by simp at h1⟩
/-- The mails of a box lie below the heap's end. -/
theorem StO.lt {B : Nat} {w : World} {v : Value} {bs : List Bx} {hs : List BxH} (h : StO B w v bs hs) {j : Nat} {x : BxH} (hj : hs[j]? = some x) {k : Nat} (hk : x.mv.ownBlock = some k) : k < w.heap.size := by
  have hl : j < hs.length := (List.getElem?_eq_some_iff.1 hj).1
  have hb : bs[j]? = some (bs[j]'(by rw [← h.len]; exact hl)) := List.getElem?_eq_getElem _
  exact ((h.at' j x _ hj hb).2.own.lt k hk).2

/-- One box more: it was appended, its mails lying in memory of their own. -/
theorem StO.push {B : Nat} {w w' : World} {v v' : Value} {bs : List Bx} {hs : List BxH} (h : StO B w v bs hs) (b : Bx) (x : BxH)
    (hx : x.valid = b.valid ∧ x.user = b.user ∧ x.name = b.name ∧ x.next = b.next) (hm : RBuf mlE B w w x.mv b.mails)
    (hv : ∀ k, x.mv.ownBlock = some k → v.ownBlock ≠ some k) (ho : ∀ (j : Nat) (y : BxH), hs[j]? = some y → ∀ k, y.mv.ownBlock = some k → x.mv.ownBlock ≠ some k)
    (hr : RBuf hdE B w' w' v' (hs ++ [x])) (hg : w.grownBy w' v.ownBlock) (ha : v'.ownBlock = v.ownBlock ∨ v'.ownBlock = some w.heap.size) : StO B w' v' (bs ++ [b]) (hs ++ [x]) := by
  have kept : ∀ (m : Value) (l : List Ml), RBuf mlE B w w m l → (∀ k, m.ownBlock = some k → v.ownBlock ≠ some k) → RBuf mlE B w' w' m l := fun m l hm hf => by
    refine hm.shift hg ?_
    cases hmb : m.ownBlock with
    | none => exact .inl rfl
    | some k => exact .inr (fun e => hf k hmb e.symm)
  have old : ∀ {j : Nat} {y : BxH}, (hs ++ [x])[j]? = some y → (hs[j]? = some y ∧ j < hs.length) ∨ (j = hs.length ∧ y = x) := fun {j y} hj => by
    by_cases c : j < hs.length
    · rw [List.getElem?_append_left c] at hj
      exact .inl ⟨hj, c⟩
    · rw [List.getElem?_append_right (by omega)] at hj
      have hj0 : j - hs.length = 0 := by
        have := (List.getElem?_eq_some_iff.1 hj).1
        simp at this; omega
      rw [hj0] at hj
      simp at hj
      exact .inr ⟨by omega, hj.symm⟩
  have hvlt : ∀ {k : Nat}, x.mv.ownBlock = some k → k < w.heap.size := fun {k} hk => (hm.own.lt k hk).2
  refine ⟨hr, by simp [h.len], fun j y c h1 h2 => ?_, fun j y h1 k hk => ?_, fun i j y z h1 h2 hij k hk => ?_⟩
  · rcases old h1 with ⟨h3, hl⟩ | ⟨rfl, rfl⟩
    · rw [List.getElem?_append_left (by rw [← h.len]; exact hl)] at h2
      exact ⟨(h.at' j y c h3 h2).1, kept _ _ (h.at' j y c h3 h2).2 (h.far j y h3)⟩
    · rw [List.getElem?_append_right (by rw [h.len]; omega), h.len] at h2
      simp at h2
      subst h2
      exact ⟨hx, kept _ _ hm hv⟩
  · rcases old h1 with ⟨h3, _⟩ | ⟨_, rfl⟩
    · rcases ha with e | e
      · rw [e]; exact h.far j y h3 k hk
      · rw [e]; intro e2; have := h.lt h3 hk; have := Option.some.inj e2; omega
    · rcases ha with e | e
      · rw [e]; exact hv k hk
      · rw [e]; intro e2; have := hvlt hk; have := Option.some.inj e2; omega
  · rcases old h1 with ⟨h3, hl3⟩ | ⟨ei, rfl⟩
    · rcases old h2 with ⟨h4, _⟩ | ⟨_, rfl⟩
      · exact h.apart i j y z h3 h4 hij k hk
      · exact ho i y h3 k hk
    · rcases old h2 with ⟨h4, _⟩ | ⟨ej, _⟩
      · intro e; exact ho j z h4 k e hk
      · omega

end Go.Proofs.Ythlbokfajiahpaa

/- Boxes in memory of their own: what leaves them as they are. -/
namespace Go.Proofs.Ythlbokfajiahpaa
open Go.RowKit

/-- What leaves the boxes' and the mails' blocks alone leaves them as they are. -/
theorem StO.shift {B : Nat} {w w' : World} {v : Value} {bs : List Bx} {hs : List BxH} {r : Option Nat} (h : StO B w v bs hs) (hg : w.grownBy w' r) (h1 : ∀ k, r = some k → v.ownBlock ≠ some k ∧ ∀ (j : Nat) (x : BxH), hs[j]? = some x → x.mv.ownBlock ≠ some k) : StO B w' v bs hs := by
  have sh : ∀ {α : Type} {E : Enc α} {m : Value} {l : List α}, RBuf E B w w m l → (∀ k, r = some k → m.ownBlock ≠ some k) → RBuf E B w' w' m l := fun {α E m l} hm hf => by
    refine hm.shift hg ?_
    cases hb : m.ownBlock with
    | none => exact .inl rfl
    | some k => exact .inr (fun e => hf k e.symm hb)
  exact ⟨sh h.row (fun k hk => (h1 k hk).1), h.len, fun j x b e1 e2 => ⟨(h.at' j x b e1 e2).1, sh (h.at' j x b e1 e2).2 (fun k hk => (h1 k hk).2 j x e1)⟩, h.far, h.apart⟩
/-- Where they lie: from B on, and below the heap's end. -/
theorem StO.where' {B : Nat} {w : World} {v : Value} {bs : List Bx} {hs : List BxH} (h : StO B w v bs hs) : (∀ k, v.ownBlock = some k → B ≤ k ∧ k < w.heap.size) ∧ ∀ (j : Nat) (x : BxH), hs[j]? = some x → ∀ k, x.mv.ownBlock = some k → B ≤ k ∧ k < w.heap.size := by
  refine ⟨fun k hk => h.row.own.lt k hk, fun j x hj k hk => ?_⟩
  have hl : j < hs.length := (List.getElem?_eq_some_iff.1 hj).1
  have hb : bs[j]? = some (bs[j]'(by rw [← h.len]; exact hl)) := List.getElem?_eq_getElem _
  exact (h.at' j x _ hj hb).2.own.lt k hk
/-- What is written from B' on, above them, leaves them. -/
theorem StO.under {B C : Nat} {w w' : World} {v : Value} {bs : List Bx} {hs : List BxH} (h : StO B w v bs hs) (hb : Below C w w') (h1 : ∀ k, v.ownBlock = some k → k < C) (h2 : ∀ (j : Nat) (x : BxH), hs[j]? = some x → ∀ k, x.mv.ownBlock = some k → k < C) : StO B w' v bs hs := by
  have sh : ∀ {α : Type} {E : Enc α} {m : Value} {l : List α}, RBuf E B w w m l → (∀ k, m.ownBlock = some k → k < C) → RBuf E B w' w' m l := fun {α E m l} hm hf => by
    refine ⟨⟨hm.own.1, ?_⟩, Below.refl _ _, Nat.le_trans hm.le hb.size⟩
    rcases hm.own.2 with e | ⟨g, cap, cur, rfl, hg, hh, hrest⟩
    · exact .inl e
    · exact .inr ⟨g, cap, cur, rfl, hg, (hb.block g (hf g rfl)).trans hh, hrest⟩
  exact ⟨sh h.row h1, h.len, fun j x b e1 e2 => ⟨(h.at' j x b e1 e2).1, sh (h.at' j x b e1 e2).2 (h2 j x e1)⟩, h.far, h.apart⟩
theorem StO.lower {B B0 : Nat} {w : World} {v : Value} {bs : List Bx} {hs : List BxH} (h : StO B w v bs hs) (hB : B0 ≤ B) : StO B0 w v bs hs :=
  ⟨h.row.lower hB, h.len, fun j x b h1 h2 => ⟨(h.at' j x b h1 h2).1, (h.at' j x b h1 h2).2.lower hB⟩, h.far, h.apart⟩

end Go.Proofs.Ythlbokfajiahpaa
