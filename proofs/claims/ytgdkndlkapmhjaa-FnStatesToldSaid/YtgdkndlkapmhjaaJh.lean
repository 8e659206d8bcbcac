/- Texts of our own, joined. -/
import Derived.Test.YtgdkndlkapmhjaaJg
import Derived.Test.YtgdkndlkapmhjaaJe
import Derived.Test.YtgdkndlkapmhjaaJa
import Derived.Maps.AppendAt
import Derived.Lib.Hide
/- What is drawn for the chapters on what records tell and on what is needed: any items, and which of them go. -/
namespace Go.Proofs.Ytgdkndlkapmhjaa
open Go.RowKit

def Rc.tame (r : Rc) : Prop := r.slim ∧ 0 ≤ r.valid ∧ r.valid ≤ 10000
theorem Rc.ok_tame {r : Rc} (h : r.ok ∧ r.slim) : r.tame := ⟨h.2, by have := h.1.2.1; omega, by have := h.1.2.1; omega⟩

set_option maxRecDepth 100000 in
set_option maxHeartbeats 1000000 in
theorem recTame_any (pc : Nat) (a : Option Addr) (len cap : Nat) (w : World) (hc : Cur w pc a len cap) :
    Calls Try.prog 42 #[.pointer (some ⟨pc, 0, none⟩)] w fun e w' => RcR Rc.tame pc a len cap w e w' := by
  have hx := Box.new w #[.int .i64 0, .int .i64 0, .int .i64 0, .int .i64 0, .int .i64 0, .string ⟨#[]⟩, .string ⟨#[]⟩, .string ⟨#[]⟩] 47
  have hg0 : w.grownBy (w.alloc (.cells #[.int .i64 0, .int .i64 0, .int .i64 0, .int .i64 0, .int .i64 0, .string ⟨#[]⟩, .string ⟨#[]⟩, .string ⟨#[]⟩] 47)) (some pc) := World.grownBy_alloc _ _ _
  have hc0 := hc.alloc (.cells #[.int .i64 0, .int .i64 0, .int .i64 0, .int .i64 0, .int .i64 0, .string ⟨#[]⟩, .string ⟨#[]⟩, .string ⟨#[]⟩] 47)
  have hpc := hc.lt
  have hz0 : w.heap.size < (w.alloc (.cells #[.int .i64 0, .int .i64 0, .int .i64 0, .int .i64 0, .int .i64 0, .string ⟨#[]⟩, .string ⟨#[]⟩, .string ⟨#[]⟩] 47)).heap.size := by simp
  go_enter Try.func42, Try.ntmps42
  go_wp2_with fail
  generalize w.alloc (.cells #[.int .i64 0, .int .i64 0, .int .i64 0, .int .i64 0, .int .i64 0, .string ⟨#[]⟩, .string ⟨#[]⟩, .string ⟨#[]⟩] 47) = W at *
  refine (below_any 14 pc a len cap _ hc0 (by omega)).mono ?_
  rintro e w1 ⟨k, hk, _, rfl, hc1, hg1⟩
  go_wp2_with fail
  refine (below_any 60 pc a len cap _ hc1 (by omega)).mono ?_
  rintro e w2 ⟨x, hxx, _, rfl, hc2, hg2⟩
  have hx60 := hxx (by omega)
  go_wp2_with fail
  refine (recDrawn_any pc a len cap _ hc2).mono ?_
  rintro e w3 ⟨r, ⟨hok, hsl⟩, rfl, hc3, hg3⟩
  have hz3 := (hg1.trans (hg2.trans hg3)).size
  have I : RcI pc a len cap w w3.heap.size #[.int .i64 r.kind, .int .i64 r.valid, .int .i64 r.uid, .int .i64 r.next, .int .i64 r.flags, .string r.user, .string r.name, .string r.text] (w3.alloc (.cells #[.int .i64 r.kind, .int .i64 r.valid, .int .i64 r.uid, .int .i64 r.next, .int .i64 r.flags, .string r.user, .string r.name, .string r.text] 47)) :=
    ⟨hc3.alloc _, (hg0.trans (hg1.trans (hg2.trans hg3))).trans (World.grownBy_alloc _ _ _), (hx.cur (hg1.trans (hg2.trans hg3)) (by omega)).later (belNew _ _), Box.new w3 _ _, by omega, by omega, hpc⟩
  have HC := Lib.hid hc
  have HS := Lib.hid hsl
  have HV : Hid (0 ≤ r.valid ∧ r.valid ≤ 10000) := by have h9 := hok.2.1; exact ⟨by omega, by omega⟩
  clear hok hk hxx hx hg0 hg1 hg2 hg3 hc0 hc1 hc2 hc3 hz0 hc hsl
  unfold Rc.v
  go_upto_region 4 with fail
  generalize w3.alloc (.cells #[.int .i64 r.kind, .int .i64 r.valid, .int .i64 r.uid, .int .i64 r.next, .int .i64 r.flags, .string r.user, .string r.name, .string r.text] 47) = X at I ⊢
  generalize w3.heap.size = b at I ⊢
  clear hz3
  obtain ⟨y0, y1, y2, y3, y4, y5, y6, y7, f0, f1, f2, f3, f4, f5, f6, f7⟩ := I.rcd.eight
  have hlt := I.lt
  have hneb : w.heap.size ≠ b := by omega
  have hneb' : b ≠ w.heap.size := by omega
  clear hlt
  rcases (show k = 0 ∨ k = 1 ∨ k = 2 ∨ k = 3 ∨ k = 4 ∨ k = 5 ∨ k = 6 ∨ (k ≠ 0 ∧ k ≠ 1 ∧ k ≠ 2 ∧ k ≠ 3 ∧ k ≠ 4 ∧ k ≠ 5 ∧ k ≠ 6) by omega) with rfl | rfl | rfl | rfl | rfl | rfl | rfl | ⟨n0, n1, n2, n3, n4, n5, n6⟩
  · go_upto_region 19 with fail
    replace I : RcI pc a len cap w b #[.int .i64 ((x : Int) % 7), .int .i64 r.valid, .int .i64 r.uid, .int .i64 r.next, .int .i64 r.flags, .string r.user, .string r.name, .string r.text] _ := I.put HC.out 0 (.int .i64 ((x : Int) % 7))
    generalize X.setCell ⟨b, 0, none⟩ (.int .i64 ((x : Int) % 7)) = X2 at I ⊢
    clear y0 y1 y2 y3 y4 y5 y6 y7 f0 f1 f2 f3 f4 f5 f6 f7
    obtain ⟨d0, d1, d2, d3, d4, d5, d6, d7, g0, g1, g2, g3, g4, g5, g6, g7⟩ := I.res.eight
    obtain ⟨p0, p1, p2, p3, p4, p5, p6, p7, _⟩ := I.rcd.eight
    obtain ⟨q0, q1, q2, q3, q4, q5, q6, q7, _⟩ := (I.res.set8 (.int .i64 ((x : Int) % 7)) (.int .i64 r.valid) (.int .i64 r.uid) (.int .i64 r.next) (.int .i64 r.flags) (.string r.user) (.string r.name) (.string r.text)).eight
    unfold set8 at q0 q1 q2 q3 q4 q5 q6 q7
    have HF : Hid (Cur (set8 X2 w.heap.size (.int .i64 ((x : Int) % 7)) (.int .i64 r.valid) (.int .i64 r.uid) (.int .i64 r.next) (.int .i64 r.flags) (.string r.user) (.string r.name) (.string r.text)) pc a len cap ∧ w.grownBy (set8 X2 w.heap.size (.int .i64 ((x : Int) % 7)) (.int .i64 r.valid) (.int .i64 r.uid) (.int .i64 r.next) (.int .i64 r.flags) (.string r.user) (.string r.name) (.string r.text)) (some pc)) := ⟨I.cur.new8 HC.out (Nat.le_refl _) _ _ _ _ _ _ _ _, grownBy_new8 I.grown (Nat.le_refl _) _ _ _ _ _ _ _ _⟩
    clear I
    go_wp2
    refine bodyPost_ret (v := Rc.v ⟨((x : Int) % 7), r.valid, r.uid, r.next, r.flags, r.user, r.name, r.text⟩) (by simp [results, Try.results42, go_sem, q0, q1, q2, q3, q4, q5, q6, q7, Rc.v]) rfl ?_
    exact ⟨⟨((x : Int) % 7), r.valid, r.uid, r.next, r.flags, r.user, r.name, r.text⟩, ⟨HS.out, HV.out⟩, rfl, HF.out.1, HF.out.2⟩
  · obtain ⟨i, hxi⟩ : ∃ i : Nat, x % 3 = i := ⟨_, rfl⟩
    have hi : i < 3 := by omega
    have hxm : (x : Int) % 3 = (i : Int) := by omega
    have hi2 : (i : Int) < 3 := by omega
    have hcl := ints_cell' X [0, 9999, 10000] 3 i hi
    simp only [List.map_cons, List.map_nil] at hcl
    have hyb : 0 ≤ ([0, 9999, 10000] : List Int)[i]'hi ∧ ([0, 9999, 10000] : List Int)[i]'hi ≤ 10000 := by
      rcases (show i = 0 ∨ i = 1 ∨ i = 2 by omega) with rfl | rfl | rfl <;> simp
    generalize ([0, 9999, 10000] : List Int)[i]'hi = yv at hcl hyb
    have HYB := Lib.hid hyb
    clear hyb
    clear hxi
    replace I := I.later (belNew X (.cells #[.int .i64 0, .int .i64 9999, .int .i64 10000] 3))
    clear y0 y1 y2 y3 y4 y5 y6 y7 f0 f1 f2 f3 f4 f5 f6 f7
    obtain ⟨y0, y1, y2, y3, y4, y5, y6, y7, f0, f1, f2, f3, f4, f5, f6, f7⟩ := I.rcd.eight
    go_upto_region 19 with fail
    replace I : RcI pc a len cap w b #[.int .i64 r.kind, .int .i64 yv, .int .i64 r.uid, .int .i64 r.next, .int .i64 r.flags, .string r.user, .string r.name, .string r.text] _ := I.put HC.out 1 (.int .i64 yv)
    generalize (X.alloc (.cells #[.int .i64 0, .int .i64 9999, .int .i64 10000] 3)).setCell ⟨b, 1, none⟩ (.int .i64 yv) = X2 at I ⊢
    clear y0 y1 y2 y3 y4 y5 y6 y7 f0 f1 f2 f3 f4 f5 f6 f7
    obtain ⟨d0, d1, d2, d3, d4, d5, d6, d7, g0, g1, g2, g3, g4, g5, g6, g7⟩ := I.res.eight
    obtain ⟨p0, p1, p2, p3, p4, p5, p6, p7, _⟩ := I.rcd.eight
    obtain ⟨q0, q1, q2, q3, q4, q5, q6, q7, _⟩ := (I.res.set8 (.int .i64 r.kind) (.int .i64 yv) (.int .i64 r.uid) (.int .i64 r.next) (.int .i64 r.flags) (.string r.user) (.string r.name) (.string r.text)).eight
    unfold set8 at q0 q1 q2 q3 q4 q5 q6 q7
    have HF : Hid (Cur (set8 X2 w.heap.size (.int .i64 r.kind) (.int .i64 yv) (.int .i64 r.uid) (.int .i64 r.next) (.int .i64 r.flags) (.string r.user) (.string r.name) (.string r.text)) pc a len cap ∧ w.grownBy (set8 X2 w.heap.size (.int .i64 r.kind) (.int .i64 yv) (.int .i64 r.uid) (.int .i64 r.next) (.int .i64 r.flags) (.string r.user) (.string r.name) (.string r.text)) (some pc)) := ⟨I.cur.new8 HC.out (Nat.le_refl _) _ _ _ _ _ _ _ _, grownBy_new8 I.grown (Nat.le_refl _) _ _ _ _ _ _ _ _⟩
    clear I
    go_wp2
    refine bodyPost_ret (v := Rc.v ⟨r.kind, yv, r.uid, r.next, r.flags, r.user, r.name, r.text⟩) (by simp [results, Try.results42, go_sem, q0, q1, q2, q3, q4, q5, q6, q7, Rc.v]) rfl ?_
    exact ⟨⟨r.kind, yv, r.uid, r.next, r.flags, r.user, r.name, r.text⟩, ⟨HS.out, HYB.out⟩, rfl, HF.out.1, HF.out.2⟩
  · obtain ⟨i, hxi⟩ : ∃ i : Nat, x % 4 = i := ⟨_, rfl⟩
    have hi : i < 4 := by omega
    have hxm : (x : Int) % 4 = (i : Int) := by omega
    have hi2 : (i : Int) < 4 := by omega
    have hcl := ints_cell' X [0, 9999, 10000, (-1)] 3 i hi
    simp only [List.map_cons, List.map_nil] at hcl
    generalize ([0, 9999, 10000, (-1)] : List Int)[i]'hi = yv at hcl
    clear hxi
    replace I := I.later (belNew X (.cells #[.int .i64 0, .int .i64 9999, .int .i64 10000, .int .i64 (-1)] 3))
    clear y0 y1 y2 y3 y4 y5 y6 y7 f0 f1 f2 f3 f4 f5 f6 f7
    obtain ⟨y0, y1, y2, y3, y4, y5, y6, y7, f0, f1, f2, f3, f4, f5, f6, f7⟩ := I.rcd.eight
    go_upto_region 19 with fail
    replace I : RcI pc a len cap w b #[.int .i64 r.kind, .int .i64 r.valid, .int .i64 yv, .int .i64 r.next, .int .i64 r.flags, .string r.user, .string r.name, .string r.text] _ := I.put HC.out 2 (.int .i64 yv)
    generalize (X.alloc (.cells #[.int .i64 0, .int .i64 9999, .int .i64 10000, .int .i64 (-1)] 3)).setCell ⟨b, 2, none⟩ (.int .i64 yv) = X2 at I ⊢
    clear y0 y1 y2 y3 y4 y5 y6 y7 f0 f1 f2 f3 f4 f5 f6 f7
    obtain ⟨d0, d1, d2, d3, d4, d5, d6, d7, g0, g1, g2, g3, g4, g5, g6, g7⟩ := I.res.eight
    obtain ⟨p0, p1, p2, p3, p4, p5, p6, p7, _⟩ := I.rcd.eight
    obtain ⟨q0, q1, q2, q3, q4, q5, q6, q7, _⟩ := (I.res.set8 (.int .i64 r.kind) (.int .i64 r.valid) (.int .i64 yv) (.int .i64 r.next) (.int .i64 r.flags) (.string r.user) (.string r.name) (.string r.text)).eight
    unfold set8 at q0 q1 q2 q3 q4 q5 q6 q7
    have HF : Hid (Cur (set8 X2 w.heap.size (.int .i64 r.kind) (.int .i64 r.valid) (.int .i64 yv) (.int .i64 r.next) (.int .i64 r.flags) (.string r.user) (.string r.name) (.string r.text)) pc a len cap ∧ w.grownBy (set8 X2 w.heap.size (.int .i64 r.kind) (.int .i64 r.valid) (.int .i64 yv) (.int .i64 r.next) (.int .i64 r.flags) (.string r.user) (.string r.name) (.string r.text)) (some pc)) := ⟨I.cur.new8 HC.out (Nat.le_refl _) _ _ _ _ _ _ _ _, grownBy_new8 I.grown (Nat.le_refl _) _ _ _ _ _ _ _ _⟩
    clear I
    go_wp2
    refine bodyPost_ret (v := Rc.v ⟨r.kind, r.valid, yv, r.next, r.flags, r.user, r.name, r.text⟩) (by simp [results, Try.results42, go_sem, q0, q1, q2, q3, q4, q5, q6, q7, Rc.v]) rfl ?_
    exact ⟨⟨r.kind, r.valid, yv, r.next, r.flags, r.user, r.name, r.text⟩, ⟨HS.out, HV.out⟩, rfl, HF.out.1, HF.out.2⟩
  · go_upto_region 19 with fail
    replace I : RcI pc a len cap w b #[.int .i64 r.kind, .int .i64 r.valid, .int .i64 r.uid, .int .i64 r.next, .int .i64 ((x : Int) % 10 - 1), .string r.user, .string r.name, .string r.text] _ := I.put HC.out 4 (.int .i64 ((x : Int) % 10 - 1))
    generalize X.setCell ⟨b, 4, none⟩ (.int .i64 ((x : Int) % 10 - 1)) = X2 at I ⊢
    clear y0 y1 y2 y3 y4 y5 y6 y7 f0 f1 f2 f3 f4 f5 f6 f7
    obtain ⟨d0, d1, d2, d3, d4, d5, d6, d7, g0, g1, g2, g3, g4, g5, g6, g7⟩ := I.res.eight
    obtain ⟨p0, p1, p2, p3, p4, p5, p6, p7, _⟩ := I.rcd.eight
    obtain ⟨q0, q1, q2, q3, q4, q5, q6, q7, _⟩ := (I.res.set8 (.int .i64 r.kind) (.int .i64 r.valid) (.int .i64 r.uid) (.int .i64 r.next) (.int .i64 ((x : Int) % 10 - 1)) (.string r.user) (.string r.name) (.string r.text)).eight
    unfold set8 at q0 q1 q2 q3 q4 q5 q6 q7
    have HF : Hid (Cur (set8 X2 w.heap.size (.int .i64 r.kind) (.int .i64 r.valid) (.int .i64 r.uid) (.int .i64 r.next) (.int .i64 ((x : Int) % 10 - 1)) (.string r.user) (.string r.name) (.string r.text)) pc a len cap ∧ w.grownBy (set8 X2 w.heap.size (.int .i64 r.kind) (.int .i64 r.valid) (.int .i64 r.uid) (.int .i64 r.next) (.int .i64 ((x : Int) % 10 - 1)) (.string r.user) (.string r.name) (.string r.text)) (some pc)) := ⟨I.cur.new8 HC.out (Nat.le_refl _) _ _ _ _ _ _ _ _, grownBy_new8 I.grown (Nat.le_refl _) _ _ _ _ _ _ _ _⟩
    clear I
    go_wp2
    refine bodyPost_ret (v := Rc.v ⟨r.kind, r.valid, r.uid, r.next, ((x : Int) % 10 - 1), r.user, r.name, r.text⟩) (by simp [results, Try.results42, go_sem, q0, q1, q2, q3, q4, q5, q6, q7, Rc.v]) rfl ?_
    exact ⟨⟨r.kind, r.valid, r.uid, r.next, ((x : Int) % 10 - 1), r.user, r.name, r.text⟩, ⟨HS.out, HV.out⟩, rfl, HF.out.1, HF.out.2⟩
  · obtain ⟨i, hxi⟩ : ∃ i : Nat, x % 3 = i := ⟨_, rfl⟩
    have hi : i < 3 := by omega
    have hxm : (x : Int) % 3 = (i : Int) := by omega
    have hi2 : (i : Int) < 3 := by omega
    have hcl := strs_cell' X [⟨#[]⟩, ⟨#[65]⟩, ⟨#[110, 105, 110, 101, 98, 121, 116, 101, 115]⟩] 9 i hi
    simp only [List.map_cons, List.map_nil] at hcl
    have HY : Hid ((([⟨#[]⟩, ⟨#[65]⟩, ⟨#[110, 105, 110, 101, 98, 121, 116, 101, 115]⟩] : List ByteArray)[i]'hi).size ≤ 200) := by
      have hall : ∀ y ∈ ([⟨#[]⟩, ⟨#[65]⟩, ⟨#[110, 105, 110, 101, 98, 121, 116, 101, 115]⟩] : List ByteArray), y.size ≤ 200 := by decide
      exact hall _ (List.getElem_mem _)
    generalize ([⟨#[]⟩, ⟨#[65]⟩, ⟨#[110, 105, 110, 101, 98, 121, 116, 101, 115]⟩] : List ByteArray)[i]'hi = yv at hcl HY
    clear hxi
    replace I := I.later (belNew X (.cells #[.string ⟨#[]⟩, .string ⟨#[65]⟩, .string ⟨#[110, 105, 110, 101, 98, 121, 116, 101, 115]⟩] 9))
    clear y0 y1 y2 y3 y4 y5 y6 y7 f0 f1 f2 f3 f4 f5 f6 f7
    obtain ⟨y0, y1, y2, y3, y4, y5, y6, y7, f0, f1, f2, f3, f4, f5, f6, f7⟩ := I.rcd.eight
    go_upto_region 19 with fail
    replace I : RcI pc a len cap w b #[.int .i64 r.kind, .int .i64 r.valid, .int .i64 r.uid, .int .i64 r.next, .int .i64 r.flags, .string yv, .string r.name, .string r.text] _ := I.put HC.out 5 (.string yv)
    generalize (X.alloc (.cells #[.string ⟨#[]⟩, .string ⟨#[65]⟩, .string ⟨#[110, 105, 110, 101, 98, 121, 116, 101, 115]⟩] 9)).setCell ⟨b, 5, none⟩ (.string yv) = X2 at I ⊢
    clear y0 y1 y2 y3 y4 y5 y6 y7 f0 f1 f2 f3 f4 f5 f6 f7
    obtain ⟨d0, d1, d2, d3, d4, d5, d6, d7, g0, g1, g2, g3, g4, g5, g6, g7⟩ := I.res.eight
    obtain ⟨p0, p1, p2, p3, p4, p5, p6, p7, _⟩ := I.rcd.eight
    obtain ⟨q0, q1, q2, q3, q4, q5, q6, q7, _⟩ := (I.res.set8 (.int .i64 r.kind) (.int .i64 r.valid) (.int .i64 r.uid) (.int .i64 r.next) (.int .i64 r.flags) (.string yv) (.string r.name) (.string r.text)).eight
    unfold set8 at q0 q1 q2 q3 q4 q5 q6 q7
    have HF : Hid (Cur (set8 X2 w.heap.size (.int .i64 r.kind) (.int .i64 r.valid) (.int .i64 r.uid) (.int .i64 r.next) (.int .i64 r.flags) (.string yv) (.string r.name) (.string r.text)) pc a len cap ∧ w.grownBy (set8 X2 w.heap.size (.int .i64 r.kind) (.int .i64 r.valid) (.int .i64 r.uid) (.int .i64 r.next) (.int .i64 r.flags) (.string yv) (.string r.name) (.string r.text)) (some pc)) := ⟨I.cur.new8 HC.out (Nat.le_refl _) _ _ _ _ _ _ _ _, grownBy_new8 I.grown (Nat.le_refl _) _ _ _ _ _ _ _ _⟩
    clear I
    go_wp2
    refine bodyPost_ret (v := Rc.v ⟨r.kind, r.valid, r.uid, r.next, r.flags, yv, r.name, r.text⟩) (by simp [results, Try.results42, go_sem, q0, q1, q2, q3, q4, q5, q6, q7, Rc.v]) rfl ?_
    exact ⟨⟨r.kind, r.valid, r.uid, r.next, r.flags, yv, r.name, r.text⟩, ⟨⟨HY.out, HS.out.2.1, HS.out.2.2⟩, HV.out⟩, rfl, HF.out.1, HF.out.2⟩
  · go_upto_region 19 with fail
    have hn2 : 100 + (x : Int) % 2 = ((100 + x % 2 : Nat) : Int) := by omega
    have hn3 : 100 + x % 2 ≤ 101 := by omega
    rw [hn2]
    refine (long_any (100 + x % 2) 97 _ (by omega)).mono ?_
    rintro e w5 ⟨rfl, k5⟩
    have HL : Hid ((⟨(List.replicate (100 + x % 2) 97).toArray⟩ : ByteArray).size ≤ 200) := by
      show _ ≤ _
      rw [← tl_len]; simp; omega
    generalize (⟨(List.replicate (100 + x % 2) 97).toArray⟩ : ByteArray) = tv at HL ⊢
    clear hn2 hn3
    replace I := I.later k5
    clear y0 y1 y2 y3 y4 y5 y6 y7 f0 f1 f2 f3 f4 f5 f6 f7
    obtain ⟨y0, y1, y2, y3, y4, y5, y6, y7, f0, f1, f2, f3, f4, f5, f6, f7⟩ := I.rcd.eight
    go_upto_region 19 with fail
    replace I : RcI pc a len cap w b #[.int .i64 r.kind, .int .i64 r.valid, .int .i64 r.uid, .int .i64 r.next, .int .i64 r.flags, .string r.user, .string r.name, .string tv] _ := I.put HC.out 7 (.string tv)
    generalize w5.setCell ⟨b, 7, none⟩ (.string tv) = X2 at I ⊢
    clear y0 y1 y2 y3 y4 y5 y6 y7 f0 f1 f2 f3 f4 f5 f6 f7
    obtain ⟨d0, d1, d2, d3, d4, d5, d6, d7, g0, g1, g2, g3, g4, g5, g6, g7⟩ := I.res.eight
    obtain ⟨p0, p1, p2, p3, p4, p5, p6, p7, _⟩ := I.rcd.eight
    obtain ⟨q0, q1, q2, q3, q4, q5, q6, q7, _⟩ := (I.res.set8 (.int .i64 r.kind) (.int .i64 r.valid) (.int .i64 r.uid) (.int .i64 r.next) (.int .i64 r.flags) (.string r.user) (.string r.name) (.string tv)).eight
    unfold set8 at q0 q1 q2 q3 q4 q5 q6 q7
    have HF : Hid (Cur (set8 X2 w.heap.size (.int .i64 r.kind) (.int .i64 r.valid) (.int .i64 r.uid) (.int .i64 r.next) (.int .i64 r.flags) (.string r.user) (.string r.name) (.string tv)) pc a len cap ∧ w.grownBy (set8 X2 w.heap.size (.int .i64 r.kind) (.int .i64 r.valid) (.int .i64 r.uid) (.int .i64 r.next) (.int .i64 r.flags) (.string r.user) (.string r.name) (.string tv)) (some pc)) := ⟨I.cur.new8 HC.out (Nat.le_refl _) _ _ _ _ _ _ _ _, grownBy_new8 I.grown (Nat.le_refl _) _ _ _ _ _ _ _ _⟩
    clear I
    go_wp2
    refine bodyPost_ret (v := Rc.v ⟨r.kind, r.valid, r.uid, r.next, r.flags, r.user, r.name, tv⟩) (by simp [results, Try.results42, go_sem, q0, q1, q2, q3, q4, q5, q6, q7, Rc.v]) rfl ?_
    exact ⟨⟨r.kind, r.valid, r.uid, r.next, r.flags, r.user, r.name, tv⟩, ⟨⟨HS.out.1, HS.out.2.1, HL.out⟩, HV.out⟩, rfl, HF.out.1, HF.out.2⟩
  · go_upto_region 19 with fail
    replace I : RcI pc a len cap w b #[.int .i64 r.kind, .int .i64 r.valid, .int .i64 r.uid, .int .i64 ((x : Int) % 4), .int .i64 r.flags, .string r.user, .string r.name, .string r.text] _ := I.put HC.out 3 (.int .i64 ((x : Int) % 4))
    generalize X.setCell ⟨b, 3, none⟩ (.int .i64 ((x : Int) % 4)) = X2 at I ⊢
    clear y0 y1 y2 y3 y4 y5 y6 y7 f0 f1 f2 f3 f4 f5 f6 f7
    obtain ⟨d0, d1, d2, d3, d4, d5, d6, d7, g0, g1, g2, g3, g4, g5, g6, g7⟩ := I.res.eight
    obtain ⟨p0, p1, p2, p3, p4, p5, p6, p7, _⟩ := I.rcd.eight
    obtain ⟨q0, q1, q2, q3, q4, q5, q6, q7, _⟩ := (I.res.set8 (.int .i64 r.kind) (.int .i64 r.valid) (.int .i64 r.uid) (.int .i64 ((x : Int) % 4)) (.int .i64 r.flags) (.string r.user) (.string r.name) (.string r.text)).eight
    unfold set8 at q0 q1 q2 q3 q4 q5 q6 q7
    have HF : Hid (Cur (set8 X2 w.heap.size (.int .i64 r.kind) (.int .i64 r.valid) (.int .i64 r.uid) (.int .i64 ((x : Int) % 4)) (.int .i64 r.flags) (.string r.user) (.string r.name) (.string r.text)) pc a len cap ∧ w.grownBy (set8 X2 w.heap.size (.int .i64 r.kind) (.int .i64 r.valid) (.int .i64 r.uid) (.int .i64 ((x : Int) % 4)) (.int .i64 r.flags) (.string r.user) (.string r.name) (.string r.text)) (some pc)) := ⟨I.cur.new8 HC.out (Nat.le_refl _) _ _ _ _ _ _ _ _, grownBy_new8 I.grown (Nat.le_refl _) _ _ _ _ _ _ _ _⟩
    clear I
    go_wp2
    refine bodyPost_ret (v := Rc.v ⟨r.kind, r.valid, r.uid, ((x : Int) % 4), r.flags, r.user, r.name, r.text⟩) (by simp [results, Try.results42, go_sem, q0, q1, q2, q3, q4, q5, q6, q7, Rc.v]) rfl ?_
    exact ⟨⟨r.kind, r.valid, r.uid, ((x : Int) % 4), r.flags, r.user, r.name, r.text⟩, ⟨HS.out, HV.out⟩, rfl, HF.out.1, HF.out.2⟩
  · have m0 : ((k : Int) == 0) = false := beq_eq_false_iff_ne.2 (by omega)
    have m1 : ((k : Int) == 1) = false := beq_eq_false_iff_ne.2 (by omega)
    have m2 : ((k : Int) == 2) = false := beq_eq_false_iff_ne.2 (by omega)
    have m3 : ((k : Int) == 3) = false := beq_eq_false_iff_ne.2 (by omega)
    have m4 : ((k : Int) == 4) = false := beq_eq_false_iff_ne.2 (by omega)
    have m5 : ((k : Int) == 5) = false := beq_eq_false_iff_ne.2 (by omega)
    have m6 : ((k : Int) == 6) = false := beq_eq_false_iff_ne.2 (by omega)
    go_upto_region 19 with fail
    clear y0 y1 y2 y3 y4 y5 y6 y7 f0 f1 f2 f3 f4 f5 f6 f7
    obtain ⟨d0, d1, d2, d3, d4, d5, d6, d7, g0, g1, g2, g3, g4, g5, g6, g7⟩ := I.res.eight
    obtain ⟨p0, p1, p2, p3, p4, p5, p6, p7, _⟩ := I.rcd.eight
    obtain ⟨q0, q1, q2, q3, q4, q5, q6, q7, _⟩ := (I.res.set8 (.int .i64 r.kind) (.int .i64 r.valid) (.int .i64 r.uid) (.int .i64 r.next) (.int .i64 r.flags) (.string r.user) (.string r.name) (.string r.text)).eight
    unfold set8 at q0 q1 q2 q3 q4 q5 q6 q7
    have HF : Hid (Cur (set8 X w.heap.size (.int .i64 r.kind) (.int .i64 r.valid) (.int .i64 r.uid) (.int .i64 r.next) (.int .i64 r.flags) (.string r.user) (.string r.name) (.string r.text)) pc a len cap ∧ w.grownBy (set8 X w.heap.size (.int .i64 r.kind) (.int .i64 r.valid) (.int .i64 r.uid) (.int .i64 r.next) (.int .i64 r.flags) (.string r.user) (.string r.name) (.string r.text)) (some pc)) := ⟨I.cur.new8 HC.out (Nat.le_refl _) _ _ _ _ _ _ _ _, grownBy_new8 I.grown (Nat.le_refl _) _ _ _ _ _ _ _ _⟩
    clear I
    go_wp2
    refine bodyPost_ret (v := Rc.v ⟨r.kind, r.valid, r.uid, r.next, r.flags, r.user, r.name, r.text⟩) (by simp [results, Try.results42, go_sem, q0, q1, q2, q3, q4, q5, q6, q7, Rc.v]) rfl ?_
    exact ⟨⟨r.kind, r.valid, r.uid, r.next, r.flags, r.user, r.name, r.text⟩, ⟨HS.out, HV.out⟩, rfl, HF.out.1, HF.out.2⟩

def sliceLen (v : Value) : Nat := match v with
  | .slice _ n _ => n
  | _ => 0
/-- Items of whatever make that are drawn. -/
def ItsA (n : Nat) (l : List Itm) : Prop := l.length ≤ n ∧ ∀ x ∈ l, x.2.tame
theorem ItsD.any {l : List Itm} (h : ItsD l) : ItsA 23 l := ⟨h.2.1, fun x hx => ⟨h.2.2.1 x hx, by have := (h.1.1 x hx).2.2.1; omega, by have := (h.1.1 x hx).2.2.1; omega⟩⟩
theorem ItsA.push {n : Nat} {l : List Itm} (h : ItsA n l) {x : Itm} (hx : x.2.tame) : ItsA (n + 1) (l ++ [x]) := ⟨by have := h.1; simp; omega, fun y hy => by
  rcases List.mem_append.1 hy with h1 | h1
  · exact h.2 y h1
  · simp at h1; rw [h1]; exact hx⟩
theorem ItsA.mono {n m : Nat} {l : List Itm} (h : ItsA n l) (hm : n ≤ m) : ItsA m l := ⟨Nat.le_trans h.1 hm, h.2⟩
theorem tame7 : Rc.tame ⟨2, 7, 0, 0, 0, ⟨#[]⟩, ⟨#[]⟩, ⟨#[]⟩⟩ := by
  refine ⟨⟨?_, ?_, ?_⟩, ?_, ?_⟩ <;> decide

set_option maxRecDepth 100000 in
set_option maxHeartbeats 4000000 in
theorem itemsAny_any (pc : Nat) (a : Option Addr) (len cap : Nat) (w : World) (hc : Cur w pc a len cap) :
    Calls Try.prog 17 #[.pointer (some ⟨pc, 0, none⟩)] w fun e w' => ∃ (l : List Itm) (v : Value), ItsA 300 l ∧ e = .returned v ∧ RBuf itE w.heap.size w' w' v l ∧ Cur w' pc a len cap ∧ w.grownBy w' (some pc) := by
  have hpc := hc.lt
  have hcl := Lib.hid hc.codeLt
  go_enter Try.func17, Try.ntmps17
  go_wp2_with fail
  refine (below_any 14 pc a len cap _ hc (by omega)).mono ?_
  rintro e w1 ⟨k, hk, _, rfl, hc1, hg1⟩
  have hk2 := hk (by omega)
  clear hk
  go_wp2_with fail
  refine (below_any 60 pc a len cap _ hc1 (by omega)).mono ?_
  rintro e w2 ⟨x, hx, _, rfl, hc2, hg2⟩
  have hx2 := hx (by omega)
  clear hx
  have g2 := hg1.trans hg2
  have hz2 : w.heap.size ≤ w2.heap.size := g2.size
  have hs2 : RBuf itE w2.heap.size w2 (w2.alloc (.cells #[] 49)) (.slice (some ⟨w2.heap.size, 0, none⟩) 0 0) [] := RBuf.fresh itE w2
  have hc3 := hc2.alloc (.cells #[] 49)
  have g3 := g2.trans (World.grownBy_alloc w2 (.cells #[] 49) (some pc))
  have hpc2 : pc < w2.heap.size := by omega
  clear hc hc1 hc2 hg1 hg2 g2
  go_upto_region 3 with fail
  go_cut [5] (fun v wx => ∃ (y : World) (l : List Itm), y = wx ∧ ItsD l ∧ RBuf itE w.heap.size y y v l ∧ Cur y pc a len cap ∧ w.grownBy y (some pc))
  case first =>
    go_wp2_with fail
    refine (items_any pc a len cap _ hc3).mono ?_
    rintro e w4 ⟨l, v4, hl, rfl, R4, _, hc4, hg4⟩
    have E4 := hs2.here.cursor hg4 hpc2
    have g4 := g3.trans hg4
    obtain ⟨a4, c4, rfl⟩ := R4.form
    have HE := Lib.hid E4
    have HM := Lib.hid R4.rows
    have HD := Lib.hid hl
    have hll := hl.2.1
    clear hl hs2 hc3 g3 hg4 E4 R4
    go_wp2_with (at_builtin; refine wpList_append_rd rfl _ _ itE rfl w2.heap.size _ [] rfl HE.out _ l rfl HM.out (by show _ * 97 ≤ _; simp only [List.length_nil]; omega) ?_; intro v5 w5 r5 g5 _)
    rw [List.nil_append] at r5
    have b5 : Below w.heap.size w4 w5 := (Below.refl _ _).grown g5 (by have := g4.size; omega) (fun q hq => by have h9 : w2.heap.size = q := Option.some.inj hq; omega)
    go_meet
    exact ⟨_, l, rfl, HD.out, r5.lower hz2, hc4.below b5 hpc hcl.out, grownBy_below g4 b5 (Nat.le_refl _)⟩
  case rest =>
  obtain ⟨w5, l, hw5, hl, R5, hc5, g5⟩ := hcut
  subst hw5
  have HD := Lib.hid hl.any
  have hll := hl.any.1
  clear hl hs2 hc3 g3
  obtain ⟨a5, c5, rfl⟩ := R5.form
  have HL5 : Hid (l.length ≤ 23) := hll
  rcases (show k = 0 ∨ k = 1 ∨ k = 2 ∨ k = 3 ∨ (k ≠ 0 ∧ k ≠ 1 ∧ k ≠ 2 ∧ k ≠ 3) by omega) with rfl | rfl | rfl | rfl | ⟨n0, n1, n2, n3⟩
  · skip
    go_wp2_with fail
    refine (recDrawn_any pc a len cap _ hc5).mono ?_
    rintro e w6 ⟨r, hr, rfl, hc6, hg6⟩
    have HRr := Lib.hid hr
    have g6 := g5.trans hg6
    have R6 := R5.cursor hg6 hpc
    have hb7 := Lib.hid (R6.alloc (.cells #[.int .i64 2, .int .i64 r.kind, .int .i64 r.valid, .int .i64 r.uid, .int .i64 r.next, .int .i64 r.flags, .string r.user, .string r.name, .string r.text] 49))
    have hL7 := Lib.hid (RBuf.lit1 itE w6 ((2, r) : Itm))
    have hc7 := hc6.alloc (.cells #[.int .i64 2, .int .i64 r.kind, .int .i64 r.valid, .int .i64 r.uid, .int .i64 r.next, .int .i64 r.flags, .string r.user, .string r.name, .string r.text] 49)
    have g7 := g6.trans (World.grownBy_alloc w6 (.cells #[.int .i64 2, .int .i64 r.kind, .int .i64 r.valid, .int .i64 r.uid, .int .i64 r.next, .int .i64 r.flags, .string r.user, .string r.name, .string r.text] 49) (some pc))
    have hle6 := R6.le
    clear hr hg6 hc5 R5 g5 hc6 g6
    unfold Rc.v
    go_wp2_with (at_builtin; refine wpList_append_rows rfl _ _ itE rfl w.heap.size _ l rfl hb7.out.here w6.heap.size _ [((2, r) : Itm)] rfl hL7.out (by show _ * 97 ≤ _; simp only [List.length_cons, List.length_nil]; omega) ?_; intro v8 w8 r8 g8 at8)
    go_ret
    have b8 : Below w.heap.size (w6.alloc (.cells #[.int .i64 2, .int .i64 r.kind, .int .i64 r.valid, .int .i64 r.uid, .int .i64 r.next, .int .i64 r.flags, .string r.user, .string r.name, .string r.text] 49)) w8 := (Below.refl _ _).grown g8 (by simp; omega) (fun q hq => (R6.own.lt q hq).1)
    exact ⟨l ++ [(2, r)], v8, HD.out.push (Rc.ok_tame HRr.out) |>.mono (by omega), rfl, r8, hc7.below b8 hpc hcl.out, grownBy_below g7 b8 (Nat.le_refl _)⟩
  · skip
    go_wp2_with fail
    refine (recTame_any pc a len cap _ hc5).mono ?_
    rintro e w6 ⟨r, hr, rfl, hc6, hg6⟩
    have HRr := Lib.hid hr
    have g6 := g5.trans hg6
    have R6 := R5.cursor hg6 hpc
    have hb7 := Lib.hid (R6.alloc (.cells #[.int .i64 99, .int .i64 r.kind, .int .i64 r.valid, .int .i64 r.uid, .int .i64 r.next, .int .i64 r.flags, .string r.user, .string r.name, .string r.text] 49))
    have hL7 := Lib.hid (RBuf.lit1 itE w6 ((99, r) : Itm))
    have hc7 := hc6.alloc (.cells #[.int .i64 99, .int .i64 r.kind, .int .i64 r.valid, .int .i64 r.uid, .int .i64 r.next, .int .i64 r.flags, .string r.user, .string r.name, .string r.text] 49)
    have g7 := g6.trans (World.grownBy_alloc w6 (.cells #[.int .i64 99, .int .i64 r.kind, .int .i64 r.valid, .int .i64 r.uid, .int .i64 r.next, .int .i64 r.flags, .string r.user, .string r.name, .string r.text] 49) (some pc))
    have hle6 := R6.le
    clear hr hg6 hc5 R5 g5 hc6 g6
    unfold Rc.v
    go_wp2_with (at_builtin; refine wpList_append_rows rfl _ _ itE rfl w.heap.size _ l rfl hb7.out.here w6.heap.size _ [((99, r) : Itm)] rfl hL7.out (by show _ * 97 ≤ _; simp only [List.length_cons, List.length_nil]; omega) ?_; intro v8 w8 r8 g8 at8)
    go_ret
    have b8 : Below w.heap.size (w6.alloc (.cells #[.int .i64 99, .int .i64 r.kind, .int .i64 r.valid, .int .i64 r.uid, .int .i64 r.next, .int .i64 r.flags, .string r.user, .string r.name, .string r.text] 49)) w8 := (Below.refl _ _).grown g8 (by simp; omega) (fun q hq => (R6.own.lt q hq).1)
    exact ⟨l ++ [(99, r)], v8, HD.out.push HRr.out |>.mono (by omega), rfl, r8, hc7.below b8 hpc hcl.out, grownBy_below g7 b8 (Nat.le_refl _)⟩
  · skip
    go_wp2_with fail
    refine (recDrawn_any pc a len cap _ hc5).mono ?_
    rintro e w6 ⟨r, hr, rfl, hc6, hg6⟩
    have HRr := Lib.hid hr
    have g6 := g5.trans hg6
    have R6 := R5.cursor hg6 hpc
    have hb7 := Lib.hid (R6.alloc (.cells #[.int .i64 0, .int .i64 r.kind, .int .i64 r.valid, .int .i64 r.uid, .int .i64 r.next, .int .i64 r.flags, .string r.user, .string r.name, .string r.text] 49))
    have hL7 := Lib.hid (RBuf.lit1 itE w6 ((0, r) : Itm))
    have hc7 := hc6.alloc (.cells #[.int .i64 0, .int .i64 r.kind, .int .i64 r.valid, .int .i64 r.uid, .int .i64 r.next, .int .i64 r.flags, .string r.user, .string r.name, .string r.text] 49)
    have g7 := g6.trans (World.grownBy_alloc w6 (.cells #[.int .i64 0, .int .i64 r.kind, .int .i64 r.valid, .int .i64 r.uid, .int .i64 r.next, .int .i64 r.flags, .string r.user, .string r.name, .string r.text] 49) (some pc))
    have hle6 := R6.le
    clear hr hg6 hc5 R5 g5 hc6 g6
    unfold Rc.v
    go_wp2_with (at_builtin; refine wpList_append_rows rfl _ _ itE rfl w.heap.size _ l rfl hb7.out.here w6.heap.size _ [((0, r) : Itm)] rfl hL7.out (by show _ * 97 ≤ _; simp only [List.length_cons, List.length_nil]; omega) ?_; intro v8 w8 r8 g8 at8)
    go_ret
    have b8 : Below w.heap.size (w6.alloc (.cells #[.int .i64 0, .int .i64 r.kind, .int .i64 r.valid, .int .i64 r.uid, .int .i64 r.next, .int .i64 r.flags, .string r.user, .string r.name, .string r.text] 49)) w8 := (Below.refl _ _).grown g8 (by simp; omega) (fun q hq => (R6.own.lt q hq).1)
    exact ⟨l ++ [(0, r)], v8, HD.out.push (Rc.ok_tame HRr.out) |>.mono (by omega), rfl, r8, hc7.below b8 hpc hcl.out, grownBy_below g7 b8 (Nat.le_refl _)⟩
  · have hxm : (0 : Int) ≤ Int.tmod (x : Int) 3 ∧ Int.tmod (x : Int) 3 ≤ 2 := by rw [Int.tmod_eq_emod_of_nonneg (by omega)]; omega
    have hxe : Int.tmod (x : Int) 3 = (x : Int) % 3 := Int.tmod_eq_emod_of_nonneg (by omega)
    rw [show ((3 : Nat) : Int) = 3 from rfl]
    go_wp2
    go_loopw [5] (fun v wr => ∃ m : List Itm, ItsA 300 m ∧ m.length ≤ 201 ∧ RBuf itE w.heap.size wr wr v m ∧ Cur wr pc a len cap ∧ w.grownBy wr (some pc)) (fun v _ => 300 - sliceLen v)
    case atStart => exact ⟨l, HD.out.mono (by omega), by omega, R5, hc5, g5⟩
    case round =>
      clear R5 hc5 g5
      obtain ⟨m, hA, hm, R, hcr, hgr⟩ := hrel
      have HA := Lib.hid hA
      clear hA
      obtain ⟨am, cm, rfl⟩ := R.form
      by_cases hlt : (m.length : Int) < 199 + (x : Int) % 3
      · have hb7 := Lib.hid (R.alloc (.cells #[.int .i64 (100 + (m.length : Int)), .int .i64 2, .int .i64 7, .int .i64 0, .int .i64 0, .int .i64 0, .string ⟨#[]⟩, .string ⟨#[]⟩, .string ⟨#[]⟩] 49))
        have hL7 := Lib.hid (RBuf.lit1 itE wr ((100 + (m.length : Int), ⟨2, 7, 0, 0, 0, ⟨#[]⟩, ⟨#[]⟩, ⟨#[]⟩⟩) : Itm))
        have hc7 := hcr.alloc (.cells #[.int .i64 (100 + (m.length : Int)), .int .i64 2, .int .i64 7, .int .i64 0, .int .i64 0, .int .i64 0, .string ⟨#[]⟩, .string ⟨#[]⟩, .string ⟨#[]⟩] 49)
        have g7 := hgr.trans (World.grownBy_alloc wr (.cells #[.int .i64 (100 + (m.length : Int)), .int .i64 2, .int .i64 7, .int .i64 0, .int .i64 0, .int .i64 0, .string ⟨#[]⟩, .string ⟨#[]⟩, .string ⟨#[]⟩] 49) (some pc))
        have HR := Lib.hid R
        clear hcr hgr R
        go_wp2_with (at_builtin; refine wpList_append_rows rfl _ _ itE rfl w.heap.size _ m rfl hb7.out.here wr.heap.size _ [((100 + (m.length : Int), ⟨2, 7, 0, 0, 0, ⟨#[]⟩, ⟨#[]⟩, ⟨#[]⟩⟩) : Itm)] rfl hL7.out (by show _ * 97 ≤ _; simp only [List.length_cons, List.length_nil]; omega) ?_; intro v8 w8 r8 g8 at8)
        have b8 : Below w.heap.size (wr.alloc (.cells #[.int .i64 (100 + (m.length : Int)), .int .i64 2, .int .i64 7, .int .i64 0, .int .i64 0, .int .i64 0, .string ⟨#[]⟩, .string ⟨#[]⟩, .string ⟨#[]⟩] 49)) w8 := (Below.refl _ _).grown g8 (by have := HR.out.le; simp; omega) (fun q hq => (HR.out.own.lt q hq).1)
        obtain ⟨a8, c8, rfl⟩ := r8.form
        go_roundw
        case rel => exact ⟨m ++ ([(100 + (m.length : Int), ⟨2, 7, 0, 0, 0, ⟨#[]⟩, ⟨#[]⟩, ⟨#[]⟩⟩)] : List Itm), ⟨by simp; omega, (HA.out.push (x := (100 + (m.length : Int), ⟨2, 7, 0, 0, 0, ⟨#[]⟩, ⟨#[]⟩, ⟨#[]⟩⟩)) tame7).2⟩, by simp; omega, r8, hc7.below b8 hpc hcl.out, grownBy_below g7 b8 (Nat.le_refl _)⟩
        case measure => simp [sliceLen]; omega
      · go_wp2
        go_ret
        exact ⟨m, HA.out, _, rfl, R, hcr, hgr⟩
  · go_wp2
    go_ret
    exact ⟨l, _, HD.out.mono (by omega), rfl, R5, hc5, g5⟩

end Go.Proofs.Ytgdkndlkapmhjaa

/- How mails lie in memory. -/
namespace Go.Proofs.Ytgdkndlkapmhjaa
open Go.RowKit

def mlE : Enc Ml where
  ty := 65
  sty := 53
  sz := 3
  bytes := 32
  zero := .agg #[.int .i64 0, .int .i64 0, .string ⟨#[]⟩]
  f := fun x => [.int .i64 x.uid, .int .i64 x.flags, .string x.text]
  len := fun _ => rfl
  pos := by decide
  one := fun _ u hu => by simp at hu; rcases hu with rfl | rfl | rfl <;> rfl
  und := Try.underlying53
  info := by kernel_rfl
  zc := rfl
  z0 := ⟨0, 0, ⟨#[]⟩⟩
  zf := rfl

end Go.Proofs.Ytgdkndlkapmhjaa

/- How boxes lie in memory: a row of boxes, each with a row of mails of its own. -/
namespace Go.Proofs.Ytgdkndlkapmhjaa
open Go.RowKit

/-- A box as it lies in its row: its mails are a slice. -/
structure BxH where
  valid : Int
  user : ByteArray
  name : ByteArray
  next : Int
  a : Option Addr
  n : Nat
  c : Nat
def BxH.mv (h : BxH) : Value := .slice h.a h.n h.c

def hdE : Enc BxH where
  ty := 55
  sty := 26
  sz := 5
  bytes := 72
  zero := .agg #[.int .i64 0, .string ⟨#[]⟩, .string ⟨#[]⟩, .int .i64 0, .slice none 0 0]
  f := fun x => [.int .i64 x.valid, .string x.user, .string x.name, .int .i64 x.next, .slice x.a x.n x.c]
  len := fun _ => rfl
  pos := by decide
  one := fun _ u hu => by simp at hu; rcases hu with rfl | rfl | rfl | rfl | rfl <;> rfl
  und := Try.underlying26
  info := by kernel_rfl
  zc := rfl
  z0 := ⟨0, ⟨#[]⟩, ⟨#[]⟩, 0, none, 0, 0⟩
  zf := rfl

/-- Boxes in memory of their own (blocks from B on): the row, and the mails of each, all apart. -/
structure StO (B : Nat) (w : World) (v : Value) (bs : List Bx) (hs : List BxH) : Prop where
  row : RBuf hdE B w w v hs
  len : hs.length = bs.length
  at' : ∀ (j : Nat) (h : BxH) (b : Bx), hs[j]? = some h → bs[j]? = some b → (h.valid = b.valid ∧ h.user = b.user ∧ h.name = b.name ∧ h.next = b.next) ∧ RBuf mlE B w w h.mv b.mails
  far : ∀ (j : Nat) (h : BxH), hs[j]? = some h → ∀ k, h.mv.ownBlock = some k → v.ownBlock ≠ some k
  apart : ∀ (i j : Nat) (h h' : BxH), hs[i]? = some h → hs[j]? = some h' → i ≠ j → ∀ k, h.mv.ownBlock = some k → h'.mv.ownBlock ≠ some k

theorem RBuf.here' {α : Type} {E : Enc α} {B : Nat} {w0 w w' : World} {v : Value} {l : List α} (h : RBuf E B w0 w v l) (hb : Below w.heap.size w w') : RBuf E B w' w' v l := (h.later hb).here
theorem StO.later {B : Nat} {w w' : World} {v : Value} {bs : List Bx} {hs : List BxH} (h : StO B w v bs hs) (hb : Below w.heap.size w w') : StO B w' v bs hs :=
  ⟨h.row.here' hb, h.len, fun j x b h1 h2 => ⟨(h.at' j x b h1 h2).1, (h.at' j x b h1 h2).2.here' hb⟩, h.far, h.apart⟩
theorem StO.nil (w : World) : StO w.heap.size w (.slice none 0 0) [] [] :=
  ⟨RBuf.nil hdE w, rfl, fun j h b h1 => by simp at h1, fun j h h1 => by simp at h1, fun i j h h' h1 => by simp at h1⟩
/-- The mails of a box lie below the heap's end. -/
theorem StO.lt {B : Nat} {w : World} {v : Value} {bs : List Bx} {hs : List BxH} (h : StO B w v bs hs) {j : Nat} {x : BxH} (hj : hs[j]? = some x) {k : Nat} (hk : x.mv.ownBlock = some k) : k < w.heap.size := by
  have hl : j < hs.length := (List.getElem?_eq_some_iff.1 hj).1
  have hb : bs[j]? = some (bs[j]'(by rw [← h.len]; exact hl)) := List.getElem?_eq_getElem _
  exact ((h.at' j x _ hj hb).2.own.lt k hk).2

/-- One box more: it was appended, its mails lying in memory of their own. -/
theorem StO.push {B : Nat} {w w' : World} {v v' : Value} {bs : List Bx} {hs : List BxH} (h : StO B w v bs hs) (b : Bx) (x : BxH)
    (hx : x.valid = b.valid ∧ x.user = b.user ∧ x.name = b.name ∧ x.next = b.next) (hm : RBuf mlE B w w x.mv b.mails)
    (hv : ∀ k, x.mv.ownBlock = some k → v.ownBlock ≠ some k) (ho : ∀ (j : Nat) (y : BxH), hs[j]? = some y → ∀ k, y.mv.ownBlock = some k → x.mv.ownBlock ≠ some k)
    (hr : RBuf hdE B w' w' v' (hs ++ [x])) (hg : w.grownBy w' v.ownBlock) (ha : v'.ownBlock = v.ownBlock ∨ v'.ownBlock = some w.heap.size) : StO B w' v' (bs ++ [b]) (hs ++ [x]) := by
  have kept : ∀ (m : Value) (l : List Ml), RBuf mlE B w w m l → (∀ k, m.ownBlock = some k → v.ownBlock ≠ some k) → RBuf mlE B w' w' m l := fun m l hm hf => by
    refine hm.shift hg ?_
    cases hmb : m.ownBlock with
    | none => exact .inl rfl
    | some k => exact .inr (fun e => hf k hmb e.symm)
  have old : ∀ {j : Nat} {y : BxH}, (hs ++ [x])[j]? = some y → (hs[j]? = some y ∧ j < hs.length) ∨ (j = hs.length ∧ y = x) := fun {j y} hj => by
    by_cases c : j < hs.length
    · rw [List.getElem?_append_left c] at hj
      exact .inl ⟨hj, c⟩
    · rw [List.getElem?_append_right (by omega)] at hj
      have hj0 : j - hs.length = 0 := by
        have := (List.getElem?_eq_some_iff.1 hj).1
        simp at this; omega
      rw [hj0] at hj
      simp at hj
      exact .inr ⟨by omega, hj.symm⟩
  have hvlt : ∀ {k : Nat}, x.mv.ownBlock = some k → k < w.heap.size := fun {k} hk => (hm.own.lt k hk).2
  refine ⟨hr, by simp [h.len], fun j y c h1 h2 => ?_, fun j y h1 k hk => ?_, fun i j y z h1 h2 hij k hk => ?_⟩
  · rcases old h1 with ⟨h3, hl⟩ | ⟨rfl, rfl⟩
    · rw [List.getElem?_append_left (by rw [← h.len]; exact hl)] at h2
      exact ⟨(h.at' j y c h3 h2).1, kept _ _ (h.at' j y c h3 h2).2 (h.far j y h3)⟩
    · rw [List.getElem?_append_right (by rw [h.len]; omega), h.len] at h2
      simp at h2
      subst h2
      exact ⟨hx, kept _ _ hm hv⟩
  · rcases old h1 with ⟨h3, _⟩ | ⟨_, rfl⟩
    · rcases ha with e | e
      · rw [e]; exact h.far j y h3 k hk
      · rw [e]; intro e2; have := h.lt h3 hk; have := Option.some.inj e2; omega
    · rcases ha with e | e
      · rw [e]; exact hv k hk
      · rw [e]; intro e2; have := hvlt hk; have := Option.some.inj e2; omega
  · rcases old h1 with ⟨h3, hl3⟩ | ⟨ei, rfl⟩
    · rcases old h2 with ⟨h4, _⟩ | ⟨_, rfl⟩
      · exact h.apart i j y z h3 h4 hij k hk
      · exact ho i y h3 k hk
    · rcases old h2 with ⟨h4, _⟩ | ⟨ej, _⟩
      · intro e; exact ho j z h4 k e hk
      · omega

end Go.Proofs.Ytgdkndlkapmhjaa

/- Boxes in memory of their own: what leaves them as they are. -/
namespace Go.Proofs.Ytgdkndlkapmhjaa
open Go.RowKit

/-- What leaves the boxes' and the mails' blocks alone leaves them as they are. -/
theorem StO.shift {B : Nat} {w w' : World} {v : Value} {bs : List Bx} {hs : List BxH} {r : Option Nat} (h : StO B w v bs hs) (hg : w.grownBy w' r) (h1 : ∀ k, r = some k → v.ownBlock ≠ some k ∧ ∀ (j : Nat) (x : BxH), hs[j]? = some x → x.mv.ownBlock ≠ some k) : StO B w' v bs hs := by
  have sh : ∀ {α : Type} {E : Enc α} {m : Value} {l : List α}, RBuf E B w w m l → (∀ k, r = some k → m.ownBlock ≠ some k) → RBuf E B w' w' m l := fun {α E m l} hm hf => by
    refine hm.shift hg ?_
    cases hb : m.ownBlock with
    | none => exact .inl rfl
    | some k => exact .inr (fun e => hf k e.symm hb)
  exact ⟨sh h.row (fun k hk => (h1 k hk).1), h.len, fun j x b e1 e2 => ⟨(h.at' j x b e1 e2).1, sh (h.at' j x b e1 e2).2 (fun k hk => (h1 k hk).2 j x e1)⟩, h.far, h.apart⟩
/-- Where they lie: from B on, and below the heap's end. -/
theorem StO.where' {B : Nat} {w : World} {v : Value} {bs : List Bx} {hs : List BxH} (h : StO B w v bs hs) : (∀ k, v.ownBlock = some k → B ≤ k ∧ k < w.heap.size) ∧ ∀ (j : Nat) (x : BxH), hs[j]? = some x → ∀ k, x.mv.ownBlock = some k → B ≤ k ∧ k < w.heap.size := by
  refine ⟨fun k hk => h.row.own.lt k hk, fun j x hj k hk => ?_⟩
  have hl : j < hs.length := (List.getElem?_eq_some_iff.1 hj).1
  have hb : bs[j]? = some (bs[j]'(by rw [← h.len]; exact hl)) := List.getElem?_eq_getElem _
  exact (h.at' j x _ hj hb).2.own.lt k hk
/-- What is written from B' on, above them, leaves them. -/
theorem StO.under {B C : Nat} {w w' : World} {v : Value} {bs : List Bx} {hs : List BxH} (h : StO B w v bs hs) (hb : Below C w w') (h1 : ∀ k, v.ownBlock = some k → k < C) (h2 : ∀ (j : Nat) (x : BxH), hs[j]? = some x → ∀ k, x.mv.ownBlock = some k → k < C) : StO B w' v bs hs := by
  have sh : ∀ {α : Type} {E : Enc α} {m : Value} {l : List α}, RBuf E B w w m l → (∀ k, m.ownBlock = some k → k < C) → RBuf E B w' w' m l := fun {α E m l} hm hf => by
    refine ⟨⟨hm.own.1, ?_⟩, Below.refl _ _, Nat.le_trans hm.le hb.size⟩
    rcases hm.own.2 with e | ⟨g, cap, cur, rfl, hg, hh, hrest⟩
    · exact .inl e
    · exact .inr ⟨g, cap, cur, rfl, hg, (hb.block g (hf g rfl)).trans hh, hrest⟩
  exact ⟨sh h.row h1, h.len, fun j x b e1 e2 => ⟨(h.at' j x b e1 e2).1, sh (h.at' j x b e1 e2).2 (h2 j x e1)⟩, h.far, h.apart⟩
theorem StO.lower {B B0 : Nat} {w : World} {v : Value} {bs : List Bx} {hs : List BxH} (h : StO B w v bs hs) (hB : B0 ≤ B) : StO B0 w v bs hs :=
  ⟨h.row.lower hB, h.len, fun j x b h1 h2 => ⟨(h.at' j x b h1 h2).1, (h.at' j x b h1 h2).2.lower hB⟩, h.far, h.apart⟩

end Go.Proofs.Ytgdkndlkapmhjaa

/- What a list of numbers is that a call builds in memory of its own, and the laws by which it grows, is read and is written. -/
namespace Go.Proofs.Ytgdkndlkapmhjaa
open Go.RowKit

theorem Try.info_int : (Try.prog.info? 3).map (fun i => (i.zero, i.size, i.bytes)) = some (some (.int .i64 0), 1, 8) := by kernel_rfl

def intV (l : List Int) : List Value := l.map fun c => .int .i64 c
theorem intV_length (l : List Int) : (intV l).length = l.length := by simp [intV]

/-- The slice v holds the numbers l in memory that the call made itself (blocks from B on); below B all is as it was in w0. -/
structure IBuf (B : Nat) (w0 w : World) (v : Value) (l : List Int) : Prop where
  own : w.ownsRow B 3 1 v l.length (intV l)
  bel : Below B w0 w
  le : B ≤ w.heap.size

theorem IBuf.alloc {B : Nat} {w0 w : World} {v : Value} {l : List Int} (h : IBuf B w0 w v l) (o : Obj) : IBuf B w0 (w.alloc o) v l :=
  ⟨h.own.alloc o, h.bel.alloc h.le o, by have := h.le; simp; omega⟩
theorem IBuf.drew {B : Nat} {w0 w : World} {v : Value} {l : List Int} (h : IBuf B w0 w v l) : IBuf B w0 w.drew v l :=
  ⟨h.own.drew, h.bel.drew, h.le⟩
theorem IBuf.fresh (w : World) : IBuf w.heap.size w (w.alloc (.cells #[] 3)) (.slice (some ⟨w.heap.size, 0, none⟩) 0 0) [] :=
  ⟨World.ownsRow_made w #[] 0 (Nat.le_refl _) (by decide) rfl, (Below.refl _ _).alloc (Nat.le_refl _) _, by simp⟩

/-- What is laid behind the heap's end, and nothing else, leaves the numbers where they are. -/
theorem IBuf.later {B : Nat} {w0 w w' : World} {v : Value} {l : List Int} (h : IBuf B w0 w v l) (hb : Below w.heap.size w w') : IBuf B w0 w' v l := by
  have hg : w.grownBy w' none := ⟨hb.os, hb.tape, hb.output, hb.size, fun k hk _ => hb.block k hk⟩
  refine ⟨h.own.kept hg ?_, h.bel.trans (hb.mono h.le), Nat.le_trans h.le hb.size⟩
  cases hv : v.ownBlock with
  | none => exact .inl rfl
  | some k => exact .inr (by simp)

theorem wpList_append_int {w0 w : World} {ops : Array Oper} {rest : List Oper} {o : Oper} {a : Act} {Q : Exit → Act → World → Prop} (hgd : o.guard = none) (s x : Operand)
    (ho : o.op = .call { callee := .builtin .append, args := #[s, x], argTypes := #[66, 66] })
    (B : Nat) (v : Value) (l : List Int) (hs : a.eval s = v) (hb : IBuf B w0 w v l)
    (ad : Addr) (t : Int) (hx : a.eval x = .slice (some ad) 1 1)
    (hnews : ∀ j u, [Value.int .i64 t][j]? = some u → w.cell? (ad.add j) = some u)
    (hlen : l.length + 1 ≤ 8796093022208)
    (h : ∀ v' w', IBuf B w0 w' v' (l ++ [t]) → wpList Try.prog ops Q rest (a.put o.dst v') w') : wpList Try.prog ops Q (o :: rest) a w := by
  obtain ⟨i0, hi, hz0, hz1, hz2⟩ := info_parts Try.info_int
  refine wpList_append_own _ hgd s x 66 ho B 3 i0 (.int .i64 0) 1 8 Try.underlying66 hi hz0 hz1 hz2 rfl (by decide) v l.length (intV l) hs hb.own ad 1 1 [.int .i64 t] hx (by simp) hnews ?_ (by unfold maxLen; omega) (by omega) hb.le ?_
  · intro u hu
    simp at hu
    subst hu
    rfl
  · intro v' w' hown hgrow _
    refine h v' w' ⟨?_, hb.bel.grown hgrow hb.le (fun k hk => (hb.own.lt k hk).1), Nat.le_trans hb.le hgrow.size⟩
    have e1 : (l ++ [t]).length = l.length + 1 := by simp
    have e2 : intV (l ++ [t]) = intV l ++ [.int .i64 t] := by simp [intV]
    rw [e1, e2]
    exact hown

theorem IBuf.form {B : Nat} {w0 w : World} {v : Value} {l : List Int} (h : IBuf B w0 w v l) : ∃ (a : Option Addr) (cap : Nat), v = .slice a l.length cap := by
  rcases h.own.2 with ⟨rfl, h0⟩ | ⟨g, cap, cur, rfl, _⟩
  · exact ⟨none, 0, by rw [h0]⟩
  · exact ⟨_, _, rfl⟩

/-- Numbers that can be read: each in its cell of a row; nothing where there is none. -/
def Ints (w : World) (v : Value) (l : List Int) : Prop :=
  (l = [] ∧ ∃ (a : Option Addr) (cap : Nat), v = .slice a 0 cap) ∨
  ∃ g cap : Nat, v = .slice (some ⟨g, 0, none⟩) l.length cap ∧ l.length ≤ cap ∧ g < w.heap.size ∧ ∀ j b, l[j]? = some b → w.cell? ⟨g, j, none⟩ = some (.int .i64 b)

theorem IBuf.ints {B : Nat} {w0 w : World} {v : Value} {l : List Int} (h : IBuf B w0 w v l) : Ints w v l := by
  rcases h.own.2 with ⟨rfl, h0⟩ | ⟨g, cap, cur, rfl, hg, hh, hnc, hcp, hcs, htake⟩
  · exact .inl ⟨List.length_eq_zero_iff.1 h0, _, _, rfl⟩
  · refine .inr ⟨g, cap, rfl, hnc, (h.own.lt g rfl).2, fun j b hj => ?_⟩
    have hlt : j < l.length := (List.getElem?_eq_some_iff.1 hj).1
    rw [h.own.cellAt j (by omega)]
    simp [intV, hj]

theorem Ints.later {w w' : World} {v : Value} {l : List Int} (h : Ints w v l) (hb : Below w.heap.size w w') : Ints w' v l := by
  rcases h with h | ⟨g, cap, hv, hc, hg, hcl⟩
  · exact .inl h
  · exact .inr ⟨g, cap, hv, hc, Nat.lt_of_lt_of_le hg hb.size, fun j b hj => (hb.cell (p := ⟨g, j, none⟩) hg).trans (hcl j b hj)⟩

/-- A store into the row. -/
theorem IBuf.stored {B : Nat} {w0 w : World} {g cap : Nat} {l : List Int} (h : IBuf B w0 w (.slice (some ⟨g, 0, none⟩) l.length cap) l) (j : Nat) (t : Int) :
    IBuf B w0 (w.setCell ⟨g, j, none⟩ (.int .i64 t)) (.slice (some ⟨g, 0, none⟩) l.length cap) (l.set j t) := by
  have hst := h.own.stored j (.int .i64 t)
  have e : intV (l.set j t) = (intV l).set j (.int .i64 t) := by simp [intV, List.map_set]
  refine ⟨?_, h.bel.setCell (h.own.lt g rfl).1 _, by have := h.le; simpa using this⟩
  have hl : (l.set j t).length = l.length := by simp
  rw [hl, e]
  exact hst.1

theorem IBuf.under {w0 w1 w : World} {v : Value} {l : List Int} (hb : Below w0.heap.size w0 w1) (h : IBuf w1.heap.size w1 w v l) : IBuf w0.heap.size w0 w v l := by
  refine ⟨⟨h.own.1, ?_⟩, hb.trans (h.bel.mono hb.size), Nat.le_trans hb.size h.le⟩
  rcases h.own.2 with h1 | ⟨g, cap, cur, h1, h2, h3⟩
  · exact .inl h1
  · exact .inr ⟨g, cap, cur, h1, Nat.le_trans hb.size h2, h3⟩

end Go.Proofs.Ytgdkndlkapmhjaa

/- What records tell: the model's numbers in their order. -/
namespace Go.Proofs.Ytgdkndlkapmhjaa
open Go.RowKit

theorem filt_yes {p : Int → Bool} {l : List Int} {i : Nat} {b : Int} (h : l[i]? = some b) (hp : p b = true) : (l.take (i + 1)).filter p = (l.take i).filter p ++ [b] := by
  rw [List.take_add_one, h, List.filter_append]
  simp [hp]
theorem filt_no {p : Int → Bool} {l : List Int} {i : Nat} {b : Int} (h : l[i]? = some b) (hp : p b = false) : (l.take (i + 1)).filter p = (l.take i).filter p := by
  rw [List.take_add_one, h, List.filter_append]
  simp [hp]
theorem filt_len (p : Int → Bool) (l : List Int) (i : Nat) : ((l.take i).filter p).length ≤ l.length :=
  Nat.le_trans (List.length_filter_le _ _) (List.length_take_le' _ _)
theorem one_intS (w : World) (t : Int) : ∀ j u, [Value.int .i64 t][j]? = some u → (w.alloc (.cells #[.int .i64 t] 3)).cell? ((⟨w.heap.size, 0, none⟩ : Addr).add j) = some u := by
  intro j u hj
  have : j = 0 := by have := (List.getElem?_eq_some_iff.1 hj).1; simp at this; exact this
  subst this
  simp at hj
  subst hj
  simp [Addr.add]

set_option maxRecDepth 100000 in
set_option maxHeartbeats 2000000 in
theorem specSorted_any (l : List Int) (v : Value) (x : Int) (w : World) (h : Ints w v l) (hl : l.length ≤ 1000000) :
    Calls Try.prog 32 #[v, .int .i64 x] w fun e w' => ∃ v', e = .returned v' ∧ IBuf w.heap.size w w' v' (insI l x) := by
  obtain ⟨ad, cap, rfl, hrow⟩ : ∃ (ad : Option Addr) (cap : Nat), v = .slice ad l.length cap ∧ ∀ X, Below w.heap.size w X → ∀ i b, l[i]? = some b → ∃ g, ad = some ⟨g, 0, none⟩ ∧ X.cell? ⟨g, i, none⟩ = some (.int .i64 b) := by
    rcases h with ⟨rfl, a, c, rfl⟩ | ⟨g, c, rfl, hc, hg, hcl⟩
    · exact ⟨a, c, rfl, fun X _ i x hi => by cases hi⟩
    · exact ⟨_, c, rfl, fun X hb i b hi => ⟨g, rfl, (hb.cell (p := ⟨g, i, none⟩) hg).trans (hcl i b hi)⟩⟩
  have HR := Lib.hid hrow
  clear h hrow
  have hst := IBuf.fresh w
  go_enter Try.func32, Try.ntmps32
  go_wp2
  go_loopw [5, 6] (fun ov iv wr => ∃ i : Nat, i ≤ l.length ∧ iv = .int .i64 (i : Int) ∧ IBuf w.heap.size w wr ov ((l.take i).filter (fun y => decide (y < x)))) (fun _ iv _ => l.length - (intOf iv).toNat)
  case atStart => exact ⟨0, by omega, rfl, hst⟩
  case round =>
    clear hst
    obtain ⟨i, hi, rfl, hb⟩ := hrel
    have hfl := filt_len (fun y => decide (y < x)) l i
    obtain ⟨oa, oc, rfl⟩ := hb.form
    by_cases hlt : i < l.length
    · have hgx : l[i]? = some l[i] := List.getElem?_eq_getElem hlt
      obtain ⟨g, rfl, c0⟩ := HR.out _ hb.bel i _ hgx
      generalize l[i] = b at *
      have hi0 : (0 : Int) ≤ (i : Int) := by omega
      have hi1 : (i : Int) < (l.length : Int) := by omega
      by_cases hbx : b < x
      · have HE := Lib.hid (filt_yes (p := fun y => decide (y < x)) hgx (decide_eq_true hbx))
        clear hgx
        generalize (l.take i).filter (fun y => decide (y < x)) = L at *
        have HB := Lib.hid hb
        clear hb
        go_wp2_with (at_builtin; refine wpList_append_int rfl _ _ rfl _ _ L rfl (HB.out.alloc _) ⟨wr.heap.size, 0, none⟩ b rfl ?c1 ?c2 ?_)
        case c1 => exact one_intS _ _
        case c2 => omega
        intro v' w4 hb4
        have HB4 := Lib.hid hb4
        clear hb4 c0
        go_wp2
        exact ⟨⟨i + 1, by omega, by simp, by rw [HE.out]; exact HB4.out⟩, by first | omega | (simp [intOf]; omega)⟩
      · have HE := Lib.hid (filt_no (p := fun y => decide (y < x)) hgx (decide_eq_false hbx))
        clear hgx
        generalize (l.take i).filter (fun y => decide (y < x)) = L at *
        have HB := Lib.hid hb
        clear hb
        go_wp2
        exact ⟨⟨i + 1, by omega, by simp, by rw [HE.out]; exact HB.out⟩, by first | omega | (simp [intOf]; omega)⟩
    · have hie : i = l.length := by omega
      subst hie
      rw [List.take_length] at hb hfl ⊢
      have HF : Hid (l.filter (fun y => decide (y < x)) ++ (x :: l.filter (fun y => decide (x < y))) = insI l x) := rfl
      generalize l.filter (fun y => decide (y < x)) = L at *
      have HB := Lib.hid hb
      clear hb
      go_wp2_with (at_builtin; refine wpList_append_int rfl _ _ rfl _ _ L rfl (HB.out.alloc _) ⟨wr.heap.size, 0, none⟩ x rfl ?c1 ?c2 ?_)
      case c1 => exact one_intS _ _
      case c2 => omega
      intro v' w4 hb4
      have HB4 := Lib.hid hb4
      clear HB hb4
      go_wp2
      go_loopw [5, 7] (fun ov iv wr => ∃ i : Nat, i ≤ l.length ∧ iv = .int .i64 (i : Int) ∧ IBuf w.heap.size w wr ov (L ++ [x] ++ (l.take i).filter (fun y => decide (x < y)))) (fun _ iv _ => l.length - (intOf iv).toNat)
      case atStart => exact ⟨0, by omega, rfl, by simpa using HB4.out⟩
      case round =>
        clear HB4
        obtain ⟨i, hi, rfl, hb⟩ := hrel
        have hfl2 := filt_len (fun y => decide (x < y)) l i
        by_cases hlt : i < l.length
        · have hgx : l[i]? = some l[i] := List.getElem?_eq_getElem hlt
          obtain ⟨g, rfl, c0⟩ := HR.out _ hb.bel i _ hgx
          generalize l[i] = b at *
          have hi0 : (0 : Int) ≤ (i : Int) := by omega
          have hi1 : (i : Int) < (l.length : Int) := by omega
          by_cases hbx : x < b
          · have HE := Lib.hid (filt_yes (p := fun y => decide (x < y)) hgx (decide_eq_true hbx))
            clear hgx
            generalize (l.take i).filter (fun y => decide (x < y)) = M at *
            have hml : (L ++ [x] ++ M).length ≤ 2000001 := by simp; omega
            have HB := Lib.hid hb
            clear hb
            generalize hK : L ++ [x] ++ M = K at *
            go_wp2_with (at_builtin; refine wpList_append_int rfl _ _ rfl _ _ K rfl (HB.out.alloc _) ⟨wr.heap.size, 0, none⟩ b rfl ?c1 ?c2 ?_)
            case c1 => exact one_intS _ _
            case c2 => omega
            intro v' w5 hb5
            have HB5 := Lib.hid hb5
            clear hb5 c0
            go_wp2
            exact ⟨⟨i + 1, by omega, by simp, by rw [HE.out, ← List.append_assoc, hK]; exact HB5.out⟩, by first | omega | (simp [intOf]; omega)⟩
          · have HE := Lib.hid (filt_no (p := fun y => decide (x < y)) hgx (decide_eq_false hbx))
            clear hgx
            generalize (l.take i).filter (fun y => decide (x < y)) = M at *
            have HB := Lib.hid hb
            clear hb
            go_wp2
            exact ⟨⟨i + 1, by omega, by simp, by rw [HE.out]; exact HB.out⟩, by first | omega | (simp [intOf]; omega)⟩
        · have hie : i = l.length := by omega
          subst hie
          rw [List.take_length] at hb
          have HB := Lib.hid hb
          clear hb
          go_wp2
          go_ret
          have e : L ++ [x] ++ l.filter (fun y => decide (x < y)) = insI l x := by rw [← HF.out]; simp
          have hb' := HB.out
          rw [e] at hb'
          exact ⟨_, rfl, hb'⟩

end Go.Proofs.Ytgdkndlkapmhjaa
