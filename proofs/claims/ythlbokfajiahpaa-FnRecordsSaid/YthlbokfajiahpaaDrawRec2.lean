/- What is drawn for the chapter on records: any record, and the draws of the chapter. -/
import Derived.Test.YthlbokfajiahpaaDrawRec
import Derived.Test.YthlbokfajiahpaaDrawFr2
namespace Go.Proofs.Ythlbokfajiahpaa
open Go.RowKit

set_option maxRecDepth 100000 in
set_option maxHeartbeats 1000000 in
theorem recAny_any (pc : Nat) (a : Option Addr) (len cap : Nat) (w : World) (hc : Cur w pc a len cap) :
    Calls Try.prog 46 #[.pointer (some ⟨pc, 0, none⟩)] w fun e w' => RcR Rc.slim pc a len cap w e w' := by
  have hx := Box.new w #[.int .i64 0, .int .i64 0, .int .i64 0, .int .i64 0, .int .i64 0, .string ⟨#[]⟩, .string ⟨#[]⟩, .string ⟨#[]⟩] 25
  have hg0 : w.grownBy (w.alloc (.cells #[.int .i64 0, .int .i64 0, .int .i64 0, .int .i64 0, .int .i64 0, .string ⟨#[]⟩, .string ⟨#[]⟩, .string ⟨#[]⟩] 25)) (some pc) := World.grownBy_alloc _ _ _
  have hc0 := hc.alloc (.cells #[.int .i64 0, .int .i64 0, .int .i64 0, .int .i64 0, .int .i64 0, .string ⟨#[]⟩, .string ⟨#[]⟩, .string ⟨#[]⟩] 25)
  have hpc := hc.lt
  have hz0 : w.heap.size < (w.alloc (.cells #[.int .i64 0, .int .i64 0, .int .i64 0, .int .i64 0, .int .i64 0, .string ⟨#[]⟩, .string ⟨#[]⟩, .string ⟨#[]⟩] 25)).heap.size := by simp
  go_enter Try.func46, Try.ntmps46
  go_wp2_with fail
  generalize w.alloc (.cells #[.int .i64 0, .int .i64 0, .int .i64 0, .int .i64 0, .int .i64 0, .string ⟨#[]⟩, .string ⟨#[]⟩, .string ⟨#[]⟩] 25) = W at *
  refine (below_any 14 pc a len cap _ hc0 (by omega)).mono ?_
  rintro e w1 ⟨k, hk, _, rfl, hc1, hg1⟩
  go_wp2_with fail
  refine (below_any 60 pc a len cap _ hc1 (by omega)).mono ?_
  rintro e w2 ⟨x, hxx, _, rfl, hc2, hg2⟩
  have hx60 := hxx (by omega)
  go_wp2_with fail
  refine (recDrawn_any pc a len cap _ hc2).mono ?_
  rintro e w3 ⟨r, ⟨_, hsl⟩, rfl, hc3, hg3⟩
  have hz3 := (hg1.trans (hg2.trans hg3)).size
  have I : RcI pc a len cap w w3.heap.size #[.int .i64 r.kind, .int .i64 r.valid, .int .i64 r.uid, .int .i64 r.next, .int .i64 r.flags, .string r.user, .string r.name, .string r.text] (w3.alloc (.cells #[.int .i64 r.kind, .int .i64 r.valid, .int .i64 r.uid, .int .i64 r.next, .int .i64 r.flags, .string r.user, .string r.name, .string r.text] 25)) :=
    ⟨hc3.alloc _, (hg0.trans (hg1.trans (hg2.trans hg3))).trans (World.grownBy_alloc _ _ _), (hx.cur (hg1.trans (hg2.trans hg3)) (by omega)).later (belNew _ _), Box.new w3 _ _, by omega, by omega, hpc⟩
  have HC := Lib.hid hc
  have HS := Lib.hid hsl
  clear hk hxx hx hg0 hg1 hg2 hg3 hc0 hc1 hc2 hc3 hz0 hc hsl
  unfold Rc.v
  go_upto_region 4 with fail
  generalize w3.alloc (.cells #[.int .i64 r.kind, .int .i64 r.valid, .int .i64 r.uid, .int .i64 r.next, .int .i64 r.flags, .string r.user, .string r.name, .string r.text] 25) = X at I ⊢
  generalize w3.heap.size = b at I ⊢
  clear hz3
  obtain ⟨y0, y1, y2, y3, y4, y5, y6, y7, f0, f1, f2, f3, f4, f5, f6, f7⟩ := I.rcd.eight
  have hlt := I.lt
  have hneb : w.heap.size ≠ b := by omega
  have hneb' : b ≠ w.heap.size := by omega
  clear hlt
  rcases (show k = 0 ∨ k = 1 ∨ k = 2 ∨ k = 3 ∨ k = 4 ∨ k = 5 ∨ k = 6 ∨ (k ≠ 0 ∧ k ≠ 1 ∧ k ≠ 2 ∧ k ≠ 3 ∧ k ≠ 4 ∧ k ≠ 5 ∧ k ≠ 6) by omega) with rfl | rfl | rfl | rfl | rfl | rfl | rfl | ⟨n0, n1, n2, n3, n4, n5, n6⟩
  · go_upto_region 19 with fail
    replace I : RcI pc a len cap w b #[.int .i64 ((x : Int) % 7), .int .i64 r.valid, .int .i64 r.uid, .int .i64 r.next, .int .i64 r.flags, .string r.user, .string r.name, .string r.text] _ := I.put HC.out 0 (.int .i64 ((x : Int) % 7))
    generalize X.setCell ⟨b, 0, none⟩ (.int .i64 ((x : Int) % 7)) = X2 at I ⊢
    clear y0 y1 y2 y3 y4 y5 y6 y7 f0 f1 f2 f3 f4 f5 f6 f7
    obtain ⟨d0, d1, d2, d3, d4, d5, d6, d7, g0, g1, g2, g3, g4, g5, g6, g7⟩ := I.res.eight
    obtain ⟨p0, p1, p2, p3, p4, p5, p6, p7, _⟩ := I.rcd.eight
    obtain ⟨q0, q1, q2, q3, q4, q5, q6, q7, _⟩ := (I.res.set8 (.int .i64 ((x : Int) % 7)) (.int .i64 r.valid) (.int .i64 r.uid) (.int .i64 r.next) (.int .i64 r.flags) (.string r.user) (.string r.name) (.string r.text)).eight
    unfold set8 at q0 q1 q2 q3 q4 q5 q6 q7
    have HF : Hid (Cur (set8 X2 w.heap.size (.int .i64 ((x : Int) % 7)) (.int .i64 r.valid) (.int .i64 r.uid) (.int .i64 r.next) (.int .i64 r.flags) (.string r.user) (.string r.name) (.string r.text)) pc a len cap ∧ w.grownBy (set8 X2 w.heap.size (.int .i64 ((x : Int) % 7)) (.int .i64 r.valid) (.int .i64 r.uid) (.int .i64 r.next) (.int .i64 r.flags) (.string r.user) (.string r.name) (.string r.text)) (some pc)) := ⟨I.cur.new8 HC.out (Nat.le_refl _) _ _ _ _ _ _ _ _, grownBy_new8 I.grown (Nat.le_refl _) _ _ _ _ _ _ _ _⟩
    clear I
    go_wp2
    refine bodyPost_ret (v := Rc.v ⟨((x : Int) % 7), r.valid, r.uid, r.next, r.flags, r.user, r.name, r.text⟩) (by simp [results, Try.results46, go_sem, q0, q1, q2, q3, q4, q5, q6, q7, Rc.v]) rfl ?_
    exact ⟨⟨((x : Int) % 7), r.valid, r.uid, r.next, r.flags, r.user, r.name, r.text⟩, HS.out, rfl, HF.out.1, HF.out.2⟩
  · obtain ⟨i, hxi⟩ : ∃ i : Nat, x % 3 = i := ⟨_, rfl⟩
    have hi : i < 3 := by omega
    have hxm : (x : Int) % 3 = (i : Int) := by omega
    have hi2 : (i : Int) < 3 := by omega
    have hcl := ints_cell' X [0, 9999, 10000] 3 i hi
    simp only [List.map_cons, List.map_nil] at hcl
    generalize ([0, 9999, 10000] : List Int)[i]'hi = yv at hcl
    clear hxi
    replace I := I.later (belNew X (.cells #[.int .i64 0, .int .i64 9999, .int .i64 10000] 3))
    clear y0 y1 y2 y3 y4 y5 y6 y7 f0 f1 f2 f3 f4 f5 f6 f7
    obtain ⟨y0, y1, y2, y3, y4, y5, y6, y7, f0, f1, f2, f3, f4, f5, f6, f7⟩ := I.rcd.eight
    go_upto_region 19 with fail
    replace I : RcI pc a len cap w b #[.int .i64 r.kind, .int .i64 yv, .int .i64 r.uid, .int .i64 r.next, .int .i64 r.flags, .string r.user, .string r.name, .string r.text] _ := I.put HC.out 1 (.int .i64 yv)
    generalize (X.alloc (.cells #[.int .i64 0, .int .i64 9999, .int .i64 10000] 3)).setCell ⟨b, 1, none⟩ (.int .i64 yv) = X2 at I ⊢
    clear y0 y1 y2 y3 y4 y5 y6 y7 f0 f1 f2 f3 f4 f5 f6 f7
    obtain ⟨d0, d1, d2, d3, d4, d5, d6, d7, g0, g1, g2, g3, g4, g5, g6, g7⟩ := I.res.eight
    obtain ⟨p0, p1, p2, p3, p4, p5, p6, p7, _⟩ := I.rcd.eight
    obtain ⟨q0, q1, q2, q3, q4, q5, q6, q7, _⟩ := (I.res.set8 (.int .i64 r.kind) (.int .i64 yv) (.int .i64 r.uid) (.int .i64 r.next) (.int .i64 r.flags) (.string r.user) (.string r.name) (.string r.text)).eight
    unfold set8 at q0 q1 q2 q3 q4 q5 q6 q7
    have HF : Hid (Cur (set8 X2 w.heap.size (.int .i64 r.kind) (.int .i64 yv) (.int .i64 r.uid) (.int .i64 r.next) (.int .i64 r.flags) (.string r.user) (.string r.name) (.string r.text)) pc a len cap ∧ w.grownBy (set8 X2 w.heap.size (.int .i64 r.kind) (.int .i64 yv) (.int .i64 r.uid) (.int .i64 r.next) (.int .i64 r.flags) (.string r.user) (.string r.name) (.string r.text)) (some pc)) := ⟨I.cur.new8 HC.out (Nat.le_refl _) _ _ _ _ _ _ _ _, grownBy_new8 I.grown (Nat.le_refl _) _ _ _ _ _ _ _ _⟩
    clear I
    go_wp2
    refine bodyPost_ret (v := Rc.v ⟨r.kind, yv, r.uid, r.next, r.flags, r.user, r.name, r.text⟩) (by simp [results, Try.results46, go_sem, q0, q1, q2, q3, q4, q5, q6, q7, Rc.v]) rfl ?_
    exact ⟨⟨r.kind, yv, r.uid, r.next, r.flags, r.user, r.name, r.text⟩, HS.out, rfl, HF.out.1, HF.out.2⟩
  · obtain ⟨i, hxi⟩ : ∃ i : Nat, x % 4 = i := ⟨_, rfl⟩
    have hi : i < 4 := by omega
    have hxm : (x : Int) % 4 = (i : Int) := by omega
    have hi2 : (i : Int) < 4 := by omega
    have hcl := ints_cell' X [0, 9999, 10000, (-1)] 3 i hi
    simp only [List.map_cons, List.map_nil] at hcl
    generalize ([0, 9999, 10000, (-1)] : List Int)[i]'hi = yv at hcl
    clear hxi
    replace I := I.later (belNew X (.cells #[.int .i64 0, .int .i64 9999, .int .i64 10000, .int .i64 (-1)] 3))
    clear y0 y1 y2 y3 y4 y5 y6 y7 f0 f1 f2 f3 f4 f5 f6 f7
    obtain ⟨y0, y1, y2, y3, y4, y5, y6, y7, f0, f1, f2, f3, f4, f5, f6, f7⟩ := I.rcd.eight
    go_upto_region 19 with fail
    replace I : RcI pc a len cap w b #[.int .i64 r.kind, .int .i64 r.valid, .int .i64 yv, .int .i64 r.next, .int .i64 r.flags, .string r.user, .string r.name, .string r.text] _ := I.put HC.out 2 (.int .i64 yv)
    generalize (X.alloc (.cells #[.int .i64 0, .int .i64 9999, .int .i64 10000, .int .i64 (-1)] 3)).setCell ⟨b, 2, none⟩ (.int .i64 yv) = X2 at I ⊢
    clear y0 y1 y2 y3 y4 y5 y6 y7 f0 f1 f2 f3 f4 f5 f6 f7
    obtain ⟨d0, d1, d2, d3, d4, d5, d6, d7, g0, g1, g2, g3, g4, g5, g6, g7⟩ := I.res.eight
    obtain ⟨p0, p1, p2, p3, p4, p5, p6, p7, _⟩ := I.rcd.eight
    obtain ⟨q0, q1, q2, q3, q4, q5, q6, q7, _⟩ := (I.res.set8 (.int .i64 r.kind) (.int .i64 r.valid) (.int .i64 yv) (.int .i64 r.next) (.int .i64 r.flags) (.string r.user) (.string r.name) (.string r.text)).eight
    unfold set8 at q0 q1 q2 q3 q4 q5 q6 q7
    have HF : Hid (Cur (set8 X2 w.heap.size (.int .i64 r.kind) (.int .i64 r.valid) (.int .i64 yv) (.int .i64 r.next) (.int .i64 r.flags) (.string r.user) (.string r.name) (.string r.text)) pc a len cap ∧ w.grownBy (set8 X2 w.heap.size (.int .i64 r.kind) (.int .i64 r.valid) (.int .i64 yv) (.int .i64 r.next) (.int .i64 r.flags) (.string r.user) (.string r.name) (.string r.text)) (some pc)) := ⟨I.cur.new8 HC.out (Nat.le_refl _) _ _ _ _ _ _ _ _, grownBy_new8 I.grown (Nat.le_refl _) _ _ _ _ _ _ _ _⟩
    clear I
    go_wp2
    refine bodyPost_ret (v := Rc.v ⟨r.kind, r.valid, yv, r.next, r.flags, r.user, r.name, r.text⟩) (by simp [results, Try.results46, go_sem, q0, q1, q2, q3, q4, q5, q6, q7, Rc.v]) rfl ?_
    exact ⟨⟨r.kind, r.valid, yv, r.next, r.flags, r.user, r.name, r.text⟩, HS.out, rfl, HF.out.1, HF.out.2⟩
  · go_upto_region 19 with fail
    replace I : RcI pc a len cap w b #[.int .i64 r.kind, .int .i64 r.valid, .int .i64 r.uid, .int .i64 r.next, .int .i64 ((x : Int) % 10 - 1), .string r.user, .string r.name, .string r.text] _ := I.put HC.out 4 (.int .i64 ((x : Int) % 10 - 1))
    generalize X.setCell ⟨b, 4, none⟩ (.int .i64 ((x : Int) % 10 - 1)) = X2 at I ⊢
    clear y0 y1 y2 y3 y4 y5 y6 y7 f0 f1 f2 f3 f4 f5 f6 f7
    obtain ⟨d0, d1, d2, d3, d4, d5, d6, d7, g0, g1, g2, g3, g4, g5, g6, g7⟩ := I.res.eight
    obtain ⟨p0, p1, p2, p3, p4, p5, p6, p7, _⟩ := I.rcd.eight
    obtain ⟨q0, q1, q2, q3, q4, q5, q6, q7, _⟩ := (I.res.set8 (.int .i64 r.kind) (.int .i64 r.valid) (.int .i64 r.uid) (.int .i64 r.next) (.int .i64 ((x : Int) % 10 - 1)) (.string r.user) (.string r.name) (.string r.text)).eight
    unfold set8 at q0 q1 q2 q3 q4 q5 q6 q7
    have HF : Hid (Cur (set8 X2 w.heap.size (.int .i64 r.kind) (.int .i64 r.valid) (.int .i64 r.uid) (.int .i64 r.next) (.int .i64 ((x : Int) % 10 - 1)) (.string r.user) (.string r.name) (.string r.text)) pc a len cap ∧ w.grownBy (set8 X2 w.heap.size (.int .i64 r.kind) (.int .i64 r.valid) (.int .i64 r.uid) (.int .i64 r.next) (.int .i64 ((x : Int) % 10 - 1)) (.string r.user) (.string r.name) (.string r.text)) (some pc)) := ⟨I.cur.new8 HC.out (Nat.le_refl _) _ _ _ _ _ _ _ _, grownBy_new8 I.grown (Nat.le_refl _) _ _ _ _ _ _ _ _⟩
    clear I
    go_wp2
    refine bodyPost_ret (v := Rc.v ⟨r.kind, r.valid, r.uid, r.next, ((x : Int) % 10 - 1), r.user, r.name, r.text⟩) (by simp [results, Try.results46, go_sem, q0, q1, q2, q3, q4, q5, q6, q7, Rc.v]) rfl ?_
    exact ⟨⟨r.kind, r.valid, r.uid, r.next, ((x : Int) % 10 - 1), r.user, r.name, r.text⟩, HS.out, rfl, HF.out.1, HF.out.2⟩
  · obtain ⟨i, hxi⟩ : ∃ i : Nat, x % 3 = i := ⟨_, rfl⟩
    have hi : i < 3 := by omega
    have hxm : (x : Int) % 3 = (i : Int) := by omega
    have hi2 : (i : Int) < 3 := by omega
    have hcl := strs_cell' X [⟨#[]⟩, ⟨#[65]⟩, ⟨#[110, 105, 110, 101, 98, 121, 116, 101, 115]⟩] 9 i hi
    simp only [List.map_cons, List.map_nil] at hcl
    have HY : Hid ((([⟨#[]⟩, ⟨#[65]⟩, ⟨#[110, 105, 110, 101, 98, 121, 116, 101, 115]⟩] : List ByteArray)[i]'hi).size ≤ 200) := by
      have hall : ∀ y ∈ ([⟨#[]⟩, ⟨#[65]⟩, ⟨#[110, 105, 110, 101, 98, 121, 116, 101, 115]⟩] : List ByteArray), y.size ≤ 200 := by decide
      exact hall _ (List.getElem_mem _)
    generalize ([⟨#[]⟩, ⟨#[65]⟩, ⟨#[110, 105, 110, 101, 98, 121, 116, 101, 115]⟩] : List ByteArray)[i]'hi = yv at hcl HY
    clear hxi
    replace I := I.later (belNew X (.cells #[.string ⟨#[]⟩, .string ⟨#[65]⟩, .string ⟨#[110, 105, 110, 101, 98, 121, 116, 101, 115]⟩] 9))
    clear y0 y1 y2 y3 y4 y5 y6 y7 f0 f1 f2 f3 f4 f5 f6 f7
    obtain ⟨y0, y1, y2, y3, y4, y5, y6, y7, f0, f1, f2, f3, f4, f5, f6, f7⟩ := I.rcd.eight
    go_upto_region 19 with fail
    replace I : RcI pc a len cap w b #[.int .i64 r.kind, .int .i64 r.valid, .int .i64 r.uid, .int .i64 r.next, .int .i64 r.flags, .string yv, .string r.name, .string r.text] _ := I.put HC.out 5 (.string yv)
    generalize (X.alloc (.cells #[.string ⟨#[]⟩, .string ⟨#[65]⟩, .string ⟨#[110, 105, 110, 101, 98, 121, 116, 101, 115]⟩] 9)).setCell ⟨b, 5, none⟩ (.string yv) = X2 at I ⊢
    clear y0 y1 y2 y3 y4 y5 y6 y7 f0 f1 f2 f3 f4 f5 f6 f7
    obtain ⟨d0, d1, d2, d3, d4, d5, d6, d7, g0, g1, g2, g3, g4, g5, g6, g7⟩ := I.res.eight
    obtain ⟨p0, p1, p2, p3, p4, p5, p6, p7, _⟩ := I.rcd.eight
    obtain ⟨q0, q1, q2, q3, q4, q5, q6, q7, _⟩ := (I.res.set8 (.int .i64 r.kind) (.int .i64 r.valid) (.int .i64 r.uid) (.int .i64 r.next) (.int .i64 r.flags) (.string yv) (.string r.name) (.string r.text)).eight
    unfold set8 at q0 q1 q2 q3 q4 q5 q6 q7
    have HF : Hid (Cur (set8 X2 w.heap.size (.int .i64 r.kind) (.int .i64 r.valid) (.int .i64 r.uid) (.int .i64 r.next) (.int .i64 r.flags) (.string yv) (.string r.name) (.string r.text)) pc a len cap ∧ w.grownBy (set8 X2 w.heap.size (.int .i64 r.kind) (.int .i64 r.valid) (.int .i64 r.uid) (.int .i64 r.next) (.int .i64 r.flags) (.string yv) (.string r.name) (.string r.text)) (some pc)) := ⟨I.cur.new8 HC.out (Nat.le_refl _) _ _ _ _ _ _ _ _, grownBy_new8 I.grown (Nat.le_refl _) _ _ _ _ _ _ _ _⟩
    clear I
    go_wp2
    refine bodyPost_ret (v := Rc.v ⟨r.kind, r.valid, r.uid, r.next, r.flags, yv, r.name, r.text⟩) (by simp [results, Try.results46, go_sem, q0, q1, q2, q3, q4, q5, q6, q7, Rc.v]) rfl ?_
    exact ⟨⟨r.kind, r.valid, r.uid, r.next, r.flags, yv, r.name, r.text⟩, ⟨HY.out, HS.out.2.1, HS.out.2.2⟩, rfl, HF.out.1, HF.out.2⟩
  · go_upto_region 19 with fail
    have hn2 : 100 + (x : Int) % 2 = ((100 + x % 2 : Nat) : Int) := by omega
    have hn3 : 100 + x % 2 ≤ 101 := by omega
    rw [hn2]
    refine (long_any (100 + x % 2) 97 _ (by omega)).mono ?_
    rintro e w5 ⟨rfl, k5⟩
    have HL : Hid ((⟨(List.replicate (100 + x % 2) 97).toArray⟩ : ByteArray).size ≤ 200) := by
      show _ ≤ _
      rw [← tl_len]; simp; omega
    generalize (⟨(List.replicate (100 + x % 2) 97).toArray⟩ : ByteArray) = tv at HL ⊢
    clear hn2 hn3
    replace I := I.later k5
    clear y0 y1 y2 y3 y4 y5 y6 y7 f0 f1 f2 f3 f4 f5 f6 f7
    obtain ⟨y0, y1, y2, y3, y4, y5, y6, y7, f0, f1, f2, f3, f4, f5, f6, f7⟩ := I.rcd.eight
    go_upto_region 19 with fail
    replace I : RcI pc a len cap w b #[.int .i64 r.kind, .int .i64 r.valid, .int .i64 r.uid, .int .i64 r.next, .int .i64 r.flags, .string r.user, .string r.name, .string tv] _ := I.put HC.out 7 (.string tv)
    generalize w5.setCell ⟨b, 7, none⟩ (.string tv) = X2 at I ⊢
    clear y0 y1 y2 y3 y4 y5 y6 y7 f0 f1 f2 f3 f4 f5 f6 f7
    obtain ⟨d0, d1, d2, d3, d4, d5, d6, d7, g0, g1, g2, g3, g4, g5, g6, g7⟩ := I.res.eight
    obtain ⟨p0, p1, p2, p3, p4, p5, p6, p7, _⟩ := I.rcd.eight
    obtain ⟨q0, q1, q2, q3, q4, q5, q6, q7, _⟩ := (I.res.set8 (.int .i64 r.kind) (.int .i64 r.valid) (.int .i64 r.uid) (.int .i64 r.next) (.int .i64 r.flags) (.string r.user) (.string r.name) (.string tv)).eight
    unfold set8 at q0 q1 q2 q3 q4 q5 q6 q7
    have HF : Hid (Cur (set8 X2 w.heap.size (.int .i64 r.kind) (.int .i64 r.valid) (.int .i64 r.uid) (.int .i64 r.next) (.int .i64 r.flags) (.string r.user) (.string r.name) (.string tv)) pc a len cap ∧ w.grownBy (set8 X2 w.heap.size (.int .i64 r.kind) (.int .i64 r.valid) (.int .i64 r.uid) (.int .i64 r.next) (.int .i64 r.flags) (.string r.user) (.string r.name) (.string tv)) (some pc)) := ⟨I.cur.new8 HC.out (Nat.le_refl _) _ _ _ _ _ _ _ _, grownBy_new8 I.grown (Nat.le_refl _) _ _ _ _ _ _ _ _⟩
    clear I
    go_wp2
    refine bodyPost_ret (v := Rc.v ⟨r.kind, r.valid, r.uid, r.next, r.flags, r.user, r.name, tv⟩) (by simp [results, Try.results46, go_sem, q0, q1, q2, q3, q4, q5, q6, q7, Rc.v]) rfl ?_
    exact ⟨⟨r.kind, r.valid, r.uid, r.next, r.flags, r.user, r.name, tv⟩, ⟨HS.out.1, HS.out.2.1, HL.out⟩, rfl, HF.out.1, HF.out.2⟩
  · go_upto_region 19 with fail
    replace I : RcI pc a len cap w b #[.int .i64 r.kind, .int .i64 r.valid, .int .i64 r.uid, .int .i64 ((x : Int) % 4), .int .i64 r.flags, .string r.user, .string r.name, .string r.text] _ := I.put HC.out 3 (.int .i64 ((x : Int) % 4))
    generalize X.setCell ⟨b, 3, none⟩ (.int .i64 ((x : Int) % 4)) = X2 at I ⊢
    clear y0 y1 y2 y3 y4 y5 y6 y7 f0 f1 f2 f3 f4 f5 f6 f7
    obtain ⟨d0, d1, d2, d3, d4, d5, d6, d7, g0, g1, g2, g3, g4, g5, g6, g7⟩ := I.res.eight
    obtain ⟨p0, p1, p2, p3, p4, p5, p6, p7, _⟩ := I.rcd.eight
    obtain ⟨q0, q1, q2, q3, q4, q5, q6, q7, _⟩ := (I.res.set8 (.int .i64 r.kind) (.int .i64 r.valid) (.int .i64 r.uid) (.int .i64 ((x : Int) % 4)) (.int .i64 r.flags) (.string r.user) (.string r.name) (.string r.text)).eight
    unfold set8 at q0 q1 q2 q3 q4 q5 q6 q7
    have HF : Hid (Cur (set8 X2 w.heap.size (.int .i64 r.kind) (.int .i64 r.valid) (.int .i64 r.uid) (.int .i64 ((x : Int) % 4)) (.int .i64 r.flags) (.string r.user) (.string r.name) (.string r.text)) pc a len cap ∧ w.grownBy (set8 X2 w.heap.size (.int .i64 r.kind) (.int .i64 r.valid) (.int .i64 r.uid) (.int .i64 ((x : Int) % 4)) (.int .i64 r.flags) (.string r.user) (.string r.name) (.string r.text)) (some pc)) := ⟨I.cur.new8 HC.out (Nat.le_refl _) _ _ _ _ _ _ _ _, grownBy_new8 I.grown (Nat.le_refl _) _ _ _ _ _ _ _ _⟩
    clear I
    go_wp2
    refine bodyPost_ret (v := Rc.v ⟨r.kind, r.valid, r.uid, ((x : Int) % 4), r.flags, r.user, r.name, r.text⟩) (by simp [results, Try.results46, go_sem, q0, q1, q2, q3, q4, q5, q6, q7, Rc.v]) rfl ?_
    exact ⟨⟨r.kind, r.valid, r.uid, ((x : Int) % 4), r.flags, r.user, r.name, r.text⟩, HS.out, rfl, HF.out.1, HF.out.2⟩
  · have m0 : ((k : Int) == 0) = false := beq_eq_false_iff_ne.2 (by omega)
    have m1 : ((k : Int) == 1) = false := beq_eq_false_iff_ne.2 (by omega)
    have m2 : ((k : Int) == 2) = false := beq_eq_false_iff_ne.2 (by omega)
    have m3 : ((k : Int) == 3) = false := beq_eq_false_iff_ne.2 (by omega)
    have m4 : ((k : Int) == 4) = false := beq_eq_false_iff_ne.2 (by omega)
    have m5 : ((k : Int) == 5) = false := beq_eq_false_iff_ne.2 (by omega)
    have m6 : ((k : Int) == 6) = false := beq_eq_false_iff_ne.2 (by omega)
    go_upto_region 19 with fail
    clear y0 y1 y2 y3 y4 y5 y6 y7 f0 f1 f2 f3 f4 f5 f6 f7
    obtain ⟨d0, d1, d2, d3, d4, d5, d6, d7, g0, g1, g2, g3, g4, g5, g6, g7⟩ := I.res.eight
    obtain ⟨p0, p1, p2, p3, p4, p5, p6, p7, _⟩ := I.rcd.eight
    obtain ⟨q0, q1, q2, q3, q4, q5, q6, q7, _⟩ := (I.res.set8 (.int .i64 r.kind) (.int .i64 r.valid) (.int .i64 r.uid) (.int .i64 r.next) (.int .i64 r.flags) (.string r.user) (.string r.name) (.string r.text)).eight
    unfold set8 at q0 q1 q2 q3 q4 q5 q6 q7
    have HF : Hid (Cur (set8 X w.heap.size (.int .i64 r.kind) (.int .i64 r.valid) (.int .i64 r.uid) (.int .i64 r.next) (.int .i64 r.flags) (.string r.user) (.string r.name) (.string r.text)) pc a len cap ∧ w.grownBy (set8 X w.heap.size (.int .i64 r.kind) (.int .i64 r.valid) (.int .i64 r.uid) (.int .i64 r.next) (.int .i64 r.flags) (.string r.user) (.string r.name) (.string r.text)) (some pc)) := ⟨I.cur.new8 HC.out (Nat.le_refl _) _ _ _ _ _ _ _ _, grownBy_new8 I.grown (Nat.le_refl _) _ _ _ _ _ _ _ _⟩
    clear I
    go_wp2
    refine bodyPost_ret (v := Rc.v ⟨r.kind, r.valid, r.uid, r.next, r.flags, r.user, r.name, r.text⟩) (by simp [results, Try.results46, go_sem, q0, q1, q2, q3, q4, q5, q6, q7, Rc.v]) rfl ?_
    exact ⟨⟨r.kind, r.valid, r.uid, r.next, r.flags, r.user, r.name, r.text⟩, HS.out, rfl, HF.out.1, HF.out.2⟩

set_option maxRecDepth 100000 in
set_option maxHeartbeats 1000000 in
theorem drawRecText_any (a : Option Addr) (len cap : Nat) (w : World) (hcode : CodeIn w a len) (hs : len ≤ 1048576) :
    Calls Try.prog 10 #[.slice a len cap] w fun e w' => ∃ r : Rc, r.slim ∧ e = .returned r.v ∧ Below w.heap.size w w' := by
  have hx := Box.new w #[.int .i64 0, .int .i64 0, .int .i64 0, .int .i64 0, .int .i64 0, .string ⟨#[]⟩, .string ⟨#[]⟩, .string ⟨#[]⟩] 25
  have b0 : Below w.heap.size w (w.alloc (.cells #[.int .i64 0, .int .i64 0, .int .i64 0, .int .i64 0, .int .i64 0, .string ⟨#[]⟩, .string ⟨#[]⟩, .string ⟨#[]⟩] 25)) := belNew _ _
  have hc0 := hcode.later b0
  have hz0 : w.heap.size < (w.alloc (.cells #[.int .i64 0, .int .i64 0, .int .i64 0, .int .i64 0, .int .i64 0, .string ⟨#[]⟩, .string ⟨#[]⟩, .string ⟨#[]⟩] 25)).heap.size := by simp
  go_enter Try.func10, Try.ntmps10
  go_wp2_with fail
  generalize w.alloc (.cells #[.int .i64 0, .int .i64 0, .int .i64 0, .int .i64 0, .int .i64 0, .string ⟨#[]⟩, .string ⟨#[]⟩, .string ⟨#[]⟩] 25) = W at *
  refine (new_any a len cap _ hc0 hs).mono ?_
  rintro e w1 ⟨pc, hp, rfl, hc1, hb1⟩
  go_wp2_with fail
  refine (recAny_any pc a len cap _ hc1).mono ?_
  rintro e w2 ⟨r, hr, rfl, hc2, hg2⟩
  have x2 := (hx.later hb1).cur hg2 (by omega)
  have b2 : Below w.heap.size w w2 := (b0.trans (hb1.mono b0.size)).grown hg2 (Nat.le_trans b0.size hb1.size) (fun k hk => by have := Option.some.inj hk; omega)
  obtain ⟨d0, d1, d2, d3, d4, d5, d6, d7, g0, g1, g2, g3, g4, g5, g6, g7⟩ := x2.eight
  obtain ⟨q0, q1, q2, q3, q4, q5, q6, q7, _⟩ := (x2.set8 (.int .i64 r.kind) (.int .i64 r.valid) (.int .i64 r.uid) (.int .i64 r.next) (.int .i64 r.flags) (.string r.user) (.string r.name) (.string r.text)).eight
  unfold set8 at q0 q1 q2 q3 q4 q5 q6 q7
  have HR := Lib.hid hr
  have HB := Lib.hid (below_set8 b2 (Nat.le_refl _) (.int .i64 r.kind) (.int .i64 r.valid) (.int .i64 r.uid) (.int .i64 r.next) (.int .i64 r.flags) (.string r.user) (.string r.name) (.string r.text))
  clear x2 b2 hr hg2 hc2 hc1 hb1 hp hx b0 hc0 hz0
  unfold Rc.v
  go_wp2
  refine bodyPost_ret (v := r.v) (by simp [results, Try.results10, go_sem, q0, q1, q2, q3, q4, q5, q6, q7, Rc.v]) rfl ?_
  exact ⟨r, HR.out, rfl, HB.out⟩

set_option maxRecDepth 100000 in
set_option maxHeartbeats 1000000 in
theorem drawReadRec_any (a : Option Addr) (len cap : Nat) (w : World) (hcode : CodeIn w a len) (hs : len ≤ 1048576) :
    Calls Try.prog 13 #[.slice a len cap] w fun e w' => ∃ t : ByteArray, t.size ≤ 1000 ∧ e = .returned (.string t) ∧ Below w.heap.size w w' := by
  go_enter Try.func13, Try.ntmps13
  go_wp2_with fail
  refine (new_any a len cap _ hcode hs).mono ?_
  rintro e w1 ⟨pc, hp, rfl, hc1, hb1⟩
  have D1 : Drw w pc a len cap w1 := ⟨hc1, hb1, hp⟩
  clear hc1 hb1 hp
  go_wp2_with fail
  refine (below_any 3 pc a len cap _ D1.cur (by omega)).mono ?_
  rintro e w2 ⟨k, _, _, rfl, hc2, hg2⟩
  have D2 := D1.step hc2 hg2
  clear D1 hc2 hg2
  go_wp2_with fail
  refine (recAny_any pc a len cap _ D2.cur).mono ?_
  rintro e w3 ⟨r, hr, rfl, hc3, hg3⟩
  have D3 := D2.step hc3 hg3
  clear D2 hc3 hg3
  go_wp2_with fail
  refine (specRecText_any r _ (by have := hr.1; omega) (by have := hr.2.1; omega) (by have := hr.2.2; omega)).mono ?_
  rintro e w4 ⟨rfl, k4⟩
  have D4 := D3.later k4
  clear D3 k4
  obtain ⟨s, o, hT, hsz⟩ : ∃ (s : ByteArray) (o : Bool), rtT r = .tuple #[.string s, .bool o] ∧ s.size ≤ 131 := by
    by_cases h : r.ok
    · exact ⟨_, _, rtT_yes h, (Rc.tx_le h).1⟩
    · exact ⟨_, _, rtT_no h, by decide⟩
  rw [hT]
  clear hT hr
  by_cases hk : k = 0
  · subst hk
    go_wp2_with fail
    refine (spoilt_any s pc a len cap _ D4.cur (by omega)).mono ?_
    rintro e w5 ⟨t, ht, rfl, hc5, hg5⟩
    have D5 := D4.step hc5 hg5
    have HB := Lib.hid D5.bel
    clear D4 D5 hc5 hg5
    go_wp2
    go_ret
    exact ⟨t, by omega, rfl, HB.out⟩
  · have hk' : ((k : Int) == 0) = false := beq_eq_false_iff_ne.2 (by omega)
    have HB := Lib.hid D4.bel
    clear D4
    go_wp2
    go_ret
    exact ⟨s, by omega, rfl, HB.out⟩

set_option maxRecDepth 100000 in
set_option maxHeartbeats 1000000 in
theorem drawWordOk_any (a : Option Addr) (len cap : Nat) (w : World) (hcode : CodeIn w a len) (hs : len ≤ 1048576) :
    Calls Try.prog 19 #[.slice a len cap] w fun e w' => ∃ t : ByteArray, t.size ≤ 1000 ∧ e = .returned (.string t) ∧ Below w.heap.size w w' := by
  go_enter Try.func19, Try.ntmps19
  go_wp2_with fail
  refine (new_any a len cap _ hcode hs).mono ?_
  rintro e w1 ⟨pc, hp, rfl, hc1, hb1⟩
  have D1 : Drw w pc a len cap w1 := ⟨hc1, hb1, hp⟩
  clear hc1 hb1 hp
  go_wp2_with fail
  have hpk := pickStr_any [⟨#[]⟩, ⟨#[97]⟩, ⟨#[101, 105, 103, 104, 116, 120, 120, 120]⟩, ⟨#[110, 105, 110, 101, 98, 121, 116, 101, 115]⟩, ⟨#[65]⟩, ⟨#[97, 49]⟩] 6 pc a len cap _ D1.cur rfl (by omega) (by omega)
  simp only [List.map_cons, List.map_nil] at hpk
  refine hpk.mono ?_
  clear hpk
  rintro e w2 ⟨t, ht, rfl, hc2, hg2⟩
  have hsz : t.size ≤ 1000 := by
    simp only [List.mem_cons, List.not_mem_nil, or_false] at ht
    rcases ht with rfl | rfl | rfl | rfl | rfl | rfl <;> decide
  have D2 := D1.step hc2 hg2
  have HB := Lib.hid D2.bel
  clear D1 D2 hc2 hg2 ht
  go_wp2
  go_ret
  exact ⟨t, hsz, rfl, HB.out⟩

end Go.Proofs.Ythlbokfajiahpaa
