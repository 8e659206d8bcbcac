/- Texts of our own, joined. -/
import Derived.Test.YtodldamjleehlaaJd
import Derived.Deep.RegionLaw
/- What a Kind uses: usedOf of the program. -/
namespace Go.Proofs.Ytodldamjleehlaa
open Go.RowKit

theorem Box.stay8 {w : World} {b g : Nat} {cs : Array Value} {t : TypeId} (h : Box w b cs t) (hne : b ≠ g) (v0 v1 v2 v3 v4 v5 v6 v7 : Value) : Box (Go.Proofs.Ytodldamjleehlaa.set8L w g v0 v1 v2 v3 v4 v5 v6 v7) b cs t :=
  ((grown_set8L w g v0 v1 v2 v3 v4 v5 v6 v7).block b h.lt (fun e => hne (Option.some.inj e))).trans h
theorem Box.drewC {w : World} {b : Nat} {cs : Array Value} {t : TypeId} (h : Box w b cs t) : Box w.drew b cs t := h

set_option maxRecDepth 100000 in
set_option maxHeartbeats 4000000 in
theorem used1 (us bo tob tx : ByteArray) (ui fl : Int) (u : Value) (w : World) :
    Calls Try.prog 13 #[.agg #[.int .i64 1, .string us, .string bo, .string tob, .int .i64 ui, u, .int .i64 fl, .string tx]] w fun e w' => e = .returned (.tuple #[.agg #[.int .i64 1, .string us, .string bo, .string ⟨#[]⟩, .int .i64 0, .slice none 0 0, .int .i64 0, .string ⟨#[]⟩], .bool true]) ∧ Below w.heap.size w w' := by
  have bA := belNew w (.cells #[.int .i64 1, .string us, .string bo, .string tob, .int .i64 ui, u, .int .i64 fl, .string tx] 27)
  have qA := Box.new w #[.int .i64 1, .string us, .string bo, .string tob, .int .i64 ui, u, .int .i64 fl, .string tx] 27
  obtain ⟨wA, hwA⟩ : ∃ wA, wA = w.alloc (.cells #[.int .i64 1, .string us, .string bo, .string tob, .int .i64 ui, u, .int .i64 fl, .string tx] 27) := ⟨_, rfl⟩
  have eA : wA.heap.size = w.heap.size + 1 := by rw [hwA]; simp
  rw [← hwA] at bA qA
  have hB := Box.new wA #[.int .i64 0, .string ⟨#[]⟩, .string ⟨#[]⟩, .string ⟨#[]⟩, .int .i64 0, .slice none 0 0, .int .i64 0, .string ⟨#[]⟩] 27
  have kB := belNew wA (.cells #[.int .i64 0, .string ⟨#[]⟩, .string ⟨#[]⟩, .string ⟨#[]⟩, .int .i64 0, .slice none 0 0, .int .i64 0, .string ⟨#[]⟩] 27)
  have bB := bA.trans (kB.mono bA.size)
  obtain ⟨wB, hwB⟩ : ∃ wB, wB = wA.alloc (.cells #[.int .i64 0, .string ⟨#[]⟩, .string ⟨#[]⟩, .string ⟨#[]⟩, .int .i64 0, .slice none 0 0, .int .i64 0, .string ⟨#[]⟩] 27) := ⟨_, rfl⟩
  have eB : wB.heap.size = w.heap.size + 1 + 1 := by rw [hwB]; simp; omega
  rw [← hwB] at hB kB bB
  rw [eA] at hB
  have hC := Box.new wB #[.int .i64 1, .string us, .string bo, .string ⟨#[]⟩, .int .i64 0, .slice none 0 0, .int .i64 0, .string ⟨#[]⟩] 27
  have kC := belNew wB (.cells #[.int .i64 1, .string us, .string bo, .string ⟨#[]⟩, .int .i64 0, .slice none 0 0, .int .i64 0, .string ⟨#[]⟩] 27)
  have bC := bB.trans (kC.mono bB.size)
  obtain ⟨wC, hwC⟩ : ∃ wC, wC = wB.alloc (.cells #[.int .i64 1, .string us, .string bo, .string ⟨#[]⟩, .int .i64 0, .slice none 0 0, .int .i64 0, .string ⟨#[]⟩] 27) := ⟨_, rfl⟩
  rw [← hwC] at hC kC bC
  rw [eB] at hC
  have hB2 := hB.later kC
  have qA2 := (qA.later kB).later kC
  have HWC : Hid (wC = ((w.alloc (.cells #[.int .i64 1, .string us, .string bo, .string tob, .int .i64 ui, u, .int .i64 fl, .string tx] 27)).alloc (.cells #[.int .i64 0, .string ⟨#[]⟩, .string ⟨#[]⟩, .string ⟨#[]⟩, .int .i64 0, .slice none 0 0, .int .i64 0, .string ⟨#[]⟩] 27)).alloc (.cells #[.int .i64 1, .string us, .string bo, .string ⟨#[]⟩, .int .i64 0, .slice none 0 0, .int .i64 0, .string ⟨#[]⟩] 27)) := by rw [← hwA, ← hwB, ← hwC]; exact rfl
  clear hB bB bA kB kC qA eA eB hwA hwB hwC
  go_enter Try.func13, Try.ntmps13
  go_upto_region 2 with fail
  rw [← HWC.out]
  obtain ⟨a0, a1, a2, a3, a4, a5, a6, a7, _⟩ := qA2.eightL
  obtain ⟨c0, c1, c2, c3, c4, c5, c6, c7, _⟩ := hC.eightL
  obtain ⟨b0, b1, b2, b3, b4, b5, b6, b7, f0, f1, f2, f3, f4, f5, f6, f7⟩ := hB2.eightL
  have L5 := hB2.set8L (.int .i64 1) (.string us) (.string bo) (.string ⟨#[]⟩) (.int .i64 0) (.slice none 0 0) (.int .i64 0) (.string ⟨#[]⟩)
  have b5 : Hid (Below w.heap.size w (set8L wC (w.heap.size + 1) (.int .i64 1) (.string us) (.string bo) (.string ⟨#[]⟩) (.int .i64 0) (.slice none 0 0) (.int .i64 0) (.string ⟨#[]⟩))) := below_set8L bC (by omega) (.int .i64 1) (.string us) (.string bo) (.string ⟨#[]⟩) (.int .i64 0) (.slice none 0 0) (.int .i64 0) (.string ⟨#[]⟩)
  unfold set8L at L5 b5
  obtain ⟨z0, z1, z2, z3, z4, z5, z6, z7, _⟩ := L5.eightL
  clear L5 hB2 hC qA2 bC HWC
  go_wp2
  refine bodyPost_ret (v := .tuple #[.agg #[.int .i64 1, .string us, .string bo, .string ⟨#[]⟩, .int .i64 0, .slice none 0 0, .int .i64 0, .string ⟨#[]⟩], .bool true]) (by simp [results, Try.results13, go_sem, z0, z1, z2, z3, z4, z5, z6, z7]) rfl ⟨rfl, b5.out⟩

set_option maxRecDepth 100000 in
set_option maxHeartbeats 4000000 in
theorem used2 (us bo tob tx : ByteArray) (ui fl : Int) (u : Value) (w : World) :
    Calls Try.prog 13 #[.agg #[.int .i64 2, .string us, .string bo, .string tob, .int .i64 ui, u, .int .i64 fl, .string tx]] w fun e w' => e = .returned (.tuple #[.agg #[.int .i64 2, .string us, .string bo, .string ⟨#[]⟩, .int .i64 0, .slice none 0 0, .int .i64 0, .string ⟨#[]⟩], .bool true]) ∧ Below w.heap.size w w' := by
  have bA := belNew w (.cells #[.int .i64 2, .string us, .string bo, .string tob, .int .i64 ui, u, .int .i64 fl, .string tx] 27)
  have qA := Box.new w #[.int .i64 2, .string us, .string bo, .string tob, .int .i64 ui, u, .int .i64 fl, .string tx] 27
  obtain ⟨wA, hwA⟩ : ∃ wA, wA = w.alloc (.cells #[.int .i64 2, .string us, .string bo, .string tob, .int .i64 ui, u, .int .i64 fl, .string tx] 27) := ⟨_, rfl⟩
  have eA : wA.heap.size = w.heap.size + 1 := by rw [hwA]; simp
  rw [← hwA] at bA qA
  have hB := Box.new wA #[.int .i64 0, .string ⟨#[]⟩, .string ⟨#[]⟩, .string ⟨#[]⟩, .int .i64 0, .slice none 0 0, .int .i64 0, .string ⟨#[]⟩] 27
  have kB := belNew wA (.cells #[.int .i64 0, .string ⟨#[]⟩, .string ⟨#[]⟩, .string ⟨#[]⟩, .int .i64 0, .slice none 0 0, .int .i64 0, .string ⟨#[]⟩] 27)
  have bB := bA.trans (kB.mono bA.size)
  obtain ⟨wB, hwB⟩ : ∃ wB, wB = wA.alloc (.cells #[.int .i64 0, .string ⟨#[]⟩, .string ⟨#[]⟩, .string ⟨#[]⟩, .int .i64 0, .slice none 0 0, .int .i64 0, .string ⟨#[]⟩] 27) := ⟨_, rfl⟩
  have eB : wB.heap.size = w.heap.size + 1 + 1 := by rw [hwB]; simp; omega
  rw [← hwB] at hB kB bB
  rw [eA] at hB
  have hC := Box.new wB #[.int .i64 2, .string us, .string bo, .string ⟨#[]⟩, .int .i64 0, .slice none 0 0, .int .i64 0, .string ⟨#[]⟩] 27
  have kC := belNew wB (.cells #[.int .i64 2, .string us, .string bo, .string ⟨#[]⟩, .int .i64 0, .slice none 0 0, .int .i64 0, .string ⟨#[]⟩] 27)
  have bC := bB.trans (kC.mono bB.size)
  obtain ⟨wC, hwC⟩ : ∃ wC, wC = wB.alloc (.cells #[.int .i64 2, .string us, .string bo, .string ⟨#[]⟩, .int .i64 0, .slice none 0 0, .int .i64 0, .string ⟨#[]⟩] 27) := ⟨_, rfl⟩
  rw [← hwC] at hC kC bC
  rw [eB] at hC
  have hB2 := hB.later kC
  have qA2 := (qA.later kB).later kC
  have HWC : Hid (wC = ((w.alloc (.cells #[.int .i64 2, .string us, .string bo, .string tob, .int .i64 ui, u, .int .i64 fl, .string tx] 27)).alloc (.cells #[.int .i64 0, .string ⟨#[]⟩, .string ⟨#[]⟩, .string ⟨#[]⟩, .int .i64 0, .slice none 0 0, .int .i64 0, .string ⟨#[]⟩] 27)).alloc (.cells #[.int .i64 2, .string us, .string bo, .string ⟨#[]⟩, .int .i64 0, .slice none 0 0, .int .i64 0, .string ⟨#[]⟩] 27)) := by rw [← hwA, ← hwB, ← hwC]; exact rfl
  clear hB bB bA kB kC qA eA eB hwA hwB hwC
  go_enter Try.func13, Try.ntmps13
  go_upto_region 2 with fail
  rw [← HWC.out]
  obtain ⟨a0, a1, a2, a3, a4, a5, a6, a7, _⟩ := qA2.eightL
  obtain ⟨c0, c1, c2, c3, c4, c5, c6, c7, _⟩ := hC.eightL
  obtain ⟨b0, b1, b2, b3, b4, b5, b6, b7, f0, f1, f2, f3, f4, f5, f6, f7⟩ := hB2.eightL
  have L5 := hB2.set8L (.int .i64 2) (.string us) (.string bo) (.string ⟨#[]⟩) (.int .i64 0) (.slice none 0 0) (.int .i64 0) (.string ⟨#[]⟩)
  have b5 : Hid (Below w.heap.size w (set8L wC (w.heap.size + 1) (.int .i64 2) (.string us) (.string bo) (.string ⟨#[]⟩) (.int .i64 0) (.slice none 0 0) (.int .i64 0) (.string ⟨#[]⟩))) := below_set8L bC (by omega) (.int .i64 2) (.string us) (.string bo) (.string ⟨#[]⟩) (.int .i64 0) (.slice none 0 0) (.int .i64 0) (.string ⟨#[]⟩)
  unfold set8L at L5 b5
  obtain ⟨z0, z1, z2, z3, z4, z5, z6, z7, _⟩ := L5.eightL
  clear L5 hB2 hC qA2 bC HWC
  go_wp2
  refine bodyPost_ret (v := .tuple #[.agg #[.int .i64 2, .string us, .string bo, .string ⟨#[]⟩, .int .i64 0, .slice none 0 0, .int .i64 0, .string ⟨#[]⟩], .bool true]) (by simp [results, Try.results13, go_sem, z0, z1, z2, z3, z4, z5, z6, z7]) rfl ⟨rfl, b5.out⟩

set_option maxRecDepth 100000 in
set_option maxHeartbeats 4000000 in
theorem used3 (us bo tob tx : ByteArray) (ui fl : Int) (u : Value) (w : World) (q : Bool) (hq : (decide (0 ≤ fl ∧ fl ≤ 7) && decide ((tx.size : Int) ≤ 100)) = q) :
    Calls Try.prog 13 #[.agg #[.int .i64 3, .string us, .string bo, .string tob, .int .i64 ui, u, .int .i64 fl, .string tx]] w fun e w' => e = .returned (.tuple #[.agg #[.int .i64 3, .string us, .string bo, .string ⟨#[]⟩, .int .i64 0, .slice none 0 0, .int .i64 fl, .string tx], .bool q]) ∧ Below w.heap.size w w' := by
  have bA := belNew w (.cells #[.int .i64 3, .string us, .string bo, .string tob, .int .i64 ui, u, .int .i64 fl, .string tx] 27)
  have qA := Box.new w #[.int .i64 3, .string us, .string bo, .string tob, .int .i64 ui, u, .int .i64 fl, .string tx] 27
  obtain ⟨wA, hwA⟩ : ∃ wA, wA = w.alloc (.cells #[.int .i64 3, .string us, .string bo, .string tob, .int .i64 ui, u, .int .i64 fl, .string tx] 27) := ⟨_, rfl⟩
  have eA : wA.heap.size = w.heap.size + 1 := by rw [hwA]; simp
  rw [← hwA] at bA qA
  have hB := Box.new wA #[.int .i64 0, .string ⟨#[]⟩, .string ⟨#[]⟩, .string ⟨#[]⟩, .int .i64 0, .slice none 0 0, .int .i64 0, .string ⟨#[]⟩] 27
  have kB := belNew wA (.cells #[.int .i64 0, .string ⟨#[]⟩, .string ⟨#[]⟩, .string ⟨#[]⟩, .int .i64 0, .slice none 0 0, .int .i64 0, .string ⟨#[]⟩] 27)
  have bB := bA.trans (kB.mono bA.size)
  obtain ⟨wB, hwB⟩ : ∃ wB, wB = wA.alloc (.cells #[.int .i64 0, .string ⟨#[]⟩, .string ⟨#[]⟩, .string ⟨#[]⟩, .int .i64 0, .slice none 0 0, .int .i64 0, .string ⟨#[]⟩] 27) := ⟨_, rfl⟩
  have eB : wB.heap.size = w.heap.size + 1 + 1 := by rw [hwB]; simp; omega
  rw [← hwB] at hB kB bB
  rw [eA] at hB
  have hC := Box.new wB #[.int .i64 3, .string us, .string bo, .string ⟨#[]⟩, .int .i64 0, .slice none 0 0, .int .i64 0, .string ⟨#[]⟩] 27
  have kC := belNew wB (.cells #[.int .i64 3, .string us, .string bo, .string ⟨#[]⟩, .int .i64 0, .slice none 0 0, .int .i64 0, .string ⟨#[]⟩] 27)
  have bC := bB.trans (kC.mono bB.size)
  obtain ⟨wC, hwC⟩ : ∃ wC, wC = wB.alloc (.cells #[.int .i64 3, .string us, .string bo, .string ⟨#[]⟩, .int .i64 0, .slice none 0 0, .int .i64 0, .string ⟨#[]⟩] 27) := ⟨_, rfl⟩
  rw [← hwC] at hC kC bC
  rw [eB] at hC
  have hB2 := hB.later kC
  have qA2 := (qA.later kB).later kC
  have HWC : Hid (wC = ((w.alloc (.cells #[.int .i64 3, .string us, .string bo, .string tob, .int .i64 ui, u, .int .i64 fl, .string tx] 27)).alloc (.cells #[.int .i64 0, .string ⟨#[]⟩, .string ⟨#[]⟩, .string ⟨#[]⟩, .int .i64 0, .slice none 0 0, .int .i64 0, .string ⟨#[]⟩] 27)).alloc (.cells #[.int .i64 3, .string us, .string bo, .string ⟨#[]⟩, .int .i64 0, .slice none 0 0, .int .i64 0, .string ⟨#[]⟩] 27)) := by rw [← hwA, ← hwB, ← hwC]; exact rfl
  clear hB bB bA kB kC qA eA eB hwA hwB hwC
  go_enter Try.func13, Try.ntmps13
  go_upto_region 7 with fail
  rw [← HWC.out]
  obtain ⟨a0, a1, a2, a3, a4, a5, a6, a7, _⟩ := qA2.eightL
  obtain ⟨c0, c1, c2, c3, c4, c5, c6, c7, f0, f1, f2, f3, f4, f5, f6, f7⟩ := hC.eightL
  go_region
  clear c0 c1 c2 c3 c4 c5 c6 c7 f0 f1 f2 f3 f4 f5 f6 f7
  have C2 : Box (((wC.setCell ⟨w.heap.size + 1 + 1, 6, none⟩ (.int .i64 fl)).setCell ⟨w.heap.size + 1 + 1, 7, none⟩ (.string tx)).drew) (w.heap.size + 1 + 1) #[.int .i64 3, .string us, .string bo, .string ⟨#[]⟩, .int .i64 0, .slice none 0 0, .int .i64 fl, .string tx] 27 := (hC.set 6 _).set 7 _
  have A2 : Box (((wC.setCell ⟨w.heap.size + 1 + 1, 6, none⟩ (.int .i64 fl)).setCell ⟨w.heap.size + 1 + 1, 7, none⟩ (.string tx)).drew) w.heap.size #[.int .i64 3, .string us, .string bo, .string tob, .int .i64 ui, u, .int .i64 fl, .string tx] 27 := (qA2.other (by omega) 6 _).other (by omega) 7 _
  have B2 : Box (((wC.setCell ⟨w.heap.size + 1 + 1, 6, none⟩ (.int .i64 fl)).setCell ⟨w.heap.size + 1 + 1, 7, none⟩ (.string tx)).drew) (w.heap.size + 1) #[.int .i64 0, .string ⟨#[]⟩, .string ⟨#[]⟩, .string ⟨#[]⟩, .int .i64 0, .slice none 0 0, .int .i64 0, .string ⟨#[]⟩] 27 := (hB2.other (by omega) 6 _).other (by omega) 7 _
  have b2 : Below w.heap.size w (((wC.setCell ⟨w.heap.size + 1 + 1, 6, none⟩ (.int .i64 fl)).setCell ⟨w.heap.size + 1 + 1, 7, none⟩ (.string tx)).drew) := ((bC.setCell (p := ⟨w.heap.size + 1 + 1, 6, none⟩) (show w.heap.size ≤ w.heap.size + 1 + 1 by omega) _).setCell (p := ⟨w.heap.size + 1 + 1, 7, none⟩) (show w.heap.size ≤ w.heap.size + 1 + 1 by omega) _).drew
  clear hB2 hC qA2 bC HWC a0 a1 a2 a3 a4 a5 a6 a7
  generalize ((wC.setCell ⟨w.heap.size + 1 + 1, 6, none⟩ (.int .i64 fl)).setCell ⟨w.heap.size + 1 + 1, 7, none⟩ (.string tx)).drew = w2 at A2 B2 C2 b2 ⊢
  by_cases hf : 0 ≤ fl ∧ fl ≤ 7
  · have HF : Hid (decide (0 ≤ fl ∧ fl ≤ 7) = true) := decide_eq_true hf
    by_cases hg : (tx.size : Int) ≤ 100
    · have HG : Hid (decide ((tx.size : Int) ≤ 100) = true) := decide_eq_true hg
      obtain rfl : q = true := by rw [← hq, HF.out, HG.out]; rfl
      obtain ⟨a0, a1, a2, a3, a4, a5, a6, a7, _⟩ := A2.eightL
      obtain ⟨c0, c1, c2, c3, c4, c5, c6, c7, _⟩ := C2.eightL
      obtain ⟨b0, b1, b2', b3, b4, b5, b6, b7, f0, f1, f2, f3, f4, f5, f6, f7⟩ := B2.eightL
      have L5 := B2.set8L (.int .i64 3) (.string us) (.string bo) (.string ⟨#[]⟩) (.int .i64 0) (.slice none 0 0) (.int .i64 fl) (.string tx)
      have b9 : Hid (Below w.heap.size w (set8L w2 (w.heap.size + 1) (.int .i64 3) (.string us) (.string bo) (.string ⟨#[]⟩) (.int .i64 0) (.slice none 0 0) (.int .i64 fl) (.string tx)).drew) := (below_set8L b2 (by omega) (.int .i64 3) (.string us) (.string bo) (.string ⟨#[]⟩) (.int .i64 0) (.slice none 0 0) (.int .i64 fl) (.string tx)).drew
      unfold set8L at L5 b9
      obtain ⟨z0, z1, z2, z3, z4, z5, z6, z7, _⟩ := L5.eightL
      clear L5 A2 B2 C2 b2
      go_upto_region 8 with fail
      go_region_law (first | (go_simp; go_at_call 17; refine (flagsOk_any _ _).mono ?_; rintro e w5 ⟨rfl, rfl⟩; rw [HF.out]; dsimp only))
      all_goals
        go_wp2
        refine bodyPost_ret (v := .tuple #[.agg #[.int .i64 3, .string us, .string bo, .string ⟨#[]⟩, .int .i64 0, .slice none 0 0, .int .i64 fl, .string tx], .bool true]) (by simp [results, Try.results13, go_sem, z0, z1, z2, z3, z4, z5, z6, z7]) rfl ⟨rfl, b9.out⟩
    · have HG : Hid (decide ((tx.size : Int) ≤ 100) = false) := decide_eq_false hg
      obtain rfl : q = false := by rw [← hq, HF.out, HG.out]; rfl
      obtain ⟨a0, a1, a2, a3, a4, a5, a6, a7, _⟩ := A2.eightL
      obtain ⟨c0, c1, c2, c3, c4, c5, c6, c7, _⟩ := C2.eightL
      obtain ⟨b0, b1, b2', b3, b4, b5, b6, b7, f0, f1, f2, f3, f4, f5, f6, f7⟩ := B2.eightL
      have L5 := B2.set8L (.int .i64 3) (.string us) (.string bo) (.string ⟨#[]⟩) (.int .i64 0) (.slice none 0 0) (.int .i64 fl) (.string tx)
      have b9 : Hid (Below w.heap.size w (set8L w2 (w.heap.size + 1) (.int .i64 3) (.string us) (.string bo) (.string ⟨#[]⟩) (.int .i64 0) (.slice none 0 0) (.int .i64 fl) (.string tx)).drew) := (below_set8L b2 (by omega) (.int .i64 3) (.string us) (.string bo) (.string ⟨#[]⟩) (.int .i64 0) (.slice none 0 0) (.int .i64 fl) (.string tx)).drew
      unfold set8L at L5 b9
      obtain ⟨z0, z1, z2, z3, z4, z5, z6, z7, _⟩ := L5.eightL
      clear L5 A2 B2 C2 b2
      go_upto_region 8 with fail
      go_region_law (first | (go_simp; go_at_call 17; refine (flagsOk_any _ _).mono ?_; rintro e w5 ⟨rfl, rfl⟩; rw [HF.out]; dsimp only))
      all_goals
        go_wp2
        refine bodyPost_ret (v := .tuple #[.agg #[.int .i64 3, .string us, .string bo, .string ⟨#[]⟩, .int .i64 0, .slice none 0 0, .int .i64 fl, .string tx], .bool false]) (by simp [results, Try.results13, go_sem, z0, z1, z2, z3, z4, z5, z6, z7]) rfl ⟨rfl, b9.out⟩
  · have HF : Hid (decide (0 ≤ fl ∧ fl ≤ 7) = false) := decide_eq_false hf
    obtain rfl : q = false := by rw [← hq, HF.out]; rfl
    obtain ⟨a0, a1, a2, a3, a4, a5, a6, a7, _⟩ := A2.eightL
    obtain ⟨c0, c1, c2, c3, c4, c5, c6, c7, _⟩ := C2.eightL
    obtain ⟨b0, b1, b2', b3, b4, b5, b6, b7, f0, f1, f2, f3, f4, f5, f6, f7⟩ := B2.eightL
    have L5 := B2.set8L (.int .i64 3) (.string us) (.string bo) (.string ⟨#[]⟩) (.int .i64 0) (.slice none 0 0) (.int .i64 fl) (.string tx)
    have b9 : Hid (Below w.heap.size w (set8L w2 (w.heap.size + 1) (.int .i64 3) (.string us) (.string bo) (.string ⟨#[]⟩) (.int .i64 0) (.slice none 0 0) (.int .i64 fl) (.string tx)).drew) := (below_set8L b2 (by omega) (.int .i64 3) (.string us) (.string bo) (.string ⟨#[]⟩) (.int .i64 0) (.slice none 0 0) (.int .i64 fl) (.string tx)).drew
    have HS9 : Hid (((set8L w2 (w.heap.size + 1) (.int .i64 3) (.string us) (.string bo) (.string ⟨#[]⟩) (.int .i64 0) (.slice none 0 0) (.int .i64 fl) (.string tx)).drew).cell? ⟨w.heap.size, 6, none⟩ = some (.int .i64 fl) ∧ ((set8L w2 (w.heap.size + 1) (.int .i64 3) (.string us) (.string bo) (.string ⟨#[]⟩) (.int .i64 0) (.slice none 0 0) (.int .i64 fl) (.string tx)).drew).cell? ⟨w.heap.size + 1 + 1, 0, none⟩ = some (.int .i64 3) ∧ ((set8L w2 (w.heap.size + 1) (.int .i64 3) (.string us) (.string bo) (.string ⟨#[]⟩) (.int .i64 0) (.slice none 0 0) (.int .i64 fl) (.string tx)).drew).cell? ⟨w.heap.size + 1 + 1, 1, none⟩ = some (.string us) ∧ ((set8L w2 (w.heap.size + 1) (.int .i64 3) (.string us) (.string bo) (.string ⟨#[]⟩) (.int .i64 0) (.slice none 0 0) (.int .i64 fl) (.string tx)).drew).cell? ⟨w.heap.size + 1 + 1, 2, none⟩ = some (.string bo) ∧ ((set8L w2 (w.heap.size + 1) (.int .i64 3) (.string us) (.string bo) (.string ⟨#[]⟩) (.int .i64 0) (.slice none 0 0) (.int .i64 fl) (.string tx)).drew).cell? ⟨w.heap.size + 1 + 1, 3, none⟩ = some (.string ⟨#[]⟩) ∧ ((set8L w2 (w.heap.size + 1) (.int .i64 3) (.string us) (.string bo) (.string ⟨#[]⟩) (.int .i64 0) (.slice none 0 0) (.int .i64 fl) (.string tx)).drew).cell? ⟨w.heap.size + 1 + 1, 4, none⟩ = some (.int .i64 0) ∧ ((set8L w2 (w.heap.size + 1) (.int .i64 3) (.string us) (.string bo) (.string ⟨#[]⟩) (.int .i64 0) (.slice none 0 0) (.int .i64 fl) (.string tx)).drew).cell? ⟨w.heap.size + 1 + 1, 5, none⟩ = some (.slice none 0 0) ∧ ((set8L w2 (w.heap.size + 1) (.int .i64 3) (.string us) (.string bo) (.string ⟨#[]⟩) (.int .i64 0) (.slice none 0 0) (.int .i64 fl) (.string tx)).drew).cell? ⟨w.heap.size + 1 + 1, 6, none⟩ = some (.int .i64 fl) ∧ ((set8L w2 (w.heap.size + 1) (.int .i64 3) (.string us) (.string bo) (.string ⟨#[]⟩) (.int .i64 0) (.slice none 0 0) (.int .i64 fl) (.string tx)).drew).cell? ⟨w.heap.size + 1 + 1, 7, none⟩ = some (.string tx)) := by
      have gA := (A2.stay8 (g := w.heap.size + 1) (by omega) (.int .i64 3) (.string us) (.string bo) (.string ⟨#[]⟩) (.int .i64 0) (.slice none 0 0) (.int .i64 fl) (.string tx)).drewC
      have gC := (C2.stay8 (g := w.heap.size + 1) (by omega) (.int .i64 3) (.string us) (.string bo) (.string ⟨#[]⟩) (.int .i64 0) (.slice none 0 0) (.int .i64 fl) (.string tx)).drewC
      exact ⟨gA.cell 6 _ rfl, gC.cell 0 _ rfl, gC.cell 1 _ rfl, gC.cell 2 _ rfl, gC.cell 3 _ rfl, gC.cell 4 _ rfl, gC.cell 5 _ rfl, gC.cell 6 _ rfl, gC.cell 7 _ rfl⟩
    unfold set8L at L5 b9 HS9
    obtain ⟨z0, z1, z2, z3, z4, z5, z6, z7, _⟩ := L5.eightL
    clear L5 A2 B2 C2 b2
    go_upto_region 8 with fail
    skip
    refine wp_region_held_drew (S := fun x => x.cell? ⟨w.heap.size, 6, none⟩ = some (.int .i64 fl) ∧ x.cell? ⟨w.heap.size + 1 + 1, 0, none⟩ = some (.int .i64 3) ∧ x.cell? ⟨w.heap.size + 1 + 1, 1, none⟩ = some (.string us) ∧ x.cell? ⟨w.heap.size + 1 + 1, 2, none⟩ = some (.string bo) ∧ x.cell? ⟨w.heap.size + 1 + 1, 3, none⟩ = some (.string ⟨#[]⟩) ∧ x.cell? ⟨w.heap.size + 1 + 1, 4, none⟩ = some (.int .i64 0) ∧ x.cell? ⟨w.heap.size + 1 + 1, 5, none⟩ = some (.slice none 0 0) ∧ x.cell? ⟨w.heap.size + 1 + 1, 6, none⟩ = some (.int .i64 fl) ∧ x.cell? ⟨w.heap.size + 1 + 1, 7, none⟩ = some (.string tx)) (by kernel_rfl) ⟨a6, c0, c1, c2, c3, c4, c5, c6, c7⟩ (fun hHeld => ?_)
    refine takeL (i := 0) (v := .agg #[.int .i64 3, .string us, .string bo, .string ⟨#[]⟩, .int .i64 0, .slice none 0 0, .int .i64 fl, .string tx]) rfl (by kernel_rfl) (by kernel_rfl) (by kernel_rfl) (fun _ _ _ h => h) (Or.inl ⟨by rfl, ?_⟩) (by assumption) ?_
    · intro x hSx; obtain ⟨q, q0, q1, q2, q3, q4, q5, q6, q7⟩ := hSx; go_simp
    try simp only [Act.put, List.setIfInBounds_toArray, List.set_cons_zero, List.set_cons_succ]
    refine takeL (i := 1) (v := .pointer (some ⟨w.heap.size, 6, none⟩)) rfl (by kernel_rfl) (by kernel_rfl) (by kernel_rfl) (fun _ _ _ h => h) (Or.inl ⟨by rfl, ?_⟩) (by assumption) ?_
    · intro x hSx; obtain ⟨q, q0, q1, q2, q3, q4, q5, q6, q7⟩ := hSx; go_simp
    try simp only [Act.put, List.setIfInBounds_toArray, List.set_cons_zero, List.set_cons_succ]
    refine takeL (i := 2) (v := .int .i64 fl) rfl (by kernel_rfl) (by kernel_rfl) (by kernel_rfl) (fun _ _ _ h => h) (Or.inl ⟨by rfl, ?_⟩) (by assumption) ?_
    · intro x hSx; obtain ⟨q, q0, q1, q2, q3, q4, q5, q6, q7⟩ := hSx; go_simp
    try simp only [Act.put, List.setIfInBounds_toArray, List.set_cons_zero, List.set_cons_succ]
    refine wpAnyH_ready (rs := [3]) (by kernel_rfl) (by simp) ?_
    refine readyOne rfl (fun K' hK => ?_)
    go_simp
    refine (flagsOk_any _ _).mono ?_
    rintro e wT ⟨rfl, rfl⟩
    rw [HF.out]
    go_wp2_with fail
    refine hK.out _ _ hHeld (fun hS2 => ?_)
    clear hK K' hS2
    try simp only [Act.put, List.setIfInBounds_toArray, List.set_cons_zero, List.set_cons_succ]
    refine takeL (i := 4) (v := .bool false) rfl (by kernel_rfl) (by kernel_rfl) (by kernel_rfl) (fun _ _ _ h => h) (Or.inl ⟨by rfl, ?_⟩) (by assumption) ?_
    · intro x hSx; obtain ⟨q, q0, q1, q2, q3, q4, q5, q6, q7⟩ := hSx; go_simp
    try simp only [Act.put, List.setIfInBounds_toArray, List.set_cons_zero, List.set_cons_succ]
    refine takeL (i := 5) (v := undef) rfl (by kernel_rfl) (by kernel_rfl) (by kernel_rfl) (fun _ _ _ h => h) (Or.inr ⟨by rfl, rfl⟩) (by assumption) ?_
    try simp only [Act.put, List.setIfInBounds_toArray, List.set_cons_zero, List.set_cons_succ]
    refine takeL (i := 6) (v := undef) rfl (by kernel_rfl) (by kernel_rfl) (by kernel_rfl) (fun _ _ _ h => h) (Or.inr ⟨by rfl, rfl⟩) (by assumption) ?_
    try simp only [Act.put, List.setIfInBounds_toArray, List.set_cons_zero, List.set_cons_succ]
    refine takeL (i := 7) (v := undef) rfl (by kernel_rfl) (by kernel_rfl) (by kernel_rfl) (fun _ _ _ h => h) (Or.inr ⟨by rfl, rfl⟩) (by assumption) ?_
    try simp only [Act.put, List.setIfInBounds_toArray, List.set_cons_zero, List.set_cons_succ]
    refine takeL (i := 8) (v := undef) rfl (by kernel_rfl) (by kernel_rfl) (by kernel_rfl) (fun _ _ _ h => h) (Or.inr ⟨by rfl, rfl⟩) (by assumption) ?_
    try simp only [Act.put, List.setIfInBounds_toArray, List.set_cons_zero, List.set_cons_succ]
    refine takeL (i := 9) (v := .bool false) rfl (by kernel_rfl) (by kernel_rfl) (by kernel_rfl) (fun _ _ _ h => h) (Or.inl ⟨by rfl, ?_⟩) (by assumption) ?_
    · intro x hSx; obtain ⟨q, q0, q1, q2, q3, q4, q5, q6, q7⟩ := hSx; go_simp
    try simp only [Act.put, List.setIfInBounds_toArray, List.set_cons_zero, List.set_cons_succ]
    refine wpAnyH_ready (rs := [10]) (by kernel_rfl) (by simp) ?_
    refine readyOne rfl (fun K' hK => ?_)
    go_simp
    refine hK.out _ _ HS9.out (fun hS2 => ?_)
    clear hK K' hHeld
    have hHeld := hS2
    clear hS2
    try simp only [Act.put, List.setIfInBounds_toArray, List.set_cons_zero, List.set_cons_succ]
    refine takeL (i := 11) (v := .bool false) rfl (by kernel_rfl) (by kernel_rfl) (by kernel_rfl) (fun _ _ _ h => h) (Or.inl ⟨by rfl, ?_⟩) (by assumption) ?_
    · intro x hSx; obtain ⟨q, q0, q1, q2, q3, q4, q5, q6, q7⟩ := hSx; go_simp
    try simp only [Act.put, List.setIfInBounds_toArray, List.set_cons_zero, List.set_cons_succ]
    refine wpAnyH_done (by kernel_rfl) ?_ _
    all_goals
      go_wp2
      refine bodyPost_ret (v := .tuple #[.agg #[.int .i64 3, .string us, .string bo, .string ⟨#[]⟩, .int .i64 0, .slice none 0 0, .int .i64 fl, .string tx], .bool false]) (by simp [results, Try.results13, go_sem, z0, z1, z2, z3, z4, z5, z6, z7]) rfl ⟨rfl, b9.out⟩

set_option maxRecDepth 100000 in
set_option maxHeartbeats 4000000 in
theorem used4 (us bo tob tx : ByteArray) (ui fl : Int) (u : Value) (w : World) (q : Bool) (hq : (decide (1 ≤ ui ∧ ui ≤ 9999) && decide (0 ≤ fl ∧ fl ≤ 7)) = q) :
    Calls Try.prog 13 #[.agg #[.int .i64 4, .string us, .string bo, .string tob, .int .i64 ui, u, .int .i64 fl, .string tx]] w fun e w' => e = .returned (.tuple #[.agg #[.int .i64 4, .string us, .string bo, .string ⟨#[]⟩, .int .i64 ui, .slice none 0 0, .int .i64 fl, .string ⟨#[]⟩], .bool q]) ∧ Below w.heap.size w w' := by
  have bA := belNew w (.cells #[.int .i64 4, .string us, .string bo, .string tob, .int .i64 ui, u, .int .i64 fl, .string tx] 27)
  have qA := Box.new w #[.int .i64 4, .string us, .string bo, .string tob, .int .i64 ui, u, .int .i64 fl, .string tx] 27
  obtain ⟨wA, hwA⟩ : ∃ wA, wA = w.alloc (.cells #[.int .i64 4, .string us, .string bo, .string tob, .int .i64 ui, u, .int .i64 fl, .string tx] 27) := ⟨_, rfl⟩
  have eA : wA.heap.size = w.heap.size + 1 := by rw [hwA]; simp
  rw [← hwA] at bA qA
  have hB := Box.new wA #[.int .i64 0, .string ⟨#[]⟩, .string ⟨#[]⟩, .string ⟨#[]⟩, .int .i64 0, .slice none 0 0, .int .i64 0, .string ⟨#[]⟩] 27
  have kB := belNew wA (.cells #[.int .i64 0, .string ⟨#[]⟩, .string ⟨#[]⟩, .string ⟨#[]⟩, .int .i64 0, .slice none 0 0, .int .i64 0, .string ⟨#[]⟩] 27)
  have bB := bA.trans (kB.mono bA.size)
  obtain ⟨wB, hwB⟩ : ∃ wB, wB = wA.alloc (.cells #[.int .i64 0, .string ⟨#[]⟩, .string ⟨#[]⟩, .string ⟨#[]⟩, .int .i64 0, .slice none 0 0, .int .i64 0, .string ⟨#[]⟩] 27) := ⟨_, rfl⟩
  have eB : wB.heap.size = w.heap.size + 1 + 1 := by rw [hwB]; simp; omega
  rw [← hwB] at hB kB bB
  rw [eA] at hB
  have hC := Box.new wB #[.int .i64 4, .string us, .string bo, .string ⟨#[]⟩, .int .i64 0, .slice none 0 0, .int .i64 0, .string ⟨#[]⟩] 27
  have kC := belNew wB (.cells #[.int .i64 4, .string us, .string bo, .string ⟨#[]⟩, .int .i64 0, .slice none 0 0, .int .i64 0, .string ⟨#[]⟩] 27)
  have bC := bB.trans (kC.mono bB.size)
  obtain ⟨wC, hwC⟩ : ∃ wC, wC = wB.alloc (.cells #[.int .i64 4, .string us, .string bo, .string ⟨#[]⟩, .int .i64 0, .slice none 0 0, .int .i64 0, .string ⟨#[]⟩] 27) := ⟨_, rfl⟩
  rw [← hwC] at hC kC bC
  rw [eB] at hC
  have hB2 := hB.later kC
  have qA2 := (qA.later kB).later kC
  have HWC : Hid (wC = ((w.alloc (.cells #[.int .i64 4, .string us, .string bo, .string tob, .int .i64 ui, u, .int .i64 fl, .string tx] 27)).alloc (.cells #[.int .i64 0, .string ⟨#[]⟩, .string ⟨#[]⟩, .string ⟨#[]⟩, .int .i64 0, .slice none 0 0, .int .i64 0, .string ⟨#[]⟩] 27)).alloc (.cells #[.int .i64 4, .string us, .string bo, .string ⟨#[]⟩, .int .i64 0, .slice none 0 0, .int .i64 0, .string ⟨#[]⟩] 27)) := by rw [← hwA, ← hwB, ← hwC]; exact rfl
  clear hB bB bA kB kC qA eA eB hwA hwB hwC
  go_enter Try.func13, Try.ntmps13
  go_upto_region 10 with fail
  rw [← HWC.out]
  obtain ⟨a0, a1, a2, a3, a4, a5, a6, a7, _⟩ := qA2.eightL
  obtain ⟨c0, c1, c2, c3, c4, c5, c6, c7, f0, f1, f2, f3, f4, f5, f6, f7⟩ := hC.eightL
  go_region
  clear c0 c1 c2 c3 c4 c5 c6 c7 f0 f1 f2 f3 f4 f5 f6 f7
  have C2 : Box (((wC.setCell ⟨w.heap.size + 1 + 1, 4, none⟩ (.int .i64 ui)).setCell ⟨w.heap.size + 1 + 1, 6, none⟩ (.int .i64 fl)).drew) (w.heap.size + 1 + 1) #[.int .i64 4, .string us, .string bo, .string ⟨#[]⟩, .int .i64 ui, .slice none 0 0, .int .i64 fl, .string ⟨#[]⟩] 27 := (hC.set 4 _).set 6 _
  have A2 : Box (((wC.setCell ⟨w.heap.size + 1 + 1, 4, none⟩ (.int .i64 ui)).setCell ⟨w.heap.size + 1 + 1, 6, none⟩ (.int .i64 fl)).drew) w.heap.size #[.int .i64 4, .string us, .string bo, .string tob, .int .i64 ui, u, .int .i64 fl, .string tx] 27 := (qA2.other (by omega) 4 _).other (by omega) 6 _
  have B2 : Box (((wC.setCell ⟨w.heap.size + 1 + 1, 4, none⟩ (.int .i64 ui)).setCell ⟨w.heap.size + 1 + 1, 6, none⟩ (.int .i64 fl)).drew) (w.heap.size + 1) #[.int .i64 0, .string ⟨#[]⟩, .string ⟨#[]⟩, .string ⟨#[]⟩, .int .i64 0, .slice none 0 0, .int .i64 0, .string ⟨#[]⟩] 27 := (hB2.other (by omega) 4 _).other (by omega) 6 _
  have b2 : Below w.heap.size w (((wC.setCell ⟨w.heap.size + 1 + 1, 4, none⟩ (.int .i64 ui)).setCell ⟨w.heap.size + 1 + 1, 6, none⟩ (.int .i64 fl)).drew) := ((bC.setCell (p := ⟨w.heap.size + 1 + 1, 4, none⟩) (show w.heap.size ≤ w.heap.size + 1 + 1 by omega) _).setCell (p := ⟨w.heap.size + 1 + 1, 6, none⟩) (show w.heap.size ≤ w.heap.size + 1 + 1 by omega) _).drew
  clear hB2 hC qA2 bC HWC a0 a1 a2 a3 a4 a5 a6 a7
  generalize ((wC.setCell ⟨w.heap.size + 1 + 1, 4, none⟩ (.int .i64 ui)).setCell ⟨w.heap.size + 1 + 1, 6, none⟩ (.int .i64 fl)).drew = w2 at A2 B2 C2 b2 ⊢
  by_cases hf : 1 ≤ ui ∧ ui ≤ 9999
  · have HF : Hid (decide (1 ≤ ui ∧ ui ≤ 9999) = true) := decide_eq_true hf
    by_cases hg : 0 ≤ fl ∧ fl ≤ 7
    · have HG : Hid (decide (0 ≤ fl ∧ fl ≤ 7) = true) := decide_eq_true hg
      obtain rfl : q = true := by rw [← hq, HF.out, HG.out]; rfl
      obtain ⟨a0, a1, a2, a3, a4, a5, a6, a7, _⟩ := A2.eightL
      obtain ⟨c0, c1, c2, c3, c4, c5, c6, c7, _⟩ := C2.eightL
      obtain ⟨b0, b1, b2', b3, b4, b5, b6, b7, f0, f1, f2, f3, f4, f5, f6, f7⟩ := B2.eightL
      have L5 := B2.set8L (.int .i64 4) (.string us) (.string bo) (.string ⟨#[]⟩) (.int .i64 ui) (.slice none 0 0) (.int .i64 fl) (.string ⟨#[]⟩)
      have b9 : Hid (Below w.heap.size w (set8L w2 (w.heap.size + 1) (.int .i64 4) (.string us) (.string bo) (.string ⟨#[]⟩) (.int .i64 ui) (.slice none 0 0) (.int .i64 fl) (.string ⟨#[]⟩)).drew) := (below_set8L b2 (by omega) (.int .i64 4) (.string us) (.string bo) (.string ⟨#[]⟩) (.int .i64 ui) (.slice none 0 0) (.int .i64 fl) (.string ⟨#[]⟩)).drew
      unfold set8L at L5 b9
      obtain ⟨z0, z1, z2, z3, z4, z5, z6, z7, _⟩ := L5.eightL
      clear L5 A2 B2 C2 b2
      go_upto_region 11 with fail
      go_region_law (first | (go_simp; go_at_call 18; refine (validOk_yes _ _ hf.1 hf.2).mono ?_; rintro e w5 ⟨rfl, rfl⟩; dsimp only) | (go_simp; go_at_call 17; refine (flagsOk_any _ _).mono ?_; rintro e w6 ⟨rfl, rfl⟩; rw [HG.out]; dsimp only))
      all_goals
        go_wp2
        refine bodyPost_ret (v := .tuple #[.agg #[.int .i64 4, .string us, .string bo, .string ⟨#[]⟩, .int .i64 ui, .slice none 0 0, .int .i64 fl, .string ⟨#[]⟩], .bool true]) (by simp [results, Try.results13, go_sem, z0, z1, z2, z3, z4, z5, z6, z7]) rfl ⟨rfl, b9.out⟩
    · have HG : Hid (decide (0 ≤ fl ∧ fl ≤ 7) = false) := decide_eq_false hg
      obtain rfl : q = false := by rw [← hq, HF.out, HG.out]; rfl
      obtain ⟨a0, a1, a2, a3, a4, a5, a6, a7, _⟩ := A2.eightL
      obtain ⟨c0, c1, c2, c3, c4, c5, c6, c7, _⟩ := C2.eightL
      obtain ⟨b0, b1, b2', b3, b4, b5, b6, b7, f0, f1, f2, f3, f4, f5, f6, f7⟩ := B2.eightL
      have L5 := B2.set8L (.int .i64 4) (.string us) (.string bo) (.string ⟨#[]⟩) (.int .i64 ui) (.slice none 0 0) (.int .i64 fl) (.string ⟨#[]⟩)
      have b9 : Hid (Below w.heap.size w (set8L w2 (w.heap.size + 1) (.int .i64 4) (.string us) (.string bo) (.string ⟨#[]⟩) (.int .i64 ui) (.slice none 0 0) (.int .i64 fl) (.string ⟨#[]⟩)).drew) := (below_set8L b2 (by omega) (.int .i64 4) (.string us) (.string bo) (.string ⟨#[]⟩) (.int .i64 ui) (.slice none 0 0) (.int .i64 fl) (.string ⟨#[]⟩)).drew
      unfold set8L at L5 b9
      obtain ⟨z0, z1, z2, z3, z4, z5, z6, z7, _⟩ := L5.eightL
      clear L5 A2 B2 C2 b2
      go_upto_region 11 with fail
      go_region_law (first | (go_simp; go_at_call 18; refine (validOk_yes _ _ hf.1 hf.2).mono ?_; rintro e w5 ⟨rfl, rfl⟩; dsimp only) | (go_simp; go_at_call 17; refine (flagsOk_any _ _).mono ?_; rintro e w6 ⟨rfl, rfl⟩; rw [HG.out]; dsimp only))
      all_goals
        go_wp2
        refine bodyPost_ret (v := .tuple #[.agg #[.int .i64 4, .string us, .string bo, .string ⟨#[]⟩, .int .i64 ui, .slice none 0 0, .int .i64 fl, .string ⟨#[]⟩], .bool false]) (by simp [results, Try.results13, go_sem, z0, z1, z2, z3, z4, z5, z6, z7]) rfl ⟨rfl, b9.out⟩
  · have HF : Hid (decide (1 ≤ ui ∧ ui ≤ 9999) = false) := decide_eq_false hf
    obtain rfl : q = false := by rw [← hq, HF.out]; rfl
    obtain ⟨a0, a1, a2, a3, a4, a5, a6, a7, _⟩ := A2.eightL
    obtain ⟨c0, c1, c2, c3, c4, c5, c6, c7, _⟩ := C2.eightL
    obtain ⟨b0, b1, b2', b3, b4, b5, b6, b7, f0, f1, f2, f3, f4, f5, f6, f7⟩ := B2.eightL
    have L5 := B2.set8L (.int .i64 4) (.string us) (.string bo) (.string ⟨#[]⟩) (.int .i64 ui) (.slice none 0 0) (.int .i64 fl) (.string ⟨#[]⟩)
    have b9 : Hid (Below w.heap.size w (set8L w2 (w.heap.size + 1) (.int .i64 4) (.string us) (.string bo) (.string ⟨#[]⟩) (.int .i64 ui) (.slice none 0 0) (.int .i64 fl) (.string ⟨#[]⟩)).drew) := (below_set8L b2 (by omega) (.int .i64 4) (.string us) (.string bo) (.string ⟨#[]⟩) (.int .i64 ui) (.slice none 0 0) (.int .i64 fl) (.string ⟨#[]⟩)).drew
    have HS9 : Hid (((set8L w2 (w.heap.size + 1) (.int .i64 4) (.string us) (.string bo) (.string ⟨#[]⟩) (.int .i64 ui) (.slice none 0 0) (.int .i64 fl) (.string ⟨#[]⟩)).drew).cell? ⟨w.heap.size, 4, none⟩ = some (.int .i64 ui) ∧ ((set8L w2 (w.heap.size + 1) (.int .i64 4) (.string us) (.string bo) (.string ⟨#[]⟩) (.int .i64 ui) (.slice none 0 0) (.int .i64 fl) (.string ⟨#[]⟩)).drew).cell? ⟨w.heap.size + 1 + 1, 0, none⟩ = some (.int .i64 4) ∧ ((set8L w2 (w.heap.size + 1) (.int .i64 4) (.string us) (.string bo) (.string ⟨#[]⟩) (.int .i64 ui) (.slice none 0 0) (.int .i64 fl) (.string ⟨#[]⟩)).drew).cell? ⟨w.heap.size + 1 + 1, 1, none⟩ = some (.string us) ∧ ((set8L w2 (w.heap.size + 1) (.int .i64 4) (.string us) (.string bo) (.string ⟨#[]⟩) (.int .i64 ui) (.slice none 0 0) (.int .i64 fl) (.string ⟨#[]⟩)).drew).cell? ⟨w.heap.size + 1 + 1, 2, none⟩ = some (.string bo) ∧ ((set8L w2 (w.heap.size + 1) (.int .i64 4) (.string us) (.string bo) (.string ⟨#[]⟩) (.int .i64 ui) (.slice none 0 0) (.int .i64 fl) (.string ⟨#[]⟩)).drew).cell? ⟨w.heap.size + 1 + 1, 3, none⟩ = some (.string ⟨#[]⟩) ∧ ((set8L w2 (w.heap.size + 1) (.int .i64 4) (.string us) (.string bo) (.string ⟨#[]⟩) (.int .i64 ui) (.slice none 0 0) (.int .i64 fl) (.string ⟨#[]⟩)).drew).cell? ⟨w.heap.size + 1 + 1, 4, none⟩ = some (.int .i64 ui) ∧ ((set8L w2 (w.heap.size + 1) (.int .i64 4) (.string us) (.string bo) (.string ⟨#[]⟩) (.int .i64 ui) (.slice none 0 0) (.int .i64 fl) (.string ⟨#[]⟩)).drew).cell? ⟨w.heap.size + 1 + 1, 5, none⟩ = some (.slice none 0 0) ∧ ((set8L w2 (w.heap.size + 1) (.int .i64 4) (.string us) (.string bo) (.string ⟨#[]⟩) (.int .i64 ui) (.slice none 0 0) (.int .i64 fl) (.string ⟨#[]⟩)).drew).cell? ⟨w.heap.size + 1 + 1, 6, none⟩ = some (.int .i64 fl) ∧ ((set8L w2 (w.heap.size + 1) (.int .i64 4) (.string us) (.string bo) (.string ⟨#[]⟩) (.int .i64 ui) (.slice none 0 0) (.int .i64 fl) (.string ⟨#[]⟩)).drew).cell? ⟨w.heap.size + 1 + 1, 7, none⟩ = some (.string ⟨#[]⟩)) := by
      have gA := (A2.stay8 (g := w.heap.size + 1) (by omega) (.int .i64 4) (.string us) (.string bo) (.string ⟨#[]⟩) (.int .i64 ui) (.slice none 0 0) (.int .i64 fl) (.string ⟨#[]⟩)).drewC
      have gC := (C2.stay8 (g := w.heap.size + 1) (by omega) (.int .i64 4) (.string us) (.string bo) (.string ⟨#[]⟩) (.int .i64 ui) (.slice none 0 0) (.int .i64 fl) (.string ⟨#[]⟩)).drewC
      exact ⟨gA.cell 4 _ rfl, gC.cell 0 _ rfl, gC.cell 1 _ rfl, gC.cell 2 _ rfl, gC.cell 3 _ rfl, gC.cell 4 _ rfl, gC.cell 5 _ rfl, gC.cell 6 _ rfl, gC.cell 7 _ rfl⟩
    unfold set8L at L5 b9 HS9
    obtain ⟨z0, z1, z2, z3, z4, z5, z6, z7, _⟩ := L5.eightL
    clear L5 A2 B2 C2 b2
    go_upto_region 11 with fail
    skip
    refine wp_region_held_drew (S := fun x => x.cell? ⟨w.heap.size, 4, none⟩ = some (.int .i64 ui) ∧ x.cell? ⟨w.heap.size + 1 + 1, 0, none⟩ = some (.int .i64 4) ∧ x.cell? ⟨w.heap.size + 1 + 1, 1, none⟩ = some (.string us) ∧ x.cell? ⟨w.heap.size + 1 + 1, 2, none⟩ = some (.string bo) ∧ x.cell? ⟨w.heap.size + 1 + 1, 3, none⟩ = some (.string ⟨#[]⟩) ∧ x.cell? ⟨w.heap.size + 1 + 1, 4, none⟩ = some (.int .i64 ui) ∧ x.cell? ⟨w.heap.size + 1 + 1, 5, none⟩ = some (.slice none 0 0) ∧ x.cell? ⟨w.heap.size + 1 + 1, 6, none⟩ = some (.int .i64 fl) ∧ x.cell? ⟨w.heap.size + 1 + 1, 7, none⟩ = some (.string ⟨#[]⟩)) (by kernel_rfl) ⟨a4, c0, c1, c2, c3, c4, c5, c6, c7⟩ (fun hHeld => ?_)
    refine takeL (i := 0) (v := .agg #[.int .i64 4, .string us, .string bo, .string ⟨#[]⟩, .int .i64 ui, .slice none 0 0, .int .i64 fl, .string ⟨#[]⟩]) rfl (by kernel_rfl) (by kernel_rfl) (by kernel_rfl) (fun _ _ _ h => h) (Or.inl ⟨by rfl, ?_⟩) (by assumption) ?_
    · intro x hSx; obtain ⟨q, q0, q1, q2, q3, q4, q5, q6, q7⟩ := hSx; go_simp
    try simp only [Act.put, List.setIfInBounds_toArray, List.set_cons_zero, List.set_cons_succ]
    refine takeL (i := 1) (v := .pointer (some ⟨w.heap.size, 4, none⟩)) rfl (by kernel_rfl) (by kernel_rfl) (by kernel_rfl) (fun _ _ _ h => h) (Or.inl ⟨by rfl, ?_⟩) (by assumption) ?_
    · intro x hSx; obtain ⟨q, q0, q1, q2, q3, q4, q5, q6, q7⟩ := hSx; go_simp
    try simp only [Act.put, List.setIfInBounds_toArray, List.set_cons_zero, List.set_cons_succ]
    refine takeL (i := 2) (v := .int .i64 ui) rfl (by kernel_rfl) (by kernel_rfl) (by kernel_rfl) (fun _ _ _ h => h) (Or.inl ⟨by rfl, ?_⟩) (by assumption) ?_
    · intro x hSx; obtain ⟨q, q0, q1, q2, q3, q4, q5, q6, q7⟩ := hSx; go_simp
    try simp only [Act.put, List.setIfInBounds_toArray, List.set_cons_zero, List.set_cons_succ]
    refine wpAnyH_ready (rs := [3]) (by kernel_rfl) (by simp) ?_
    refine readyOne rfl (fun K' hK => ?_)
    go_simp
    refine (validOk_no _ _ hf).mono ?_
    rintro e wT ⟨rfl, rfl⟩
    go_wp2_with fail
    refine hK.out _ _ hHeld (fun hS2 => ?_)
    clear hK K' hS2
    try simp only [Act.put, List.setIfInBounds_toArray, List.set_cons_zero, List.set_cons_succ]
    refine takeL (i := 4) (v := .bool false) rfl (by kernel_rfl) (by kernel_rfl) (by kernel_rfl) (fun _ _ _ h => h) (Or.inl ⟨by rfl, ?_⟩) (by assumption) ?_
    · intro x hSx; obtain ⟨q, q0, q1, q2, q3, q4, q5, q6, q7⟩ := hSx; go_simp
    try simp only [Act.put, List.setIfInBounds_toArray, List.set_cons_zero, List.set_cons_succ]
    refine takeL (i := 5) (v := undef) rfl (by kernel_rfl) (by kernel_rfl) (by kernel_rfl) (fun _ _ _ h => h) (Or.inr ⟨by rfl, rfl⟩) (by assumption) ?_
    try simp only [Act.put, List.setIfInBounds_toArray, List.set_cons_zero, List.set_cons_succ]
    refine takeL (i := 6) (v := undef) rfl (by kernel_rfl) (by kernel_rfl) (by kernel_rfl) (fun _ _ _ h => h) (Or.inr ⟨by rfl, rfl⟩) (by assumption) ?_
    try simp only [Act.put, List.setIfInBounds_toArray, List.set_cons_zero, List.set_cons_succ]
    refine takeL (i := 7) (v := undef) rfl (by kernel_rfl) (by kernel_rfl) (by kernel_rfl) (fun _ _ _ h => h) (Or.inr ⟨by rfl, rfl⟩) (by assumption) ?_
    try simp only [Act.put, List.setIfInBounds_toArray, List.set_cons_zero, List.set_cons_succ]
    refine takeL (i := 8) (v := .bool false) rfl (by kernel_rfl) (by kernel_rfl) (by kernel_rfl) (fun _ _ _ h => h) (Or.inl ⟨by rfl, ?_⟩) (by assumption) ?_
    · intro x hSx; obtain ⟨q, q0, q1, q2, q3, q4, q5, q6, q7⟩ := hSx; go_simp
    try simp only [Act.put, List.setIfInBounds_toArray, List.set_cons_zero, List.set_cons_succ]
    refine wpAnyH_ready (rs := [9]) (by kernel_rfl) (by simp) ?_
    refine readyOne rfl (fun K' hK => ?_)
    go_simp
    refine hK.out _ _ HS9.out (fun hS2 => ?_)
    clear hK K' hHeld
    have hHeld := hS2
    clear hS2
    try simp only [Act.put, List.setIfInBounds_toArray, List.set_cons_zero, List.set_cons_succ]
    refine takeL (i := 10) (v := .bool false) rfl (by kernel_rfl) (by kernel_rfl) (by kernel_rfl) (fun _ _ _ h => h) (Or.inl ⟨by rfl, ?_⟩) (by assumption) ?_
    · intro x hSx; obtain ⟨q, q0, q1, q2, q3, q4, q5, q6, q7⟩ := hSx; go_simp
    try simp only [Act.put, List.setIfInBounds_toArray, List.set_cons_zero, List.set_cons_succ]
    refine wpAnyH_done (by kernel_rfl) ?_ _
    all_goals
      go_wp2
      refine bodyPost_ret (v := .tuple #[.agg #[.int .i64 4, .string us, .string bo, .string ⟨#[]⟩, .int .i64 ui, .slice none 0 0, .int .i64 fl, .string ⟨#[]⟩], .bool false]) (by simp [results, Try.results13, go_sem, z0, z1, z2, z3, z4, z5, z6, z7]) rfl ⟨rfl, b9.out⟩

set_option maxRecDepth 100000 in
set_option maxHeartbeats 4000000 in
theorem used5 (us bo tob tx : ByteArray) (ui fl : Int) (ad : Option Addr) (n cap : Nat) (w : World) (l : List Int) (hu : Rows' intE w (.slice ad n cap) l) (hl : l.length ≤ 1048576) (q : Bool) (hq : sameP (uidsP l) = q) :
    Calls Try.prog 13 #[.agg #[.int .i64 5, .string us, .string bo, .string tob, .int .i64 ui, .slice ad n cap, .int .i64 fl, .string tx]] w fun e w' => e = .returned (.tuple #[.agg #[.int .i64 5, .string us, .string bo, .string ⟨#[]⟩, .int .i64 0, .slice ad n cap, .int .i64 0, .string ⟨#[]⟩], .bool q]) ∧ Below w.heap.size w w' := by
  have HU := Lib.hid (fun (x : World) (hx : Below w.heap.size w x) => uidsOk_any l (.slice ad n cap) x (hu.later hx) hl)
  have HQ := Lib.hid hq
  clear hu hq
  have bA := belNew w (.cells #[.int .i64 5, .string us, .string bo, .string tob, .int .i64 ui, .slice ad n cap, .int .i64 fl, .string tx] 27)
  have qA := Box.new w #[.int .i64 5, .string us, .string bo, .string tob, .int .i64 ui, .slice ad n cap, .int .i64 fl, .string tx] 27
  obtain ⟨wA, hwA⟩ : ∃ wA, wA = w.alloc (.cells #[.int .i64 5, .string us, .string bo, .string tob, .int .i64 ui, .slice ad n cap, .int .i64 fl, .string tx] 27) := ⟨_, rfl⟩
  have eA : wA.heap.size = w.heap.size + 1 := by rw [hwA]; simp
  rw [← hwA] at bA qA
  have hB := Box.new wA #[.int .i64 0, .string ⟨#[]⟩, .string ⟨#[]⟩, .string ⟨#[]⟩, .int .i64 0, .slice none 0 0, .int .i64 0, .string ⟨#[]⟩] 27
  have kB := belNew wA (.cells #[.int .i64 0, .string ⟨#[]⟩, .string ⟨#[]⟩, .string ⟨#[]⟩, .int .i64 0, .slice none 0 0, .int .i64 0, .string ⟨#[]⟩] 27)
  have bB := bA.trans (kB.mono bA.size)
  obtain ⟨wB, hwB⟩ : ∃ wB, wB = wA.alloc (.cells #[.int .i64 0, .string ⟨#[]⟩, .string ⟨#[]⟩, .string ⟨#[]⟩, .int .i64 0, .slice none 0 0, .int .i64 0, .string ⟨#[]⟩] 27) := ⟨_, rfl⟩
  have eB : wB.heap.size = w.heap.size + 1 + 1 := by rw [hwB]; simp; omega
  rw [← hwB] at hB kB bB
  rw [eA] at hB
  have hC := Box.new wB #[.int .i64 5, .string us, .string bo, .string ⟨#[]⟩, .int .i64 0, .slice ad n cap, .int .i64 0, .string ⟨#[]⟩] 27
  have kC := belNew wB (.cells #[.int .i64 5, .string us, .string bo, .string ⟨#[]⟩, .int .i64 0, .slice ad n cap, .int .i64 0, .string ⟨#[]⟩] 27)
  have bC := bB.trans (kC.mono bB.size)
  obtain ⟨wC, hwC⟩ : ∃ wC, wC = wB.alloc (.cells #[.int .i64 5, .string us, .string bo, .string ⟨#[]⟩, .int .i64 0, .slice ad n cap, .int .i64 0, .string ⟨#[]⟩] 27) := ⟨_, rfl⟩
  rw [← hwC] at hC kC bC
  rw [eB] at hC
  have hB2 := hB.later kC
  have qA2 := (qA.later kB).later kC
  have HWC : Hid (wC = ((w.alloc (.cells #[.int .i64 5, .string us, .string bo, .string tob, .int .i64 ui, .slice ad n cap, .int .i64 fl, .string tx] 27)).alloc (.cells #[.int .i64 0, .string ⟨#[]⟩, .string ⟨#[]⟩, .string ⟨#[]⟩, .int .i64 0, .slice none 0 0, .int .i64 0, .string ⟨#[]⟩] 27)).alloc (.cells #[.int .i64 5, .string us, .string bo, .string ⟨#[]⟩, .int .i64 0, .slice ad n cap, .int .i64 0, .string ⟨#[]⟩] 27)) := by rw [← hwA, ← hwB, ← hwC]; exact rfl
  clear hB bB bA kB kC qA eA eB hwA hwB hwC
  go_enter Try.func13, Try.ntmps13
  go_upto_region 14 with fail
  rw [← HWC.out]
  have A2 := qA2
  have B2 := hB2
  have C2 := hC
  have b2 := bC
  clear hB2 hC qA2 bC HWC
  generalize wC = w2 at A2 B2 C2 b2 ⊢
  have HU2 := Lib.hid (HU.out w2.drew b2.drew)
  obtain ⟨a0, a1, a2, a3, a4, a5, a6, a7, _⟩ := A2.eightL
  obtain ⟨c0, c1, c2, c3, c4, c5, c6, c7, _⟩ := C2.eightL
  obtain ⟨b0, b1, b2', b3, b4, b5, b6, b7, f0, f1, f2, f3, f4, f5, f6, f7⟩ := B2.eightL
  have L5 := B2.set8L (.int .i64 5) (.string us) (.string bo) (.string ⟨#[]⟩) (.int .i64 0) (.slice ad n cap) (.int .i64 0) (.string ⟨#[]⟩)
  have b9 : Hid (Below w.heap.size w (set8L w2 (w.heap.size + 1) (.int .i64 5) (.string us) (.string bo) (.string ⟨#[]⟩) (.int .i64 0) (.slice ad n cap) (.int .i64 0) (.string ⟨#[]⟩)).drew) := (below_set8L b2 (by omega) (.int .i64 5) (.string us) (.string bo) (.string ⟨#[]⟩) (.int .i64 0) (.slice ad n cap) (.int .i64 0) (.string ⟨#[]⟩)).drew
  unfold set8L at L5 b9
  obtain ⟨z0, z1, z2, z3, z4, z5, z6, z7, _⟩ := L5.eightL
  clear L5 A2 B2 C2 b2
  go_region_law (first | (go_simp; go_at_call 19; refine HU2.out.mono ?_; rintro e w6 ⟨rfl, rfl⟩; rw [HQ.out]; dsimp only))
  all_goals
    go_wp2
    refine bodyPost_ret (v := .tuple #[.agg #[.int .i64 5, .string us, .string bo, .string ⟨#[]⟩, .int .i64 0, .slice ad n cap, .int .i64 0, .string ⟨#[]⟩], .bool q]) (by simp [results, Try.results13, go_sem, z0, z1, z2, z3, z4, z5, z6, z7]) rfl ⟨rfl, b9.out⟩

set_option maxRecDepth 100000 in
set_option maxHeartbeats 4000000 in
theorem used6 (us bo tob tx : ByteArray) (ui fl : Int) (u : Value) (w : World) (q : Bool) (hq : (decide (1 ≤ ui ∧ ui ≤ 9999) && decide (wdOk tob)) = q) :
    Calls Try.prog 13 #[.agg #[.int .i64 6, .string us, .string bo, .string tob, .int .i64 ui, u, .int .i64 fl, .string tx]] w fun e w' => e = .returned (.tuple #[.agg #[.int .i64 6, .string us, .string bo, .string tob, .int .i64 ui, .slice none 0 0, .int .i64 0, .string ⟨#[]⟩], .bool q]) ∧ Below w.heap.size w w' := by
  have bA := belNew w (.cells #[.int .i64 6, .string us, .string bo, .string tob, .int .i64 ui, u, .int .i64 fl, .string tx] 27)
  have qA := Box.new w #[.int .i64 6, .string us, .string bo, .string tob, .int .i64 ui, u, .int .i64 fl, .string tx] 27
  obtain ⟨wA, hwA⟩ : ∃ wA, wA = w.alloc (.cells #[.int .i64 6, .string us, .string bo, .string tob, .int .i64 ui, u, .int .i64 fl, .string tx] 27) := ⟨_, rfl⟩
  have eA : wA.heap.size = w.heap.size + 1 := by rw [hwA]; simp
  rw [← hwA] at bA qA
  have hB := Box.new wA #[.int .i64 0, .string ⟨#[]⟩, .string ⟨#[]⟩, .string ⟨#[]⟩, .int .i64 0, .slice none 0 0, .int .i64 0, .string ⟨#[]⟩] 27
  have kB := belNew wA (.cells #[.int .i64 0, .string ⟨#[]⟩, .string ⟨#[]⟩, .string ⟨#[]⟩, .int .i64 0, .slice none 0 0, .int .i64 0, .string ⟨#[]⟩] 27)
  have bB := bA.trans (kB.mono bA.size)
  obtain ⟨wB, hwB⟩ : ∃ wB, wB = wA.alloc (.cells #[.int .i64 0, .string ⟨#[]⟩, .string ⟨#[]⟩, .string ⟨#[]⟩, .int .i64 0, .slice none 0 0, .int .i64 0, .string ⟨#[]⟩] 27) := ⟨_, rfl⟩
  have eB : wB.heap.size = w.heap.size + 1 + 1 := by rw [hwB]; simp; omega
  rw [← hwB] at hB kB bB
  rw [eA] at hB
  have hC := Box.new wB #[.int .i64 6, .string us, .string bo, .string ⟨#[]⟩, .int .i64 0, .slice none 0 0, .int .i64 0, .string ⟨#[]⟩] 27
  have kC := belNew wB (.cells #[.int .i64 6, .string us, .string bo, .string ⟨#[]⟩, .int .i64 0, .slice none 0 0, .int .i64 0, .string ⟨#[]⟩] 27)
  have bC := bB.trans (kC.mono bB.size)
  obtain ⟨wC, hwC⟩ : ∃ wC, wC = wB.alloc (.cells #[.int .i64 6, .string us, .string bo, .string ⟨#[]⟩, .int .i64 0, .slice none 0 0, .int .i64 0, .string ⟨#[]⟩] 27) := ⟨_, rfl⟩
  rw [← hwC] at hC kC bC
  rw [eB] at hC
  have hB2 := hB.later kC
  have qA2 := (qA.later kB).later kC
  have HWC : Hid (wC = ((w.alloc (.cells #[.int .i64 6, .string us, .string bo, .string tob, .int .i64 ui, u, .int .i64 fl, .string tx] 27)).alloc (.cells #[.int .i64 0, .string ⟨#[]⟩, .string ⟨#[]⟩, .string ⟨#[]⟩, .int .i64 0, .slice none 0 0, .int .i64 0, .string ⟨#[]⟩] 27)).alloc (.cells #[.int .i64 6, .string us, .string bo, .string ⟨#[]⟩, .int .i64 0, .slice none 0 0, .int .i64 0, .string ⟨#[]⟩] 27)) := by rw [← hwA, ← hwB, ← hwC]; exact rfl
  clear hB bB bA kB kC qA eA eB hwA hwB hwC
  go_enter Try.func13, Try.ntmps13
  go_upto_region 16 with fail
  rw [← HWC.out]
  obtain ⟨a0, a1, a2, a3, a4, a5, a6, a7, _⟩ := qA2.eightL
  obtain ⟨c0, c1, c2, c3, c4, c5, c6, c7, f0, f1, f2, f3, f4, f5, f6, f7⟩ := hC.eightL
  go_region
  clear c0 c1 c2 c3 c4 c5 c6 c7 f0 f1 f2 f3 f4 f5 f6 f7
  have C2 : Box (((wC.setCell ⟨w.heap.size + 1 + 1, 4, none⟩ (.int .i64 ui)).setCell ⟨w.heap.size + 1 + 1, 3, none⟩ (.string tob)).drew) (w.heap.size + 1 + 1) #[.int .i64 6, .string us, .string bo, .string tob, .int .i64 ui, .slice none 0 0, .int .i64 0, .string ⟨#[]⟩] 27 := (hC.set 4 _).set 3 _
  have A2 : Box (((wC.setCell ⟨w.heap.size + 1 + 1, 4, none⟩ (.int .i64 ui)).setCell ⟨w.heap.size + 1 + 1, 3, none⟩ (.string tob)).drew) w.heap.size #[.int .i64 6, .string us, .string bo, .string tob, .int .i64 ui, u, .int .i64 fl, .string tx] 27 := (qA2.other (by omega) 4 _).other (by omega) 3 _
  have B2 : Box (((wC.setCell ⟨w.heap.size + 1 + 1, 4, none⟩ (.int .i64 ui)).setCell ⟨w.heap.size + 1 + 1, 3, none⟩ (.string tob)).drew) (w.heap.size + 1) #[.int .i64 0, .string ⟨#[]⟩, .string ⟨#[]⟩, .string ⟨#[]⟩, .int .i64 0, .slice none 0 0, .int .i64 0, .string ⟨#[]⟩] 27 := (hB2.other (by omega) 4 _).other (by omega) 3 _
  have b2 : Below w.heap.size w (((wC.setCell ⟨w.heap.size + 1 + 1, 4, none⟩ (.int .i64 ui)).setCell ⟨w.heap.size + 1 + 1, 3, none⟩ (.string tob)).drew) := ((bC.setCell (p := ⟨w.heap.size + 1 + 1, 4, none⟩) (show w.heap.size ≤ w.heap.size + 1 + 1 by omega) _).setCell (p := ⟨w.heap.size + 1 + 1, 3, none⟩) (show w.heap.size ≤ w.heap.size + 1 + 1 by omega) _).drew
  clear hB2 hC qA2 bC HWC a0 a1 a2 a3 a4 a5 a6 a7
  generalize ((wC.setCell ⟨w.heap.size + 1 + 1, 4, none⟩ (.int .i64 ui)).setCell ⟨w.heap.size + 1 + 1, 3, none⟩ (.string tob)).drew = w2 at A2 B2 C2 b2 ⊢
  have HST : Hid (∀ x : World, Below w2.drew.heap.size w2.drew x → (x.cell? ⟨w.heap.size, 4, none⟩ = some (.int .i64 ui) ∧ x.cell? ⟨w.heap.size, 3, none⟩ = some (.string tob) ∧ x.cell? ⟨w.heap.size + 1 + 1, 0, none⟩ = some (.int .i64 6) ∧ x.cell? ⟨w.heap.size + 1 + 1, 1, none⟩ = some (.string us) ∧ x.cell? ⟨w.heap.size + 1 + 1, 2, none⟩ = some (.string bo) ∧ x.cell? ⟨w.heap.size + 1 + 1, 3, none⟩ = some (.string tob) ∧ x.cell? ⟨w.heap.size + 1 + 1, 4, none⟩ = some (.int .i64 ui) ∧ x.cell? ⟨w.heap.size + 1 + 1, 5, none⟩ = some (.slice none 0 0) ∧ x.cell? ⟨w.heap.size + 1 + 1, 6, none⟩ = some (.int .i64 0) ∧ x.cell? ⟨w.heap.size + 1 + 1, 7, none⟩ = some (.string ⟨#[]⟩)) ∧ Box x (w.heap.size + 1) #[.int .i64 0, .string ⟨#[]⟩, .string ⟨#[]⟩, .string ⟨#[]⟩, .int .i64 0, .slice none 0 0, .int .i64 0, .string ⟨#[]⟩] 27 ∧ Below w.heap.size w x ∧ (((set8L x (w.heap.size + 1) (.int .i64 6) (.string us) (.string bo) (.string tob) (.int .i64 ui) (.slice none 0 0) (.int .i64 0) (.string ⟨#[]⟩)).cell? ⟨w.heap.size, 4, none⟩ = some (.int .i64 ui) ∧ (set8L x (w.heap.size + 1) (.int .i64 6) (.string us) (.string bo) (.string tob) (.int .i64 ui) (.slice none 0 0) (.int .i64 0) (.string ⟨#[]⟩)).cell? ⟨w.heap.size, 3, none⟩ = some (.string tob) ∧ (set8L x (w.heap.size + 1) (.int .i64 6) (.string us) (.string bo) (.string tob) (.int .i64 ui) (.slice none 0 0) (.int .i64 0) (.string ⟨#[]⟩)).cell? ⟨w.heap.size + 1 + 1, 0, none⟩ = some (.int .i64 6) ∧ (set8L x (w.heap.size + 1) (.int .i64 6) (.string us) (.string bo) (.string tob) (.int .i64 ui) (.slice none 0 0) (.int .i64 0) (.string ⟨#[]⟩)).cell? ⟨w.heap.size + 1 + 1, 1, none⟩ = some (.string us) ∧ (set8L x (w.heap.size + 1) (.int .i64 6) (.string us) (.string bo) (.string tob) (.int .i64 ui) (.slice none 0 0) (.int .i64 0) (.string ⟨#[]⟩)).cell? ⟨w.heap.size + 1 + 1, 2, none⟩ = some (.string bo) ∧ (set8L x (w.heap.size + 1) (.int .i64 6) (.string us) (.string bo) (.string tob) (.int .i64 ui) (.slice none 0 0) (.int .i64 0) (.string ⟨#[]⟩)).cell? ⟨w.heap.size + 1 + 1, 3, none⟩ = some (.string tob) ∧ (set8L x (w.heap.size + 1) (.int .i64 6) (.string us) (.string bo) (.string tob) (.int .i64 ui) (.slice none 0 0) (.int .i64 0) (.string ⟨#[]⟩)).cell? ⟨w.heap.size + 1 + 1, 4, none⟩ = some (.int .i64 ui) ∧ (set8L x (w.heap.size + 1) (.int .i64 6) (.string us) (.string bo) (.string tob) (.int .i64 ui) (.slice none 0 0) (.int .i64 0) (.string ⟨#[]⟩)).cell? ⟨w.heap.size + 1 + 1, 5, none⟩ = some (.slice none 0 0) ∧ (set8L x (w.heap.size + 1) (.int .i64 6) (.string us) (.string bo) (.string tob) (.int .i64 ui) (.slice none 0 0) (.int .i64 0) (.string ⟨#[]⟩)).cell? ⟨w.heap.size + 1 + 1, 6, none⟩ = some (.int .i64 0) ∧ (set8L x (w.heap.size + 1) (.int .i64 6) (.string us) (.string bo) (.string tob) (.int .i64 ui) (.slice none 0 0) (.int .i64 0) (.string ⟨#[]⟩)).cell? ⟨w.heap.size + 1 + 1, 7, none⟩ = some (.string ⟨#[]⟩)) ∧ Box (set8L x (w.heap.size + 1) (.int .i64 6) (.string us) (.string bo) (.string tob) (.int .i64 ui) (.slice none 0 0) (.int .i64 0) (.string ⟨#[]⟩)) (w.heap.size + 1) #[.int .i64 6, .string us, .string bo, .string tob, .int .i64 ui, .slice none 0 0, .int .i64 0, .string ⟨#[]⟩] 27 ∧ Below w.heap.size w (set8L x (w.heap.size + 1) (.int .i64 6) (.string us) (.string bo) (.string tob) (.int .i64 ui) (.slice none 0 0) (.int .i64 0) (.string ⟨#[]⟩)))) := by
    intro x hx
    have hA := A2.drewC.later hx
    have hB := B2.drewC.later hx
    have hC := C2.drewC.later hx
    have hb := b2.drew.trans (hx.mono b2.drew.size)
    have gA := hA.stay8 (g := w.heap.size + 1) (by omega) (.int .i64 6) (.string us) (.string bo) (.string tob) (.int .i64 ui) (.slice none 0 0) (.int .i64 0) (.string ⟨#[]⟩)
    have gC := hC.stay8 (g := w.heap.size + 1) (by omega) (.int .i64 6) (.string us) (.string bo) (.string tob) (.int .i64 ui) (.slice none 0 0) (.int .i64 0) (.string ⟨#[]⟩)
    exact ⟨⟨hA.cell 4 _ rfl, hA.cell 3 _ rfl, hC.cell 0 _ rfl, hC.cell 1 _ rfl, hC.cell 2 _ rfl, hC.cell 3 _ rfl, hC.cell 4 _ rfl, hC.cell 5 _ rfl, hC.cell 6 _ rfl, hC.cell 7 _ rfl⟩, hB, hb, ⟨gA.cell 4 _ rfl, gA.cell 3 _ rfl, gC.cell 0 _ rfl, gC.cell 1 _ rfl, gC.cell 2 _ rfl, gC.cell 3 _ rfl, gC.cell 4 _ rfl, gC.cell 5 _ rfl, gC.cell 6 _ rfl, gC.cell 7 _ rfl⟩, hB.set8L (.int .i64 6) (.string us) (.string bo) (.string tob) (.int .i64 ui) (.slice none 0 0) (.int .i64 0) (.string ⟨#[]⟩), below_set8L hb (by omega) (.int .i64 6) (.string us) (.string bo) (.string tob) (.int .i64 ui) (.slice none 0 0) (.int .i64 0) (.string ⟨#[]⟩)⟩
  obtain ⟨a0, a1, a2, a3, a4, a5, a6, a7, _⟩ := A2.eightL
  obtain ⟨c0, c1, c2, c3, c4, c5, c6, c7, _⟩ := C2.eightL
  clear A2 B2 C2 b2
  by_cases hf : 1 ≤ ui ∧ ui ≤ 9999
  · have HF : Hid (decide (1 ≤ ui ∧ ui ≤ 9999) = true) := decide_eq_true hf
    obtain ⟨QW, hQW⟩ : ∃ QW, decide (wdOk tob) = QW := ⟨_, rfl⟩
    have HQW := Lib.hid hQW
    obtain rfl : q = QW := by rw [← hq, HF.out, HQW.out]; rfl
    clear hq hQW
    go_upto_region 17 with fail
    refine wp_region_held_drew (S := fun x => x.cell? ⟨w.heap.size, 4, none⟩ = some (.int .i64 ui) ∧ x.cell? ⟨w.heap.size, 3, none⟩ = some (.string tob) ∧ x.cell? ⟨w.heap.size + 1 + 1, 0, none⟩ = some (.int .i64 6) ∧ x.cell? ⟨w.heap.size + 1 + 1, 1, none⟩ = some (.string us) ∧ x.cell? ⟨w.heap.size + 1 + 1, 2, none⟩ = some (.string bo) ∧ x.cell? ⟨w.heap.size + 1 + 1, 3, none⟩ = some (.string tob) ∧ x.cell? ⟨w.heap.size + 1 + 1, 4, none⟩ = some (.int .i64 ui) ∧ x.cell? ⟨w.heap.size + 1 + 1, 5, none⟩ = some (.slice none 0 0) ∧ x.cell? ⟨w.heap.size + 1 + 1, 6, none⟩ = some (.int .i64 0) ∧ x.cell? ⟨w.heap.size + 1 + 1, 7, none⟩ = some (.string ⟨#[]⟩)) (by kernel_rfl) (HST.out _ (Below.refl _ _)).1 (fun hHeld => ?_)
    clear a0 a1 a2 a3 a4 a5 a6 a7 c0 c1 c2 c3 c4 c5 c6 c7
    generalize w2.drew = W9 at HST hHeld ⊢
    refine takeL (i := 0) (v := .agg #[.int .i64 6, .string us, .string bo, .string tob, .int .i64 ui, .slice none 0 0, .int .i64 0, .string ⟨#[]⟩]) rfl (by kernel_rfl) (by kernel_rfl) (by kernel_rfl) (fun _ _ _ h => h) (Or.inl ⟨by rfl, ?_⟩) (by assumption) ?_
    · intro x hSx; obtain ⟨p4, p3, q0, q1, q2, q3, q4, q5, q6, q7⟩ := hSx; go_simp
    try simp only [Act.put, List.setIfInBounds_toArray, List.set_cons_zero, List.set_cons_succ]
    refine takeL (i := 1) (v := .pointer (some ⟨w.heap.size, 4, none⟩)) rfl (by kernel_rfl) (by kernel_rfl) (by kernel_rfl) (fun _ _ _ h => h) (Or.inl ⟨by rfl, ?_⟩) (by assumption) ?_
    · intro x hSx; obtain ⟨p4, p3, q0, q1, q2, q3, q4, q5, q6, q7⟩ := hSx; go_simp
    try simp only [Act.put, List.setIfInBounds_toArray, List.set_cons_zero, List.set_cons_succ]
    refine takeL (i := 2) (v := .int .i64 ui) rfl (by kernel_rfl) (by kernel_rfl) (by kernel_rfl) (fun _ _ _ h => h) (Or.inl ⟨by rfl, ?_⟩) (by assumption) ?_
    · intro x hSx; obtain ⟨p4, p3, q0, q1, q2, q3, q4, q5, q6, q7⟩ := hSx; go_simp
    try simp only [Act.put, List.setIfInBounds_toArray, List.set_cons_zero, List.set_cons_succ]
    refine wpAnyH_ready (rs := [3]) (by kernel_rfl) (by simp) ?_
    refine readyOne rfl (fun K' hK => ?_)
    go_simp
    refine (validOk_yes _ _ hf.1 hf.2).mono ?_
    rintro e wT ⟨rfl, rfl⟩
    go_wp2_with fail
    refine hK.out _ _ hHeld (fun hS2 => ?_)
    clear hK K' hS2
    try simp only [Act.put, List.setIfInBounds_toArray, List.set_cons_zero, List.set_cons_succ]
    refine takeL (i := 4) (v := .bool true) rfl (by kernel_rfl) (by kernel_rfl) (by kernel_rfl) (fun _ _ _ h => h) (Or.inl ⟨by rfl, ?_⟩) (by assumption) ?_
    · intro x hSx; obtain ⟨p4, p3, q0, q1, q2, q3, q4, q5, q6, q7⟩ := hSx; go_simp
    try simp only [Act.put, List.setIfInBounds_toArray, List.set_cons_zero, List.set_cons_succ]
    refine takeL (i := 5) (v := .pointer (some ⟨w.heap.size, 3, none⟩)) rfl (by kernel_rfl) (by kernel_rfl) (by kernel_rfl) (fun _ _ _ h => h) (Or.inl ⟨by rfl, ?_⟩) (by assumption) ?_
    · intro x hSx; obtain ⟨p4, p3, q0, q1, q2, q3, q4, q5, q6, q7⟩ := hSx; go_simp
    try simp only [Act.put, List.setIfInBounds_toArray, List.set_cons_zero, List.set_cons_succ]
    refine takeL (i := 6) (v := .string tob) rfl (by kernel_rfl) (by kernel_rfl) (by kernel_rfl) (fun _ _ _ h => h) (Or.inl ⟨by rfl, ?_⟩) (by assumption) ?_
    · intro x hSx; obtain ⟨p4, p3, q0, q1, q2, q3, q4, q5, q6, q7⟩ := hSx; go_simp
    try simp only [Act.put, List.setIfInBounds_toArray, List.set_cons_zero, List.set_cons_succ]
    refine wpAnyH_ready (rs := [7]) (by kernel_rfl) (by simp) ?_
    refine readyOne rfl (fun K' hK => ?_)
    go_simp
    refine (implWordOk_any tob _).mono ?_
    rintro e wT ⟨rfl, kT⟩
    rw [HQW.out]
    go_wp2_with fail
    refine hK.out _ _ (HST.out _ kT).1 (fun hS2 => ?_)
    clear hK K' hHeld
    have hHeld := hS2
    clear hS2
    try simp only [Act.put, List.setIfInBounds_toArray, List.set_cons_zero, List.set_cons_succ]
    refine takeL (i := 8) (v := .bool q) rfl (by kernel_rfl) (by kernel_rfl) (by kernel_rfl) (fun _ _ _ h => h) (Or.inl ⟨by rfl, ?_⟩) (by assumption) ?_
    · intro x hSx; obtain ⟨p4, p3, q0, q1, q2, q3, q4, q5, q6, q7⟩ := hSx; go_simp
    try simp only [Act.put, List.setIfInBounds_toArray, List.set_cons_zero, List.set_cons_succ]
    obtain ⟨_, hB9, hb9, hS9, L9, b9⟩ := HST.out wT kT
    obtain ⟨b0, b1, b2', b3, b4, b5, b6, b7, f0, f1, f2, f3, f4, f5, f6, f7⟩ := hB9.eightL
    unfold set8L at hS9 L9 b9
    obtain ⟨z0, z1, z2, z3, z4, z5, z6, z7, _⟩ := L9.eightL
    have HS9 := Lib.hid hS9
    have HB9 := Lib.hid b9
    clear hS9 L9 hb9 hB9 b9
    refine wpAnyH_ready (rs := [9]) (by kernel_rfl) (by simp) ?_
    refine readyOne rfl (fun K' hK => ?_)
    go_simp
    refine hK.out _ _ HS9.out (fun hS2 => ?_)
    clear hK K' hHeld
    have hHeld := hS2
    clear hS2
    try simp only [Act.put, List.setIfInBounds_toArray, List.set_cons_zero, List.set_cons_succ]
    refine takeL (i := 10) (v := .bool q) rfl (by kernel_rfl) (by kernel_rfl) (by kernel_rfl) (fun _ _ _ h => h) (Or.inl ⟨by rfl, ?_⟩) (by assumption) ?_
    · intro x hSx; obtain ⟨p4, p3, q0, q1, q2, q3, q4, q5, q6, q7⟩ := hSx; go_simp
    try simp only [Act.put, List.setIfInBounds_toArray, List.set_cons_zero, List.set_cons_succ]
    refine wpAnyH_done (by kernel_rfl) ?_ _
    go_wp2
    refine bodyPost_ret (v := .tuple #[.agg #[.int .i64 6, .string us, .string bo, .string tob, .int .i64 ui, .slice none 0 0, .int .i64 0, .string ⟨#[]⟩], .bool q]) (by simp [results, Try.results13, go_sem, z0, z1, z2, z3, z4, z5, z6, z7]) rfl ⟨rfl, HB9.out⟩
  · have HF : Hid (decide (1 ≤ ui ∧ ui ≤ 9999) = false) := decide_eq_false hf
    obtain rfl : q = false := by rw [← hq, HF.out]; rfl
    clear hq
    go_upto_region 17 with fail
    refine wp_region_held_drew (S := fun x => x.cell? ⟨w.heap.size, 4, none⟩ = some (.int .i64 ui) ∧ x.cell? ⟨w.heap.size, 3, none⟩ = some (.string tob) ∧ x.cell? ⟨w.heap.size + 1 + 1, 0, none⟩ = some (.int .i64 6) ∧ x.cell? ⟨w.heap.size + 1 + 1, 1, none⟩ = some (.string us) ∧ x.cell? ⟨w.heap.size + 1 + 1, 2, none⟩ = some (.string bo) ∧ x.cell? ⟨w.heap.size + 1 + 1, 3, none⟩ = some (.string tob) ∧ x.cell? ⟨w.heap.size + 1 + 1, 4, none⟩ = some (.int .i64 ui) ∧ x.cell? ⟨w.heap.size + 1 + 1, 5, none⟩ = some (.slice none 0 0) ∧ x.cell? ⟨w.heap.size + 1 + 1, 6, none⟩ = some (.int .i64 0) ∧ x.cell? ⟨w.heap.size + 1 + 1, 7, none⟩ = some (.string ⟨#[]⟩)) (by kernel_rfl) (HST.out _ (Below.refl _ _)).1 (fun hHeld => ?_)
    clear a0 a1 a2 a3 a4 a5 a6 a7 c0 c1 c2 c3 c4 c5 c6 c7
    generalize w2.drew = W9 at HST hHeld ⊢
    refine takeL (i := 0) (v := .agg #[.int .i64 6, .string us, .string bo, .string tob, .int .i64 ui, .slice none 0 0, .int .i64 0, .string ⟨#[]⟩]) rfl (by kernel_rfl) (by kernel_rfl) (by kernel_rfl) (fun _ _ _ h => h) (Or.inl ⟨by rfl, ?_⟩) (by assumption) ?_
    · intro x hSx; obtain ⟨p4, p3, q0, q1, q2, q3, q4, q5, q6, q7⟩ := hSx; go_simp
    try simp only [Act.put, List.setIfInBounds_toArray, List.set_cons_zero, List.set_cons_succ]
    refine takeL (i := 1) (v := .pointer (some ⟨w.heap.size, 4, none⟩)) rfl (by kernel_rfl) (by kernel_rfl) (by kernel_rfl) (fun _ _ _ h => h) (Or.inl ⟨by rfl, ?_⟩) (by assumption) ?_
    · intro x hSx; obtain ⟨p4, p3, q0, q1, q2, q3, q4, q5, q6, q7⟩ := hSx; go_simp
    try simp only [Act.put, List.setIfInBounds_toArray, List.set_cons_zero, List.set_cons_succ]
    refine takeL (i := 2) (v := .int .i64 ui) rfl (by kernel_rfl) (by kernel_rfl) (by kernel_rfl) (fun _ _ _ h => h) (Or.inl ⟨by rfl, ?_⟩) (by assumption) ?_
    · intro x hSx; obtain ⟨p4, p3, q0, q1, q2, q3, q4, q5, q6, q7⟩ := hSx; go_simp
    try simp only [Act.put, List.setIfInBounds_toArray, List.set_cons_zero, List.set_cons_succ]
    refine wpAnyH_ready (rs := [3]) (by kernel_rfl) (by simp) ?_
    refine readyOne rfl (fun K' hK => ?_)
    go_simp
    refine (validOk_no _ _ hf).mono ?_
    rintro e wT ⟨rfl, rfl⟩
    go_wp2_with fail
    refine hK.out _ _ hHeld (fun hS2 => ?_)
    clear hK K' hS2
    try simp only [Act.put, List.setIfInBounds_toArray, List.set_cons_zero, List.set_cons_succ]
    refine takeL (i := 4) (v := .bool false) rfl (by kernel_rfl) (by kernel_rfl) (by kernel_rfl) (fun _ _ _ h => h) (Or.inl ⟨by rfl, ?_⟩) (by assumption) ?_
    · intro x hSx; obtain ⟨p4, p3, q0, q1, q2, q3, q4, q5, q6, q7⟩ := hSx; go_simp
    try simp only [Act.put, List.setIfInBounds_toArray, List.set_cons_zero, List.set_cons_succ]
    refine takeL (i := 5) (v := undef) rfl (by kernel_rfl) (by kernel_rfl) (by kernel_rfl) (fun _ _ _ h => h) (Or.inr ⟨by rfl, rfl⟩) (by assumption) ?_
    try simp only [Act.put, List.setIfInBounds_toArray, List.set_cons_zero, List.set_cons_succ]
    refine takeL (i := 6) (v := undef) rfl (by kernel_rfl) (by kernel_rfl) (by kernel_rfl) (fun _ _ _ h => h) (Or.inr ⟨by rfl, rfl⟩) (by assumption) ?_
    try simp only [Act.put, List.setIfInBounds_toArray, List.set_cons_zero, List.set_cons_succ]
    refine takeL (i := 7) (v := undef) rfl (by kernel_rfl) (by kernel_rfl) (by kernel_rfl) (fun _ _ _ h => h) (Or.inr ⟨by rfl, rfl⟩) (by assumption) ?_
    try simp only [Act.put, List.setIfInBounds_toArray, List.set_cons_zero, List.set_cons_succ]
    refine takeL (i := 8) (v := .bool false) rfl (by kernel_rfl) (by kernel_rfl) (by kernel_rfl) (fun _ _ _ h => h) (Or.inl ⟨by rfl, ?_⟩) (by assumption) ?_
    · intro x hSx; obtain ⟨p4, p3, q0, q1, q2, q3, q4, q5, q6, q7⟩ := hSx; go_simp
    try simp only [Act.put, List.setIfInBounds_toArray, List.set_cons_zero, List.set_cons_succ]
    obtain ⟨_, hB9, hb9, hS9, L9, b9⟩ := HST.out W9 (Below.refl _ _)
    obtain ⟨b0, b1, b2', b3, b4, b5, b6, b7, f0, f1, f2, f3, f4, f5, f6, f7⟩ := hB9.eightL
    unfold set8L at hS9 L9 b9
    obtain ⟨z0, z1, z2, z3, z4, z5, z6, z7, _⟩ := L9.eightL
    have HS9 := Lib.hid hS9
    have HB9 := Lib.hid b9
    clear hS9 L9 hb9 hB9 b9
    refine wpAnyH_ready (rs := [9]) (by kernel_rfl) (by simp) ?_
    refine readyOne rfl (fun K' hK => ?_)
    go_simp
    refine hK.out _ _ HS9.out (fun hS2 => ?_)
    clear hK K' hHeld
    have hHeld := hS2
    clear hS2
    try simp only [Act.put, List.setIfInBounds_toArray, List.set_cons_zero, List.set_cons_succ]
    refine takeL (i := 10) (v := .bool false) rfl (by kernel_rfl) (by kernel_rfl) (by kernel_rfl) (fun _ _ _ h => h) (Or.inl ⟨by rfl, ?_⟩) (by assumption) ?_
    · intro x hSx; obtain ⟨p4, p3, q0, q1, q2, q3, q4, q5, q6, q7⟩ := hSx; go_simp
    try simp only [Act.put, List.setIfInBounds_toArray, List.set_cons_zero, List.set_cons_succ]
    refine wpAnyH_done (by kernel_rfl) ?_ _
    go_wp2
    refine bodyPost_ret (v := .tuple #[.agg #[.int .i64 6, .string us, .string bo, .string tob, .int .i64 ui, .slice none 0 0, .int .i64 0, .string ⟨#[]⟩], .bool false]) (by simp [results, Try.results13, go_sem, z0, z1, z2, z3, z4, z5, z6, z7]) rfl ⟨rfl, HB9.out⟩

set_option maxRecDepth 100000 in
set_option maxHeartbeats 4000000 in
theorem used0 (us bo tob tx : ByteArray) (ui fl : Int) (u : Value) (w : World) (k : Int) (h1 : ¬ (k = 1)) (h2 : ¬ (k = 2)) (h3 : ¬ (k = 3)) (h4 : ¬ (k = 4)) (h5 : ¬ (k = 5)) (h6 : ¬ (k = 6)) :
    Calls Try.prog 13 #[.agg #[.int .i64 k, .string us, .string bo, .string tob, .int .i64 ui, u, .int .i64 fl, .string tx]] w fun e w' => e = .returned (.tuple #[.agg #[.int .i64 0, .string ⟨#[]⟩, .string ⟨#[]⟩, .string ⟨#[]⟩, .int .i64 0, .slice none 0 0, .int .i64 0, .string ⟨#[]⟩], .bool false]) ∧ Below w.heap.size w w' := by
  have bA := belNew w (.cells #[.int .i64 k, .string us, .string bo, .string tob, .int .i64 ui, u, .int .i64 fl, .string tx] 27)
  have qA := Box.new w #[.int .i64 k, .string us, .string bo, .string tob, .int .i64 ui, u, .int .i64 fl, .string tx] 27
  obtain ⟨wA, hwA⟩ : ∃ wA, wA = w.alloc (.cells #[.int .i64 k, .string us, .string bo, .string tob, .int .i64 ui, u, .int .i64 fl, .string tx] 27) := ⟨_, rfl⟩
  have eA : wA.heap.size = w.heap.size + 1 := by rw [hwA]; simp
  rw [← hwA] at bA qA
  have hB := Box.new wA #[.int .i64 0, .string ⟨#[]⟩, .string ⟨#[]⟩, .string ⟨#[]⟩, .int .i64 0, .slice none 0 0, .int .i64 0, .string ⟨#[]⟩] 27
  have kB := belNew wA (.cells #[.int .i64 0, .string ⟨#[]⟩, .string ⟨#[]⟩, .string ⟨#[]⟩, .int .i64 0, .slice none 0 0, .int .i64 0, .string ⟨#[]⟩] 27)
  have bB := bA.trans (kB.mono bA.size)
  obtain ⟨wB, hwB⟩ : ∃ wB, wB = wA.alloc (.cells #[.int .i64 0, .string ⟨#[]⟩, .string ⟨#[]⟩, .string ⟨#[]⟩, .int .i64 0, .slice none 0 0, .int .i64 0, .string ⟨#[]⟩] 27) := ⟨_, rfl⟩
  have eB : wB.heap.size = w.heap.size + 1 + 1 := by rw [hwB]; simp; omega
  rw [← hwB] at hB kB bB
  rw [eA] at hB
  have hC := Box.new wB #[.int .i64 k, .string us, .string bo, .string ⟨#[]⟩, .int .i64 0, .slice none 0 0, .int .i64 0, .string ⟨#[]⟩] 27
  have kC := belNew wB (.cells #[.int .i64 k, .string us, .string bo, .string ⟨#[]⟩, .int .i64 0, .slice none 0 0, .int .i64 0, .string ⟨#[]⟩] 27)
  have bC := bB.trans (kC.mono bB.size)
  obtain ⟨wC, hwC⟩ : ∃ wC, wC = wB.alloc (.cells #[.int .i64 k, .string us, .string bo, .string ⟨#[]⟩, .int .i64 0, .slice none 0 0, .int .i64 0, .string ⟨#[]⟩] 27) := ⟨_, rfl⟩
  rw [← hwC] at hC kC bC
  rw [eB] at hC
  have hB2 := hB.later kC
  have qA2 := (qA.later kB).later kC
  have HWC : Hid (wC = ((w.alloc (.cells #[.int .i64 k, .string us, .string bo, .string tob, .int .i64 ui, u, .int .i64 fl, .string tx] 27)).alloc (.cells #[.int .i64 0, .string ⟨#[]⟩, .string ⟨#[]⟩, .string ⟨#[]⟩, .int .i64 0, .slice none 0 0, .int .i64 0, .string ⟨#[]⟩] 27)).alloc (.cells #[.int .i64 k, .string us, .string bo, .string ⟨#[]⟩, .int .i64 0, .slice none 0 0, .int .i64 0, .string ⟨#[]⟩] 27)) := by rw [← hwA, ← hwB, ← hwC]; exact rfl
  clear hB bB bA kB kC qA eA eB hwA hwB hwC
  go_enter Try.func13, Try.ntmps13
  go_upto_region 2 with fail
  rw [← HWC.out]
  obtain ⟨a0, a1, a2, a3, a4, a5, a6, a7, _⟩ := qA2.eightL
  obtain ⟨c0, c1, c2, c3, c4, c5, c6, c7, _⟩ := hC.eightL
  obtain ⟨b0, b1, b2, b3, b4, b5, b6, b7, f0, f1, f2, f3, f4, f5, f6, f7⟩ := hB2.eightL
  have L5 := hB2.set8L (.int .i64 0) (.string ⟨#[]⟩) (.string ⟨#[]⟩) (.string ⟨#[]⟩) (.int .i64 0) (.slice none 0 0) (.int .i64 0) (.string ⟨#[]⟩)
  have b5 : Hid (Below w.heap.size w (set8L wC (w.heap.size + 1) (.int .i64 0) (.string ⟨#[]⟩) (.string ⟨#[]⟩) (.string ⟨#[]⟩) (.int .i64 0) (.slice none 0 0) (.int .i64 0) (.string ⟨#[]⟩))) := below_set8L bC (by omega) (.int .i64 0) (.string ⟨#[]⟩) (.string ⟨#[]⟩) (.string ⟨#[]⟩) (.int .i64 0) (.slice none 0 0) (.int .i64 0) (.string ⟨#[]⟩)
  unfold set8L at L5 b5
  obtain ⟨z0, z1, z2, z3, z4, z5, z6, z7, _⟩ := L5.eightL
  have ZZ := Lib.hid (And.intro z0 (And.intro z1 (And.intro z2 (And.intro z3 (And.intro z4 (And.intro z5 (And.intro z6 z7)))))))
  clear L5 hB2 hC qA2 bC HWC z0 z1 z2 z3 z4 z5 z6 z7
  go_upto_region 3 with fail
  go_upto_region 4 with fail
  go_upto_region 6 with fail
  go_upto_region 9 with fail
  go_upto_region 12 with fail
  go_upto_region 15 with fail
  go_upto_region 18 with fail
  clear a0 a1 a2 a3 a4 a5 a6 a7 c0 c1 c2 c3 c4 c5 c6 c7 h1 h2 h3 h4 h5 h6
  go_wp2
  obtain ⟨z0, z1, z2, z3, z4, z5, z6, z7⟩ := ZZ.out
  refine bodyPost_ret (v := .tuple #[.agg #[.int .i64 0, .string ⟨#[]⟩, .string ⟨#[]⟩, .string ⟨#[]⟩, .int .i64 0, .slice none 0 0, .int .i64 0, .string ⟨#[]⟩], .bool false]) (by simp [results, Try.results13, go_sem, z0, z1, z2, z3, z4, z5, z6, z7]) rfl ⟨rfl, b5.out⟩


end Go.Proofs.Ytodldamjleehlaa
