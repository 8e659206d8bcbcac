/- Texts of our own, joined. -/
import Derived.Test.YtlifgcgoehkinaaGreatDoorJfx
import Derived.Laws.EntriesVeiled
/- The list of closures. -/
namespace Go.Proofs.YtlifgcgoehkinaaGreatDoor
open Go.RowKit

set_option maxRecDepth 100000 in
set_option maxHeartbeats 4000000 in
theorem wantedByKind_any (l : List Itm) (v : Value) (gM n : Nat) (f : Int × Int × Int → Option Nat) (w : World) (h : Rows' itE w v l) (hm : MapIs sjK inN w gM n f) :
    Calls Tryz.prog 67 #[v, .map (some gM)] w fun e w' => ∃ g2 g3 g5 g6 g7 gr, e = .returned (.slice (some ⟨gr, 0, none⟩) 6 6) ∧ Wn w' gM n f v l g2 g3 g5 g6 g7 ∧ (w'.cell? ⟨gr, 1, none⟩ = some (.func (.func 85) #[] #[.pointer (some ⟨g5, 0, none⟩)]) ∧ w'.cell? ⟨gr, 2, none⟩ = some (.func (.func 88) #[] #[.pointer (some ⟨g2, 0, none⟩)]) ∧ w'.cell? ⟨gr, 3, none⟩ = some (.func (.func 87) #[] #[.pointer (some ⟨g7, 0, none⟩), .pointer (some ⟨g5, 0, none⟩)]) ∧ w'.cell? ⟨gr, 4, none⟩ = some (.func (.func 87) #[] #[.pointer (some ⟨g7, 0, none⟩), .pointer (some ⟨g5, 0, none⟩)]) ∧ w'.cell? ⟨gr, 5, none⟩ = some (.func (.func 86) #[] #[.pointer (some ⟨g6, 0, none⟩), .pointer (some ⟨g5, 0, none⟩)])) ∧ (w.heap.size ≤ g2 ∧ w.heap.size ≤ g3 ∧ w.heap.size ≤ g5 ∧ w.heap.size ≤ g6 ∧ w.heap.size ≤ g7 ∧ w.heap.size ≤ gr) ∧ Below w.heap.size w w' := by
  obtain ⟨ad, cap, rfl, _⟩ := h.items
  have hmf : ∀ (fn : Fn) (first cap : Array Value) (w : World), (Instr.makeFunc fn first cap).run Tryz.prog w = .ok (.func fn first cap) w := fun _ _ _ _ => rfl
  have X2 := (Box.new w #[.slice ad l.length cap] 56).later (belNew _ (.cells #[.map (some gM)] 113))
  have X3 : Box ((w.alloc (.cells #[.slice ad l.length cap] 56)).alloc (.cells #[.map (some gM)] 113)) (w.heap.size + 1) #[.map (some gM)] 113 := by
    have := Box.new (w.alloc (.cells #[.slice ad l.length cap] 56)) #[.map (some gM)] 113
    rwa [show (w.alloc (.cells #[.slice ad l.length cap] 56)).heap.size = w.heap.size + 1 from by simp] at this
  have b1 : Below w.heap.size w ((w.alloc (.cells #[.slice ad l.length cap] 56)).alloc (.cells #[.map (some gM)] 113)) := ((Below.refl _ _).alloc (Nat.le_refl _) _).alloc (by simp) _
  go_enter Tryz.func67, Tryz.ntmps67
  go_upto_region 1 with fail
  generalize (w.alloc (.cells #[.slice ad l.length cap] 56)).alloc (.cells #[.map (some gM)] 113) = w1 at X2 X3 b1 ⊢
  have HM := Lib.hid (hm.later b1)
  have HR := Lib.hid (h.later b1)
  clear hm h
  obtain ⟨g2, hg2⟩ : ∃ g2, w.heap.size = g2 := ⟨_, rfl⟩
  obtain ⟨g3, hg3⟩ : ∃ g3, w.heap.size + 1 = g3 := ⟨_, rfl⟩
  rw [hg2] at X2
  rw [hg3] at X3
  rw [hg3, hg2]
  have Z2 : Hid (w.heap.size ≤ g2) := by show _ ≤ _; omega
  have Z3 : Hid (w.heap.size ≤ g3) := by show _ ≤ _; omega
  have Z5 := Lib.hid b1.size
  clear hg3 hg2
  have X5 := Box.new w1 #[.func (.func 84) #[] #[.pointer (some ⟨g3, 0, none⟩)]] 100
  have k5 := belNew w1 (.cells #[.func (.func 84) #[] #[.pointer (some ⟨g3, 0, none⟩)]] 100)
  go_upto_region 2 with fail
  generalize w1.alloc (.cells #[.func (.func 84) #[] #[.pointer (some ⟨g3, 0, none⟩)]] 100) = w5 at X5 k5 ⊢
  have Z6 : Hid (w.heap.size ≤ w5.heap.size) := by have := Z5.out; have := k5.size; show _ ≤ _; omega
  generalize w1.heap.size = g5 at X5 Z5 ⊢
  have X6 := Box.new w5 #[.func (.func 85) #[] #[.pointer (some ⟨g5, 0, none⟩)]] 101
  have k6 := belNew w5 (.cells #[.func (.func 85) #[] #[.pointer (some ⟨g5, 0, none⟩)]] 101)
  go_upto_region 3 with fail
  generalize w5.alloc (.cells #[.func (.func 85) #[] #[.pointer (some ⟨g5, 0, none⟩)]] 101) = w6 at X6 k6 ⊢
  have Z7 : Hid (w.heap.size ≤ w6.heap.size) := by have := Z6.out; have := k6.size; show _ ≤ _; omega
  generalize w5.heap.size = g6 at X6 Z6 ⊢
  have X7 := Box.new w6 #[.func (.func 86) #[] #[.pointer (some ⟨g6, 0, none⟩), .pointer (some ⟨g5, 0, none⟩)]] 101
  have k7 := belNew w6 (.cells #[.func (.func 86) #[] #[.pointer (some ⟨g6, 0, none⟩), .pointer (some ⟨g5, 0, none⟩)]] 101)
  go_upto_region 4 with fail
  generalize w6.alloc (.cells #[.func (.func 86) #[] #[.pointer (some ⟨g6, 0, none⟩), .pointer (some ⟨g5, 0, none⟩)]] 101) = w7 at X7 k7 ⊢
  have ZR : Hid (w.heap.size ≤ w7.heap.size) := by have := Z7.out; have := k7.size; show _ ≤ _; omega
  generalize w6.heap.size = g7 at X7 Z7 ⊢
  have d6 := (X6.later k7).cell 0 (.func (.func 85) #[] #[.pointer (some ⟨g5, 0, none⟩)]) rfl
  have d7 := X7.cell 0 (.func (.func 86) #[] #[.pointer (some ⟨g6, 0, none⟩), .pointer (some ⟨g5, 0, none⟩)]) rfl
  have XR := Box.new w7 #[.nilFunc, .func (.func 85) #[] #[.pointer (some ⟨g5, 0, none⟩)], .func (.func 88) #[] #[.pointer (some ⟨g2, 0, none⟩)], .func (.func 87) #[] #[.pointer (some ⟨g7, 0, none⟩), .pointer (some ⟨g5, 0, none⟩)], .func (.func 87) #[] #[.pointer (some ⟨g7, 0, none⟩), .pointer (some ⟨g5, 0, none⟩)], .func (.func 86) #[] #[.pointer (some ⟨g6, 0, none⟩), .pointer (some ⟨g5, 0, none⟩)]] 101
  have kR := belNew w7 (.cells #[.nilFunc, .func (.func 85) #[] #[.pointer (some ⟨g5, 0, none⟩)], .func (.func 88) #[] #[.pointer (some ⟨g2, 0, none⟩)], .func (.func 87) #[] #[.pointer (some ⟨g7, 0, none⟩), .pointer (some ⟨g5, 0, none⟩)], .func (.func 87) #[] #[.pointer (some ⟨g7, 0, none⟩), .pointer (some ⟨g5, 0, none⟩)], .func (.func 86) #[] #[.pointer (some ⟨g6, 0, none⟩), .pointer (some ⟨g5, 0, none⟩)]] 101)
  have j7 := k6.trans (k7.mono k6.size)
  have j5 := k5.trans (j7.mono k5.size)
  have jE := j5.trans (kR.mono j5.size)
  have HW := Lib.hid (Wn.mk (f := f) (n := n) (HM.out.later jE) ((X2.later jE).cell 0 _ rfl) ((X3.later jE).cell 0 _ rfl) ((X5.later (j7.trans (kR.mono j7.size))).cell 0 _ rfl) ((X6.later (k7.trans (kR.mono k7.size))).cell 0 _ rfl) ((X7.later kR).cell 0 _ rfl) (HR.out.later jE))
  have HC := Lib.hid (show (w7.alloc (.cells #[.nilFunc, .func (.func 85) #[] #[.pointer (some ⟨g5, 0, none⟩)], .func (.func 88) #[] #[.pointer (some ⟨g2, 0, none⟩)], .func (.func 87) #[] #[.pointer (some ⟨g7, 0, none⟩), .pointer (some ⟨g5, 0, none⟩)], .func (.func 87) #[] #[.pointer (some ⟨g7, 0, none⟩), .pointer (some ⟨g5, 0, none⟩)], .func (.func 86) #[] #[.pointer (some ⟨g6, 0, none⟩), .pointer (some ⟨g5, 0, none⟩)]] 101)).cell? ⟨w7.heap.size, 1, none⟩ = some (.func (.func 85) #[] #[.pointer (some ⟨g5, 0, none⟩)]) ∧ (w7.alloc (.cells #[.nilFunc, .func (.func 85) #[] #[.pointer (some ⟨g5, 0, none⟩)], .func (.func 88) #[] #[.pointer (some ⟨g2, 0, none⟩)], .func (.func 87) #[] #[.pointer (some ⟨g7, 0, none⟩), .pointer (some ⟨g5, 0, none⟩)], .func (.func 87) #[] #[.pointer (some ⟨g7, 0, none⟩), .pointer (some ⟨g5, 0, none⟩)], .func (.func 86) #[] #[.pointer (some ⟨g6, 0, none⟩), .pointer (some ⟨g5, 0, none⟩)]] 101)).cell? ⟨w7.heap.size, 2, none⟩ = some (.func (.func 88) #[] #[.pointer (some ⟨g2, 0, none⟩)]) ∧ (w7.alloc (.cells #[.nilFunc, .func (.func 85) #[] #[.pointer (some ⟨g5, 0, none⟩)], .func (.func 88) #[] #[.pointer (some ⟨g2, 0, none⟩)], .func (.func 87) #[] #[.pointer (some ⟨g7, 0, none⟩), .pointer (some ⟨g5, 0, none⟩)], .func (.func 87) #[] #[.pointer (some ⟨g7, 0, none⟩), .pointer (some ⟨g5, 0, none⟩)], .func (.func 86) #[] #[.pointer (some ⟨g6, 0, none⟩), .pointer (some ⟨g5, 0, none⟩)]] 101)).cell? ⟨w7.heap.size, 3, none⟩ = some (.func (.func 87) #[] #[.pointer (some ⟨g7, 0, none⟩), .pointer (some ⟨g5, 0, none⟩)]) ∧ (w7.alloc (.cells #[.nilFunc, .func (.func 85) #[] #[.pointer (some ⟨g5, 0, none⟩)], .func (.func 88) #[] #[.pointer (some ⟨g2, 0, none⟩)], .func (.func 87) #[] #[.pointer (some ⟨g7, 0, none⟩), .pointer (some ⟨g5, 0, none⟩)], .func (.func 87) #[] #[.pointer (some ⟨g7, 0, none⟩), .pointer (some ⟨g5, 0, none⟩)], .func (.func 86) #[] #[.pointer (some ⟨g6, 0, none⟩), .pointer (some ⟨g5, 0, none⟩)]] 101)).cell? ⟨w7.heap.size, 4, none⟩ = some (.func (.func 87) #[] #[.pointer (some ⟨g7, 0, none⟩), .pointer (some ⟨g5, 0, none⟩)]) ∧ (w7.alloc (.cells #[.nilFunc, .func (.func 85) #[] #[.pointer (some ⟨g5, 0, none⟩)], .func (.func 88) #[] #[.pointer (some ⟨g2, 0, none⟩)], .func (.func 87) #[] #[.pointer (some ⟨g7, 0, none⟩), .pointer (some ⟨g5, 0, none⟩)], .func (.func 87) #[] #[.pointer (some ⟨g7, 0, none⟩), .pointer (some ⟨g5, 0, none⟩)], .func (.func 86) #[] #[.pointer (some ⟨g6, 0, none⟩), .pointer (some ⟨g5, 0, none⟩)]] 101)).cell? ⟨w7.heap.size, 5, none⟩ = some (.func (.func 86) #[] #[.pointer (some ⟨g6, 0, none⟩), .pointer (some ⟨g5, 0, none⟩)]) from ⟨XR.cell 1 _ rfl, XR.cell 2 _ rfl, XR.cell 3 _ rfl, XR.cell 4 _ rfl, XR.cell 5 _ rfl⟩)
  have HE := Lib.hid (b1.trans (jE.mono b1.size))
  clear X2 X3 X5 X6 X7 XR k5 k6 k7 kR j5 j7 jE b1 HM HR
  go_wp2
  go_ret
  exact ⟨g2, g3, g5, g6, g7, w7.heap.size, rfl, HW.out, HC.out, ⟨Z2.out, Z3.out, Z5.out, Z6.out, Z7.out, ZR.out⟩, HE.out⟩

end Go.Proofs.YtlifgcgoehkinaaGreatDoor
