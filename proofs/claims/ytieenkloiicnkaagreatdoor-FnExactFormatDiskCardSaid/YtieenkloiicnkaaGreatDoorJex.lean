/- Texts of our own, joined. -/
import Derived.Test.YtieenkloiicnkaaGreatDoorJt
import Derived.Test.YtieenkloiicnkaaGreatDoorJdx
/- WriteBytes of the model beyond the disk. -/
namespace Go.Proofs.YtieenkloiicnkaaGreatDoor
open Go.RowKit

set_option maxRecDepth 100000 in
set_option maxHeartbeats 600000 in
theorem specWriteBytes_far (d : Dk) (v : Value) (se : Nat) (t : ByteArray) (B T : Nat) (w : World) (h : DOwn B T w v d) (hok : d.ok) (hse : ¬ se < d.sec.length) :
    Calls Tryz.prog 46 #[v, .int .i64 (se : Int), .int .i64 0, .string t] w fun e w' => DiskR d false w e w' := by
  obtain ⟨aa, ab, ca, cb, rfl⟩ := h.form
  obtain ⟨hsm, hts, htu⟩ := Dk.ok_small hok
  obtain ⟨hx0, hx1, b0, hsz⟩ := two_boxes w #[.slice aa d.sec.length ca, .slice ab d.cache.length cb] #[.slice none 0 0, .slice none 0 0] 33 33
  have h' := h.later b0
  have hl100 := hok.2.1
  have g4 : ¬ ((0 : Int) ≤ (se : Int) ∧ (se : Int) ≤ (d.sec.length : Int) - 1) := by omega
  go_enter Tryz.func46, Tryz.ntmps46
  go_wp2_with fail
  generalize ((w.alloc (.cells #[.slice aa d.sec.length ca, .slice ab d.cache.length cb] 33)).alloc (.cells #[.slice none 0 0, .slice none 0 0] 33)) = W at hx0 hx1 b0 hsz h' ⊢
  refine (specCopy_any d _ B T _ h' hsm).mono ?_
  rintro e w2 ⟨v2, rfl, o2, k2⟩
  obtain ⟨a1, a2, q1, q2, rfl⟩ := o2.form
  have k3 := belNew w2 (.cells #[.slice a1 d.sec.length q1, .slice a2 d.cache.length q2] 33)
  have XO := Box.new w2 #[.slice a1 d.sec.length q1, .slice a2 d.cache.length q2] 33
  have j3 := k2.trans (k3.mono k2.size)
  have hzW := b0.size
  replace hx0 := hx0.later j3
  replace hx1 := hx1.later j3
  have o3 := o2.later k3
  have b3 := b0.trans (j3.mono b0.size)
  go_upto_region 2 with fail
  generalize w2.alloc (.cells #[.slice a1 d.sec.length q1, .slice a2 d.cache.length q2] 33) = w3 at hx0 hx1 XO o3 b3 ⊢
  clear k3 j3 o2 k2 h' h
  generalize w2.heap.size = g2 at XO o3 ⊢
  have c0 := hx0.cell 0 (.slice aa d.sec.length ca) rfl
  obtain ⟨z0, z1⟩ : _ ∧ _ := ⟨XO.cell 0 _ rfl, XO.cell 1 _ rfl⟩
  obtain ⟨x0, x1, f0, f1⟩ : _ ∧ _ ∧ _ ∧ _ := ⟨hx1.cell 0 _ rfl, hx1.cell 1 _ rfl, hx1.loose 0, hx1.loose 1⟩
  have rX := (hx1.set 0 (.slice a1 d.sec.length q1)).set 1 (.slice a2 d.cache.length q2)
  have HR : Hid (DiskR d false w (.returned (.tuple #[.agg #[.slice a1 d.sec.length q1, .slice a2 d.cache.length q2], .bool false])) ((w3.setCell ⟨w.heap.size + 1, 0, none⟩ (.slice a1 d.sec.length q1)).setCell ⟨w.heap.size + 1, 1, none⟩ (.slice a2 d.cache.length q2))) := by
    refine ⟨_, rfl, ?_, (b3.setCell (p := ⟨w.heap.size + 1, 0, none⟩) (by simp) _).setCell (p := ⟨w.heap.size + 1, 1, none⟩) (by simp) _⟩
    have := (((o3.base hzW).boxStore hx1 0 (.slice a1 d.sec.length q1)).boxStore (hx1.set 0 (.slice a1 d.sec.length q1)) 1 (.slice a2 d.cache.length q2)).top
    simpa using this
  have q0 := rX.cell 0 (.slice a1 d.sec.length q1) rfl
  have q3 := rX.cell 1 (.slice a2 d.cache.length q2) rfl
  clear rX o3 hx0 hx1 XO b3
  go_wp2_with (first
    | (go_at_call 56; refine (in_yes _ _ _ _ (by omega) (by omega)).mono ?_; rintro e w5 ⟨rfl, rfl⟩)
    | (go_at_call 56; refine (in_no _ _ _ _ (by omega)).mono ?_; rintro e w5 ⟨rfl, rfl⟩))
  refine bodyPost_ret (v := .tuple #[.agg #[.slice a1 d.sec.length q1, .slice a2 d.cache.length q2], .bool false]) (by simp [results, Tryz.results46, go_sem, q0, q3]) rfl ?_
  exact HR.out


end Go.Proofs.YtieenkloiicnkaaGreatDoor
