/- Texts of our own, joined. -/
import Derived.Test.YtieenkloiicnkaaGreatDoorJh
import Derived.Test.YtieenkloiicnkaaGreatDoorJj
import Derived.Deep.RegionLaw
import Derived.Test.YtieenkloiicnkaaGreatDoorJi
import Derived.Test.YtieenkloiicnkaaGreatDoorJk
/- Segments: what the model's SegWrite hands back of a right disk: a right disk of as many sectors. -/
namespace Go.Proofs.YtieenkloiicnkaaGreatDoor
open Go.RowKit

end Go.Proofs.YtieenkloiicnkaaGreatDoor

/- What is written in a segment, exactly: SegWrite of both on right disks. -/
namespace Go.Proofs.YtieenkloiicnkaaGreatDoor
open Go.RowKit

def sgW (d : Dk) (s A : Nat) (t : ByteArray) : Option Dk := if A + t.size ≤ 256 then wbL d (8 + 8 * s + A / 32) (A % 32) t.data.toList else none
theorem sgW_in {d : Dk} {s A : Nat} {t : ByteArray} (h : A + t.size ≤ 256) : sgW d s A t = wbL d (8 + 8 * s + A / 32) (A % 32) t.data.toList := if_pos h
theorem sgW_far {d : Dk} {s A : Nat} {t : ByteArray} (h : ¬ A + t.size ≤ 256) : sgW d s A t = none := if_neg h

set_option maxRecDepth 100000 in
set_option maxHeartbeats 2000000 in
theorem specSegWrite_sg (d : Dk) (v : Value) (s A : Nat) (t : ByteArray) (B T : Nat) (w : World) (h : DOwn B T w v d) (hok : d.ok) (hs : s ≤ 10) (hse : 8 + 8 * s < d.sec.length) (hA : A ≤ 256) (htz : t.size ≤ 1000000) :
    Calls Tryz.prog 100 #[v, .int .i64 (s : Int), .int .i64 (A : Int), .string t] w fun e w' => ∃ (d' : Dk) (f : Bool), d'.ok ∧ d'.sec.length = d.sec.length ∧ sgW d s A t = (if f = true then some d' else none) ∧ (f = false → d' = d) ∧ DiskR d' f w e w' := by
  obtain ⟨aa, ab, ca, cb, rfl⟩ := h.form
  obtain ⟨hsm, hts, htu⟩ := Dk.ok_small hok
  obtain ⟨hx0, hx1, b0, hsz⟩ := two_boxes w #[.slice aa d.sec.length ca, .slice ab d.cache.length cb] #[.slice none 0 0, .slice none 0 0] 33 33
  have h' := h.later b0
  have c0 := hx0.cell 0 (.slice aa d.sec.length ca) rfl
  have c1 := hx0.cell 1 (.slice ab d.cache.length cb) rfl
  by_cases hfit : (256 : Int) - (A : Int) < (t.size : Int)
  · have HNO : Hid (sgW d s A t = (if false = true then some d else none)) := by show _ = _; rw [sgW_far (by omega)]; rfl
    go_enter Tryz.func100, Tryz.ntmps100
    go_wp2_with (first | (go_at_call 56; refine (in_yes _ _ _ _ (by omega) (by omega)).mono ?_; rintro e w5 ⟨rfl, rfl⟩))
    generalize ((w.alloc (.cells #[.slice aa d.sec.length ca, .slice ab d.cache.length cb] 33)).alloc (.cells #[.slice none 0 0, .slice none 0 0] 33)) = W at hx0 hx1 b0 hsz h' c0 c1 ⊢
    refine (specCopy_any d _ B T _ h' hsm).mono ?_
    rintro e wX ⟨vX, rfl, oX, kX⟩
    obtain ⟨p1, p2, r1, r2, rfl⟩ := oX.form
    have xX := hx1.later kX
    have bX := b0.trans (kX.mono b0.size)
    have x0 := xX.cell 0 (.slice none 0 0) rfl
    have x1 := xX.cell 1 (.slice none 0 0) rfl
    have f0 := xX.loose 0
    have f1 := xX.loose 1
    have rX := (xX.set 0 (.slice p1 d.sec.length r1)).set 1 (.slice p2 d.cache.length r2)
    have HR : Hid (DiskR d false w (.returned (.tuple #[.agg #[.slice p1 d.sec.length r1, .slice p2 d.cache.length r2], .bool false])) ((wX.setCell ⟨w.heap.size + 1, 0, none⟩ (.slice p1 d.sec.length r1)).setCell ⟨w.heap.size + 1, 1, none⟩ (.slice p2 d.cache.length r2))) := by
      refine ⟨_, rfl, ?_, (bX.setCell (p := ⟨w.heap.size + 1, 0, none⟩) (by simp) _).setCell (p := ⟨w.heap.size + 1, 1, none⟩) (by simp) _⟩
      have := ((oX.base b0.size).boxStore xX 0 (.slice p1 d.sec.length r1)).boxStore (xX.set 0 (.slice p1 d.sec.length r1)) 1 (.slice p2 d.cache.length r2)
      simpa using this
    have q0 := rX.cell 0 (.slice p1 d.sec.length r1) rfl
    have q1 := rX.cell 1 (.slice p2 d.cache.length r2) rfl
    clear rX oX kX c0 c1 xX
    go_wp2
    refine bodyPost_ret (v := .tuple #[.agg #[.slice p1 d.sec.length r1, .slice p2 d.cache.length r2], .bool false]) (by simp [results, Tryz.results100, go_sem, q0, q1]) rfl ?_
    exact ⟨d, false, hok, rfl, HNO.out, fun _ => rfl, HR.out⟩
  · have HYE : Hid (sgW d s A t = wbL d (8 + 8 * s + A / 32) (A % 32) t.data.toList) := sgW_in (by omega)
    have hfit2 : ¬ (256 : Int) - (A : Int) < (t.size : Int) := hfit
    have hsf : sgF (s : Int) = ((8 + 8 * s : Nat) : Int) := by rw [sgF_yes ⟨by omega, by omega⟩]; omega
    go_enter Tryz.func100, Tryz.ntmps100
    go_upto_region 3 with (first | (go_at_call 56; refine (in_yes _ _ _ _ (by omega) (by omega)).mono ?_; rintro e w5 ⟨rfl, rfl⟩))
    generalize ((w.alloc (.cells #[.slice aa d.sec.length ca, .slice ab d.cache.length cb] 33)).alloc (.cells #[.slice none 0 0, .slice none 0 0] 33)) = W at hx0 hx1 b0 hsz h' c0 c1 ⊢
    have bD : Below W.heap.size W W.drew := (Below.refl _ _).drew
    have m0 := (hx0.later bD).cell 0 (.slice aa d.sec.length ca) rfl
    have m1 := (hx0.later bD).cell 1 (.slice ab d.cache.length cb) rfl
    have HD := Lib.hid (h'.later bD)
    have HX : Hid (∀ x, Below W.drew.heap.size W.drew x → Box x (w.heap.size + 1) #[.slice none 0 0, .slice none 0 0] 33 ∧ Below w.heap.size w x) := by
      intro x hb
      have hb2 : Below W.heap.size W x := bD.trans hb
      exact ⟨hx1.later hb2, b0.trans (hb2.mono b0.size)⟩
    have hzW : w.heap.size ≤ W.drew.heap.size := b0.size
    clear hx0 hx1 h' c0 c1 bD
    go_region_law (first
      | (go_simp; go_at_call 138; refine (specSegFirst_any _ _).mono ?_; rintro e w5 ⟨rfl, rfl⟩; rw [hsf]; dsimp only)
      | (go_simp; go_at_call 46; refine (specWriteBytes_wb d _ (8 + 8 * s) A t B T _ HD.out hok hse (by omega) htz).mono ?_; rintro e w6 ⟨d2, f2, hok2, hl2, hm2, hw2, hf2, v2, rfl, o6, k6⟩; have HL2 := Lib.hid hl2; have HW2 := Lib.hid hw2; have HF2 := Lib.hid hf2; clear hl2 hm2 hw2 hf2; obtain ⟨u1, u2, p1, p2, rfl⟩ := o6.form; obtain ⟨xX, bX⟩ := HX.out _ k6; have x0 := xX.cell 0 (.slice none 0 0) rfl; have x1 := xX.cell 1 (.slice none 0 0) rfl; have f0 := xX.loose 0; have f1 := xX.loose 1; dsimp only))
    all_goals
      have rX := (xX.set 0 (.slice u1 d2.sec.length p1)).set 1 (.slice u2 d2.cache.length p2)
      have q0 := rX.cell 0 (.slice u1 d2.sec.length p1) rfl
      have q1 := rX.cell 1 (.slice u2 d2.cache.length p2) rfl
      have HR : Hid (DiskR d2 f2 w (.returned (.tuple #[.agg #[.slice u1 d2.sec.length p1, .slice u2 d2.cache.length p2], .bool f2])) ((w6.setCell ⟨w.heap.size + 1, 0, none⟩ (.slice u1 d2.sec.length p1)).setCell ⟨w.heap.size + 1, 1, none⟩ (.slice u2 d2.cache.length p2))) := by
        refine ⟨_, rfl, ?_, (bX.setCell (p := ⟨w.heap.size + 1, 0, none⟩) (by simp) _).setCell (p := ⟨w.heap.size + 1, 1, none⟩) (by simp) _⟩
        have := ((o6.base hzW).boxStore xX 0 (.slice u1 d2.sec.length p1)).boxStore (xX.set 0 (.slice u1 d2.sec.length p1)) 1 (.slice u2 d2.cache.length p2)
        simpa using this
      clear rX xX o6
      go_wp2
      refine bodyPost_ret (v := .tuple #[.agg #[.slice u1 d2.sec.length p1, .slice u2 d2.cache.length p2], .bool f2]) (by simp [results, Tryz.results100, go_sem, q0, q1]) rfl ?_
      exact ⟨d2, f2, hok2, HL2.out, HYE.out.trans HW2.out, HF2.out, HR.out⟩

theorem implSegWrite_sg (d : Dk) (v : Value) (s A : Nat) (t : ByteArray) (B T : Nat) (w : World) (h : DOwn B T w v d) (hsm : d.small) (hts : ∀ s ∈ d.sec, s.size ≤ 1099511627776) (htu : ∀ x ∈ d.cache, x.text.size ≤ 1099511627776) (hcl : d.cache.length < 1073741824) (hs : s ≤ 10) (hse : 8 + 8 * s < d.sec.length) (hA : A ≤ 256) (htz : t.size ≤ 1000000) :
    Calls Tryz.prog 166 #[v, .int .i64 (s : Int), .int .i64 (A : Int), .string t] w fun e w' => DiskR ((sgW d s A t).getD d) (sgW d s A t).isSome w e w' := by
  by_cases hfit : A + t.size ≤ 256
  · rw [sgW_in hfit]
    exact implSegWrite_in d v s A t B T w h hsm hts htu hcl hs hse hA (by omega)
  · rw [sgW_far hfit]
    exact implSegWrite_far d v s A t B T w h hsm hts htu hs hA (by omega) (by omega)

end Go.Proofs.YtieenkloiicnkaaGreatDoor
