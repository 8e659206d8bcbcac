/- Texts of our own, joined. -/
import Derived.Test.YtgcnebepklelpaaGreatDoorJr
import Derived.Test.YtgcnebepklelpaaGreatDoorJe
import Derived.Test.YtgcnebepklelpaaGreatDoorJl
import Derived.Test.YtgcnebepklelpaaGreatDoorJo
import Derived.Test.YtgcnebepklelpaaGreatDoorJd
/- A new disk and its log: FormatDisk of the program. -/
namespace Go.Proofs.YtgcnebepklelpaaGreatDoor
open Go.RowKit

theorem opO_st {L L' : Lg} {keep : Int} (ho : opO L keep = some L') : L'.st = L.st := by
  unfold opO at ho
  split at ho
  case isFalse => cases ho
  case isTrue hc =>
    cases hw : sgW L.d (opN L) 0 (hdT L.ng) with
    | none => rw [hw] at ho; cases ho
    | some d => rw [hw] at ho; cases ho; rfl
theorem wcO_fm0 (segs : Int) : wcO (fm0 segs).d (ckOf (fm0 segs)) = none := wcO_bad (ckB_no (fun h => by have h9 : 1 ≤ (ckOf (fm0 segs)).refs.length := h.2.1.1; simp [ckOf, fm0] at h9))
theorem fmO_is {segs : Int} (h : 5 ≤ segs ∧ segs ≤ 11) {L : Lg} (ho : opO (fm0 segs) 0 = some L) : fmO segs = (wcO L.d (ckOf L)).map (fun E => ⟨E, L.segs, L.used, L.ng, L.ns, (ckOf L).st, L.nv⟩) := by
  have hst : (ckOf L).st = 1 := by
    show IntKind.i64.wrap (L.st + 1) = 1
    rw [opO_st ho]
    rfl
  cases hw : wcO L.d (ckOf L) with
  | none => rw [fmO_none ho hw]; rfl
  | some E => rw [fmO_some h ho hw, hst]; rfl

set_option maxRecDepth 100000 in
set_option maxHeartbeats 8000000 in
theorem implFormatDisk_any (segs : Int) (w : World) (hsg : -9223372036854775808 ≤ segs ∧ segs ≤ 9223372036854775807) (ht : SumTab w) (he : ErrTab w) :
    Calls Tryz.prog 10 #[.int .i64 segs] w fun e w' => FmR (fmO segs) w e w' := by
  obtain ⟨O, hO⟩ : ∃ O, fmO segs = O := ⟨_, rfl⟩
  have HO := Lib.hid hO
  rw [hO]
  clear hO
  have HT : Hid (∀ x, Below w.heap.size w x → SumTab x ∧ ErrTab x) := fun x hx => ⟨ht.later hx, (hx.cell (p := ⟨0, 0, none⟩) (World.block_lt_of_cell? _ _ he)).trans he⟩
  have X0 := Box.new w #[.slice none 0 0, .slice none 0 0, .int .i64 0, .slice none 0 0, .int .i64 0, .int .i64 0, .int .i64 0, .int .i64 0] 28
  have b0 := belNew w (.cells #[.slice none 0 0, .slice none 0 0, .int .i64 0, .slice none 0 0, .int .i64 0, .int .i64 0, .int .i64 0, .int .i64 0] 28)
  have z0 : (w.alloc (.cells #[.slice none 0 0, .slice none 0 0, .int .i64 0, .slice none 0 0, .int .i64 0, .int .i64 0, .int .i64 0, .int .i64 0] 28)).heap.size = w.heap.size + 1 := by simp
  clear ht he
  by_cases hin : 5 ≤ segs ∧ segs ≤ 11
  case neg =>
    have HN : Hid (O = none) := HO.out.symm.trans (fmO_out hin)
    have XR := X0
    have bR := b0
    clear X0 b0 z0
    by_cases h5 : segs < 5
    · go_enter Tryz.func10, Tryz.ntmps10
      go_upto_region 2 with fail
      generalize w.alloc (.cells #[.slice none 0 0, .slice none 0 0, .int .i64 0, .slice none 0 0, .int .i64 0, .int .i64 0, .int .i64 0, .int .i64 0] 28) = W at XR bR ⊢
      obtain ⟨r0, r1, r2, r3, r4, r5, r6, r7, f0, f1, f2, f3, f4, f5, f6, f7⟩ := XR.eightL
      have RX := XR.set8L (.slice none 0 0) (.slice none 0 0) (.int .i64 0) (.slice none 0 0) (.int .i64 0) (.int .i64 0) (.int .i64 0) (.int .i64 0)
      have BXX := below_set8L bR (Nat.le_refl _) (.slice none 0 0) (.slice none 0 0) (.int .i64 0) (.slice none 0 0) (.int .i64 0) (.int .i64 0) (.int .i64 0) (.int .i64 0)
      obtain ⟨u0, u1, u2, u3, u4, u5, u6, u7⟩ := RX.eightO
      have HFIN : Hid (FmR O w (.returned (.tuple #[.agg #[.slice none 0 0, .slice none 0 0, .int .i64 0, .slice none 0 0, .int .i64 0, .int .i64 0, .int .i64 0, .int .i64 0], .bool false])) (set8L W w.heap.size (.slice none 0 0) (.slice none 0 0) (.int .i64 0) (.slice none 0 0) (.int .i64 0) (.int .i64 0) (.int .i64 0) (.int .i64 0))) := by
        rw [HN.out]
        exact ⟨_, _, rfl, ⟨_, _, _, _, rfl, lgP_nil BXX.size⟩, rfl, BXX⟩
      unfold set8L at u0 u1 u2 u3 u4 u5 u6 u7 HFIN
      clear RX BXX XR bR
      go_wp2
      refine bodyPost_ret (v := .tuple #[.agg #[.slice none 0 0, .slice none 0 0, .int .i64 0, .slice none 0 0, .int .i64 0, .int .i64 0, .int .i64 0, .int .i64 0], .bool false]) (by simp [results, Tryz.results10, go_sem, u0, u1, u2, u3, u4, u5, u6, u7]) rfl ?_
      exact HFIN.out
    · have h11 : 11 < segs := by omega
      go_enter Tryz.func10, Tryz.ntmps10
      go_upto_region 2 with fail
      generalize w.alloc (.cells #[.slice none 0 0, .slice none 0 0, .int .i64 0, .slice none 0 0, .int .i64 0, .int .i64 0, .int .i64 0, .int .i64 0] 28) = W at XR bR ⊢
      obtain ⟨r0, r1, r2, r3, r4, r5, r6, r7, f0, f1, f2, f3, f4, f5, f6, f7⟩ := XR.eightL
      have RX := XR.set8L (.slice none 0 0) (.slice none 0 0) (.int .i64 0) (.slice none 0 0) (.int .i64 0) (.int .i64 0) (.int .i64 0) (.int .i64 0)
      have BXX := below_set8L bR (Nat.le_refl _) (.slice none 0 0) (.slice none 0 0) (.int .i64 0) (.slice none 0 0) (.int .i64 0) (.int .i64 0) (.int .i64 0) (.int .i64 0)
      obtain ⟨u0, u1, u2, u3, u4, u5, u6, u7⟩ := RX.eightO
      have HFIN : Hid (FmR O w (.returned (.tuple #[.agg #[.slice none 0 0, .slice none 0 0, .int .i64 0, .slice none 0 0, .int .i64 0, .int .i64 0, .int .i64 0, .int .i64 0], .bool false])) (set8L W w.heap.size (.slice none 0 0) (.slice none 0 0) (.int .i64 0) (.slice none 0 0) (.int .i64 0) (.int .i64 0) (.int .i64 0) (.int .i64 0))) := by
        rw [HN.out]
        exact ⟨_, _, rfl, ⟨_, _, _, _, rfl, lgP_nil BXX.size⟩, rfl, BXX⟩
      unfold set8L at u0 u1 u2 u3 u4 u5 u6 u7 HFIN
      clear RX BXX XR bR
      go_wp2
      refine bodyPost_ret (v := .tuple #[.agg #[.slice none 0 0, .slice none 0 0, .int .i64 0, .slice none 0 0, .int .i64 0, .int .i64 0, .int .i64 0, .int .i64 0], .bool false]) (by simp [results, Tryz.results10, go_sem, u0, u1, u2, u3, u4, u5, u6, u7]) rfl ?_
      exact HFIN.out
  have g5 : ¬ segs < 5 := by omega
  have g11 : ¬ 11 < segs := by omega
  have HIN := Lib.hid hin
  have hw1 : IntKind.i64.wrap (segs - 1) = segs - 1 := IntWalk.i64_in _ ⟨by omega, by omega⟩
  have hsf : sgF (segs - 1) = segs * 8 := by rw [sgF_yes ⟨by omega, by omega⟩]; omega
  have HSF : Hid (∀ x, Calls Tryz.prog 23 #[.int .i64 (segs - 1)] x fun e w' => e = .returned (.int .i64 (segs * 8)) ∧ x = w') := fun x => by
    have h9 := implSegFirst_any (segs - 1) x
    rw [hsf] at h9
    exact h9
  have hw2 : IntKind.i64.wrap (segs * 8 + 8) = segs * 8 + 8 := IntWalk.i64_in _ ⟨by omega, by omega⟩
  have HND : Hid (∀ x, Calls Tryz.prog 22 #[.int .i64 (segs * 8 + 8)] x fun e w' => DiskR (newD (segs * 8 + 8)) true x e w') := fun x => by
    have h9 := implDiskNew_any (segs * 8 + 8) x
    rw [decide_eq_true (show 1 ≤ segs * 8 + 8 ∧ segs * 8 + 8 ≤ 100 by omega)] at h9
    exact h9
  have HOPH := Lib.hid (fm0_ok hin)
  have HFM : Hid (fm0 segs = ⟨newD (segs * 8 + 8), segs, [], 1, 1, 0, 1⟩) := by show _ = _; unfold fm0; rw [show (8 : Int) + 8 * segs = segs * 8 + 8 by omega]
  clear hsf
  go_enter Tryz.func10, Tryz.ntmps10
  go_upto_region 3 with fail
  generalize w.alloc (.cells #[.slice none 0 0, .slice none 0 0, .int .i64 0, .slice none 0 0, .int .i64 0, .int .i64 0, .int .i64 0, .int .i64 0] 28) = w0 at X0 b0 z0 ⊢
  go_wp2_with fail
  refine (HSF.out _).mono ?_
  rintro e wq ⟨rfl, rfl⟩
  go_wp2_with fail
  refine (HND.out _).mono ?_
  rintro e w1 ⟨v1, rfl, o1, k1⟩
  obtain ⟨p1, p2, q1, q2, rfl⟩ := o1.form
  clear HND HSF hw1 hw2 g5 g11
  generalize hd0 : newD (segs * 8 + 8) = d at o1 HFM ⊢
  clear hd0
  have k2 := belNew w1 (.cells #[.slice p1 d.sec.length q1, .slice p2 d.cache.length q2] 25)
  have k3 := belNew (w1.alloc (.cells #[.slice p1 d.sec.length q1, .slice p2 d.cache.length q2] 25)) (.cells #[.slice p1 d.sec.length q1, .slice p2 d.cache.length q2, .int .i64 segs, .slice none 0 0, .int .i64 1, .int .i64 1, .int .i64 0, .int .i64 1] 55)
  have XG := Box.new (w1.alloc (.cells #[.slice p1 d.sec.length q1, .slice p2 d.cache.length q2] 25)) #[.slice p1 d.sec.length q1, .slice p2 d.cache.length q2, .int .i64 segs, .slice none 0 0, .int .i64 1, .int .i64 1, .int .i64 0, .int .i64 1] 55
  have zz : Hid (w0.heap.size ≤ w1.heap.size ∧ (w1.alloc (.cells #[.slice p1 d.sec.length q1, .slice p2 d.cache.length q2] 25)).heap.size = w1.heap.size + 1) := ⟨k1.size, by simp⟩
  have j3 := (k1.trans (k2.mono k1.size)).trans (k3.mono (k1.trans (k2.mono k1.size)).size)
  have o3 := (o1.later k2).later k3
  have X3 := X0.later j3
  have b3 := b0.trans (j3.mono b0.size)
  clear k1 k2 k3 j3 o1 X0 b0
  go_upto_region 5 with fail
  rw [zz.out.2] at XG
  generalize ((w1.alloc (.cells #[.slice p1 d.sec.length q1, .slice p2 d.cache.length q2] 25)).alloc (.cells #[.slice p1 d.sec.length q1, .slice p2 d.cache.length q2, .int .i64 segs, .slice none 0 0, .int .i64 1, .int .i64 1, .int .i64 0, .int .i64 1] 55)) = w3 at XG o3 X3 b3 ⊢
  obtain ⟨pg, hpg⟩ : ∃ pg, w1.heap.size + 1 = pg := ⟨_, rfl⟩
  rw [hpg] at XG ⊢
  have HPG : Hid (w.heap.size < w0.heap.size ∧ w1.heap.size < pg ∧ w0.heap.size ≤ w1.heap.size ∧ pg < w3.heap.size ∧ w0.heap.size ≤ w3.heap.size ∧ w1.heap.size ≤ w3.heap.size) := ⟨by omega, by omega, zz.out.1, XG.lt, by have := XG.lt; have := zz.out.1; omega, by have := XG.lt; omega⟩
  clear hpg zz z0
  have HOP := Lib.hid (openHead_any (fm0 segs) 0 pg w0.heap.size w1.heap.size (.slice p1 d.sec.length q1) (.slice p2 d.cache.length q2) (.slice none 0 0) [] w3 (by rw [HFM.out]; exact XG) (by rw [HFM.out]; exact LgP.mkN o3 rfl HPG.out.2.2.2.2.1 HPG.out.2.2.2.2.2) (by have := HPG.out; omega) (by rw [HFM.out]; simp) HOPH.out (by omega) (HT.out _ b3).1)
  clear XG o3
  go_wp2_with fail
  refine HOP.out.mono ?_
  intro e w4 hop
  clear HOP
  obtain ⟨g4, hcase⟩ := hop
  have XR : Box w4 w.heap.size _ _ := (g4.block w.heap.size X3.lt (by have := HPG.out; omega) (.inl HPG.out.1)).trans X3
  have bR : Below w.heap.size w w4 := ⟨g4.os.trans b3.os, g4.tape.trans b3.tape, g4.output.trans b3.output, Nat.le_trans b3.size g4.size, fun q hq => (g4.block q (Nat.lt_of_lt_of_le hq b3.size) (by have := HPG.out; omega) (.inl (by have := HPG.out; omega))).trans (b3.block q hq)⟩
  obtain ⟨L1, F0, va, vb, vu, hs, T1, rfl, B4, P4, hT1, hokL, hul, hfo⟩ : ∃ (L1 : Lg) (F0 : Bool) (va vb vu : Value) (hs : List SgH) (T1 : Nat), e = .returned (.bool F0) ∧ Box w4 pg (lgC va vb vu L1) 55 ∧ LgP w0.heap.size T1 w4 va vb vu L1 hs ∧ T1 ≤ w4.heap.size ∧ L1.d.ok ∧ L1.used.length ≤ 1 ∧ fmO segs = (wcO L1.d (ckOf L1)).map (fun E => ⟨E, L1.segs, L1.used, L1.ng, L1.ns, (ckOf L1).st, L1.nv⟩) := by
    rcases hcase with ⟨hN, rfl, B4, P4⟩ | ⟨L1, va, vb, vu, hs, hS, rfl, B4, P4⟩
    · exact ⟨fm0 segs, false, _, _, _, [], _, rfl, B4, P4, P4.use.le, HOPH.out.ok, (by show ([] : List Sg).length ≤ 1; simp), (by rw [fmO_no hN, wcO_fm0]; rfl)⟩
    · have his := opO_is HOPH.out hS
      exact ⟨L1, true, va, vb, vu, hs, _, rfl, B4, P4, Nat.le_refl _, his.1, (by have h9 := his.2.1; rw [HFM.out] at h9; simp at h9; omega), fmO_is HIN.out hS⟩
  clear hcase g4 X3 b3 HOPH HFM HIN
  obtain ⟨a1, a2, a3, c1, c2, c3, rfl, rfl, rfl⟩ := P4.form
  unfold lgC at B4
  have HFO : Hid (O = (wcO L1.d (ckOf L1)).map (fun E => ⟨E, L1.segs, L1.used, L1.ng, L1.ns, (ckOf L1).st, L1.nv⟩)) := HO.out.symm.trans hfo
  clear hfo HO
  have HP4 := Lib.hid P4
  have HXR := Lib.hid XR
  have HBR := Lib.hid bR
  have HB4 := Lib.hid B4
  go_wp2_with fail
  refine (closed_any a1 a2 a3 _ _ _ c1 c2 c3 _ _ _ _ _ pg _ HB4.out).mono ?_
  rintro e w5 ⟨rfl, k5⟩
  have HFL := Lib.hid (fixedLog_any L1 a1 a2 a3 c1 c2 c3 _ _ hs w5 (P4.later k5) hokL (by omega) (HT.out _ (bR.trans (k5.mono bR.size))).1)
  clear B4 P4 XR bR
  go_wp2_with fail
  refine HFL.out.mono ?_
  clear HFL
  intro e w6 hfl
  obtain ⟨k6, hcase⟩ := hfl
  have j6 := k5.trans (k6.mono k5.size)
  have hz : Hid (w.heap.size < w4.heap.size ∧ w4.heap.size ≤ w5.heap.size ∧ w5.heap.size ≤ w6.heap.size ∧ w0.heap.size ≤ w4.heap.size ∧ w.heap.size < w0.heap.size) := ⟨HXR.out.lt, k5.size, k6.size, by have := HPG.out; have := HB4.out.lt; omega, HPG.out.1⟩
  rcases hcase with ⟨hN, k, hk, rfl⟩ | ⟨E, b1, b2, d1, d2, hE, rfl, oE⟩
  · have HN : Hid (O = none) := by show _ = _; rw [HFO.out, hN]; rfl
    have k7 := belNew w6 (.cells #[.slice none 0 0, .slice none 0 0, .int .i64 0, .slice none 0 0, .int .i64 0, .int .i64 0, .int .i64 0, .int .i64 0] 28)
    have BF := Box.new w6 #[.slice none 0 0, .slice none 0 0, .int .i64 0, .slice none 0 0, .int .i64 0, .int .i64 0, .int .i64 0, .int .i64 0] 28
    have j7 := j6.trans (k7.mono j6.size)
    have XR := HXR.out.later j7
    have bR := HBR.out.trans (j7.mono HBR.out.size)
    have hk0 : (k == 0) = false := by simpa using hk
    have HKN := Lib.hid hk
    clear k5 k6 k7 j6 j7 hN HP4 HXR HB4 hokL hk
    go_upto_region 7 with fail
    generalize w6.alloc (.cells #[.slice none 0 0, .slice none 0 0, .int .i64 0, .slice none 0 0, .int .i64 0, .int .i64 0, .int .i64 0, .int .i64 0] 28) = w7 at BF XR bR ⊢
    have HGF : Hid (w6.heap.size ≠ w.heap.size) := by have := hz.out; show _ ≠ _; omega
    generalize w6.heap.size = gF at BF HGF ⊢
    have HCODE : Hid (∀ x, Below w.heap.size w x → Calls Tryz.prog 27 #[.iface 90 (.agg #[.int .i64 k])] x fun e w' => e = .returned (.int .i64 k) ∧ Below x.heap.size x w') := fun x hx => codeOf_fault k x (HT.out x hx).2
    have HBF := Lib.hid BF
    have HXR7 := Lib.hid XR
    have HBR7 := Lib.hid bR
    clear XR bR
    refine wp_region_held_drew (S := fun x => Box x gF #[.slice none 0 0, .slice none 0 0, .int .i64 0, .slice none 0 0, .int .i64 0, .int .i64 0, .int .i64 0, .int .i64 0] 28) (by kernel_rfl) BF (fun hHeld => ?_)
    refine takeL (i := 0) (v := .agg #[.slice none 0 0, .slice none 0 0, .int .i64 0, .slice none 0 0, .int .i64 0, .int .i64 0, .int .i64 0, .int .i64 0]) rfl (by kernel_rfl) (by kernel_rfl) (by kernel_rfl) (fun _ _ _ h => h) (Or.inl ⟨by rfl, ?_⟩) (by assumption) ?_
    · intro x hSx; obtain ⟨b0', b1', b2', b3', b4', b5', b6', b7'⟩ := Box.eightO hSx; go_simp
    try simp only [Act.put, List.setIfInBounds_toArray, List.set_cons_zero, List.set_cons_succ]
    refine takeL (i := 1) (v := .iface 90 (.agg #[.int .i64 k])) rfl (by kernel_rfl) (by kernel_rfl) (by kernel_rfl) (fun _ _ _ h => h) (Or.inl ⟨by rfl, ?_⟩) (by assumption) ?_
    · intro x hSx; go_simp
    try simp only [Act.put, List.setIfInBounds_toArray, List.set_cons_zero, List.set_cons_succ]
    refine wpAnyH_ready (rs := [2]) (by kernel_rfl) (by simp) ?_
    refine readyOne rfl (fun K' hK => ?_)
    go_simp
    refine (HCODE.out _ (HBR7.out.drew)).mono ?_
    rintro e wT ⟨rfl, kT⟩
    go_wp2_with fail
    refine hK.out _ _ (hHeld.later kT) (fun hS2 => ?_)
    clear hK K' hHeld
    have hHeld := hS2
    clear hS2
    try simp only [Act.put, List.setIfInBounds_toArray, List.set_cons_zero, List.set_cons_succ]
    refine takeL (i := 3) (v := .bool false) rfl (by kernel_rfl) (by kernel_rfl) (by kernel_rfl) (fun _ _ _ h => h) (Or.inl ⟨by rfl, ?_⟩) (by assumption) ?_
    · intro x hSx; go_simp
    try simp only [Act.put, List.setIfInBounds_toArray, List.set_cons_zero, List.set_cons_succ]
    have kT' := (belDrewF w7).trans kT
    have XT := HXR7.out.later kT'
    have bT := HBR7.out.trans (kT'.mono HBR7.out.size)
    have RX := XT.set8L (.slice none 0 0) (.slice none 0 0) (.int .i64 0) (.slice none 0 0) (.int .i64 0) (.int .i64 0) (.int .i64 0) (.int .i64 0)
    have BXX := below_set8L bT (Nat.le_refl _) (.slice none 0 0) (.slice none 0 0) (.int .i64 0) (.slice none 0 0) (.int .i64 0) (.int .i64 0) (.int .i64 0) (.int .i64 0)
    obtain ⟨u0, u1, u2, u3, u4, u5, u6, u7⟩ := RX.eightO
    have HFIN : Hid (FmR O w (.returned (.tuple #[.agg #[.slice none 0 0, .slice none 0 0, .int .i64 0, .slice none 0 0, .int .i64 0, .int .i64 0, .int .i64 0, .int .i64 0], .bool false])) (set8L wT w.heap.size (.slice none 0 0) (.slice none 0 0) (.int .i64 0) (.slice none 0 0) (.int .i64 0) (.int .i64 0) (.int .i64 0) (.int .i64 0))) := by
      rw [HN.out]
      exact ⟨_, _, rfl, ⟨_, _, _, _, rfl, lgP_nil BXX.size⟩, rfl, BXX⟩
    have HFIND : Hid (FmR O w (.returned (.tuple #[.agg #[.slice none 0 0, .slice none 0 0, .int .i64 0, .slice none 0 0, .int .i64 0, .int .i64 0, .int .i64 0, .int .i64 0], .bool false])) (set8L wT w.heap.size (.slice none 0 0) (.slice none 0 0) (.int .i64 0) (.slice none 0 0) (.int .i64 0) (.int .i64 0) (.int .i64 0) (.int .i64 0)).drew) := by
      rw [HN.out]
      exact ⟨_, _, rfl, ⟨_, _, _, _, rfl, lgP_nil BXX.drew.size⟩, rfl, BXX.drew⟩
    obtain ⟨r0, r1, r2, r3, r4, r5, r6, r7, f0, f1, f2, f3, f4, f5, f6, f7⟩ := XT.eightL
    have HS8 : Box (set8L wT w.heap.size (.slice none 0 0) (.slice none 0 0) (.int .i64 0) (.slice none 0 0) (.int .i64 0) (.int .i64 0) (.int .i64 0) (.int .i64 0)) gF #[.slice none 0 0, .slice none 0 0, .int .i64 0, .slice none 0 0, .int .i64 0, .int .i64 0, .int .i64 0, .int .i64 0] 28 := ((grown_set8L wT w.heap.size (.slice none 0 0) (.slice none 0 0) (.int .i64 0) (.slice none 0 0) (.int .i64 0) (.int .i64 0) (.int .i64 0) (.int .i64 0)).block gF hHeld.lt (fun e => HGF.out (Option.some.inj e))).trans hHeld
    unfold set8L at u0 u1 u2 u3 u4 u5 u6 u7 HFIN HFIND HS8
    refine wpAnyH_ready (rs := [4]) (by kernel_rfl) (by simp) ?_
    refine readyOne rfl (fun K' hK => ?_)
    go_simp
    clear r0 r1 r2 r3 r4 r5 r6 r7 f0 f1 f2 f3 f4 f5 f6 f7
    refine hK.out _ _ HS8 (fun hS2 => ?_)
    clear hK K' hHeld
    have hHeld := hS2
    clear hS2
    try simp only [Act.put, List.setIfInBounds_toArray, List.set_cons_zero, List.set_cons_succ]
    refine takeL (i := 5) (v := .bool false) rfl (by kernel_rfl) (by kernel_rfl) (by kernel_rfl) (fun _ _ _ h => h) (Or.inl ⟨by rfl, ?_⟩) (by assumption) ?_
    · intro x hSx; go_simp
    try simp only [Act.put, List.setIfInBounds_toArray, List.set_cons_zero, List.set_cons_succ]
    refine wpAnyH_done (by kernel_rfl) ?_ _
    clear RX BXX XT bT HS8 kT kT'
    go_wp2
    refine bodyPost_ret (v := .tuple #[.agg #[.slice none 0 0, .slice none 0 0, .int .i64 0, .slice none 0 0, .int .i64 0, .int .i64 0, .int .i64 0, .int .i64 0], .bool false]) (by simp [results, Tryz.results10, go_sem, u0, u1, u2, u3, u4, u5, u6, u7]) rfl ?_
    first | exact HFIN.out | exact HFIND.out
  · have HY : Hid (O = some ⟨E, L1.segs, L1.used, L1.ng, L1.ns, (ckOf L1).st, L1.nv⟩) := by show _ = _; rw [HFO.out, hE]; rfl
    have HOE := Lib.hid oE
    generalize (ckOf L1).st = cs at HY ⊢
    have k7 := belNew w6 (.cells #[.slice b1 E.sec.length d1, .slice b2 E.cache.length d2, .int .i64 L1.segs, .slice a3 L1.used.length c3, .int .i64 L1.ng, .int .i64 L1.ns, .int .i64 cs, .int .i64 L1.nv] 28)
    have BF := Box.new w6 #[.slice b1 E.sec.length d1, .slice b2 E.cache.length d2, .int .i64 L1.segs, .slice a3 L1.used.length c3, .int .i64 L1.ng, .int .i64 L1.ns, .int .i64 cs, .int .i64 L1.nv] 28
    have j7 := j6.trans (k7.mono j6.size)
    have XR := HXR.out.later j7
    have bR := HBR.out.trans (j7.mono HBR.out.size)
    have K7 := Lib.hid k7
    have J7 := Lib.hid j7
    have H7 : Hid (w6.heap.size ≤ (w6.alloc (.cells #[.slice b1 E.sec.length d1, .slice b2 E.cache.length d2, .int .i64 L1.segs, .slice a3 L1.used.length c3, .int .i64 L1.ng, .int .i64 L1.ns, .int .i64 cs, .int .i64 L1.nv] 28)).heap.size) := k7.size
    have HT1 := Lib.hid hT1
    clear k5 k6 k7 j6 j7 hE oE HXR HB4 hokL hT1
    go_upto_region 7 with fail
    generalize w6.alloc (.cells #[.slice b1 E.sec.length d1, .slice b2 E.cache.length d2, .int .i64 L1.segs, .slice a3 L1.used.length c3, .int .i64 L1.ng, .int .i64 L1.ns, .int .i64 cs, .int .i64 L1.nv] 28) = w7 at BF XR bR K7 J7 H7 ⊢
    have HGF : Hid (w6.heap.size ≠ w.heap.size) := by have := hz.out; show _ ≠ _; omega
    generalize hgF : w6.heap.size = gF at BF HGF ⊢
    have HGZ := Lib.hid hgF
    clear hgF
    have HCODE : Hid (∀ x, Below w.heap.size w x → Calls Tryz.prog 27 #[.nilIface] x fun e w' => e = .returned (.int .i64 0) ∧ Below x.heap.size x w') := fun x hx => codeOf_nil x
    have HBF := Lib.hid BF
    have HXR7 := Lib.hid XR
    have HBR7 := Lib.hid bR
    clear XR bR
    refine wp_region_held_drew (S := fun x => Box x gF #[.slice b1 E.sec.length d1, .slice b2 E.cache.length d2, .int .i64 L1.segs, .slice a3 L1.used.length c3, .int .i64 L1.ng, .int .i64 L1.ns, .int .i64 cs, .int .i64 L1.nv] 28) (by kernel_rfl) BF (fun hHeld => ?_)
    refine takeL (i := 0) (v := .agg #[.slice b1 E.sec.length d1, .slice b2 E.cache.length d2, .int .i64 L1.segs, .slice a3 L1.used.length c3, .int .i64 L1.ng, .int .i64 L1.ns, .int .i64 cs, .int .i64 L1.nv]) rfl (by kernel_rfl) (by kernel_rfl) (by kernel_rfl) (fun _ _ _ h => h) (Or.inl ⟨by rfl, ?_⟩) (by assumption) ?_
    · intro x hSx; obtain ⟨b0', b1', b2', b3', b4', b5', b6', b7'⟩ := Box.eightO hSx; go_simp
    try simp only [Act.put, List.setIfInBounds_toArray, List.set_cons_zero, List.set_cons_succ]
    refine takeL (i := 1) (v := .nilIface) rfl (by kernel_rfl) (by kernel_rfl) (by kernel_rfl) (fun _ _ _ h => h) (Or.inl ⟨by rfl, ?_⟩) (by assumption) ?_
    · intro x hSx; go_simp
    try simp only [Act.put, List.setIfInBounds_toArray, List.set_cons_zero, List.set_cons_succ]
    refine wpAnyH_ready (rs := [2]) (by kernel_rfl) (by simp) ?_
    refine readyOne rfl (fun K' hK => ?_)
    go_simp
    refine (HCODE.out _ (HBR7.out.drew)).mono ?_
    rintro e wT ⟨rfl, kT⟩
    go_wp2_with fail
    refine hK.out _ _ (hHeld.later kT) (fun hS2 => ?_)
    clear hK K' hHeld
    have hHeld := hS2
    clear hS2
    try simp only [Act.put, List.setIfInBounds_toArray, List.set_cons_zero, List.set_cons_succ]
    refine takeL (i := 3) (v := .bool true) rfl (by kernel_rfl) (by kernel_rfl) (by kernel_rfl) (fun _ _ _ h => h) (Or.inl ⟨by rfl, ?_⟩) (by assumption) ?_
    · intro x hSx; go_simp
    try simp only [Act.put, List.setIfInBounds_toArray, List.set_cons_zero, List.set_cons_succ]
    have kT' := (belDrewF w7).trans kT
    have XT := HXR7.out.later kT'
    have bT := HBR7.out.trans (kT'.mono HBR7.out.size)
    have RX := XT.set8L (.slice b1 E.sec.length d1) (.slice b2 E.cache.length d2) (.int .i64 L1.segs) (.slice a3 L1.used.length c3) (.int .i64 L1.ng) (.int .i64 L1.ns) (.int .i64 cs) (.int .i64 L1.nv)
    have BXX := below_set8L bT (Nat.le_refl _) (.slice b1 E.sec.length d1) (.slice b2 E.cache.length d2) (.int .i64 L1.segs) (.slice a3 L1.used.length c3) (.int .i64 L1.ng) (.int .i64 L1.ns) (.int .i64 cs) (.int .i64 L1.nv)
    obtain ⟨u0, u1, u2, u3, u4, u5, u6, u7⟩ := RX.eightO
    obtain ⟨Z, hZ⟩ : ∃ Z, set8L wT w.heap.size (.slice b1 E.sec.length d1) (.slice b2 E.cache.length d2) (.int .i64 L1.segs) (.slice a3 L1.used.length c3) (.int .i64 L1.ng) (.int .i64 L1.ns) (.int .i64 cs) (.int .i64 L1.nv) = Z := ⟨_, rfl⟩
    have g9 := grown_set8L wT w.heap.size (.slice b1 E.sec.length d1) (.slice b2 E.cache.length d2) (.int .i64 L1.segs) (.slice a3 L1.used.length c3) (.int .i64 L1.ng) (.int .i64 L1.ns) (.int .i64 cs) (.int .i64 L1.nv)
    have BZZ := BXX
    rw [hZ] at g9 BZZ
    have HL2 : Hid (LgP w0.heap.size Z.heap.size Z (.slice b1 E.sec.length d1) (.slice b2 E.cache.length d2) (.slice a3 L1.used.length c3) ⟨E, L1.segs, L1.used, L1.ng, L1.ns, cs, L1.nv⟩ hs) := by
      have h9 := hz.out
      have zT := kT'.size
      have z7 := H7.out
      have dT := (((HOE.out.later K7.out).later kT')).stayO g9.size (fun q h1 h2 => g9.block q (by omega) (fun e => by have := Option.some.inj e; omega))
      have gT := ((HP4.out.later J7.out).later kT').use.beside g9.size (fun q => q = w.heap.size) (fun q hq hn => g9.block q hq (fun e => hn (Option.some.inj e))) (fun q hq => by subst hq; exact ⟨_, _, XT, by decide, by decide⟩)
      exact LgP.mkU (L := ⟨E, L1.segs, L1.used, L1.ng, L1.ns, cs, L1.nv⟩) dT gT (by omega) (by have := HT1.out; omega)
    have HFIN : Hid (FmR O w (.returned (.tuple #[.agg #[.slice b1 E.sec.length d1, .slice b2 E.cache.length d2, .int .i64 L1.segs, .slice a3 L1.used.length c3, .int .i64 L1.ng, .int .i64 L1.ns, .int .i64 cs, .int .i64 L1.nv], .bool true])) Z) := by
      rw [HY.out]
      exact ⟨_, _, rfl, ⟨_, _, _, hs, rfl, HL2.out.widen (by have := hz.out; omega) (Nat.le_refl _) (Nat.le_refl _)⟩, rfl, BZZ⟩
    have HFIND : Hid (FmR O w (.returned (.tuple #[.agg #[.slice b1 E.sec.length d1, .slice b2 E.cache.length d2, .int .i64 L1.segs, .slice a3 L1.used.length c3, .int .i64 L1.ng, .int .i64 L1.ns, .int .i64 cs, .int .i64 L1.nv], .bool true])) Z.drew) := by
      rw [HY.out]
      exact ⟨_, _, rfl, ⟨_, _, _, hs, rfl, (HL2.out.later (belDrewF _)).widen (by have := hz.out; omega) (Nat.le_refl _) (Nat.le_refl _)⟩, rfl, BZZ.drew⟩
    rw [← hZ] at HFIN HFIND
    clear HL2 hZ g9 BZZ Z
    obtain ⟨r0, r1, r2, r3, r4, r5, r6, r7, f0, f1, f2, f3, f4, f5, f6, f7⟩ := XT.eightL
    have HS8 : Box (set8L wT w.heap.size (.slice b1 E.sec.length d1) (.slice b2 E.cache.length d2) (.int .i64 L1.segs) (.slice a3 L1.used.length c3) (.int .i64 L1.ng) (.int .i64 L1.ns) (.int .i64 cs) (.int .i64 L1.nv)) gF #[.slice b1 E.sec.length d1, .slice b2 E.cache.length d2, .int .i64 L1.segs, .slice a3 L1.used.length c3, .int .i64 L1.ng, .int .i64 L1.ns, .int .i64 cs, .int .i64 L1.nv] 28 := ((grown_set8L wT w.heap.size (.slice b1 E.sec.length d1) (.slice b2 E.cache.length d2) (.int .i64 L1.segs) (.slice a3 L1.used.length c3) (.int .i64 L1.ng) (.int .i64 L1.ns) (.int .i64 cs) (.int .i64 L1.nv)).block gF hHeld.lt (fun e => HGF.out (Option.some.inj e))).trans hHeld
    unfold set8L at u0 u1 u2 u3 u4 u5 u6 u7 HFIN HFIND HS8
    refine wpAnyH_ready (rs := [4]) (by kernel_rfl) (by simp) ?_
    refine readyOne rfl (fun K' hK => ?_)
    go_simp
    clear r0 r1 r2 r3 r4 r5 r6 r7 f0 f1 f2 f3 f4 f5 f6 f7
    refine hK.out _ _ HS8 (fun hS2 => ?_)
    clear hK K' hHeld
    have hHeld := hS2
    clear hS2
    try simp only [Act.put, List.setIfInBounds_toArray, List.set_cons_zero, List.set_cons_succ]
    refine takeL (i := 5) (v := .bool true) rfl (by kernel_rfl) (by kernel_rfl) (by kernel_rfl) (fun _ _ _ h => h) (Or.inl ⟨by rfl, ?_⟩) (by assumption) ?_
    · intro x hSx; go_simp
    try simp only [Act.put, List.setIfInBounds_toArray, List.set_cons_zero, List.set_cons_succ]
    refine wpAnyH_done (by kernel_rfl) ?_ _
    clear RX BXX XT bT HS8 kT kT'
    go_wp2
    refine bodyPost_ret (v := .tuple #[.agg #[.slice b1 E.sec.length d1, .slice b2 E.cache.length d2, .int .i64 L1.segs, .slice a3 L1.used.length c3, .int .i64 L1.ng, .int .i64 L1.ns, .int .i64 cs, .int .i64 L1.nv], .bool true]) (by simp [results, Tryz.results10, go_sem, u0, u1, u2, u3, u4, u5, u6, u7]) rfl ?_
    first | exact HFIN.out | exact HFIND.out

end Go.Proofs.YtgcnebepklelpaaGreatDoor

/- A new store: StoreNew of both. -/
namespace Go.Proofs.YtgcnebepklelpaaGreatDoor
open Go.RowKit

def SnR (O : Option Lg) (w : World) (e : Ending) (w' : World) : Prop := ∃ (v : Value) (f : Bool), e = .returned (.tuple #[v, .bool f]) ∧ SoO w.heap.size w'.heap.size w' v ⟨O.getD lg0, []⟩ ∧ f = O.isSome ∧ Below w.heap.size w w'
theorem soO_of {B T W : Nat} {w : World} {va vb vu : Value} {L : Lg} (h : LgO B T w (.agg #[va, vb, .int .i64 L.segs, vu, .int .i64 L.ng, .int .i64 L.ns, .int .i64 L.st, .int .i64 L.nv]) L) (hB : W ≤ B) (hT : T ≤ w.heap.size) (hBT : B ≤ w.heap.size) :
    SoO W w.heap.size w (.agg #[va, vb, .int .i64 L.segs, vu, .int .i64 L.ng, .int .i64 L.ns, .int .i64 L.st, .int .i64 L.nv, .slice none 0 0]) ⟨L, []⟩ :=
  SoO.mk2 (S := ⟨L, []⟩) h (nilOwn (B := w.heap.size) (T := w.heap.size) (Nat.le_refl _) (Nat.le_refl _)) ⟨hB, hT, by omega, Nat.le_refl _, Nat.le_refl _, .inl hT⟩

set_option maxRecDepth 100000 in
set_option maxHeartbeats 4000000 in
theorem specStoreNew_any (a : Int) (w : World) (ha : -9223372036854775808 ≤ a ∧ a ≤ 9223372036854775807) :
    Calls Tryz.prog 4 #[.int .i64 a] w fun e w' => SnR (fmO a) w e w' := by
  have b0 := belNew w (.cells #[.slice none 0 0, .slice none 0 0, .int .i64 0, .slice none 0 0, .int .i64 0, .int .i64 0, .int .i64 0, .int .i64 0, .slice none 0 0] 31)
  have x0 := Box.new w #[.slice none 0 0, .slice none 0 0, .int .i64 0, .slice none 0 0, .int .i64 0, .int .i64 0, .int .i64 0, .int .i64 0, .slice none 0 0] 31
  have HF := Lib.hid (specFormatDisk_any a (w.alloc (.cells #[.slice none 0 0, .slice none 0 0, .int .i64 0, .slice none 0 0, .int .i64 0, .int .i64 0, .int .i64 0, .int .i64 0, .slice none 0 0] 31)) ha)
  have hlt : w.heap.size < (w.alloc (.cells #[.slice none 0 0, .slice none 0 0, .int .i64 0, .slice none 0 0, .int .i64 0, .int .i64 0, .int .i64 0, .int .i64 0, .slice none 0 0] 31)).heap.size := by simp
  obtain ⟨O, hO⟩ : ∃ O, fmO a = O := ⟨_, rfl⟩
  rw [hO] at HF ⊢
  clear hO
  obtain ⟨L, hL⟩ : ∃ L, O.getD lg0 = L := ⟨_, rfl⟩
  have HL := Lib.hid hL
  unfold FmR at HF
  rw [hL] at HF
  clear hL
  go_enter Tryz.func4, Tryz.ntmps4
  go_wp2_with fail
  generalize w.alloc (.cells #[.slice none 0 0, .slice none 0 0, .int .i64 0, .slice none 0 0, .int .i64 0, .int .i64 0, .int .i64 0, .int .i64 0, .slice none 0 0] 31) = W at b0 x0 HF hlt ⊢
  have HLT := Lib.hid hlt
  clear hlt
  refine HF.out.mono ?_
  rintro e w1 ⟨v1, f1, rfl, o1, hf1, k1⟩
  have HF1 := Lib.hid hf1
  clear hf1
  obtain ⟨a1, a2, a3, p1, p2, p3, rfl⟩ := o1.form
  cases f1 with
  | true =>
    have k2 := belNew w1 (.cells #[.slice a1 L.d.sec.length p1, .slice a2 L.d.cache.length p2, .int .i64 L.segs, .slice a3 L.used.length p3, .int .i64 L.ng, .int .i64 L.ns, .int .i64 L.st, .int .i64 L.nv] 28)
    have x2 := (x0.later k1).later k2
    obtain ⟨⟨d0, d1, d2, d3, d4, d5, d6, d7, d8⟩, f0, f1', f2, f3, f4, f5, f6, f7, f8⟩ := x2.nineL
    have y2 := x2.set9S (.slice a1 L.d.sec.length p1) (.slice a2 L.d.cache.length p2) (.int .i64 L.segs) (.slice a3 L.used.length p3) (.int .i64 L.ng) (.int .i64 L.ns) (.int .i64 L.st) (.int .i64 L.nv) (.slice none 0 0)
    obtain ⟨⟨z0, z1, z2, z3, z4, z5, z6, z7, z8⟩, _⟩ := y2.nineL
    have g2 := grown_set9S (w1.alloc (.cells #[.slice a1 L.d.sec.length p1, .slice a2 L.d.cache.length p2, .int .i64 L.segs, .slice a3 L.used.length p3, .int .i64 L.ng, .int .i64 L.ns, .int .i64 L.st, .int .i64 L.nv] 28)) w.heap.size (.slice a1 L.d.sec.length p1) (.slice a2 L.d.cache.length p2) (.int .i64 L.segs) (.slice a3 L.used.length p3) (.int .i64 L.ng) (.int .i64 L.ns) (.int .i64 L.st) (.int .i64 L.nv) (.slice none 0 0)
    have k12 := k1.trans (k2.mono k1.size)
    have b2 := b0.trans (k12.mono b0.size)
    have b3 := below_set9S b2 (b := w.heap.size) (Nat.le_refl _) (.slice a1 L.d.sec.length p1) (.slice a2 L.d.cache.length p2) (.int .i64 L.segs) (.slice a3 L.used.length p3) (.int .i64 L.ng) (.int .i64 L.ns) (.int .i64 L.st) (.int .i64 L.nv) (.slice none 0 0)
    have o2 := (o1.later k2).kept (Kept.of_grown (B := w.heap.size) (T := w.heap.size + 1) g2 (fun k hk => by have := Option.some.inj hk; omega)) (.inr (by have := HLT.out; omega))
    have HE : Hid (SoO w.heap.size (set9S (w1.alloc (.cells #[.slice a1 L.d.sec.length p1, .slice a2 L.d.cache.length p2, .int .i64 L.segs, .slice a3 L.used.length p3, .int .i64 L.ng, .int .i64 L.ns, .int .i64 L.st, .int .i64 L.nv] 28)) w.heap.size (.slice a1 L.d.sec.length p1) (.slice a2 L.d.cache.length p2) (.int .i64 L.segs) (.slice a3 L.used.length p3) (.int .i64 L.ng) (.int .i64 L.ns) (.int .i64 L.st) (.int .i64 L.nv) (.slice none 0 0)).heap.size (set9S (w1.alloc (.cells #[.slice a1 L.d.sec.length p1, .slice a2 L.d.cache.length p2, .int .i64 L.segs, .slice a3 L.used.length p3, .int .i64 L.ng, .int .i64 L.ns, .int .i64 L.st, .int .i64 L.nv] 28)) w.heap.size (.slice a1 L.d.sec.length p1) (.slice a2 L.d.cache.length p2) (.int .i64 L.segs) (.slice a3 L.used.length p3) (.int .i64 L.ng) (.int .i64 L.ns) (.int .i64 L.st) (.int .i64 L.nv) (.slice none 0 0)) (.agg #[.slice a1 L.d.sec.length p1, .slice a2 L.d.cache.length p2, .int .i64 L.segs, .slice a3 L.used.length p3, .int .i64 L.ng, .int .i64 L.ns, .int .i64 L.st, .int .i64 L.nv, .slice none 0 0]) ⟨L, []⟩) := soO_of o2 (by have := HLT.out; omega) (Nat.le_trans k2.size g2.size) (Nat.le_trans k12.size g2.size)
    have HB3 := Lib.hid b3
    unfold set9S set8L at z0 z1 z2 z3 z4 z5 z6 z7 z8 HE HB3
    clear x2 y2 g2 k12 b2 b3 o2 k2 x0 o1 b0 k1
    go_wp2
    refine bodyPost_ret (v := .tuple #[.agg #[.slice a1 L.d.sec.length p1, .slice a2 L.d.cache.length p2, .int .i64 L.segs, .slice a3 L.used.length p3, .int .i64 L.ng, .int .i64 L.ns, .int .i64 L.st, .int .i64 L.nv, .slice none 0 0], .bool true]) (by simp [results, Tryz.results4, go_sem, z0, z1, z2, z3, z4, z5, z6, z7, z8]) rfl ⟨_, _, rfl, ?_, HF1.out, HB3.out⟩
    rw [HL.out]
    exact HE.out
  | false =>
    have k2 := belNew w1 (.cells #[.slice a1 L.d.sec.length p1, .slice a2 L.d.cache.length p2, .int .i64 L.segs, .slice a3 L.used.length p3, .int .i64 L.ng, .int .i64 L.ns, .int .i64 L.st, .int .i64 L.nv] 28)
    have hO : O = none := by have := HF1.out; cases O with
      | none => rfl
      | some _ => cases this
    have x2 := (x0.later k1).later k2
    obtain ⟨⟨d0, d1, d2, d3, d4, d5, d6, d7, d8⟩, f0, f1', f2, f3, f4, f5, f6, f7, f8⟩ := x2.nineL
    have y2 := x2.set9S (.slice none 0 0) (.slice none 0 0) (.int .i64 0) (.slice none 0 0) (.int .i64 0) (.int .i64 0) (.int .i64 0) (.int .i64 0) (.slice none 0 0)
    obtain ⟨⟨z0, z1, z2, z3, z4, z5, z6, z7, z8⟩, _⟩ := y2.nineL
    have k12 := k1.trans (k2.mono k1.size)
    have b2 := b0.trans (k12.mono b0.size)
    have b3 := below_set9S b2 (b := w.heap.size) (Nat.le_refl _) (.slice none 0 0) (.slice none 0 0) (.int .i64 0) (.slice none 0 0) (.int .i64 0) (.int .i64 0) (.int .i64 0) (.int .i64 0) (.slice none 0 0)
    have HB3 := Lib.hid b3
    have HO := Lib.hid hO
    unfold set9S set8L at z0 z1 z2 z3 z4 z5 z6 z7 z8 HB3
    clear x2 y2 k12 b2 b3 k2 x0 o1 b0 k1 hO
    go_wp2
    refine bodyPost_ret (v := .tuple #[.agg #[.slice none 0 0, .slice none 0 0, .int .i64 0, .slice none 0 0, .int .i64 0, .int .i64 0, .int .i64 0, .int .i64 0, .slice none 0 0], .bool false]) (by simp [results, Tryz.results4, go_sem, z0, z1, z2, z3, z4, z5, z6, z7, z8]) rfl ⟨_, _, rfl, ?_, HF1.out, HB3.out⟩
    rw [HO.out]
    exact soO_of (L := lg0) ⟨_, _, _, [], rfl, lgP_nil (Nat.le_refl _)⟩ HB3.out.size (Nat.le_refl _) (Nat.le_refl _)

set_option maxRecDepth 100000 in
set_option maxHeartbeats 4000000 in
theorem implStoreNew_any (a : Int) (w : World) (ha : -9223372036854775808 ≤ a ∧ a ≤ 9223372036854775807) (htab : SumTab w) (her : ErrTab w) :
    Calls Tryz.prog 5 #[.int .i64 a] w fun e w' => SnR (fmO a) w e w' := by
  have b0 := belNew w (.cells #[.slice none 0 0, .slice none 0 0, .int .i64 0, .slice none 0 0, .int .i64 0, .int .i64 0, .int .i64 0, .int .i64 0, .slice none 0 0] 31)
  have x0 := Box.new w #[.slice none 0 0, .slice none 0 0, .int .i64 0, .slice none 0 0, .int .i64 0, .int .i64 0, .int .i64 0, .int .i64 0, .slice none 0 0] 31
  have HF := Lib.hid (implFormatDisk_any a (w.alloc (.cells #[.slice none 0 0, .slice none 0 0, .int .i64 0, .slice none 0 0, .int .i64 0, .int .i64 0, .int .i64 0, .int .i64 0, .slice none 0 0] 31)) ha (htab.later b0) ((b0.cell (p := ⟨0, 0, none⟩) (World.block_lt_of_cell? _ _ her)).trans her))
  have hlt : w.heap.size < (w.alloc (.cells #[.slice none 0 0, .slice none 0 0, .int .i64 0, .slice none 0 0, .int .i64 0, .int .i64 0, .int .i64 0, .int .i64 0, .slice none 0 0] 31)).heap.size := by simp
  obtain ⟨O, hO⟩ : ∃ O, fmO a = O := ⟨_, rfl⟩
  rw [hO] at HF ⊢
  clear hO htab her
  obtain ⟨L, hL⟩ : ∃ L, O.getD lg0 = L := ⟨_, rfl⟩
  have HL := Lib.hid hL
  unfold FmR at HF
  rw [hL] at HF
  clear hL
  go_enter Tryz.func5, Tryz.ntmps5
  go_wp2_with fail
  generalize w.alloc (.cells #[.slice none 0 0, .slice none 0 0, .int .i64 0, .slice none 0 0, .int .i64 0, .int .i64 0, .int .i64 0, .int .i64 0, .slice none 0 0] 31) = W at b0 x0 HF hlt ⊢
  have HLT := Lib.hid hlt
  clear hlt
  refine HF.out.mono ?_
  rintro e w1 ⟨v1, f1, rfl, o1, hf1, k1⟩
  have HF1 := Lib.hid hf1
  clear hf1
  obtain ⟨a1, a2, a3, p1, p2, p3, rfl⟩ := o1.form
  have k2 := belNew w1 (.cells #[.slice a1 L.d.sec.length p1, .slice a2 L.d.cache.length p2, .int .i64 L.segs, .slice a3 L.used.length p3, .int .i64 L.ng, .int .i64 L.ns, .int .i64 L.st, .int .i64 L.nv] 28)
  have x2 := (x0.later k1).later k2
  obtain ⟨⟨d0, d1, d2, d3, d4, d5, d6, d7, d8⟩, f0, f1', f2, f3, f4, f5, f6, f7, f8⟩ := x2.nineL
  have y2 := x2.set9S (.slice a1 L.d.sec.length p1) (.slice a2 L.d.cache.length p2) (.int .i64 L.segs) (.slice a3 L.used.length p3) (.int .i64 L.ng) (.int .i64 L.ns) (.int .i64 L.st) (.int .i64 L.nv) (.slice none 0 0)
  obtain ⟨⟨z0, z1, z2, z3, z4, z5, z6, z7, z8⟩, _⟩ := y2.nineL
  have g2 := grown_set9S (w1.alloc (.cells #[.slice a1 L.d.sec.length p1, .slice a2 L.d.cache.length p2, .int .i64 L.segs, .slice a3 L.used.length p3, .int .i64 L.ng, .int .i64 L.ns, .int .i64 L.st, .int .i64 L.nv] 28)) w.heap.size (.slice a1 L.d.sec.length p1) (.slice a2 L.d.cache.length p2) (.int .i64 L.segs) (.slice a3 L.used.length p3) (.int .i64 L.ng) (.int .i64 L.ns) (.int .i64 L.st) (.int .i64 L.nv) (.slice none 0 0)
  have k12 := k1.trans (k2.mono k1.size)
  have b2 := b0.trans (k12.mono b0.size)
  have b3 := below_set9S b2 (b := w.heap.size) (Nat.le_refl _) (.slice a1 L.d.sec.length p1) (.slice a2 L.d.cache.length p2) (.int .i64 L.segs) (.slice a3 L.used.length p3) (.int .i64 L.ng) (.int .i64 L.ns) (.int .i64 L.st) (.int .i64 L.nv) (.slice none 0 0)
  have o2 := (o1.later k2).kept (Kept.of_grown (B := w.heap.size) (T := w.heap.size + 1) g2 (fun k hk => by have := Option.some.inj hk; omega)) (.inr (by have := HLT.out; omega))
  have HE : Hid (SoO w.heap.size (set9S (w1.alloc (.cells #[.slice a1 L.d.sec.length p1, .slice a2 L.d.cache.length p2, .int .i64 L.segs, .slice a3 L.used.length p3, .int .i64 L.ng, .int .i64 L.ns, .int .i64 L.st, .int .i64 L.nv] 28)) w.heap.size (.slice a1 L.d.sec.length p1) (.slice a2 L.d.cache.length p2) (.int .i64 L.segs) (.slice a3 L.used.length p3) (.int .i64 L.ng) (.int .i64 L.ns) (.int .i64 L.st) (.int .i64 L.nv) (.slice none 0 0)).heap.size (set9S (w1.alloc (.cells #[.slice a1 L.d.sec.length p1, .slice a2 L.d.cache.length p2, .int .i64 L.segs, .slice a3 L.used.length p3, .int .i64 L.ng, .int .i64 L.ns, .int .i64 L.st, .int .i64 L.nv] 28)) w.heap.size (.slice a1 L.d.sec.length p1) (.slice a2 L.d.cache.length p2) (.int .i64 L.segs) (.slice a3 L.used.length p3) (.int .i64 L.ng) (.int .i64 L.ns) (.int .i64 L.st) (.int .i64 L.nv) (.slice none 0 0)) (.agg #[.slice a1 L.d.sec.length p1, .slice a2 L.d.cache.length p2, .int .i64 L.segs, .slice a3 L.used.length p3, .int .i64 L.ng, .int .i64 L.ns, .int .i64 L.st, .int .i64 L.nv, .slice none 0 0]) ⟨L, []⟩) := soO_of o2 (by have := HLT.out; omega) (Nat.le_trans k2.size g2.size) (Nat.le_trans k12.size g2.size)
  have HB3 := Lib.hid b3
  unfold set9S set8L at z0 z1 z2 z3 z4 z5 z6 z7 z8 HE HB3
  clear x2 y2 g2 k12 b2 b3 o2 k2 x0 o1 b0 k1
  go_wp2
  refine bodyPost_ret (v := .tuple #[.agg #[.slice a1 L.d.sec.length p1, .slice a2 L.d.cache.length p2, .int .i64 L.segs, .slice a3 L.used.length p3, .int .i64 L.ng, .int .i64 L.ns, .int .i64 L.st, .int .i64 L.nv, .slice none 0 0], .bool f1]) (by simp [results, Tryz.results5, go_sem, z0, z1, z2, z3, z4, z5, z6, z7, z8]) rfl ⟨_, _, rfl, ?_, HF1.out, HB3.out⟩
  rw [HL.out]
  exact HE.out

end Go.Proofs.YtgcnebepklelpaaGreatDoor

/- The helpers of the exact laws over logs. -/
namespace Go.Proofs.YtgcnebepklelpaaGreatDoor
open Go.RowKit

set_option maxRecDepth 100000 in
set_option maxHeartbeats 1000000 in
theorem eqLog_same (L : Lg) (v1 v2 : Value) (w : World) (h1 : LRd w v1 L) (h2 : LRd w v2 L) (hs : L.d.small) (hl : L.used.length ≤ 1099511627776) (hm : ∀ b ∈ L.used, b.items.length ≤ 1099511627776) :
    Calls Tryz.prog 11 #[v1, v2] w fun e w' => e = .returned (.bool true) ∧ Below w.heap.size w w' := by
  obtain ⟨va, vb, vu, rfl, ha, hb⟩ := h1
  obtain ⟨vc, vd, vx, rfl, hc, hd⟩ := h2
  have b0 : Below w.heap.size w ((w.alloc (.cells #[va, vb, .int .i64 L.segs, vu, .int .i64 L.ng, .int .i64 L.ns, .int .i64 L.st, .int .i64 L.nv] 28)).alloc (.cells #[vc, vd, .int .i64 L.segs, vx, .int .i64 L.ng, .int .i64 L.ns, .int .i64 L.st, .int .i64 L.nv] 28)) := ((Below.refl _ _).alloc (Nat.le_refl _) _).alloc (by simp) _
  have q0 := Box.new w #[va, vb, .int .i64 L.segs, vu, .int .i64 L.ng, .int .i64 L.ns, .int .i64 L.st, .int .i64 L.nv] 28
  have q1 := Box.new (w.alloc (.cells #[va, vb, .int .i64 L.segs, vu, .int .i64 L.ng, .int .i64 L.ns, .int .i64 L.st, .int .i64 L.nv] 28)) #[vc, vd, .int .i64 L.segs, vx, .int .i64 L.ng, .int .i64 L.ns, .int .i64 L.st, .int .i64 L.nv] 28
  rw [show (w.alloc (.cells #[va, vb, .int .i64 L.segs, vu, .int .i64 L.ng, .int .i64 L.ns, .int .i64 L.st, .int .i64 L.nv] 28)).heap.size = w.heap.size + 1 by simp] at q1
  replace q0 := q0.later (belNew _ (.cells #[vc, vd, .int .i64 L.segs, vx, .int .i64 L.ng, .int .i64 L.ns, .int .i64 L.st, .int .i64 L.nv] 28))
  have HB : Hid (∀ x, Below ((w.alloc (.cells #[va, vb, .int .i64 L.segs, vu, .int .i64 L.ng, .int .i64 L.ns, .int .i64 L.st, .int .i64 L.nv] 28)).alloc (.cells #[vc, vd, .int .i64 L.segs, vx, .int .i64 L.ng, .int .i64 L.ns, .int .i64 L.st, .int .i64 L.nv] 28)).heap.size ((w.alloc (.cells #[va, vb, .int .i64 L.segs, vu, .int .i64 L.ng, .int .i64 L.ns, .int .i64 L.st, .int .i64 L.nv] 28)).alloc (.cells #[vc, vd, .int .i64 L.segs, vx, .int .i64 L.ng, .int .i64 L.ns, .int .i64 L.st, .int .i64 L.nv] 28)) x →
      Below w.heap.size w x ∧ GRd x vu L.used ∧ GRd x vx L.used ∧ Box x w.heap.size #[va, vb, .int .i64 L.segs, vu, .int .i64 L.ng, .int .i64 L.ns, .int .i64 L.st, .int .i64 L.nv] 28 ∧ Box x (w.heap.size + 1) #[vc, vd, .int .i64 L.segs, vx, .int .i64 L.ng, .int .i64 L.ns, .int .i64 L.st, .int .i64 L.nv] 28) := by
    intro x h
    have h' : Below w.heap.size w x := b0.trans (h.mono b0.size)
    exact ⟨h', hb.later h', hd.later h', q0.later h, q1.later h⟩
  have HD := Lib.hid (eqDisk_same L.d _ _ _ (ha.later b0) (hc.later b0) hs)
  have HG := Lib.hid (fun x p q => eqSegS_same L.used vu vx x p q hl hm)
  clear hb hd ha hc q0 q1 b0 hm
  go_enter Tryz.func11, Tryz.ntmps11
  go_wp2_with fail
  refine HD.out.mono ?_
  rintro e w1 ⟨rfl, k1⟩
  obtain ⟨b1, r1, r2, x0, x1⟩ := HB.out w1 k1
  obtain ⟨c0, c1, c2, c3, c4, c5, c6, c7, _⟩ := x0.eightL
  obtain ⟨d0, d1, d2, d3, d4, d5, d6, d7, _⟩ := x1.eightL
  clear x0 x1
  go_wp2_with fail
  refine (HG.out _ r1 r2).mono ?_
  rintro e w2 ⟨rfl, k2⟩
  obtain ⟨b2, _, _, x0, x1⟩ := HB.out w2 (k1.trans (k2.mono k1.size))
  clear c0 c1 c2 c3 c4 c5 c6 c7 d0 d1 d2 d3 d4 d5 d6 d7 r1 r2
  obtain ⟨c0, c1, c2, c3, c4, c5, c6, c7, _⟩ := x0.eightL
  obtain ⟨d0, d1, d2, d3, d4, d5, d6, d7, _⟩ := x1.eightL
  clear x0 x1
  go_wp2
  go_ret
  exact ⟨rfl, b2⟩


set_option maxRecDepth 100000 in
set_option maxHeartbeats 1000000 in
theorem markDisk_fine (d : Dk) (va vb : Value) (k B T : Nat) (w : World) (h1 : LOwn strE B T w va d.sec) (h2 : LOwn wrE B T w vb d.cache) (h3 : va.ownBlock = none ∨ va.ownBlock ≠ vb.ownBlock) (hk : 1 ≤ k) (hk2 : k + d.count ≤ 1099511627776) :
    Calls Tryz.prog 30 #[.agg #[va, vb], .int .i64 (k : Int)] w fun e w' => e = .returned (.int .i64 ((k + d.count : Nat) : Int)) ∧ LOwn strE B T w' va (marksD k d).sec ∧ LOwn wrE B T w' vb (marksD k d).cache ∧ Kept B T w w' ∧ ∀ q, q < w.heap.size → va.ownBlock ≠ some q → vb.ownBlock ≠ some q → w'.heap[q]? = w.heap[q]? := by
  unfold Dk.count at hk2
  have b0 : Below w.heap.size w (w.alloc (.cells #[va, vb] 25)) := (Below.refl _ _).alloc (Nat.le_refl _) _
  have k0 := Kept.of_below b0 B T
  have h1' := h1.later b0
  have hin : ∀ j, va.ownBlock = some j → B ≤ j ∧ j < T := fun j hj => ⟨(h1.1.own.lt j hj).1, h1.2.2 j hj⟩
  have hin2 : ∀ j, vb.ownBlock = some j → B ≤ j ∧ j < T := fun j hj => ⟨(h2.1.own.lt j hj).1, h2.2.2 j hj⟩
  have hT : T ≤ w.heap.size := h1.2.1
  have HB : Hid (∀ w', (w.alloc (.cells #[va, vb] 25)).grownBy w' va.ownBlock → SBuf B (w.alloc (.cells #[va, vb] 25)) w' va (marksOf k d.sec.length) →
      w'.cell? ⟨w.heap.size, 1, none⟩ = some vb ∧ LOwn wrE B T w' vb d.cache ∧ Kept B T w w') := by
    intro w' hg hb
    refine ⟨?_, (h2.later b0).grown hg ?_, k0.trans (Kept.of_grown hg hin)⟩
    · have : (w.alloc (.cells #[va, vb] 25)).cell? ⟨w.heap.size, 1, none⟩ = some vb := by
        rw [cell_of_row _ _ _ #[va, vb] _ (0, 0) (heap_alloc_new w _)]; rfl
      exact hg.cell this (fun e => by have := hin w.heap.size e.symm; omega)
    · rcases h3 with h3 | h3
      · cases hvb : vb.ownBlock with
        | none => exact .inl rfl
        | some j => exact .inr (by rw [h3]; simp)
      · exact .inr (Ne.symm h3)
  clear h2 k0
  go_enter Tryz.func30, Tryz.ntmps30
  go_wp2_with fail
  refine (markStringS_row d.sec va k B _ _ h1'.1.toS hk (by omega)).mono ?_
  rintro e w1 ⟨rfl, hs1, hg1⟩
  obtain ⟨c1, r1, k1⟩ := HB.out w1 hg1 hs1
  go_wp2_with fail
  refine (markWriteS_any d.cache vb (k + d.sec.length) B _ _ r1.1 (by omega) (by omega)).mono ?_
  rintro e w2 ⟨rfl, hs2, hg2⟩
  go_wp2
  go_ret
  have k2 := Kept.of_grown hg2 hin2
  refine ⟨congrArg (fun z : Int => Ending.returned (.int .i64 z)) (show (k : Int) + (d.sec.length : Int) + 2 * (d.cache.length : Int) = ((k + d.count : Nat) : Int) by unfold Dk.count; omega), ?_, ?_, k1.trans k2, fun q hq hqa hqb => ?_⟩
  · have l1 : LOwn strE B T w1 va (marksOf k d.sec.length) := ⟨hs1.toR.here, Nat.le_trans hT k1.size, fun j hj => (hin j hj).2⟩
    exact l1.grown hg2 h3
  · exact ⟨hs2.here, Nat.le_trans hT (k1.trans k2).size, fun j hj => (hin2 j hj).2⟩
  · have e1 := hg1.block q (Nat.lt_of_lt_of_le hq b0.size) (fun e => hqa e.symm)
    have e2 := hg2.block q (Nat.lt_of_lt_of_le hq (Nat.le_trans b0.size hg1.size)) (fun e => hqb e.symm)
    exact e2.trans (e1.trans (b0.block q hq))

set_option maxRecDepth 100000 in
set_option maxHeartbeats 2000000 in
theorem markLog_any (L : Lg) (v : Value) (k B T : Nat) (w : World) (h : LgO B T w v L) (hk : 1 ≤ k) (hk2 : L.kL k ≤ 1099511627776) (hl : L.used.length ≤ 1099511627776) :
    Calls Tryz.prog 13 #[v, .int .i64 (k : Int)] w fun e w' => e = .returned (.int .i64 (L.kL k : Int)) ∧ LgO B T w' v (marksLg k L) ∧ Kept B T w w' := by
  obtain ⟨va, vb, vu, hs, rfl, P⟩ := h
  have hT : T ≤ w.heap.size := P.use.le
  have hk3 : k + L.d.count ≤ 1099511627776 := Nat.le_trans (kF_le _ _) hk2
  have b0 := belNew w (.cells #[va, vb, .int .i64 L.segs, vu, .int .i64 L.ng, .int .i64 L.ns, .int .i64 L.st, .int .i64 L.nv] 28)
  have q0 := Box.new w #[va, vb, .int .i64 L.segs, vu, .int .i64 L.ng, .int .i64 L.ns, .int .i64 L.st, .int .i64 L.nv] 28
  have P1 := P.later b0
  have k0 := Kept.of_below b0 B T
  clear P
  have HMD := Lib.hid (markDisk_fine L.d va vb k B T _ P1.sec P1.cac P1.two hk hk3)
  have HP := Lib.hid P1
  have HK0 := Lib.hid k0
  have HMS := Lib.hid (fun x hx => markSegS_any L.used vu (k + L.d.count) B hs x hx (by omega) hk2 hl)
  have hcl : Hid (w.heap.size < (w.alloc (.cells #[va, vb, .int .i64 L.segs, vu, .int .i64 L.ng, .int .i64 L.ns, .int .i64 L.st, .int .i64 L.nv] 28)).heap.size) := by show _ < _; simp
  obtain ⟨K1, hK1⟩ : ∃ K1, k + L.d.count = K1 := ⟨_, rfl⟩
  have HK1 := Lib.hid hK1
  rw [hK1] at HMD HMS
  obtain ⟨K2, hK2⟩ : ∃ K2, L.kL k = K2 := ⟨_, rfl⟩
  have HK2 : Hid (kF K1 L.used = K2) := by show _ = _; rw [← hK1, ← hK2]; rfl
  rw [hK2]
  rw [HK2.out] at HMS
  clear P1 k0 b0 hK1 hK2 hk2 hk3
  go_enter Tryz.func13, Tryz.ntmps13
  go_wp2_with fail
  generalize w.alloc (.cells #[va, vb, .int .i64 L.segs, vu, .int .i64 L.ng, .int .i64 L.ns, .int .i64 L.st, .int .i64 L.nv] 28) = W at HMD HP HK0 q0 hcl ⊢
  refine HMD.out.mono ?_
  rintro e w1 ⟨rfl, s1, c1, k1, f1⟩
  have q1 : Box w1 w.heap.size #[va, vb, .int .i64 L.segs, vu, .int .i64 L.ng, .int .i64 L.ns, .int .i64 L.st, .int .i64 L.nv] 28 := q0.keptG k1 (by omega)
  have u1 : SgO B w1 vu L.used hs := HP.out.use.own.stay k1.size (fun q hq => f1 q (HP.out.use.own.where'.1 q hq).2 (fun e => (HP.out.far q (.inl e)).1 hq) (fun e => (HP.out.far q (.inr e)).1 hq)) (fun j x hj q hq => f1 q (HP.out.use.own.where'.2 j x hj q hq).2 (fun e => (HP.out.far q (.inl e)).2 j x hj hq) (fun e => (HP.out.far q (.inr e)).2 j x hj hq))
  have c3 := q1.cell 3 _ rfl
  have HS1 := Lib.hid s1
  have HC1 := Lib.hid c1
  have HKK1 := Lib.hid k1
  clear s1 c1 k1 f1 q0 q1 HMD
  go_wp2_with fail
  clear c3
  refine (HMS.out _ u1).mono ?_
  rintro e w2 ⟨rfl, ⟨hs', u2, mv2⟩, b2, f2⟩
  have HU2 := Lib.hid u2
  have HMV := Lib.hid mv2
  have HF2 := Lib.hid f2
  have HB2 := Lib.hid b2
  clear u1 u2 mv2 f2 b2 HMS
  go_wp2
  go_ret
  have hrow : ∀ q, vu.ownBlock = some q → q < T := HP.out.use.row
  have hits : ∀ (j : Nat) (x : SgH), hs[j]? = some x → ∀ q, x.mv.ownBlock = some q → q < T := HP.out.use.its
  have hz1 : W.heap.size ≤ w1.heap.size := HKK1.out.size
  have hz2 : w1.heap.size ≤ w2.heap.size := HB2.out.size
  have hTW : T ≤ W.heap.size := HP.out.use.le
  refine ⟨rfl, ⟨va, vb, vu, hs', rfl, ⟨?_, ?_, HP.out.two, ⟨?_, by omega, hrow, fun j y hj q hq => ?_⟩, fun q hq => ⟨(HP.out.far q hq).1, fun j y hj e => ?_⟩⟩⟩, HK0.out.trans (HKK1.out.trans ⟨HB2.out.os, HB2.out.tape, HB2.out.output, hz2, fun q hq ho => HF2.out q hq (fun e => ?_) (fun j x hj e => ?_)⟩)⟩
  · refine ⟨HS1.out.1.stayG hz2 (fun q hq => HF2.out q (HS1.out.1.own.lt q hq).2 (HP.out.far q (.inl hq)).1 (HP.out.far q (.inl hq)).2), by omega, HS1.out.2.2⟩
  · refine ⟨HC1.out.1.stayG hz2 (fun q hq => HF2.out q (HC1.out.1.own.lt q hq).2 (HP.out.far q (.inr hq)).1 (HP.out.far q (.inr hq)).2), by omega, HC1.out.2.2⟩
  · show SgO B w2 vu (marksG (k + L.d.count) L.used) hs'
    rw [HK1.out]
    exact HU2.out
  · obtain ⟨x, hx, ex⟩ := HMV.out j y hj
    rw [ex] at hq
    exact hits j x hx q hq
  · obtain ⟨x, hx, ex⟩ := HMV.out j y hj
    rw [ex] at e
    exact (HP.out.far q hq).2 j x hx e
  · have h1 := hrow q e
    have h2 := (HP.out.use.own.where'.1 q e).1
    omega
  · have h1 := hits j x hj q e
    have h2 := (HP.out.use.own.where'.2 j x hj q e).1
    omega

set_option maxRecDepth 100000 in
set_option maxHeartbeats 2000000 in
theorem heldLog_any (L : Lg) (v : Value) (k : Nat) (w : World) (h : LRd w v (marksLg k L)) (hk : 1 ≤ k) (hk2 : L.kL k ≤ 1099511627776) (hl : L.used.length ≤ 1099511627776) :
    Calls Tryz.prog 15 #[v, .int .i64 (k : Int)] w fun e w' => e = .returned (.int .i64 (L.kL k : Int)) ∧ Below w.heap.size w w' := by
  obtain ⟨va, vb, vu, rfl, ha, hb⟩ := h
  change Calls Tryz.prog 15 #[.agg #[va, vb, .int .i64 L.segs, vu, .int .i64 L.ng, .int .i64 L.ns, .int .i64 L.st, .int .i64 L.nv], .int .i64 (k : Int)] w _
  replace ha : DRd w (.agg #[va, vb]) (marksD k L.d) := ha
  replace hb : GRd w vu (marksG (k + L.d.count) L.used) := hb
  have hk3 : k + L.d.count ≤ 1099511627776 := Nat.le_trans (kF_le _ _) hk2
  have b0 := belNew w (.cells #[va, vb, .int .i64 L.segs, vu, .int .i64 L.ng, .int .i64 L.ns, .int .i64 L.st, .int .i64 L.nv] 28)
  have q0 := Box.new w #[va, vb, .int .i64 L.segs, vu, .int .i64 L.ng, .int .i64 L.ns, .int .i64 L.st, .int .i64 L.nv] 28
  have HD := Lib.hid (heldDisk_any L.d _ k _ (ha.later b0) hk hk3)
  have HB : Hid (∀ x, Below (w.alloc (.cells #[va, vb, .int .i64 L.segs, vu, .int .i64 L.ng, .int .i64 L.ns, .int .i64 L.st, .int .i64 L.nv] 28)).heap.size (w.alloc (.cells #[va, vb, .int .i64 L.segs, vu, .int .i64 L.ng, .int .i64 L.ns, .int .i64 L.st, .int .i64 L.nv] 28)) x → Below w.heap.size w x ∧ GRd x vu (marksG (k + L.d.count) L.used) ∧ Box x w.heap.size #[va, vb, .int .i64 L.segs, vu, .int .i64 L.ng, .int .i64 L.ns, .int .i64 L.st, .int .i64 L.nv] 28) := by
    intro x h
    have h' : Below w.heap.size w x := b0.trans (h.mono b0.size)
    exact ⟨h', hb.later h', q0.later h⟩
  have HG := Lib.hid (fun x hx => heldSegS_any L.used vu (k + L.d.count) x hx (by omega) hk2 hl)
  obtain ⟨K1, hK1⟩ : ∃ K1, k + L.d.count = K1 := ⟨_, rfl⟩
  rw [hK1] at HD HG HB
  obtain ⟨K2, hK2⟩ : ∃ K2, L.kL k = K2 := ⟨_, rfl⟩
  have HK2 : Hid (kF K1 L.used = K2) := by show _ = _; rw [← hK1, ← hK2]; rfl
  rw [hK2]
  rw [HK2.out] at HG
  have hp1 : ¬ ((K1 : Int) < 0) := by omega
  have hp2 : ¬ ((K2 : Int) < 0) := by omega
  clear ha hb q0 b0 hK1 hK2 hk2 hk3
  go_enter Tryz.func15, Tryz.ntmps15
  go_wp2_with fail
  refine HD.out.mono ?_
  rintro e w1 ⟨rfl, k1⟩
  obtain ⟨b1, g1, x1⟩ := HB.out w1 k1
  have c3 := x1.cell 3 _ rfl
  clear x1
  go_wp2_with fail
  clear c3
  refine (HG.out _ g1).mono ?_
  rintro e w2 ⟨rfl, k2⟩
  obtain ⟨b2, _, _⟩ := HB.out w2 (k1.trans (k2.mono k1.size))
  go_wp2
  go_ret
  exact ⟨rfl, b2⟩


end Go.Proofs.YtgcnebepklelpaaGreatDoor
