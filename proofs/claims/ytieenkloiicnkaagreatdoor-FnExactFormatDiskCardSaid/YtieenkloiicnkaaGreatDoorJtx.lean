/- Texts of our own, joined. -/
import Derived.Test.YtieenkloiicnkaaGreatDoorJsx
/- A new disk and its log: FormatDisk of the program. -/
namespace Go.Proofs.YtieenkloiicnkaaGreatDoor
open Go.RowKit

theorem opO_st {L L' : Lg} {keep : Int} (ho : opO L keep = some L') : L'.st = L.st := by
  unfold opO at ho
  split at ho
  case isFalse => cases ho
  case isTrue hc =>
    cases hw : sgW L.d (opN L) 0 (hdT L.ng) with
    | none => rw [hw] at ho; cases ho
    | some d => rw [hw] at ho; cases ho; rfl
theorem wcO_fm0 (segs : Int) : wcO (fm0 segs).d (ckOf (fm0 segs)) = none := wcO_bad (ckB_no (fun h => by have h9 : 1 ≤ (ckOf (fm0 segs)).refs.length := h.2.1.1; simp [ckOf, fm0] at h9))
theorem fmO_is {segs : Int} (h : 5 ≤ segs ∧ segs ≤ 11) {L : Lg} (ho : opO (fm0 segs) 0 = some L) : fmO segs = (wcO L.d (ckOf L)).map (fun E => ⟨E, L.segs, L.used, L.ng, L.ns, (ckOf L).st, L.nv⟩) := by
  have hst : (ckOf L).st = 1 := by
    show IntKind.i64.wrap (L.st + 1) = 1
    rw [opO_st ho]
    rfl
  cases hw : wcO L.d (ckOf L) with
  | none => rw [fmO_none ho hw]; rfl
  | some E => rw [fmO_some h ho hw, hst]; rfl

set_option maxRecDepth 100000 in
set_option maxHeartbeats 8000000 in
theorem implFormatDisk_any (segs : Int) (w : World) (hsg : -9223372036854775808 ≤ segs ∧ segs ≤ 9223372036854775807) (ht : SumTab w) (he : ErrTab w) :
    Calls Tryz.prog 23 #[.int .i64 segs] w fun e w' => FmR (fmO segs) w e w' := by
  obtain ⟨O, hO⟩ : ∃ O, fmO segs = O := ⟨_, rfl⟩
  have HO := Lib.hid hO
  rw [hO]
  clear hO
  have HT : Hid (∀ x, Below w.heap.size w x → SumTab x ∧ ErrTab x) := fun x hx => ⟨ht.later hx, (hx.cell (p := ⟨0, 0, none⟩) (World.block_lt_of_cell? _ _ he)).trans he⟩
  have X0 := Box.new w #[.slice none 0 0, .slice none 0 0, .int .i64 0, .slice none 0 0, .int .i64 0, .int .i64 0, .int .i64 0, .int .i64 0] 55
  have b0 := belNew w (.cells #[.slice none 0 0, .slice none 0 0, .int .i64 0, .slice none 0 0, .int .i64 0, .int .i64 0, .int .i64 0, .int .i64 0] 55)
  have z0 : (w.alloc (.cells #[.slice none 0 0, .slice none 0 0, .int .i64 0, .slice none 0 0, .int .i64 0, .int .i64 0, .int .i64 0, .int .i64 0] 55)).heap.size = w.heap.size + 1 := by simp
  clear ht he
  by_cases hin : 5 ≤ segs ∧ segs ≤ 11
  case neg =>
    have HN : Hid (O = none) := HO.out.symm.trans (fmO_out hin)
    have XR := X0
    have bR := b0
    clear X0 b0 z0
    by_cases h5 : segs < 5
    · go_enter Tryz.func23, Tryz.ntmps23
      go_upto_region 2 with fail
      generalize w.alloc (.cells #[.slice none 0 0, .slice none 0 0, .int .i64 0, .slice none 0 0, .int .i64 0, .int .i64 0, .int .i64 0, .int .i64 0] 55) = W at XR bR ⊢
      obtain ⟨r0, r1, r2, r3, r4, r5, r6, r7, f0, f1, f2, f3, f4, f5, f6, f7⟩ := XR.eightL
      have RX := XR.set8L (.slice none 0 0) (.slice none 0 0) (.int .i64 0) (.slice none 0 0) (.int .i64 0) (.int .i64 0) (.int .i64 0) (.int .i64 0)
      have BXX := below_set8L bR (Nat.le_refl _) (.slice none 0 0) (.slice none 0 0) (.int .i64 0) (.slice none 0 0) (.int .i64 0) (.int .i64 0) (.int .i64 0) (.int .i64 0)
      obtain ⟨u0, u1, u2, u3, u4, u5, u6, u7⟩ := RX.eightO
      have HFIN : Hid (FmR O w (.returned (.tuple #[.agg #[.slice none 0 0, .slice none 0 0, .int .i64 0, .slice none 0 0, .int .i64 0, .int .i64 0, .int .i64 0, .int .i64 0], .bool false])) (set8L W w.heap.size (.slice none 0 0) (.slice none 0 0) (.int .i64 0) (.slice none 0 0) (.int .i64 0) (.int .i64 0) (.int .i64 0) (.int .i64 0))) := by
        rw [HN.out]
        exact ⟨_, _, rfl, ⟨_, _, _, _, rfl, lgP_nil BXX.size⟩, rfl, BXX⟩
      unfold set8L at u0 u1 u2 u3 u4 u5 u6 u7 HFIN
      clear RX BXX XR bR
      go_wp2
      refine bodyPost_ret (v := .tuple #[.agg #[.slice none 0 0, .slice none 0 0, .int .i64 0, .slice none 0 0, .int .i64 0, .int .i64 0, .int .i64 0, .int .i64 0], .bool false]) (by simp [results, Tryz.results23, go_sem, u0, u1, u2, u3, u4, u5, u6, u7]) rfl ?_
      exact HFIN.out
    · have h11 : 11 < segs := by omega
      go_enter Tryz.func23, Tryz.ntmps23
      go_upto_region 2 with fail
      generalize w.alloc (.cells #[.slice none 0 0, .slice none 0 0, .int .i64 0, .slice none 0 0, .int .i64 0, .int .i64 0, .int .i64 0, .int .i64 0] 55) = W at XR bR ⊢
      obtain ⟨r0, r1, r2, r3, r4, r5, r6, r7, f0, f1, f2, f3, f4, f5, f6, f7⟩ := XR.eightL
      have RX := XR.set8L (.slice none 0 0) (.slice none 0 0) (.int .i64 0) (.slice none 0 0) (.int .i64 0) (.int .i64 0) (.int .i64 0) (.int .i64 0)
      have BXX := below_set8L bR (Nat.le_refl _) (.slice none 0 0) (.slice none 0 0) (.int .i64 0) (.slice none 0 0) (.int .i64 0) (.int .i64 0) (.int .i64 0) (.int .i64 0)
      obtain ⟨u0, u1, u2, u3, u4, u5, u6, u7⟩ := RX.eightO
      have HFIN : Hid (FmR O w (.returned (.tuple #[.agg #[.slice none 0 0, .slice none 0 0, .int .i64 0, .slice none 0 0, .int .i64 0, .int .i64 0, .int .i64 0, .int .i64 0], .bool false])) (set8L W w.heap.size (.slice none 0 0) (.slice none 0 0) (.int .i64 0) (.slice none 0 0) (.int .i64 0) (.int .i64 0) (.int .i64 0) (.int .i64 0))) := by
        rw [HN.out]
        exact ⟨_, _, rfl, ⟨_, _, _, _, rfl, lgP_nil BXX.size⟩, rfl, BXX⟩
      unfold set8L at u0 u1 u2 u3 u4 u5 u6 u7 HFIN
      clear RX BXX XR bR
      go_wp2
      refine bodyPost_ret (v := .tuple #[.agg #[.slice none 0 0, .slice none 0 0, .int .i64 0, .slice none 0 0, .int .i64 0, .int .i64 0, .int .i64 0, .int .i64 0], .bool false]) (by simp [results, Tryz.results23, go_sem, u0, u1, u2, u3, u4, u5, u6, u7]) rfl ?_
      exact HFIN.out
  have g5 : ¬ segs < 5 := by omega
  have g11 : ¬ 11 < segs := by omega
  have HIN := Lib.hid hin
  have hw1 : IntKind.i64.wrap (segs - 1) = segs - 1 := IntWalk.i64_in _ ⟨by omega, by omega⟩
  have hsf : sgF (segs - 1) = segs * 8 := by rw [sgF_yes ⟨by omega, by omega⟩]; omega
  have HSF : Hid (∀ x, Calls Tryz.prog 61 #[.int .i64 (segs - 1)] x fun e w' => e = .returned (.int .i64 (segs * 8)) ∧ x = w') := fun x => by
    have h9 := implSegFirst_any (segs - 1) x
    rw [hsf] at h9
    exact h9
  have hw2 : IntKind.i64.wrap (segs * 8 + 8) = segs * 8 + 8 := IntWalk.i64_in _ ⟨by omega, by omega⟩
  have HND : Hid (∀ x, Calls Tryz.prog 60 #[.int .i64 (segs * 8 + 8)] x fun e w' => DiskR (newD (segs * 8 + 8)) true x e w') := fun x => by
    have h9 := implDiskNew_any (segs * 8 + 8) x
    rw [decide_eq_true (show 1 ≤ segs * 8 + 8 ∧ segs * 8 + 8 ≤ 100 by omega)] at h9
    exact h9
  have HOPH := Lib.hid (fm0_ok hin)
  have HFM : Hid (fm0 segs = ⟨newD (segs * 8 + 8), segs, [], 1, 1, 0, 1⟩) := by show _ = _; unfold fm0; rw [show (8 : Int) + 8 * segs = segs * 8 + 8 by omega]
  clear hsf
  go_enter Tryz.func23, Tryz.ntmps23
  go_upto_region 3 with fail
  generalize w.alloc (.cells #[.slice none 0 0, .slice none 0 0, .int .i64 0, .slice none 0 0, .int .i64 0, .int .i64 0, .int .i64 0, .int .i64 0] 55) = w0 at X0 b0 z0 ⊢
  go_wp2_with fail
  refine (HSF.out _).mono ?_
  rintro e wq ⟨rfl, rfl⟩
  go_wp2_with fail
  refine (HND.out _).mono ?_
  rintro e w1 ⟨v1, rfl, o1, k1⟩
  obtain ⟨p1, p2, q1, q2, rfl⟩ := o1.form
  clear HND HSF hw1 hw2 g5 g11
  generalize hd0 : newD (segs * 8 + 8) = d at o1 HFM ⊢
  clear hd0
  have k2 := belNew w1 (.cells #[.slice p1 d.sec.length q1, .slice p2 d.cache.length q2] 33)
  have k3 := belNew (w1.alloc (.cells #[.slice p1 d.sec.length q1, .slice p2 d.cache.length q2] 33)) (.cells #[.slice p1 d.sec.length q1, .slice p2 d.cache.length q2, .int .i64 segs, .slice none 0 0, .int .i64 1, .int .i64 1, .int .i64 0, .int .i64 1] 102)
  have XG := Box.new (w1.alloc (.cells #[.slice p1 d.sec.length q1, .slice p2 d.cache.length q2] 33)) #[.slice p1 d.sec.length q1, .slice p2 d.cache.length q2, .int .i64 segs, .slice none 0 0, .int .i64 1, .int .i64 1, .int .i64 0, .int .i64 1] 102
  have zz : Hid (w0.heap.size ≤ w1.heap.size ∧ (w1.alloc (.cells #[.slice p1 d.sec.length q1, .slice p2 d.cache.length q2] 33)).heap.size = w1.heap.size + 1) := ⟨k1.size, by simp⟩
  have j3 := (k1.trans (k2.mono k1.size)).trans (k3.mono (k1.trans (k2.mono k1.size)).size)
  have o3 := (o1.later k2).later k3
  have X3 := X0.later j3
  have b3 := b0.trans (j3.mono b0.size)
  clear k1 k2 k3 j3 o1 X0 b0
  go_upto_region 5 with fail
  rw [zz.out.2] at XG
  generalize ((w1.alloc (.cells #[.slice p1 d.sec.length q1, .slice p2 d.cache.length q2] 33)).alloc (.cells #[.slice p1 d.sec.length q1, .slice p2 d.cache.length q2, .int .i64 segs, .slice none 0 0, .int .i64 1, .int .i64 1, .int .i64 0, .int .i64 1] 102)) = w3 at XG o3 X3 b3 ⊢
  obtain ⟨pg, hpg⟩ : ∃ pg, w1.heap.size + 1 = pg := ⟨_, rfl⟩
  rw [hpg] at XG ⊢
  have HPG : Hid (w.heap.size < w0.heap.size ∧ w1.heap.size < pg ∧ w0.heap.size ≤ w1.heap.size ∧ pg < w3.heap.size ∧ w0.heap.size ≤ w3.heap.size ∧ w1.heap.size ≤ w3.heap.size) := ⟨by omega, by omega, zz.out.1, XG.lt, by have := XG.lt; have := zz.out.1; omega, by have := XG.lt; omega⟩
  clear hpg zz z0
  have HOP := Lib.hid (openHead_any (fm0 segs) 0 pg w0.heap.size w1.heap.size (.slice p1 d.sec.length q1) (.slice p2 d.cache.length q2) (.slice none 0 0) [] w3 (by rw [HFM.out]; exact XG) (by rw [HFM.out]; exact LgP.mkN o3 rfl HPG.out.2.2.2.2.1 HPG.out.2.2.2.2.2) (by have := HPG.out; omega) (by rw [HFM.out]; simp) HOPH.out (by omega) (HT.out _ b3).1)
  clear XG o3
  go_wp2_with fail
  refine HOP.out.mono ?_
  intro e w4 hop
  clear HOP
  obtain ⟨g4, hcase⟩ := hop
  have XR : Box w4 w.heap.size _ _ := (g4.block w.heap.size X3.lt (by have := HPG.out; omega) (.inl HPG.out.1)).trans X3
  have bR : Below w.heap.size w w4 := ⟨g4.os.trans b3.os, g4.tape.trans b3.tape, g4.output.trans b3.output, Nat.le_trans b3.size g4.size, fun q hq => (g4.block q (Nat.lt_of_lt_of_le hq b3.size) (by have := HPG.out; omega) (.inl (by have := HPG.out; omega))).trans (b3.block q hq)⟩
  obtain ⟨L1, F0, va, vb, vu, hs, T1, rfl, B4, P4, hT1, hokL, hul, hfo⟩ : ∃ (L1 : Lg) (F0 : Bool) (va vb vu : Value) (hs : List SgH) (T1 : Nat), e = .returned (.bool F0) ∧ Box w4 pg (lgC va vb vu L1) 102 ∧ LgP w0.heap.size T1 w4 va vb vu L1 hs ∧ T1 ≤ w4.heap.size ∧ L1.d.ok ∧ L1.used.length ≤ 1 ∧ fmO segs = (wcO L1.d (ckOf L1)).map (fun E => ⟨E, L1.segs, L1.used, L1.ng, L1.ns, (ckOf L1).st, L1.nv⟩) := by
    rcases hcase with ⟨hN, rfl, B4, P4⟩ | ⟨L1, va, vb, vu, hs, hS, rfl, B4, P4⟩
    · exact ⟨fm0 segs, false, _, _, _, [], _, rfl, B4, P4, P4.use.le, HOPH.out.ok, (by show ([] : List Sg).length ≤ 1; simp), (by rw [fmO_no hN, wcO_fm0]; rfl)⟩
    · have his := opO_is HOPH.out hS
      exact ⟨L1, true, va, vb, vu, hs, _, rfl, B4, P4, Nat.le_refl _, his.1, (by have h9 := his.2.1; rw [HFM.out] at h9; simp at h9; omega), fmO_is HIN.out hS⟩
  clear hcase g4 X3 b3 HOPH HFM HIN
  obtain ⟨a1, a2, a3, c1, c2, c3, rfl, rfl, rfl⟩ := P4.form
  unfold lgC at B4
  have HFO : Hid (O = (wcO L1.d (ckOf L1)).map (fun E => ⟨E, L1.segs, L1.used, L1.ng, L1.ns, (ckOf L1).st, L1.nv⟩)) := HO.out.symm.trans hfo
  clear hfo HO
  have HP4 := Lib.hid P4
  have HXR := Lib.hid XR
  have HBR := Lib.hid bR
  have HB4 := Lib.hid B4
  go_wp2_with fail
  refine (closed_any a1 a2 a3 _ _ _ c1 c2 c3 _ _ _ _ _ pg _ HB4.out).mono ?_
  rintro e w5 ⟨rfl, k5⟩
  have HFL := Lib.hid (fixedLog_any L1 a1 a2 a3 c1 c2 c3 _ _ hs w5 (P4.later k5) hokL (by omega) (HT.out _ (bR.trans (k5.mono bR.size))).1)
  clear B4 P4 XR bR
  go_wp2_with fail
  refine HFL.out.mono ?_
  clear HFL
  intro e w6 hfl
  obtain ⟨k6, hcase⟩ := hfl
  have j6 := k5.trans (k6.mono k5.size)
  have hz : Hid (w.heap.size < w4.heap.size ∧ w4.heap.size ≤ w5.heap.size ∧ w5.heap.size ≤ w6.heap.size ∧ w0.heap.size ≤ w4.heap.size ∧ w.heap.size < w0.heap.size) := ⟨HXR.out.lt, k5.size, k6.size, by have := HPG.out; have := HB4.out.lt; omega, HPG.out.1⟩
  rcases hcase with ⟨hN, k, hk, rfl⟩ | ⟨E, b1, b2, d1, d2, hE, rfl, oE⟩
  · have HN : Hid (O = none) := by show _ = _; rw [HFO.out, hN]; rfl
    have k7 := belNew w6 (.cells #[.slice none 0 0, .slice none 0 0, .int .i64 0, .slice none 0 0, .int .i64 0, .int .i64 0, .int .i64 0, .int .i64 0] 55)
    have BF := Box.new w6 #[.slice none 0 0, .slice none 0 0, .int .i64 0, .slice none 0 0, .int .i64 0, .int .i64 0, .int .i64 0, .int .i64 0] 55
    have j7 := j6.trans (k7.mono j6.size)
    have XR := HXR.out.later j7
    have bR := HBR.out.trans (j7.mono HBR.out.size)
    have hk0 : (k == 0) = false := by simpa using hk
    have HKN := Lib.hid hk
    clear k5 k6 k7 j6 j7 hN HP4 HXR HB4 hokL hk
    go_upto_region 7 with fail
    generalize w6.alloc (.cells #[.slice none 0 0, .slice none 0 0, .int .i64 0, .slice none 0 0, .int .i64 0, .int .i64 0, .int .i64 0, .int .i64 0] 55) = w7 at BF XR bR ⊢
    have HGF : Hid (w6.heap.size ≠ w.heap.size) := by have := hz.out; show _ ≠ _; omega
    generalize w6.heap.size = gF at BF HGF ⊢
    have HCODE : Hid (∀ x, Below w.heap.size w x → Calls Tryz.prog 50 #[.iface 134 (.agg #[.int .i64 k])] x fun e w' => e = .returned (.int .i64 k) ∧ Below x.heap.size x w') := fun x hx => codeOf_fault k x (HT.out x hx).2
    have HBF := Lib.hid BF
    have HXR7 := Lib.hid XR
    have HBR7 := Lib.hid bR
    clear XR bR
    refine wp_region_held_drew (S := fun x => Box x gF #[.slice none 0 0, .slice none 0 0, .int .i64 0, .slice none 0 0, .int .i64 0, .int .i64 0, .int .i64 0, .int .i64 0] 55) (by kernel_rfl) BF (fun hHeld => ?_)
    refine takeL (i := 0) (v := .agg #[.slice none 0 0, .slice none 0 0, .int .i64 0, .slice none 0 0, .int .i64 0, .int .i64 0, .int .i64 0, .int .i64 0]) rfl (by kernel_rfl) (by kernel_rfl) (by kernel_rfl) (fun _ _ _ h => h) (Or.inl ⟨by rfl, ?_⟩) (by assumption) ?_
    · intro x hSx; obtain ⟨b0', b1', b2', b3', b4', b5', b6', b7'⟩ := Box.eightO hSx; go_simp
    try simp only [Act.put, List.setIfInBounds_toArray, List.set_cons_zero, List.set_cons_succ]
    refine takeL (i := 1) (v := .iface 134 (.agg #[.int .i64 k])) rfl (by kernel_rfl) (by kernel_rfl) (by kernel_rfl) (fun _ _ _ h => h) (Or.inl ⟨by rfl, ?_⟩) (by assumption) ?_
    · intro x hSx; go_simp
    try simp only [Act.put, List.setIfInBounds_toArray, List.set_cons_zero, List.set_cons_succ]
    refine wpAnyH_ready (rs := [2]) (by kernel_rfl) (by simp) ?_
    refine readyOne rfl (fun K' hK => ?_)
    go_simp
    refine (HCODE.out _ (HBR7.out.drew)).mono ?_
    rintro e wT ⟨rfl, kT⟩
    go_wp2_with fail
    refine hK.out _ _ (hHeld.later kT) (fun hS2 => ?_)
    clear hK K' hHeld
    have hHeld := hS2
    clear hS2
    try simp only [Act.put, List.setIfInBounds_toArray, List.set_cons_zero, List.set_cons_succ]
    refine takeL (i := 3) (v := .bool false) rfl (by kernel_rfl) (by kernel_rfl) (by kernel_rfl) (fun _ _ _ h => h) (Or.inl ⟨by rfl, ?_⟩) (by assumption) ?_
    · intro x hSx; go_simp
    try simp only [Act.put, List.setIfInBounds_toArray, List.set_cons_zero, List.set_cons_succ]
    have kT' := (belDrewF w7).trans kT
    have XT := HXR7.out.later kT'
    have bT := HBR7.out.trans (kT'.mono HBR7.out.size)
    have RX := XT.set8L (.slice none 0 0) (.slice none 0 0) (.int .i64 0) (.slice none 0 0) (.int .i64 0) (.int .i64 0) (.int .i64 0) (.int .i64 0)
    have BXX := below_set8L bT (Nat.le_refl _) (.slice none 0 0) (.slice none 0 0) (.int .i64 0) (.slice none 0 0) (.int .i64 0) (.int .i64 0) (.int .i64 0) (.int .i64 0)
    obtain ⟨u0, u1, u2, u3, u4, u5, u6, u7⟩ := RX.eightO
    have HFIN : Hid (FmR O w (.returned (.tuple #[.agg #[.slice none 0 0, .slice none 0 0, .int .i64 0, .slice none 0 0, .int .i64 0, .int .i64 0, .int .i64 0, .int .i64 0], .bool false])) (set8L wT w.heap.size (.slice none 0 0) (.slice none 0 0) (.int .i64 0) (.slice none 0 0) (.int .i64 0) (.int .i64 0) (.int .i64 0) (.int .i64 0))) := by
      rw [HN.out]
      exact ⟨_, _, rfl, ⟨_, _, _, _, rfl, lgP_nil BXX.size⟩, rfl, BXX⟩
    have HFIND : Hid (FmR O w (.returned (.tuple #[.agg #[.slice none 0 0, .slice none 0 0, .int .i64 0, .slice none 0 0, .int .i64 0, .int .i64 0, .int .i64 0, .int .i64 0], .bool false])) (set8L wT w.heap.size (.slice none 0 0) (.slice none 0 0) (.int .i64 0) (.slice none 0 0) (.int .i64 0) (.int .i64 0) (.int .i64 0) (.int .i64 0)).drew) := by
      rw [HN.out]
      exact ⟨_, _, rfl, ⟨_, _, _, _, rfl, lgP_nil BXX.drew.size⟩, rfl, BXX.drew⟩
    obtain ⟨r0, r1, r2, r3, r4, r5, r6, r7, f0, f1, f2, f3, f4, f5, f6, f7⟩ := XT.eightL
    have HS8 : Box (set8L wT w.heap.size (.slice none 0 0) (.slice none 0 0) (.int .i64 0) (.slice none 0 0) (.int .i64 0) (.int .i64 0) (.int .i64 0) (.int .i64 0)) gF #[.slice none 0 0, .slice none 0 0, .int .i64 0, .slice none 0 0, .int .i64 0, .int .i64 0, .int .i64 0, .int .i64 0] 55 := ((grown_set8L wT w.heap.size (.slice none 0 0) (.slice none 0 0) (.int .i64 0) (.slice none 0 0) (.int .i64 0) (.int .i64 0) (.int .i64 0) (.int .i64 0)).block gF hHeld.lt (fun e => HGF.out (Option.some.inj e))).trans hHeld
    unfold set8L at u0 u1 u2 u3 u4 u5 u6 u7 HFIN HFIND HS8
    refine wpAnyH_ready (rs := [4]) (by kernel_rfl) (by simp) ?_
    refine readyOne rfl (fun K' hK => ?_)
    go_simp
    clear r0 r1 r2 r3 r4 r5 r6 r7 f0 f1 f2 f3 f4 f5 f6 f7
    refine hK.out _ _ HS8 (fun hS2 => ?_)
    clear hK K' hHeld
    have hHeld := hS2
    clear hS2
    try simp only [Act.put, List.setIfInBounds_toArray, List.set_cons_zero, List.set_cons_succ]
    refine takeL (i := 5) (v := .bool false) rfl (by kernel_rfl) (by kernel_rfl) (by kernel_rfl) (fun _ _ _ h => h) (Or.inl ⟨by rfl, ?_⟩) (by assumption) ?_
    · intro x hSx; go_simp
    try simp only [Act.put, List.setIfInBounds_toArray, List.set_cons_zero, List.set_cons_succ]
    refine wpAnyH_done (by kernel_rfl) ?_ _
    clear RX BXX XT bT HS8 kT kT'
    go_wp2
    refine bodyPost_ret (v := .tuple #[.agg #[.slice none 0 0, .slice none 0 0, .int .i64 0, .slice none 0 0, .int .i64 0, .int .i64 0, .int .i64 0, .int .i64 0], .bool false]) (by simp [results, Tryz.results23, go_sem, u0, u1, u2, u3, u4, u5, u6, u7]) rfl ?_
    first | exact HFIN.out | exact HFIND.out
  · have HY : Hid (O = some ⟨E, L1.segs, L1.used, L1.ng, L1.ns, (ckOf L1).st, L1.nv⟩) := by show _ = _; rw [HFO.out, hE]; rfl
    have HOE := Lib.hid oE
    generalize (ckOf L1).st = cs at HY ⊢
    have k7 := belNew w6 (.cells #[.slice b1 E.sec.length d1, .slice b2 E.cache.length d2, .int .i64 L1.segs, .slice a3 L1.used.length c3, .int .i64 L1.ng, .int .i64 L1.ns, .int .i64 cs, .int .i64 L1.nv] 55)
    have BF := Box.new w6 #[.slice b1 E.sec.length d1, .slice b2 E.cache.length d2, .int .i64 L1.segs, .slice a3 L1.used.length c3, .int .i64 L1.ng, .int .i64 L1.ns, .int .i64 cs, .int .i64 L1.nv] 55
    have j7 := j6.trans (k7.mono j6.size)
    have XR := HXR.out.later j7
    have bR := HBR.out.trans (j7.mono HBR.out.size)
    have K7 := Lib.hid k7
    have J7 := Lib.hid j7
    have H7 : Hid (w6.heap.size ≤ (w6.alloc (.cells #[.slice b1 E.sec.length d1, .slice b2 E.cache.length d2, .int .i64 L1.segs, .slice a3 L1.used.length c3, .int .i64 L1.ng, .int .i64 L1.ns, .int .i64 cs, .int .i64 L1.nv] 55)).heap.size) := k7.size
    have HT1 := Lib.hid hT1
    clear k5 k6 k7 j6 j7 hE oE HXR HB4 hokL hT1
    go_upto_region 7 with fail
    generalize w6.alloc (.cells #[.slice b1 E.sec.length d1, .slice b2 E.cache.length d2, .int .i64 L1.segs, .slice a3 L1.used.length c3, .int .i64 L1.ng, .int .i64 L1.ns, .int .i64 cs, .int .i64 L1.nv] 55) = w7 at BF XR bR K7 J7 H7 ⊢
    have HGF : Hid (w6.heap.size ≠ w.heap.size) := by have := hz.out; show _ ≠ _; omega
    generalize hgF : w6.heap.size = gF at BF HGF ⊢
    have HGZ := Lib.hid hgF
    clear hgF
    have HCODE : Hid (∀ x, Below w.heap.size w x → Calls Tryz.prog 50 #[.nilIface] x fun e w' => e = .returned (.int .i64 0) ∧ Below x.heap.size x w') := fun x hx => codeOf_nil x
    have HBF := Lib.hid BF
    have HXR7 := Lib.hid XR
    have HBR7 := Lib.hid bR
    clear XR bR
    refine wp_region_held_drew (S := fun x => Box x gF #[.slice b1 E.sec.length d1, .slice b2 E.cache.length d2, .int .i64 L1.segs, .slice a3 L1.used.length c3, .int .i64 L1.ng, .int .i64 L1.ns, .int .i64 cs, .int .i64 L1.nv] 55) (by kernel_rfl) BF (fun hHeld => ?_)
    refine takeL (i := 0) (v := .agg #[.slice b1 E.sec.length d1, .slice b2 E.cache.length d2, .int .i64 L1.segs, .slice a3 L1.used.length c3, .int .i64 L1.ng, .int .i64 L1.ns, .int .i64 cs, .int .i64 L1.nv]) rfl (by kernel_rfl) (by kernel_rfl) (by kernel_rfl) (fun _ _ _ h => h) (Or.inl ⟨by rfl, ?_⟩) (by assumption) ?_
    · intro x hSx; obtain ⟨b0', b1', b2', b3', b4', b5', b6', b7'⟩ := Box.eightO hSx; go_simp
    try simp only [Act.put, List.setIfInBounds_toArray, List.set_cons_zero, List.set_cons_succ]
    refine takeL (i := 1) (v := .nilIface) rfl (by kernel_rfl) (by kernel_rfl) (by kernel_rfl) (fun _ _ _ h => h) (Or.inl ⟨by rfl, ?_⟩) (by assumption) ?_
    · intro x hSx; go_simp
    try simp only [Act.put, List.setIfInBounds_toArray, List.set_cons_zero, List.set_cons_succ]
    refine wpAnyH_ready (rs := [2]) (by kernel_rfl) (by simp) ?_
    refine readyOne rfl (fun K' hK => ?_)
    go_simp
    refine (HCODE.out _ (HBR7.out.drew)).mono ?_
    rintro e wT ⟨rfl, kT⟩
    go_wp2_with fail
    refine hK.out _ _ (hHeld.later kT) (fun hS2 => ?_)
    clear hK K' hHeld
    have hHeld := hS2
    clear hS2
    try simp only [Act.put, List.setIfInBounds_toArray, List.set_cons_zero, List.set_cons_succ]
    refine takeL (i := 3) (v := .bool true) rfl (by kernel_rfl) (by kernel_rfl) (by kernel_rfl) (fun _ _ _ h => h) (Or.inl ⟨by rfl, ?_⟩) (by assumption) ?_
    · intro x hSx; go_simp
    try simp only [Act.put, List.setIfInBounds_toArray, List.set_cons_zero, List.set_cons_succ]
    have kT' := (belDrewF w7).trans kT
    have XT := HXR7.out.later kT'
    have bT := HBR7.out.trans (kT'.mono HBR7.out.size)
    have RX := XT.set8L (.slice b1 E.sec.length d1) (.slice b2 E.cache.length d2) (.int .i64 L1.segs) (.slice a3 L1.used.length c3) (.int .i64 L1.ng) (.int .i64 L1.ns) (.int .i64 cs) (.int .i64 L1.nv)
    have BXX := below_set8L bT (Nat.le_refl _) (.slice b1 E.sec.length d1) (.slice b2 E.cache.length d2) (.int .i64 L1.segs) (.slice a3 L1.used.length c3) (.int .i64 L1.ng) (.int .i64 L1.ns) (.int .i64 cs) (.int .i64 L1.nv)
    obtain ⟨u0, u1, u2, u3, u4, u5, u6, u7⟩ := RX.eightO
    obtain ⟨Z, hZ⟩ : ∃ Z, set8L wT w.heap.size (.slice b1 E.sec.length d1) (.slice b2 E.cache.length d2) (.int .i64 L1.segs) (.slice a3 L1.used.length c3) (.int .i64 L1.ng) (.int .i64 L1.ns) (.int .i64 cs) (.int .i64 L1.nv) = Z := ⟨_, rfl⟩
    have g9 := grown_set8L wT w.heap.size (.slice b1 E.sec.length d1) (.slice b2 E.cache.length d2) (.int .i64 L1.segs) (.slice a3 L1.used.length c3) (.int .i64 L1.ng) (.int .i64 L1.ns) (.int .i64 cs) (.int .i64 L1.nv)
    have BZZ := BXX
    rw [hZ] at g9 BZZ
    have HL2 : Hid (LgP w0.heap.size Z.heap.size Z (.slice b1 E.sec.length d1) (.slice b2 E.cache.length d2) (.slice a3 L1.used.length c3) ⟨E, L1.segs, L1.used, L1.ng, L1.ns, cs, L1.nv⟩ hs) := by
      have h9 := hz.out
      have zT := kT'.size
      have z7 := H7.out
      have dT := (((HOE.out.later K7.out).later kT')).stayO g9.size (fun q h1 h2 => g9.block q (by omega) (fun e => by have := Option.some.inj e; omega))
      have gT := ((HP4.out.later J7.out).later kT').use.beside g9.size (fun q => q = w.heap.size) (fun q hq hn => g9.block q hq (fun e => hn (Option.some.inj e))) (fun q hq => by subst hq; exact ⟨_, _, XT, by decide, by decide⟩)
      exact LgP.mkU (L := ⟨E, L1.segs, L1.used, L1.ng, L1.ns, cs, L1.nv⟩) dT gT (by omega) (by have := HT1.out; omega)
    have HFIN : Hid (FmR O w (.returned (.tuple #[.agg #[.slice b1 E.sec.length d1, .slice b2 E.cache.length d2, .int .i64 L1.segs, .slice a3 L1.used.length c3, .int .i64 L1.ng, .int .i64 L1.ns, .int .i64 cs, .int .i64 L1.nv], .bool true])) Z) := by
      rw [HY.out]
      exact ⟨_, _, rfl, ⟨_, _, _, hs, rfl, HL2.out.widen (by have := hz.out; omega) (Nat.le_refl _) (Nat.le_refl _)⟩, rfl, BZZ⟩
    have HFIND : Hid (FmR O w (.returned (.tuple #[.agg #[.slice b1 E.sec.length d1, .slice b2 E.cache.length d2, .int .i64 L1.segs, .slice a3 L1.used.length c3, .int .i64 L1.ng, .int .i64 L1.ns, .int .i64 cs, .int .i64 L1.nv], .bool true])) Z.drew) := by
      rw [HY.out]
      exact ⟨_, _, rfl, ⟨_, _, _, hs, rfl, (HL2.out.later (belDrewF _)).widen (by have := hz.out; omega) (Nat.le_refl _) (Nat.le_refl _)⟩, rfl, BZZ.drew⟩
    rw [← hZ] at HFIN HFIND
    clear HL2 hZ g9 BZZ Z
    obtain ⟨r0, r1, r2, r3, r4, r5, r6, r7, f0, f1, f2, f3, f4, f5, f6, f7⟩ := XT.eightL
    have HS8 : Box (set8L wT w.heap.size (.slice b1 E.sec.length d1) (.slice b2 E.cache.length d2) (.int .i64 L1.segs) (.slice a3 L1.used.length c3) (.int .i64 L1.ng) (.int .i64 L1.ns) (.int .i64 cs) (.int .i64 L1.nv)) gF #[.slice b1 E.sec.length d1, .slice b2 E.cache.length d2, .int .i64 L1.segs, .slice a3 L1.used.length c3, .int .i64 L1.ng, .int .i64 L1.ns, .int .i64 cs, .int .i64 L1.nv] 55 := ((grown_set8L wT w.heap.size (.slice b1 E.sec.length d1) (.slice b2 E.cache.length d2) (.int .i64 L1.segs) (.slice a3 L1.used.length c3) (.int .i64 L1.ng) (.int .i64 L1.ns) (.int .i64 cs) (.int .i64 L1.nv)).block gF hHeld.lt (fun e => HGF.out (Option.some.inj e))).trans hHeld
    unfold set8L at u0 u1 u2 u3 u4 u5 u6 u7 HFIN HFIND HS8
    refine wpAnyH_ready (rs := [4]) (by kernel_rfl) (by simp) ?_
    refine readyOne rfl (fun K' hK => ?_)
    go_simp
    clear r0 r1 r2 r3 r4 r5 r6 r7 f0 f1 f2 f3 f4 f5 f6 f7
    refine hK.out _ _ HS8 (fun hS2 => ?_)
    clear hK K' hHeld
    have hHeld := hS2
    clear hS2
    try simp only [Act.put, List.setIfInBounds_toArray, List.set_cons_zero, List.set_cons_succ]
    refine takeL (i := 5) (v := .bool true) rfl (by kernel_rfl) (by kernel_rfl) (by kernel_rfl) (fun _ _ _ h => h) (Or.inl ⟨by rfl, ?_⟩) (by assumption) ?_
    · intro x hSx; go_simp
    try simp only [Act.put, List.setIfInBounds_toArray, List.set_cons_zero, List.set_cons_succ]
    refine wpAnyH_done (by kernel_rfl) ?_ _
    clear RX BXX XT bT HS8 kT kT'
    go_wp2
    refine bodyPost_ret (v := .tuple #[.agg #[.slice b1 E.sec.length d1, .slice b2 E.cache.length d2, .int .i64 L1.segs, .slice a3 L1.used.length c3, .int .i64 L1.ng, .int .i64 L1.ns, .int .i64 cs, .int .i64 L1.nv], .bool true]) (by simp [results, Tryz.results23, go_sem, u0, u1, u2, u3, u4, u5, u6, u7]) rfl ?_
    first | exact HFIN.out | exact HFIND.out

end Go.Proofs.YtieenkloiicnkaaGreatDoor
