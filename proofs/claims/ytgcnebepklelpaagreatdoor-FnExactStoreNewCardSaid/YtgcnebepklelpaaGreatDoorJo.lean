/- Texts of our own, joined. -/
import Derived.Test.YtgcnebepklelpaaGreatDoorJl
import Derived.Test.YtgcnebepklelpaaGreatDoorJm
import Derived.Test.YtgcnebepklelpaaGreatDoorJn
import Derived.Deep.RegionHeld3
import Derived.Test.YtgcnebepklelpaaGreatDoorJk
import Derived.Test.YtgcnebepklelpaaGreatDoorJa
import Derived.Test.YtgcnebepklelpaaGreatDoorJb
import Derived.Test.YtgcnebepklelpaaGreatDoorJc
import Derived.Deep.RegionLaw
/- A new disk and its log: FormatDisk of the model. -/
namespace Go.Proofs.YtgcnebepklelpaaGreatDoor
open Go.RowKit

set_option maxRecDepth 100000 in
set_option maxHeartbeats 8000000 in
theorem specFormatDisk_any (segs : Int) (w : World) (hsg : -9223372036854775808 ≤ segs ∧ segs ≤ 9223372036854775807) :
    Calls Tryz.prog 9 #[.int .i64 segs] w fun e w' => FmR (fmO segs) w e w' := by
  obtain ⟨O, hO⟩ : ∃ O, fmO segs = O := ⟨_, rfl⟩
  have HO := Lib.hid hO
  rw [hO]
  clear hO
  have X0 := Box.new w #[.slice none 0 0, .slice none 0 0, .int .i64 0, .slice none 0 0, .int .i64 0, .int .i64 0, .int .i64 0, .int .i64 0] 28
  have b0 := belNew w (.cells #[.slice none 0 0, .slice none 0 0, .int .i64 0, .slice none 0 0, .int .i64 0, .int .i64 0, .int .i64 0, .int .i64 0] 28)
  have z0 : (w.alloc (.cells #[.slice none 0 0, .slice none 0 0, .int .i64 0, .slice none 0 0, .int .i64 0, .int .i64 0, .int .i64 0, .int .i64 0] 28)).heap.size = w.heap.size + 1 := by simp
  by_cases hin : 5 ≤ segs ∧ segs ≤ 11
  case neg =>
    have HN : Hid (O = none) := HO.out.symm.trans (fmO_out hin)
    have XR := X0
    have bR := b0
    clear X0 b0 z0
    go_enter Tryz.func9, Tryz.ntmps9
    go_upto_region 2 with (first | (go_at_call 17; refine (in_no _ _ _ _ (by omega)).mono ?_; rintro e w5 ⟨rfl, rfl⟩))
    generalize w.alloc (.cells #[.slice none 0 0, .slice none 0 0, .int .i64 0, .slice none 0 0, .int .i64 0, .int .i64 0, .int .i64 0, .int .i64 0] 28) = W at XR bR ⊢
    obtain ⟨r0, r1, r2, r3, r4, r5, r6, r7, f0, f1, f2, f3, f4, f5, f6, f7⟩ := XR.eightL
    have RX := XR.set8L (.slice none 0 0) (.slice none 0 0) (.int .i64 0) (.slice none 0 0) (.int .i64 0) (.int .i64 0) (.int .i64 0) (.int .i64 0)
    have BXX := below_set8L bR (Nat.le_refl _) (.slice none 0 0) (.slice none 0 0) (.int .i64 0) (.slice none 0 0) (.int .i64 0) (.int .i64 0) (.int .i64 0) (.int .i64 0)
    obtain ⟨u0, u1, u2, u3, u4, u5, u6, u7, _⟩ := RX.eightL
    have HFIN : Hid (FmR O w (.returned (.tuple #[.agg #[.slice none 0 0, .slice none 0 0, .int .i64 0, .slice none 0 0, .int .i64 0, .int .i64 0, .int .i64 0, .int .i64 0], .bool false])) (set8L W w.heap.size (.slice none 0 0) (.slice none 0 0) (.int .i64 0) (.slice none 0 0) (.int .i64 0) (.int .i64 0) (.int .i64 0) (.int .i64 0))) := by
      rw [HN.out]
      exact ⟨_, _, rfl, ⟨_, _, _, _, rfl, lgP_nil BXX.size⟩, rfl, BXX⟩
    unfold set8L at u0 u1 u2 u3 u4 u5 u6 u7 HFIN
    clear RX BXX XR bR
    go_wp2
    refine bodyPost_ret (v := .tuple #[.agg #[.slice none 0 0, .slice none 0 0, .int .i64 0, .slice none 0 0, .int .i64 0, .int .i64 0, .int .i64 0, .int .i64 0], .bool false]) (by simp [results, Tryz.results9, go_sem, u0, u1, u2, u3, u4, u5, u6, u7]) rfl ?_
    exact HFIN.out

  have HIN := Lib.hid hin
  have hw1 : IntKind.i64.wrap (segs * 8) = segs * 8 := IntWalk.i64_in _ ⟨by omega, by omega⟩
  have hw2 : IntKind.i64.wrap (8 + segs * 8) = 8 + segs * 8 := IntWalk.i64_in _ ⟨by omega, by omega⟩
  have HND : Hid (∀ x, Calls Tryz.prog 18 #[.int .i64 (8 + segs * 8)] x fun e w' => DiskR (newD (8 + segs * 8)) true x e w') := fun x => by
    have h9 := specDiskNew_any (8 + segs * 8) x
    rw [decide_eq_true (show 1 ≤ 8 + segs * 8 ∧ 8 + segs * 8 ≤ 100 by omega)] at h9
    exact h9
  have HOPH := Lib.hid (fm0_ok hin)
  have HFM : Hid (fm0 segs = ⟨newD (8 + segs * 8), segs, [], 1, 1, 0, 1⟩) := by show _ = _; unfold fm0; rw [show (8 : Int) + 8 * segs = 8 + segs * 8 by omega]
  go_enter Tryz.func9, Tryz.ntmps9
  go_upto_region 3 with (first | (go_at_call 17; refine (in_yes _ _ _ _ (by omega) (by omega)).mono ?_; rintro e w5 ⟨rfl, rfl⟩))
  generalize w.alloc (.cells #[.slice none 0 0, .slice none 0 0, .int .i64 0, .slice none 0 0, .int .i64 0, .int .i64 0, .int .i64 0, .int .i64 0] 28) = w0 at X0 b0 z0 ⊢
  go_wp2_with fail
  refine (HND.out _).mono ?_
  rintro e w1 ⟨v1, rfl, o1, k1⟩
  obtain ⟨p1, p2, q1, q2, rfl⟩ := o1.form
  clear HND hw1 hw2
  generalize hd0 : newD (8 + segs * 8) = d at o1 HFM ⊢
  clear hd0
  have k2 := belNew w1 (.cells #[.slice p1 d.sec.length q1, .slice p2 d.cache.length q2] 25)
  have k3 := belNew (w1.alloc (.cells #[.slice p1 d.sec.length q1, .slice p2 d.cache.length q2] 25)) (.cells #[.slice p1 d.sec.length q1, .slice p2 d.cache.length q2, .int .i64 segs, .slice none 0 0, .int .i64 1, .int .i64 1, .int .i64 0, .int .i64 1] 28)
  have XG := Box.new (w1.alloc (.cells #[.slice p1 d.sec.length q1, .slice p2 d.cache.length q2] 25)) #[.slice p1 d.sec.length q1, .slice p2 d.cache.length q2, .int .i64 segs, .slice none 0 0, .int .i64 1, .int .i64 1, .int .i64 0, .int .i64 1] 28
  have zz : Hid (w0.heap.size ≤ w1.heap.size ∧ (w1.alloc (.cells #[.slice p1 d.sec.length q1, .slice p2 d.cache.length q2] 25)).heap.size = w1.heap.size + 1) := ⟨k1.size, by simp⟩
  have j3 := (k1.trans (k2.mono k1.size)).trans (k3.mono (k1.trans (k2.mono k1.size)).size)
  have o3 := (o1.later k2).later k3
  have X3 := X0.later j3
  have b3 := b0.trans (j3.mono b0.size)
  clear k1 k2 k3 j3 o1 X0 b0
  go_upto_region 5 with fail
  rw [zz.out.2] at XG
  generalize ((w1.alloc (.cells #[.slice p1 d.sec.length q1, .slice p2 d.cache.length q2] 25)).alloc (.cells #[.slice p1 d.sec.length q1, .slice p2 d.cache.length q2, .int .i64 segs, .slice none 0 0, .int .i64 1, .int .i64 1, .int .i64 0, .int .i64 1] 28)) = w3 at XG o3 X3 b3 ⊢
  obtain ⟨pg, hpg⟩ : ∃ pg, w1.heap.size + 1 = pg := ⟨_, rfl⟩
  rw [hpg] at XG ⊢
  have HPG : Hid (w.heap.size < w0.heap.size ∧ w1.heap.size < pg ∧ w0.heap.size ≤ w1.heap.size ∧ pg < w3.heap.size ∧ w0.heap.size ≤ w3.heap.size ∧ w1.heap.size ≤ w3.heap.size) := ⟨by omega, by omega, zz.out.1, XG.lt, by have := XG.lt; have := zz.out.1; omega, by have := XG.lt; omega⟩
  clear hpg zz z0
  have HOP := Lib.hid (l09Open_any (fm0 segs) 0 pg w0.heap.size w1.heap.size (.slice p1 d.sec.length q1) (.slice p2 d.cache.length q2) (.slice none 0 0) [] w3 (by rw [HFM.out]; exact XG) (by rw [HFM.out]; exact LgP.mkN o3 rfl HPG.out.2.2.2.2.1 HPG.out.2.2.2.2.2) (by have := HPG.out; omega) (by rw [HFM.out]; simp) HOPH.out)
  clear XG o3
  go_wp2_with fail
  refine HOP.out.mono ?_
  rintro e w4 ⟨g4, (⟨hN, rfl, _, _⟩ | ⟨L1, va, vb, vu, hs, hS, rfl, B4, P4⟩)⟩
  · have HN : Hid (O = none) := HO.out.symm.trans (fmO_no hN)
    have XR : Box w4 w.heap.size _ _ := (g4.block w.heap.size X3.lt (fun e => by have := Option.some.inj e; have := HPG.out; omega)).trans X3
    have bR : Below w.heap.size w w4 := b3.grown g4 b3.size (fun k hk => by have := Option.some.inj hk; have := HPG.out; omega)
    clear g4 X3 b3 HOP hN
    obtain ⟨r0, r1, r2, r3, r4, r5, r6, r7, f0, f1, f2, f3, f4, f5, f6, f7⟩ := XR.eightL
    have RX := XR.set8L (.slice none 0 0) (.slice none 0 0) (.int .i64 0) (.slice none 0 0) (.int .i64 0) (.int .i64 0) (.int .i64 0) (.int .i64 0)
    have BXX := below_set8L bR (Nat.le_refl _) (.slice none 0 0) (.slice none 0 0) (.int .i64 0) (.slice none 0 0) (.int .i64 0) (.int .i64 0) (.int .i64 0) (.int .i64 0)
    obtain ⟨u0, u1, u2, u3, u4, u5, u6, u7, _⟩ := RX.eightL
    have HFIN : Hid (FmR O w (.returned (.tuple #[.agg #[.slice none 0 0, .slice none 0 0, .int .i64 0, .slice none 0 0, .int .i64 0, .int .i64 0, .int .i64 0, .int .i64 0], .bool false])) (set8L w4 w.heap.size (.slice none 0 0) (.slice none 0 0) (.int .i64 0) (.slice none 0 0) (.int .i64 0) (.int .i64 0) (.int .i64 0) (.int .i64 0))) := by
      rw [HN.out]
      exact ⟨_, _, rfl, ⟨_, _, _, _, rfl, lgP_nil BXX.size⟩, rfl, BXX⟩
    unfold set8L at u0 u1 u2 u3 u4 u5 u6 u7 HFIN
    clear RX BXX XR bR
    go_wp2
    refine bodyPost_ret (v := .tuple #[.agg #[.slice none 0 0, .slice none 0 0, .int .i64 0, .slice none 0 0, .int .i64 0, .int .i64 0, .int .i64 0, .int .i64 0], .bool false]) (by simp [results, Tryz.results9, go_sem, u0, u1, u2, u3, u4, u5, u6, u7]) rfl ?_
    exact HFIN.out

  have XR : Box w4 w.heap.size _ _ := (g4.block w.heap.size X3.lt (fun e => by have := Option.some.inj e; have := HPG.out; omega)).trans X3
  have bR : Below w.heap.size w w4 := b3.grown g4 b3.size (fun k hk => by have := Option.some.inj hk; have := HPG.out; omega)
  obtain ⟨a1, a2, a3, c1, c2, c3, rfl, rfl, rfl⟩ := P4.form
  have HIS := Lib.hid (opO_is HOPH.out hS)
  have hul : L1.used.length ≤ 1 := by have := HIS.out.2.1; rw [HFM.out] at this; simp at this; omega
  have HSM := Lib.hid (Dk.ok_small HIS.out.1)
  have HOY : Hid (∀ E, wcO L1.d (ckOf L1) = some E → O = some ⟨E, L1.segs, L1.used, L1.ng, L1.ns, 1, L1.nv⟩) := fun E hE => HO.out.symm.trans (fmO_some HIN.out hS hE)
  have HOZ : Hid (wcO L1.d (ckOf L1) = none → O = none) := fun hE => HO.out.symm.trans (fmO_none hS hE)
  have hpg4 : Hid (pg < w4.heap.size ∧ w.heap.size < w4.heap.size) := ⟨B4.lt, XR.lt⟩
  unfold lgC at B4
  clear X3 b3 g4 HOP hS HO HIN HOPH HFM
  have HB4 := Lib.hid B4
  have HP4 := Lib.hid P4
  have HXR := Lib.hid XR
  have HBR := Lib.hid bR
  have HSC : Hid (∀ x, Below w4.heap.size w4 x → (x.cell? ⟨pg, 0, none⟩ = some (.slice a1 L1.d.sec.length c1) ∧ x.cell? ⟨pg, 1, none⟩ = some (.slice a2 L1.d.cache.length c2) ∧ x.cell? ⟨pg, 2, none⟩ = some (.int .i64 L1.segs) ∧ x.cell? ⟨pg, 3, none⟩ = some (.slice a3 L1.used.length c3) ∧ x.cell? ⟨pg, 4, none⟩ = some (.int .i64 L1.ng) ∧ x.cell? ⟨pg, 5, none⟩ = some (.int .i64 L1.ns) ∧ x.cell? ⟨pg, 6, none⟩ = some (.int .i64 L1.st) ∧ x.cell? ⟨pg, 7, none⟩ = some (.int .i64 L1.nv))) := fun x hx => by
    obtain ⟨s0, s1, s2, s3, s4, s5, s6, s7⟩ := (HB4.out.later hx).eightO
    exact ⟨s0, s1, s2, s3, s4, s5, s6, s7⟩
  have HS2 : Hid (∀ x, ((x.cell? ⟨pg, 0, none⟩ = some (.slice a1 L1.d.sec.length c1) ∧ x.cell? ⟨pg, 1, none⟩ = some (.slice a2 L1.d.cache.length c2) ∧ x.cell? ⟨pg, 2, none⟩ = some (.int .i64 L1.segs) ∧ x.cell? ⟨pg, 3, none⟩ = some (.slice a3 L1.used.length c3) ∧ x.cell? ⟨pg, 4, none⟩ = some (.int .i64 L1.ng) ∧ x.cell? ⟨pg, 5, none⟩ = some (.int .i64 L1.ns) ∧ x.cell? ⟨pg, 6, none⟩ = some (.int .i64 L1.st) ∧ x.cell? ⟨pg, 7, none⟩ = some (.int .i64 L1.nv)) ∧ Below w4.heap.size w4 x) → LRd x (.agg #[.slice a1 L1.d.sec.length c1, .slice a2 L1.d.cache.length c2, .int .i64 L1.segs, .slice a3 L1.used.length c3, .int .i64 L1.ng, .int .i64 L1.ns, .int .i64 L1.st, .int .i64 L1.nv]) L1 ∧ DOwn w0.heap.size w4.heap.size x (.agg #[.slice a1 L1.d.sec.length c1, .slice a2 L1.d.cache.length c2]) L1.d) := fun x hx => ⟨⟨_, _, _, rfl, (HP4.out.later hx.2).down.rd, (HP4.out.later hx.2).use.own.rd⟩, (HP4.out.later hx.2).down⟩
  have HK0 : Hid ((fun x => (x.cell? ⟨pg, 0, none⟩ = some (.slice a1 L1.d.sec.length c1) ∧ x.cell? ⟨pg, 1, none⟩ = some (.slice a2 L1.d.cache.length c2) ∧ x.cell? ⟨pg, 2, none⟩ = some (.int .i64 L1.segs) ∧ x.cell? ⟨pg, 3, none⟩ = some (.slice a3 L1.used.length c3) ∧ x.cell? ⟨pg, 4, none⟩ = some (.int .i64 L1.ng) ∧ x.cell? ⟨pg, 5, none⟩ = some (.int .i64 L1.ns) ∧ x.cell? ⟨pg, 6, none⟩ = some (.int .i64 L1.st) ∧ x.cell? ⟨pg, 7, none⟩ = some (.int .i64 L1.nv)) ∧ Below w4.heap.size w4 x) w4.drew) := ⟨HSC.out _ (belDrewO _), belDrewO _⟩
  have HK1 : Hid ((fun x => (x.cell? ⟨pg, 0, none⟩ = some (.slice a1 L1.d.sec.length c1) ∧ x.cell? ⟨pg, 1, none⟩ = some (.slice a2 L1.d.cache.length c2) ∧ x.cell? ⟨pg, 2, none⟩ = some (.int .i64 L1.segs) ∧ x.cell? ⟨pg, 3, none⟩ = some (.slice a3 L1.used.length c3) ∧ x.cell? ⟨pg, 4, none⟩ = some (.int .i64 L1.ng) ∧ x.cell? ⟨pg, 5, none⟩ = some (.int .i64 L1.ns) ∧ x.cell? ⟨pg, 6, none⟩ = some (.int .i64 L1.st) ∧ x.cell? ⟨pg, 7, none⟩ = some (.int .i64 L1.nv)) ∧ Below w4.heap.size w4 x) (w4.alloc (.cells #[.slice none 0 0, .slice none 0 0] 25)).drew) := ⟨HSC.out _ ((belAlloc _ _).drew), (belAlloc _ _).drew⟩
  have HB0 : Hid (Box (w4.alloc (.cells #[.slice none 0 0, .slice none 0 0] 25)).drew w4.heap.size #[.slice none 0 0, .slice none 0 0] 25) := Box.new w4 _ _
  have HRL : Hid ((ckOf L1).refs.length ≤ 1048576) := by show (L1.used.map _).length ≤ _; rw [List.length_map]; omega
  have HCK := Lib.hid (fun x v h => specCheckOf_any L1 v x h (by omega))
  have HWC := Lib.hid (fun (x : World) (aQ : Option Addr) (cQ : Nat) (h : DOwn w0.heap.size w4.heap.size x (.agg #[.slice a1 L1.d.sec.length c1, .slice a2 L1.d.cache.length c2]) L1.d) (hr : Rows' rfE x (.slice aQ (ckOf L1).refs.length cQ) (ckOf L1).refs) => specWriteCheck_any L1.d (ckOf L1) _ aQ cQ _ _ x h HSM.out.1 HSM.out.2.1 HSM.out.2.2 hr HRL.out)
  obtain ⟨W1, hW1⟩ : ∃ W1, wcO L1.d (ckOf L1) = W1 := ⟨_, rfl⟩
  rw [hW1] at HWC HOY HOZ
  obtain ⟨E, hE⟩ : ∃ E, W1.getD L1.d = E := ⟨_, rfl⟩
  obtain ⟨F, hF⟩ : ∃ F, W1.isSome = F := ⟨_, rfl⟩
  have HEF : Hid ((F = true → W1 = some E) ∧ (F = false → W1 = none)) := by
    cases W1 with
    | none => exact ⟨(fun e => by rw [← hF] at e; cases e), fun _ => rfl⟩
    | some E' => exact ⟨(fun _ => by rw [← hE]; rfl), (fun e => by rw [← hF] at e; cases e)⟩
  rw [hE, hF] at HWC
  clear hW1 hE hF B4 P4 XR bR
  go_upto_region 7 with fail
  go_cut [7, 8] (fun p f wx => ∃ (g : Nat) (e1 e2 : Option Addr) (e3 e4 : Nat), p = .pointer (some ⟨g, 0, none⟩) ∧ f = .bool F ∧ w4.heap.size ≤ g ∧ Box wx g #[.slice e1 E.sec.length e3, .slice e2 E.cache.length e4] 25 ∧ DOwn w4.heap.size wx.heap.size wx (.agg #[.slice e1 E.sec.length e3, .slice e2 E.cache.length e4]) E ∧ Below w4.heap.size w4 wx)
  case first =>
    clear HB4 HP4 HXR HBR HOY HOZ HEF
    go_region_held3 (fun x => (x.cell? ⟨pg, 0, none⟩ = some (.slice a1 L1.d.sec.length c1) ∧ x.cell? ⟨pg, 1, none⟩ = some (.slice a2 L1.d.cache.length c2) ∧ x.cell? ⟨pg, 2, none⟩ = some (.int .i64 L1.segs) ∧ x.cell? ⟨pg, 3, none⟩ = some (.slice a3 L1.used.length c3) ∧ x.cell? ⟨pg, 4, none⟩ = some (.int .i64 L1.ng) ∧ x.cell? ⟨pg, 5, none⟩ = some (.int .i64 L1.ns) ∧ x.cell? ⟨pg, 6, none⟩ = some (.int .i64 L1.st) ∧ x.cell? ⟨pg, 7, none⟩ = some (.int .i64 L1.nv)) ∧ Below w4.heap.size w4 x)
      (first | exact HK0.out | exact HK1.out | exact keepO HSC.out (by assumption) (belAlloc _ _) | exact hSD.out | exact hSW.out | exact keepO HSC.out hSD.out (belAlloc _ _) | exact keepO HSC.out hSW.out (belAlloc _ _) | exact keepOs HSC.out (Nat.le_refl _) (by assumption) | exact keepOs HSC.out tP.out (by assumption) | exact keepOs HSC.out tW.out (by assumption))
      (first
        | (go_at_call 21; refine (HCK.out _ _ (HS2.out _ (by assumption)).1).mono ?_; rintro e wP ⟨aQ, cQ, rfl, RQ⟩; have kP := RQ.bel; have hSD := Lib.hid (keepO HSC.out (by assumption) kP); have tP := Lib.hid hSD.out.2.size)
        | (go_at_call 20; refine Calls.mono (HWC.out _ aQ cQ (HS2.out _ (by assumption)).2 ?_) ?_; (· first | exact RQ.rows | exact RQ.rows.later (belAlloc _ _)); rintro e wR ⟨vR, rfl, oR, kR⟩; have hSW := Lib.hid (keepO HSC.out (by assumption) kR); have tW := Lib.hid hSW.out.2.size; obtain ⟨e1, e2, e3, e4, rfl⟩ := oR.form; (first | (have bx : Box wR w4.heap.size #[.slice none 0 0, .slice none 0 0] 25 := (HB0.out.later kP).later kR; have x0 := bx.cell 0 _ rfl; have x1 := bx.cell 1 _ rfl; have f0 := bx.loose 0; have f1 := bx.loose 1; have hle := Lib.hid (Nat.le_refl w4.heap.size)) | (have bx : Box wR wP.heap.size #[.slice none 0 0, .slice none 0 0] 25 := (Box.new wP _ _).later kR; have x0 := bx.cell 0 _ rfl; have x1 := bx.cell 1 _ rfl; have f0 := bx.loose 0; have f1 := bx.loose 1; have hle := tP) | skip)))
    all_goals
      go_wp2_with fail
      go_meet
      first
        | exact ⟨_, e1, e2, e3, e4, rfl, rfl, tW.out, Box.new wR _ _, ((oR.later (belAlloc _ _)).base tP.out).top, hSW.out.2.alloc tW.out _⟩
        | exact ⟨_, e1, e2, e3, e4, rfl, rfl, hle.out, (bx.set 0 _).set 1 _, (((oR.base (by first | exact tP.out | exact Nat.le_trans tP.out (by simp))).boxStore bx 0 _).boxStore (bx.set 0 _) 1 _).top, (hSW.out.2.setCell (p := ⟨_, 0, none⟩) hle.out _).setCell (p := ⟨_, 1, none⟩) hle.out _⟩
  case rest =>
  obtain ⟨g8, e1, e2, e3, e4, rfl, rfl, hg8, B8, O8, k5⟩ := hcut
  clear HSC HS2 HK0 HK1 HB0 HCK HWC
  have XR := HXR.out.later k5
  have bR := HBR.out.trans (k5.mono HBR.out.size)
  cases F with
  | false =>
    have HN : Hid (O = none) := HOZ.out (HEF.out.2 rfl)
    clear B8 O8 k5 HB4 HP4 HXR HBR HOY HOZ HEF hg8
    obtain ⟨r0, r1, r2, r3, r4, r5, r6, r7, f0, f1, f2, f3, f4, f5, f6, f7⟩ := XR.eightL
    have RX := XR.set8L (.slice none 0 0) (.slice none 0 0) (.int .i64 0) (.slice none 0 0) (.int .i64 0) (.int .i64 0) (.int .i64 0) (.int .i64 0)
    have BXX := below_set8L bR (Nat.le_refl _) (.slice none 0 0) (.slice none 0 0) (.int .i64 0) (.slice none 0 0) (.int .i64 0) (.int .i64 0) (.int .i64 0) (.int .i64 0)
    obtain ⟨u0, u1, u2, u3, u4, u5, u6, u7, _⟩ := RX.eightL
    have HFIN : Hid (FmR O w (.returned (.tuple #[.agg #[.slice none 0 0, .slice none 0 0, .int .i64 0, .slice none 0 0, .int .i64 0, .int .i64 0, .int .i64 0, .int .i64 0], .bool false])) (set8L wc w.heap.size (.slice none 0 0) (.slice none 0 0) (.int .i64 0) (.slice none 0 0) (.int .i64 0) (.int .i64 0) (.int .i64 0) (.int .i64 0))) := by
      rw [HN.out]
      exact ⟨_, _, rfl, ⟨_, _, _, _, rfl, lgP_nil BXX.size⟩, rfl, BXX⟩
    unfold set8L at u0 u1 u2 u3 u4 u5 u6 u7 HFIN
    clear RX BXX XR bR
    go_wp2
    refine bodyPost_ret (v := .tuple #[.agg #[.slice none 0 0, .slice none 0 0, .int .i64 0, .slice none 0 0, .int .i64 0, .int .i64 0, .int .i64 0, .int .i64 0], .bool false]) (by simp [results, Tryz.results9, go_sem, u0, u1, u2, u3, u4, u5, u6, u7]) rfl ?_
    exact HFIN.out

  | true =>
    have HOO := Lib.hid (HOY.out E (HEF.out.1 rfl))
    have BG := HB4.out.later k5
    obtain ⟨z0, z1⟩ : _ ∧ _ := ⟨B8.cell 0 _ rfl, B8.cell 1 _ rfl⟩
    obtain ⟨x0, x1, f0, f1⟩ : _ ∧ _ ∧ _ ∧ _ := ⟨BG.cell 0 _ rfl, BG.cell 1 _ rfl, BG.loose 0, BG.loose 1⟩
    have BG1 := (BG.set 0 (.slice e1 E.sec.length e3)).set 1 (.slice e2 E.cache.length e4)
    have x6 := BG1.cell 6 _ rfl
    have f6 := BG1.loose 6
    have BG2 := BG1.set 6 (.int .i64 1)
    have G2 : wc.grownBy (((wc.setCell ⟨pg, 0, none⟩ (.slice e1 E.sec.length e3)).setCell ⟨pg, 1, none⟩ (.slice e2 E.cache.length e4)).setCell ⟨pg, 6, none⟩ (.int .i64 1)) (some pg) := grownBy_storeO (grownBy_storeO (stored_grown wc pg 0 _) 1 _) 6 _
    clear B8 HOY HOZ HEF hg8
    go_upto_region 12 with fail
    clear z0 z1 x0 x1 f0 f1 x6 f6
    have hzz : (((wc.setCell ⟨pg, 0, none⟩ (.slice e1 E.sec.length e3)).setCell ⟨pg, 1, none⟩ (.slice e2 E.cache.length e4)).setCell ⟨pg, 6, none⟩ (.int .i64 1)).heap.size = wc.heap.size := by simp
    generalize ((wc.setCell ⟨pg, 0, none⟩ (.slice e1 E.sec.length e3)).setCell ⟨pg, 1, none⟩ (.slice e2 E.cache.length e4)).setCell ⟨pg, 6, none⟩ (.int .i64 1) = w6 at BG2 G2 hzz ⊢
    have HZZ := Lib.hid hzz
    clear hzz BG BG1
    have XR6 : Box w6 w.heap.size _ _ := (G2.block w.heap.size XR.lt (fun e => by have := Option.some.inj e; have := HPG.out; omega)).trans XR
    have bR6 : Below w.heap.size w w6 := bR.grown G2 bR.size (fun k hk => by have := Option.some.inj hk; have := HPG.out; omega)
    obtain ⟨s0, s1, s2, s3, s4, s5, s6, s7⟩ := BG2.eightO
    obtain ⟨r0, r1, r2, r3, r4, r5, r6, r7, f0, f1, f2, f3, f4, f5, f6, f7⟩ := XR6.eightL
    have RX := XR6.set8L (.slice e1 E.sec.length e3) (.slice e2 E.cache.length e4) (.int .i64 L1.segs) (.slice a3 L1.used.length c3) (.int .i64 L1.ng) (.int .i64 L1.ns) (.int .i64 1) (.int .i64 L1.nv)
    have BXX := below_set8L bR6 (Nat.le_refl _) (.slice e1 E.sec.length e3) (.slice e2 E.cache.length e4) (.int .i64 L1.segs) (.slice a3 L1.used.length c3) (.int .i64 L1.ng) (.int .i64 L1.ns) (.int .i64 1) (.int .i64 L1.nv)
    obtain ⟨u0, u1, u2, u3, u4, u5, u6, u7, _⟩ := RX.eightL
    have HFIN : Hid (FmR O w (.returned (.tuple #[.agg #[.slice e1 E.sec.length e3, .slice e2 E.cache.length e4, .int .i64 L1.segs, .slice a3 L1.used.length c3, .int .i64 L1.ng, .int .i64 L1.ns, .int .i64 1, .int .i64 L1.nv], .bool true])) (set8L w6 w.heap.size (.slice e1 E.sec.length e3) (.slice e2 E.cache.length e4) (.int .i64 L1.segs) (.slice a3 L1.used.length c3) (.int .i64 L1.ng) (.int .i64 L1.ns) (.int .i64 1) (.int .i64 L1.nv))) := by
      have G6 := grown_set8L w6 w.heap.size (.slice e1 E.sec.length e3) (.slice e2 E.cache.length e4) (.int .i64 L1.segs) (.slice a3 L1.used.length c3) (.int .i64 L1.ng) (.int .i64 L1.ns) (.int .i64 1) (.int .i64 L1.nv)
      generalize set8L w6 w.heap.size (.slice e1 E.sec.length e3) (.slice e2 E.cache.length e4) (.int .i64 L1.segs) (.slice a3 L1.used.length c3) (.int .i64 L1.ng) (.int .i64 L1.ns) (.int .i64 1) (.int .i64 L1.nv) = Z at BXX G6 ⊢
      have hP := HPG.out
      have hp4 := hpg4.out
      have blk : ∀ q, q < wc.heap.size → ¬ (q = pg ∨ q = w.heap.size) → Z.heap[q]? = wc.heap[q]? := fun q hq hn => (G6.block q (by have := HZZ.out; omega) (fun e => hn (.inr (Option.some.inj e)))).trans (G2.block q hq (fun e => hn (.inl (Option.some.inj e))))
      have hzZ : wc.heap.size ≤ Z.heap.size := by have := G6.size; have := HZZ.out; omega
      have dZ := O8.stayO hzZ (fun q h1 h2 => blk q h2 (by omega))
      have gz := (HP4.out.later k5).use.beside hzZ (fun q => q = pg ∨ q = w.heap.size) (fun q hq hn => blk q hq hn) (fun q hq => by
        rcases hq with rfl | rfl
        · exact ⟨_, _, HB4.out.later k5, by decide, by decide⟩
        · exact ⟨_, _, XR, by decide, by decide⟩)
      rw [HOO.out]
      refine ⟨_, _, rfl, ⟨_, _, _, hs, rfl, ?_⟩, rfl, BXX⟩
      have p9 := LgP.mkU (L := ⟨E, L1.segs, L1.used, L1.ng, L1.ns, 1, L1.nv⟩) dZ gz (by omega) (Nat.le_refl _)
      exact p9.widen (by omega) (Nat.le_refl _) (Nat.le_refl _)
    unfold set8L at u0 u1 u2 u3 u4 u5 u6 u7 HFIN
    clear RX BXX XR6 bR6 G2 XR bR O8 k5 BG2
    go_wp2
    refine bodyPost_ret (v := .tuple #[.agg #[.slice e1 E.sec.length e3, .slice e2 E.cache.length e4, .int .i64 L1.segs, .slice a3 L1.used.length c3, .int .i64 L1.ng, .int .i64 L1.ns, .int .i64 1, .int .i64 L1.nv], .bool true]) (by simp [results, Tryz.results9, go_sem, u0, u1, u2, u3, u4, u5, u6, u7]) rfl ?_
    exact HFIN.out

end Go.Proofs.YtgcnebepklelpaaGreatDoor

/- What is fixed in a segment: (*Disk).fix and (*openLog).writeBehind of the program. -/
namespace Go.Proofs.YtgcnebepklelpaaGreatDoor
open Go.RowKit

def FixR (O : Option Dk) (pg : Nat) (w : World) (e : Ending) (w' : World) : Prop :=
  (O = none ∧ e = .returned (.bool false) ∧ Below w.heap.size w w') ∨
  ∃ (d : Dk) (sa sb : Value) (y : World), O = some d ∧ e = .returned (.bool true) ∧ Below w.heap.size w y ∧ DOwn w.heap.size y.heap.size y (.agg #[sa, sb]) (flD d) ∧ w' = (y.setCell ⟨pg, 0, none⟩ sa).setCell ⟨pg, 1, none⟩ sb

set_option maxRecDepth 100000 in
set_option maxHeartbeats 4000000 in
theorem fix_any (d : Dk) (sa sb : Value) (pg s A : Nat) (t : ByteArray) (B T : Nat) (w : World) (c0 : w.cell? ⟨pg, 0, none⟩ = some sa) (c1 : w.cell? ⟨pg, 1, none⟩ = some sb) (f0 : w.frozen? ⟨pg, 0, none⟩ = false) (f1 : w.frozen? ⟨pg, 1, none⟩ = false)
    (hd : DOwn B T w (.agg #[sa, sb]) d) (hok : d.ok) (hs : s ≤ 10) (hse : 8 + 8 * s < d.sec.length) (hA : A ≤ 256) (htz : t.size ≤ 1000000) :
    Calls Tryz.prog 71 #[.pointer (some ⟨pg, 0, none⟩), .int .i64 (s : Int), .int .i64 (A : Int), .string t] w fun e w' => FixR (sgW d s A t) pg w e w' := by
  obtain ⟨hsm, hts, htu⟩ := Dk.ok_small hok
  have HSW := Lib.hid (implSegWrite_sg d _ s A t B T w hd hsm hts htu (by have := hok.2.2.1; omega) hs hse hA htz)
  have HOK : Hid (∀ D, sgW d s A t = some D → D.ok) := fun D h => by
    unfold sgW at h
    split at h
    case isFalse => cases h
    case isTrue => exact (wbL_ok _ _ (Nat.le_refl _) d D _ _ (by omega) hok h).1
  obtain ⟨aa, ab, ca, cb, hv⟩ := hd.form
  simp only [Value.agg.injEq, Array.mk.injEq, List.cons.injEq, and_true] at hv
  obtain ⟨rfl, rfl⟩ := hv
  have HCL : Hid (∀ x, Below w.heap.size w x → (x.cell? ⟨pg, 0, none⟩ = some (.slice aa d.sec.length ca) ∧ x.cell? ⟨pg, 1, none⟩ = some (.slice ab d.cache.length cb)) ∧ x.frozen? ⟨pg, 0, none⟩ = false ∧ x.frozen? ⟨pg, 1, none⟩ = false) := fun x hx => by
    have hp := World.block_lt_of_cell? _ _ c0
    exact ⟨⟨(hx.cell (p := ⟨pg, 0, none⟩) hp).trans c0, (hx.cell (p := ⟨pg, 1, none⟩) hp).trans c1⟩, (hx.frozen (p := ⟨pg, 0, none⟩) hp).trans f0, (hx.frozen (p := ⟨pg, 1, none⟩) hp).trans f1⟩
  obtain ⟨O, hO⟩ : ∃ O, sgW d s A t = O := ⟨_, rfl⟩
  rw [hO] at HSW HOK ⊢
  clear hO hd hsm hts htu f0 f1 hok hse
  go_enter Tryz.func71, Tryz.ntmps71
  go_wp2_with fail
  clear c0 c1
  refine HSW.out.mono ?_
  clear HSW
  rintro e w1 ⟨v1, rfl, o1, k1⟩
  cases O with
  | none =>
    simp only [Option.getD_none, Option.isSome_none] at o1 ⊢
    obtain ⟨p1, p2, r1, r2, rfl⟩ := o1.form
    have b1 := k1.trans ((belNew w1 (.cells #[.slice p1 d.sec.length r1, .slice p2 d.cache.length r2] 25)).mono k1.size)
    clear o1 k1
    go_wp2
    go_ret
    exact .inl ⟨rfl, rfl, b1⟩
  | some D =>
    simp only [Option.getD_some, Option.isSome_some] at o1 ⊢
    have hDok := HOK.out D rfl
    obtain ⟨hsD, htD, huD⟩ := Dk.ok_small hDok
    obtain ⟨p1, p2, r1, r2, rfl⟩ := o1.form
    have k2 := belNew w1 (.cells #[.slice p1 D.sec.length r1, .slice p2 D.cache.length r2] 25)
    have XB := Box.new w1 #[.slice p1 D.sec.length r1, .slice p2 D.cache.length r2] 25
    have j2 := k1.trans (k2.mono k1.size)
    have HFL := Lib.hid (implFlushDisk_any D _ _ _ _ (o1.later k2) hsD (by have := hDok.2.2.1; omega) htD huD)
    obtain ⟨z0, z1⟩ : _ ∧ _ := ⟨XB.cell 0 _ rfl, XB.cell 1 _ rfl⟩
    clear o1 k1 k2 XB hDok hsD htD huD
    go_upto_region 4 with fail
    generalize w1.alloc (.cells #[.slice p1 D.sec.length r1, .slice p2 D.cache.length r2] 25) = w2 at j2 HFL z0 z1 ⊢
    go_wp2_with fail
    clear z0 z1
    refine HFL.out.mono ?_
    rintro e w3 ⟨v3, rfl, o3, k3⟩
    clear HFL
    have j3 := j2.trans (k3.mono j2.size)
    obtain ⟨⟨x0, x1⟩, g0, g1⟩ := HCL.out _ j3
    have HE : Hid (∀ sa sb, v3 = .agg #[sa, sb] → FixR (some D) pg w (.returned (.bool true)) ((w3.setCell ⟨pg, 0, none⟩ sa).setCell ⟨pg, 1, none⟩ sb)) := fun sa sb h => by
      subst h
      exact .inr ⟨D, sa, sb, w3, rfl, rfl, j3, o3.base j2.size, rfl⟩
    generalize flD D = E at o3
    obtain ⟨q1, q2, s1, s2, rfl⟩ := o3.form
    have HE2 := Lib.hid (HE.out _ _ rfl)
    clear o3 HE HCL
    go_wp2
    go_ret
    exact HE2.out

theorem belDrewF (w : World) : Below w.heap.size w w.drew := (Below.refl _ _).drew
def WbhR (O : Option Dk) (pg ps : Nat) (en : Int) (w : World) (e : Ending) (w' : World) : Prop :=
  (O = none ∧ e = .returned (.bool false) ∧ Below w.heap.size w w') ∨
  ∃ (d : Dk) (sa sb : Value) (y : World), O = some d ∧ e = .returned (.bool true) ∧ Below w.heap.size w y ∧ DOwn w.heap.size y.heap.size y (.agg #[sa, sb]) (flD d) ∧ w' = ((y.setCell ⟨pg, 0, none⟩ sa).setCell ⟨pg, 1, none⟩ sb).setCell ⟨ps, 2, none⟩ (.int .i64 en)

set_option maxRecDepth 100000 in
set_option maxHeartbeats 4000000 in
theorem writeBehind_any (d : Dk) (sa sb : Value) (pg ps N A : Nat) (f : Fr) (B T : Nat) (w : World) (c0 : w.cell? ⟨pg, 0, none⟩ = some sa) (c1 : w.cell? ⟨pg, 1, none⟩ = some sb) (f0 : w.frozen? ⟨pg, 0, none⟩ = false) (f1 : w.frozen? ⟨pg, 1, none⟩ = false)
    (s0 : w.cell? ⟨ps, 0, none⟩ = some (.int .i64 (N : Int))) (s2 : w.cell? ⟨ps, 2, none⟩ = some (.int .i64 (A : Int))) (s3 : w.frozen? ⟨ps, 2, none⟩ = false) (hne : ps ≠ pg)
    (hd : DOwn B T w (.agg #[sa, sb]) d) (hok : d.ok) (hs : N ≤ 10) (hse : 8 + 8 * N < d.sec.length) (hA : A ≤ 256) (hf : f.ok) (ht : SumTab w) :
    Calls Tryz.prog 46 #[.pointer (some ⟨pg, 0, none⟩), .pointer (some ⟨ps, 0, none⟩), f.v] w fun e w' => WbhR (sgW d N A f.tx) pg ps ((A : Int) + (f.tx.size : Int)) w e w' := by
  have hbz : f.body.size ≤ 1099511627776 := by have := hf.2.2.2; omega
  have hpg := World.block_lt_of_cell? _ _ c0
  have hps := World.block_lt_of_cell? _ _ s0
  have b0 := belNew w (.cells #[.int .i64 f.gen, .int .i64 f.seq, .string f.body] 71)
  have HFT := Lib.hid (implFrameText_any f _ hbz (ht.later b0))
  rw [ftT_yes hf] at HFT
  have htz : f.tx.size ≤ 196 := by
    obtain ⟨t, b, h1, h2⟩ := ftT_form f
    rw [ftT_yes hf] at h1
    cases h1
    exact h2
  have HFI := Lib.hid (fun (x : World) (hx : Below w.heap.size w x) => fix_any d sa sb pg N A f.tx B T x ((hx.cell (p := ⟨pg, 0, none⟩) hpg).trans c0) ((hx.cell (p := ⟨pg, 1, none⟩) hpg).trans c1) ((hx.frozen (p := ⟨pg, 0, none⟩) hpg).trans f0) ((hx.frozen (p := ⟨pg, 1, none⟩) hpg).trans f1) (hd.later hx) hok hs hse hA (by omega))
  have HPS : Hid (∀ x, Below w.heap.size w x → (x.cell? ⟨ps, 0, none⟩ = some (.int .i64 (N : Int)) ∧ x.cell? ⟨ps, 2, none⟩ = some (.int .i64 (A : Int))) ∧ x.frozen? ⟨ps, 2, none⟩ = false) := fun x hx => ⟨⟨(hx.cell (p := ⟨ps, 0, none⟩) hps).trans s0, (hx.cell (p := ⟨ps, 2, none⟩) hps).trans s2⟩, (hx.frozen (p := ⟨ps, 2, none⟩) hps).trans s3⟩
  have HPT : Hid (∀ x u v, Below w.heap.size w x → ((x.setCell ⟨pg, 0, none⟩ u).setCell ⟨pg, 1, none⟩ v).cell? ⟨ps, 0, none⟩ = some (.int .i64 (N : Int)) ∧ ((x.setCell ⟨pg, 0, none⟩ u).setCell ⟨pg, 1, none⟩ v).cell? ⟨ps, 2, none⟩ = some (.int .i64 (A : Int))) := fun x u v hx => by
    obtain ⟨⟨a1, a2⟩, _⟩ := HPS.out x hx
    refine ⟨?_, ?_⟩
    · rw [World.cell?_setCell_other _ _ _ _ (by simp <;> omega), World.cell?_setCell_other _ _ _ _ (by simp <;> omega)]; exact a1
    · rw [World.cell?_setCell_other _ _ _ _ (by simp <;> omega), World.cell?_setCell_other _ _ _ _ (by simp <;> omega)]; exact a2
  have HPF : Hid (∀ x u v, Below w.heap.size w x → ((x.setCell ⟨pg, 0, none⟩ u).setCell ⟨pg, 1, none⟩ v).frozen? ⟨ps, 2, none⟩ = false) := fun x u v hx => by
    have g9 : x.grownBy ((x.setCell ⟨pg, 0, none⟩ u).setCell ⟨pg, 1, none⟩ v) (some pg) := grownBy_storeO (stored_grown x pg 0 u) 1 v
    have h9 := g9.block ps (Nat.lt_of_lt_of_le hps hx.size) (fun e => hne (Option.some.inj e))
    exact (World.frozen?_of_block (w := x) (a := ⟨ps, 2, none⟩) h9).trans (HPS.out x hx).2
  have hw1 : IntKind.i64.wrap ((A : Int) + (f.tx.size : Int)) = (A : Int) + (f.tx.size : Int) := IntWalk.i64_in _ ⟨by omega, by omega⟩
  have e0 : f.v = .agg #[.int .i64 f.gen, .int .i64 f.seq, .string f.body] := rfl
  rw [e0]
  rw [e0] at HFT
  generalize f.tx = tx at HFT HFI htz hw1 ⊢
  clear hd ht hbz c0 c1 f0 f1 s0 s2 s3 hok hf hpg hps hse e0
  cases hO : sgW d N A tx with
  | none =>
    have HFX : Hid (∀ x, Below w.heap.size w x → Calls Tryz.prog 71 #[.pointer (some ⟨pg, 0, none⟩), .int .i64 (N : Int), .int .i64 (A : Int), .string tx] x fun e w' => e = .returned (.bool false) ∧ Below x.heap.size x w') := fun x hx => by
      refine (HFI.out x hx).mono ?_
      rw [hO]
      rintro e w' (⟨_, h2⟩ | ⟨D', sa, sb, y, h, h2⟩)
      · exact h2
      · cases h
    clear HFI hO
    go_enter Tryz.func46, Tryz.ntmps46
    go_wp2_with fail
    generalize w.alloc (.cells #[.int .i64 f.gen, .int .i64 f.seq, .string f.body] 71) = W at HFT b0 ⊢
    refine HFT.out.mono ?_
    rintro e w1 ⟨rfl, k1⟩
    have b1 := b0.trans (k1.mono b0.size)
    have HB1 := Lib.hid b1
    have HK0 : Hid (w1.drew.cell? ⟨ps, 0, none⟩ = some (.int .i64 (N : Int)) ∧ w1.drew.cell? ⟨ps, 2, none⟩ = some (.int .i64 (A : Int))) := (HPS.out _ b1).1
    clear b0 k1 HFT b1
    go_upto_region 2 with fail
    go_cut [31] (fun c wx => c = .bool true ∧ Below w1.heap.size w1 wx)
    case first =>
      go_region_held3 (fun x => x.cell? ⟨ps, 0, none⟩ = some (.int .i64 (N : Int)) ∧ x.cell? ⟨ps, 2, none⟩ = some (.int .i64 (A : Int)))
        (first | exact HK0.out | exact HSS.out)
        (first | (go_at_call 71; refine (HFX.out _ (HB1.out.trans ((belDrewF w1).mono HB1.out.size))).mono ?_; rintro e wR ⟨rfl, kR⟩; have kR1 := Lib.hid ((belDrewF w1).trans kR); have HSS := Lib.hid (HPS.out wR (HB1.out.trans (kR1.out.mono HB1.out.size))).1))
      all_goals
        go_wp2_with fail
        go_meet
        exact ⟨rfl, kR1.out⟩
    case rest =>
    obtain ⟨rfl, kR⟩ := hcut
    have HE : Hid (WbhR none pg ps ((A : Int) + (tx.size : Int)) w (.returned (.bool false)) wc) := .inl ⟨rfl, rfl, HB1.out.trans (kR.mono HB1.out.size)⟩
    clear HFX HPS HPT HPF kR HK0 HB1
    go_wp2
    go_ret
    exact HE.out
  | some D =>
    have HFX : Hid (∀ x, Below w.heap.size w x → Calls Tryz.prog 71 #[.pointer (some ⟨pg, 0, none⟩), .int .i64 (N : Int), .int .i64 (A : Int), .string tx] x fun e w' => ∃ (sa sb : Value) (y : World), e = .returned (.bool true) ∧ Below x.heap.size x y ∧ DOwn x.heap.size y.heap.size y (.agg #[sa, sb]) (flD D) ∧ w' = (y.setCell ⟨pg, 0, none⟩ sa).setCell ⟨pg, 1, none⟩ sb) := fun x hx => by
      refine (HFI.out x hx).mono ?_
      rw [hO]
      rintro e w' (⟨h, _⟩ | ⟨D', sa, sb, y, h, h2⟩)
      · cases h
      · cases h; exact ⟨sa, sb, y, h2⟩
    clear HFI hO
    go_enter Tryz.func46, Tryz.ntmps46
    go_wp2_with fail
    generalize w.alloc (.cells #[.int .i64 f.gen, .int .i64 f.seq, .string f.body] 71) = W at HFT b0 ⊢
    refine HFT.out.mono ?_
    rintro e w1 ⟨rfl, k1⟩
    have b1 := b0.trans (k1.mono b0.size)
    have HB1 := Lib.hid b1
    have HK0 : Hid (w1.drew.cell? ⟨ps, 0, none⟩ = some (.int .i64 (N : Int)) ∧ w1.drew.cell? ⟨ps, 2, none⟩ = some (.int .i64 (A : Int))) := (HPS.out _ b1).1
    clear b0 k1 HFT b1
    go_upto_region 2 with fail
    go_cut [31] (fun c wx => c = .bool false ∧ ∃ (sa sb : Value) (y : World), Below w1.heap.size w1 y ∧ DOwn w1.heap.size y.heap.size y (.agg #[sa, sb]) (flD D) ∧ wx = (y.setCell ⟨pg, 0, none⟩ sa).setCell ⟨pg, 1, none⟩ sb)
    case first =>
      go_region_held3 (fun x => x.cell? ⟨ps, 0, none⟩ = some (.int .i64 (N : Int)) ∧ x.cell? ⟨ps, 2, none⟩ = some (.int .i64 (A : Int)))
        (first | exact HK0.out | exact HSS.out)
        (first | (go_at_call 71; refine (HFX.out _ (HB1.out.trans ((belDrewF w1).mono HB1.out.size))).mono ?_; rintro e wR ⟨sa', sb', y, rfl, ky, oy, rfl⟩; have ky1 := Lib.hid ((belDrewF w1).trans ky); have HSS := Lib.hid (HPT.out y sa' sb' (HB1.out.trans (ky1.out.mono HB1.out.size)))))
      all_goals
        go_wp2_with fail
        go_meet
        exact ⟨rfl, sa', sb', y, ky1.out, oy, rfl⟩
    case rest =>
    obtain ⟨rfl, sa', sb', y, ky, oy, rfl⟩ := hcut
    have jy := HB1.out.trans (ky.mono HB1.out.size)
    obtain ⟨c0', c2'⟩ := HPT.out y sa' sb' jy
    have f2' := (HPF.out y sa' sb' jy)
    have HE : Hid (WbhR (some D) pg ps ((A : Int) + (tx.size : Int)) w (.returned (.bool true)) ((((y.setCell ⟨pg, 0, none⟩ sa').setCell ⟨pg, 1, none⟩ sb')).setCell ⟨ps, 2, none⟩ (.int .i64 ((A : Int) + (tx.size : Int))))) := .inr ⟨D, sa', sb', y, rfl, rfl, jy, oy.base HB1.out.size, rfl⟩
    clear HFX HPS HPT HPF ky oy jy HK0 HB1
    go_wp2
    go_ret
    exact HE.out

end Go.Proofs.YtgcnebepklelpaaGreatDoor

/- Segments: their frames: SegFrames, the model's and the program's; the program's list stands behind the first frame, in a row of the call's own. -/
namespace Go.Proofs.YtgcnebepklelpaaGreatDoor
open Go.RowKit

end Go.Proofs.YtgcnebepklelpaaGreatDoor

/- A segment as it is on a disk: its items, and while they are gathered. -/
namespace Go.Proofs.YtgcnebepklelpaaGreatDoor
open Go.RowKit

theorem Box.butG {w X : World} {b : Nat} {cs : Array Value} {t : TypeId} {r : Option Nat} (h : Box w b cs t) (hg : w.grownBy X r) (hne : ∀ k, r = some k → k ≠ b) : Box X b cs t := (hg.block b h.lt (fun e => hne b e.symm rfl)).trans h
theorem Box.fourG {w : World} {b : Nat} {u0 u1 u2 u3 : Value} {t : TypeId} (h : Box w b #[u0, u1, u2, u3] t) : w.cell? ⟨b, 0, none⟩ = some u0 ∧ w.cell? ⟨b, 1, none⟩ = some u1 ∧ w.cell? ⟨b, 2, none⟩ = some u2 ∧ w.cell? ⟨b, 3, none⟩ = some u3 ∧ w.frozen? ⟨b, 0, none⟩ = false ∧ w.frozen? ⟨b, 1, none⟩ = false ∧ w.frozen? ⟨b, 2, none⟩ = false ∧ w.frozen? ⟨b, 3, none⟩ = false :=
  ⟨h.cell 0 _ rfl, h.cell 1 _ rfl, h.cell 2 _ rfl, h.cell 3 _ rfl, h.loose 0, h.loose 1, h.loose 2, h.loose 3⟩
theorem Box.set4G {w : World} {b : Nat} {u0 u1 u2 u3 : Value} {t : TypeId} (h : Box w b #[u0, u1, u2, u3] t) (v0 v1 v2 v3 : Value) : Box ((((w.setCell ⟨b, 0, none⟩ v0).setCell ⟨b, 1, none⟩ v1).setCell ⟨b, 2, none⟩ v2).setCell ⟨b, 3, none⟩ v3) b #[v0, v1, v2, v3] t := (((h.set 0 v0).set 1 v1).set 2 v2).set 3 v3
theorem RBuf.set4G {α : Type} {E : Enc α} {B g : Nat} {w0 x : World} {v : Value} {l : List α} (h : RBuf E B x x v l) (hb : Below w0.heap.size w0 x) (hB : w0.heap.size ≤ B) (hg : g < B) (hw : w0.heap.size ≤ g) (v0 v1 v2 v3 : Value) : RBuf E w0.heap.size w0 ((((x.setCell ⟨g, 0, none⟩ v0).setCell ⟨g, 1, none⟩ v1).setCell ⟨g, 2, none⟩ v2).setCell ⟨g, 3, none⟩ v3) v l := by
  have hne : v.ownBlock = none ∨ v.ownBlock ≠ some g := .inr (fun e => by have := (h.own.lt g e).1; omega)
  have h0 := h.shift (stored_grown _ g 0 v0) hne
  have h1 := h0.shift (stored_grown _ g 1 v1) hne
  have h2 := h1.shift (stored_grown _ g 2 v2) hne
  have h3 := h2.shift (stored_grown _ g 3 v3) hne
  exact h3.down ((((hb.setCell (p := ⟨g, 0, none⟩) hw v0).setCell (p := ⟨g, 1, none⟩) hw v1).setCell (p := ⟨g, 2, none⟩) hw v2).setCell (p := ⟨g, 3, none⟩) hw v3) hB
structure SgL (w1 : World) (B : Nat) (tS : TypeId) (no gn en : Int) (x : World) (a : Option Addr) (cap : Nat) (l : List Itm) : Prop where
  seg : Box x w1.heap.size #[.int .i64 no, .int .i64 gn, .int .i64 en, .slice a l.length cap] tS
  its : RBuf itE B x x (.slice a l.length cap) l
  bel : Below w1.heap.size w1 x
  lt : w1.heap.size < B
theorem SgL.later {w1 : World} {B : Nat} {tS : TypeId} {no gn en : Int} {x y : World} {a : Option Addr} {cap : Nat} {l : List Itm} (h : SgL w1 B tS no gn en x a cap l) (hb : Below x.heap.size x y) : SgL w1 B tS no gn en y a cap l :=
  ⟨h.seg.later hb, (h.its.later hb).here, h.bel.trans (hb.mono h.bel.size), h.lt⟩
theorem SgL.push {w1 : World} {B : Nat} {tS : TypeId} {no gn en : Int} {x y : World} {a : Option Addr} {cap : Nat} {l m : List Itm} (h : SgL w1 B tS no gn en x a cap l)
    (a2 : Option Addr) (c2 : Nat) (hr : RBuf itE B y y (.slice a2 m.length c2) m) (hg : x.grownBy y (Value.slice a l.length cap).ownBlock) : SgL w1 B tS no gn en (y.setCell ⟨w1.heap.size, 3, none⟩ (.slice a2 m.length c2)) a2 c2 m := by
  have hne : ∀ k, (Value.slice a l.length cap).ownBlock = some k → B ≤ k := fun k hk => (h.its.own.lt k hk).1
  have b3 := h.seg.butG hg (fun k hk => by have := hne k hk; have := h.lt; omega)
  refine ⟨b3.set 3 _, hr.shift (stored_grown _ w1.heap.size 3 _) ?_, (h.bel.grown hg h.bel.size (fun k hk => by have := hne k hk; have := h.lt; omega)).setCell (p := ⟨w1.heap.size, 3, none⟩) (Nat.le_refl _) _, h.lt⟩
  cases hb : (Value.slice a2 m.length c2).ownBlock with
  | none => exact .inl rfl
  | some k =>
    right
    intro e
    have e1 : k = w1.heap.size := Option.some.inj e
    have := (hr.own.lt k hb).1
    have := h.lt
    omega
theorem SgL.cells {w1 : World} {B : Nat} {tS : TypeId} {no gn en : Int} {x y : World} {a : Option Addr} {cap : Nat} {l : List Itm} (h : SgL w1 B tS no gn en x a cap l)
    (hg : x.grownBy y (Value.slice a l.length cap).ownBlock) : y.cell? ⟨w1.heap.size, 3, none⟩ = some (.slice a l.length cap) ∧ y.frozen? ⟨w1.heap.size, 3, none⟩ = false := by
  have hne : ∀ k, (Value.slice a l.length cap).ownBlock = some k → B ≤ k := fun k hk => (h.its.own.lt k hk).1
  have b3 := h.seg.butG hg (fun k hk => by have := hne k hk; have := h.lt; omega)
  exact ⟨b3.cell 3 _ rfl, b3.loose 3⟩
end Go.Proofs.YtgcnebepklelpaaGreatDoor
