/- Texts of our own, joined. -/
import Derived.Test.YtieenkloiicnkaaGreatDoorJz
import Derived.Test.YtieenkloiicnkaaGreatDoorJax
import Derived.Test.YtieenkloiicnkaaGreatDoorJbx
import Derived.Test.YtieenkloiicnkaaGreatDoorJfx
import Derived.Deep.RegionHeld3
/- A new disk and its log: FormatDisk of the model. -/
namespace Go.Proofs.YtieenkloiicnkaaGreatDoor
open Go.RowKit

set_option maxRecDepth 100000 in
set_option maxHeartbeats 8000000 in
theorem specFormatDisk_any (segs : Int) (w : World) (hsg : -9223372036854775808 ≤ segs ∧ segs ≤ 9223372036854775807) :
    Calls Tryz.prog 22 #[.int .i64 segs] w fun e w' => FmR (fmO segs) w e w' := by
  obtain ⟨O, hO⟩ : ∃ O, fmO segs = O := ⟨_, rfl⟩
  have HO := Lib.hid hO
  rw [hO]
  clear hO
  have X0 := Box.new w #[.slice none 0 0, .slice none 0 0, .int .i64 0, .slice none 0 0, .int .i64 0, .int .i64 0, .int .i64 0, .int .i64 0] 55
  have b0 := belNew w (.cells #[.slice none 0 0, .slice none 0 0, .int .i64 0, .slice none 0 0, .int .i64 0, .int .i64 0, .int .i64 0, .int .i64 0] 55)
  have z0 : (w.alloc (.cells #[.slice none 0 0, .slice none 0 0, .int .i64 0, .slice none 0 0, .int .i64 0, .int .i64 0, .int .i64 0, .int .i64 0] 55)).heap.size = w.heap.size + 1 := by simp
  by_cases hin : 5 ≤ segs ∧ segs ≤ 11
  case neg =>
    have HN : Hid (O = none) := HO.out.symm.trans (fmO_out hin)
    have XR := X0
    have bR := b0
    clear X0 b0 z0
    go_enter Tryz.func22, Tryz.ntmps22
    go_upto_region 2 with (first | (go_at_call 56; refine (in_no _ _ _ _ (by omega)).mono ?_; rintro e w5 ⟨rfl, rfl⟩))
    generalize w.alloc (.cells #[.slice none 0 0, .slice none 0 0, .int .i64 0, .slice none 0 0, .int .i64 0, .int .i64 0, .int .i64 0, .int .i64 0] 55) = W at XR bR ⊢
    obtain ⟨r0, r1, r2, r3, r4, r5, r6, r7, f0, f1, f2, f3, f4, f5, f6, f7⟩ := XR.eightL
    have RX := XR.set8L (.slice none 0 0) (.slice none 0 0) (.int .i64 0) (.slice none 0 0) (.int .i64 0) (.int .i64 0) (.int .i64 0) (.int .i64 0)
    have BXX := below_set8L bR (Nat.le_refl _) (.slice none 0 0) (.slice none 0 0) (.int .i64 0) (.slice none 0 0) (.int .i64 0) (.int .i64 0) (.int .i64 0) (.int .i64 0)
    obtain ⟨u0, u1, u2, u3, u4, u5, u6, u7, _⟩ := RX.eightL
    have HFIN : Hid (FmR O w (.returned (.tuple #[.agg #[.slice none 0 0, .slice none 0 0, .int .i64 0, .slice none 0 0, .int .i64 0, .int .i64 0, .int .i64 0, .int .i64 0], .bool false])) (set8L W w.heap.size (.slice none 0 0) (.slice none 0 0) (.int .i64 0) (.slice none 0 0) (.int .i64 0) (.int .i64 0) (.int .i64 0) (.int .i64 0))) := by
      rw [HN.out]
      exact ⟨_, _, rfl, ⟨_, _, _, _, rfl, lgP_nil BXX.size⟩, rfl, BXX⟩
    unfold set8L at u0 u1 u2 u3 u4 u5 u6 u7 HFIN
    clear RX BXX XR bR
    go_wp2
    refine bodyPost_ret (v := .tuple #[.agg #[.slice none 0 0, .slice none 0 0, .int .i64 0, .slice none 0 0, .int .i64 0, .int .i64 0, .int .i64 0, .int .i64 0], .bool false]) (by simp [results, Tryz.results22, go_sem, u0, u1, u2, u3, u4, u5, u6, u7]) rfl ?_
    exact HFIN.out

  have HIN := Lib.hid hin
  have hw1 : IntKind.i64.wrap (segs * 8) = segs * 8 := IntWalk.i64_in _ ⟨by omega, by omega⟩
  have hw2 : IntKind.i64.wrap (8 + segs * 8) = 8 + segs * 8 := IntWalk.i64_in _ ⟨by omega, by omega⟩
  have HND : Hid (∀ x, Calls Tryz.prog 57 #[.int .i64 (8 + segs * 8)] x fun e w' => DiskR (newD (8 + segs * 8)) true x e w') := fun x => by
    have h9 := specDiskNew_any (8 + segs * 8) x
    rw [decide_eq_true (show 1 ≤ 8 + segs * 8 ∧ 8 + segs * 8 ≤ 100 by omega)] at h9
    exact h9
  have HOPH := Lib.hid (fm0_ok hin)
  have HFM : Hid (fm0 segs = ⟨newD (8 + segs * 8), segs, [], 1, 1, 0, 1⟩) := by show _ = _; unfold fm0; rw [show (8 : Int) + 8 * segs = 8 + segs * 8 by omega]
  go_enter Tryz.func22, Tryz.ntmps22
  go_upto_region 3 with (first | (go_at_call 56; refine (in_yes _ _ _ _ (by omega) (by omega)).mono ?_; rintro e w5 ⟨rfl, rfl⟩))
  generalize w.alloc (.cells #[.slice none 0 0, .slice none 0 0, .int .i64 0, .slice none 0 0, .int .i64 0, .int .i64 0, .int .i64 0, .int .i64 0] 55) = w0 at X0 b0 z0 ⊢
  go_wp2_with fail
  refine (HND.out _).mono ?_
  rintro e w1 ⟨v1, rfl, o1, k1⟩
  obtain ⟨p1, p2, q1, q2, rfl⟩ := o1.form
  clear HND hw1 hw2
  generalize hd0 : newD (8 + segs * 8) = d at o1 HFM ⊢
  clear hd0
  have k2 := belNew w1 (.cells #[.slice p1 d.sec.length q1, .slice p2 d.cache.length q2] 33)
  have k3 := belNew (w1.alloc (.cells #[.slice p1 d.sec.length q1, .slice p2 d.cache.length q2] 33)) (.cells #[.slice p1 d.sec.length q1, .slice p2 d.cache.length q2, .int .i64 segs, .slice none 0 0, .int .i64 1, .int .i64 1, .int .i64 0, .int .i64 1] 55)
  have XG := Box.new (w1.alloc (.cells #[.slice p1 d.sec.length q1, .slice p2 d.cache.length q2] 33)) #[.slice p1 d.sec.length q1, .slice p2 d.cache.length q2, .int .i64 segs, .slice none 0 0, .int .i64 1, .int .i64 1, .int .i64 0, .int .i64 1] 55
  have zz : Hid (w0.heap.size ≤ w1.heap.size ∧ (w1.alloc (.cells #[.slice p1 d.sec.length q1, .slice p2 d.cache.length q2] 33)).heap.size = w1.heap.size + 1) := ⟨k1.size, by simp⟩
  have j3 := (k1.trans (k2.mono k1.size)).trans (k3.mono (k1.trans (k2.mono k1.size)).size)
  have o3 := (o1.later k2).later k3
  have X3 := X0.later j3
  have b3 := b0.trans (j3.mono b0.size)
  clear k1 k2 k3 j3 o1 X0 b0
  go_upto_region 5 with fail
  rw [zz.out.2] at XG
  generalize ((w1.alloc (.cells #[.slice p1 d.sec.length q1, .slice p2 d.cache.length q2] 33)).alloc (.cells #[.slice p1 d.sec.length q1, .slice p2 d.cache.length q2, .int .i64 segs, .slice none 0 0, .int .i64 1, .int .i64 1, .int .i64 0, .int .i64 1] 55)) = w3 at XG o3 X3 b3 ⊢
  obtain ⟨pg, hpg⟩ : ∃ pg, w1.heap.size + 1 = pg := ⟨_, rfl⟩
  rw [hpg] at XG ⊢
  have HPG : Hid (w.heap.size < w0.heap.size ∧ w1.heap.size < pg ∧ w0.heap.size ≤ w1.heap.size ∧ pg < w3.heap.size ∧ w0.heap.size ≤ w3.heap.size ∧ w1.heap.size ≤ w3.heap.size) := ⟨by omega, by omega, zz.out.1, XG.lt, by have := XG.lt; have := zz.out.1; omega, by have := XG.lt; omega⟩
  clear hpg zz z0
  have HOP := Lib.hid (l09Open_any (fm0 segs) 0 pg w0.heap.size w1.heap.size (.slice p1 d.sec.length q1) (.slice p2 d.cache.length q2) (.slice none 0 0) [] w3 (by rw [HFM.out]; exact XG) (by rw [HFM.out]; exact LgP.mkN o3 rfl HPG.out.2.2.2.2.1 HPG.out.2.2.2.2.2) (by have := HPG.out; omega) (by rw [HFM.out]; simp) HOPH.out)
  clear XG o3
  go_wp2_with fail
  refine HOP.out.mono ?_
  rintro e w4 ⟨g4, (⟨hN, rfl, _, _⟩ | ⟨L1, va, vb, vu, hs, hS, rfl, B4, P4⟩)⟩
  · have HN : Hid (O = none) := HO.out.symm.trans (fmO_no hN)
    have XR : Box w4 w.heap.size _ _ := (g4.block w.heap.size X3.lt (fun e => by have := Option.some.inj e; have := HPG.out; omega)).trans X3
    have bR : Below w.heap.size w w4 := b3.grown g4 b3.size (fun k hk => by have := Option.some.inj hk; have := HPG.out; omega)
    clear g4 X3 b3 HOP hN
    obtain ⟨r0, r1, r2, r3, r4, r5, r6, r7, f0, f1, f2, f3, f4, f5, f6, f7⟩ := XR.eightL
    have RX := XR.set8L (.slice none 0 0) (.slice none 0 0) (.int .i64 0) (.slice none 0 0) (.int .i64 0) (.int .i64 0) (.int .i64 0) (.int .i64 0)
    have BXX := below_set8L bR (Nat.le_refl _) (.slice none 0 0) (.slice none 0 0) (.int .i64 0) (.slice none 0 0) (.int .i64 0) (.int .i64 0) (.int .i64 0) (.int .i64 0)
    obtain ⟨u0, u1, u2, u3, u4, u5, u6, u7, _⟩ := RX.eightL
    have HFIN : Hid (FmR O w (.returned (.tuple #[.agg #[.slice none 0 0, .slice none 0 0, .int .i64 0, .slice none 0 0, .int .i64 0, .int .i64 0, .int .i64 0, .int .i64 0], .bool false])) (set8L w4 w.heap.size (.slice none 0 0) (.slice none 0 0) (.int .i64 0) (.slice none 0 0) (.int .i64 0) (.int .i64 0) (.int .i64 0) (.int .i64 0))) := by
      rw [HN.out]
      exact ⟨_, _, rfl, ⟨_, _, _, _, rfl, lgP_nil BXX.size⟩, rfl, BXX⟩
    unfold set8L at u0 u1 u2 u3 u4 u5 u6 u7 HFIN
    clear RX BXX XR bR
    go_wp2
    refine bodyPost_ret (v := .tuple #[.agg #[.slice none 0 0, .slice none 0 0, .int .i64 0, .slice none 0 0, .int .i64 0, .int .i64 0, .int .i64 0, .int .i64 0], .bool false]) (by simp [results, Tryz.results22, go_sem, u0, u1, u2, u3, u4, u5, u6, u7]) rfl ?_
    exact HFIN.out

  have XR : Box w4 w.heap.size _ _ := (g4.block w.heap.size X3.lt (fun e => by have := Option.some.inj e; have := HPG.out; omega)).trans X3
  have bR : Below w.heap.size w w4 := b3.grown g4 b3.size (fun k hk => by have := Option.some.inj hk; have := HPG.out; omega)
  obtain ⟨a1, a2, a3, c1, c2, c3, rfl, rfl, rfl⟩ := P4.form
  have HIS := Lib.hid (opO_is HOPH.out hS)
  have hul : L1.used.length ≤ 1 := by have := HIS.out.2.1; rw [HFM.out] at this; simp at this; omega
  have HSM := Lib.hid (Dk.ok_small HIS.out.1)
  have HOY : Hid (∀ E, wcO L1.d (ckOf L1) = some E → O = some ⟨E, L1.segs, L1.used, L1.ng, L1.ns, 1, L1.nv⟩) := fun E hE => HO.out.symm.trans (fmO_some HIN.out hS hE)
  have HOZ : Hid (wcO L1.d (ckOf L1) = none → O = none) := fun hE => HO.out.symm.trans (fmO_none hS hE)
  have hpg4 : Hid (pg < w4.heap.size ∧ w.heap.size < w4.heap.size) := ⟨B4.lt, XR.lt⟩
  unfold lgC at B4
  clear X3 b3 g4 HOP hS HO HIN HOPH HFM
  have HB4 := Lib.hid B4
  have HP4 := Lib.hid P4
  have HXR := Lib.hid XR
  have HBR := Lib.hid bR
  have HSC : Hid (∀ x, Below w4.heap.size w4 x → (x.cell? ⟨pg, 0, none⟩ = some (.slice a1 L1.d.sec.length c1) ∧ x.cell? ⟨pg, 1, none⟩ = some (.slice a2 L1.d.cache.length c2) ∧ x.cell? ⟨pg, 2, none⟩ = some (.int .i64 L1.segs) ∧ x.cell? ⟨pg, 3, none⟩ = some (.slice a3 L1.used.length c3) ∧ x.cell? ⟨pg, 4, none⟩ = some (.int .i64 L1.ng) ∧ x.cell? ⟨pg, 5, none⟩ = some (.int .i64 L1.ns) ∧ x.cell? ⟨pg, 6, none⟩ = some (.int .i64 L1.st) ∧ x.cell? ⟨pg, 7, none⟩ = some (.int .i64 L1.nv))) := fun x hx => by
    obtain ⟨s0, s1, s2, s3, s4, s5, s6, s7⟩ := (HB4.out.later hx).eightO
    exact ⟨s0, s1, s2, s3, s4, s5, s6, s7⟩
  have HS2 : Hid (∀ x, ((x.cell? ⟨pg, 0, none⟩ = some (.slice a1 L1.d.sec.length c1) ∧ x.cell? ⟨pg, 1, none⟩ = some (.slice a2 L1.d.cache.length c2) ∧ x.cell? ⟨pg, 2, none⟩ = some (.int .i64 L1.segs) ∧ x.cell? ⟨pg, 3, none⟩ = some (.slice a3 L1.used.length c3) ∧ x.cell? ⟨pg, 4, none⟩ = some (.int .i64 L1.ng) ∧ x.cell? ⟨pg, 5, none⟩ = some (.int .i64 L1.ns) ∧ x.cell? ⟨pg, 6, none⟩ = some (.int .i64 L1.st) ∧ x.cell? ⟨pg, 7, none⟩ = some (.int .i64 L1.nv)) ∧ Below w4.heap.size w4 x) → LRd x (.agg #[.slice a1 L1.d.sec.length c1, .slice a2 L1.d.cache.length c2, .int .i64 L1.segs, .slice a3 L1.used.length c3, .int .i64 L1.ng, .int .i64 L1.ns, .int .i64 L1.st, .int .i64 L1.nv]) L1 ∧ DOwn w0.heap.size w4.heap.size x (.agg #[.slice a1 L1.d.sec.length c1, .slice a2 L1.d.cache.length c2]) L1.d) := fun x hx => ⟨⟨_, _, _, rfl, (HP4.out.later hx.2).down.rd, (HP4.out.later hx.2).use.own.rd⟩, (HP4.out.later hx.2).down⟩
  have HK0 : Hid ((fun x => (x.cell? ⟨pg, 0, none⟩ = some (.slice a1 L1.d.sec.length c1) ∧ x.cell? ⟨pg, 1, none⟩ = some (.slice a2 L1.d.cache.length c2) ∧ x.cell? ⟨pg, 2, none⟩ = some (.int .i64 L1.segs) ∧ x.cell? ⟨pg, 3, none⟩ = some (.slice a3 L1.used.length c3) ∧ x.cell? ⟨pg, 4, none⟩ = some (.int .i64 L1.ng) ∧ x.cell? ⟨pg, 5, none⟩ = some (.int .i64 L1.ns) ∧ x.cell? ⟨pg, 6, none⟩ = some (.int .i64 L1.st) ∧ x.cell? ⟨pg, 7, none⟩ = some (.int .i64 L1.nv)) ∧ Below w4.heap.size w4 x) w4.drew) := ⟨HSC.out _ (belDrewO _), belDrewO _⟩
  have HK1 : Hid ((fun x => (x.cell? ⟨pg, 0, none⟩ = some (.slice a1 L1.d.sec.length c1) ∧ x.cell? ⟨pg, 1, none⟩ = some (.slice a2 L1.d.cache.length c2) ∧ x.cell? ⟨pg, 2, none⟩ = some (.int .i64 L1.segs) ∧ x.cell? ⟨pg, 3, none⟩ = some (.slice a3 L1.used.length c3) ∧ x.cell? ⟨pg, 4, none⟩ = some (.int .i64 L1.ng) ∧ x.cell? ⟨pg, 5, none⟩ = some (.int .i64 L1.ns) ∧ x.cell? ⟨pg, 6, none⟩ = some (.int .i64 L1.st) ∧ x.cell? ⟨pg, 7, none⟩ = some (.int .i64 L1.nv)) ∧ Below w4.heap.size w4 x) (w4.alloc (.cells #[.slice none 0 0, .slice none 0 0] 33)).drew) := ⟨HSC.out _ ((belAlloc _ _).drew), (belAlloc _ _).drew⟩
  have HB0 : Hid (Box (w4.alloc (.cells #[.slice none 0 0, .slice none 0 0] 33)).drew w4.heap.size #[.slice none 0 0, .slice none 0 0] 33) := Box.new w4 _ _
  have HRL : Hid ((ckOf L1).refs.length ≤ 1048576) := by show (L1.used.map _).length ≤ _; rw [List.length_map]; omega
  have HCK := Lib.hid (fun x v h => specCheckOf_any L1 v x h (by omega))
  have HWC := Lib.hid (fun (x : World) (aQ : Option Addr) (cQ : Nat) (h : DOwn w0.heap.size w4.heap.size x (.agg #[.slice a1 L1.d.sec.length c1, .slice a2 L1.d.cache.length c2]) L1.d) (hr : Rows' rfE x (.slice aQ (ckOf L1).refs.length cQ) (ckOf L1).refs) => specWriteCheck_any L1.d (ckOf L1) _ aQ cQ _ _ x h HSM.out.1 HSM.out.2.1 HSM.out.2.2 hr HRL.out)
  obtain ⟨W1, hW1⟩ : ∃ W1, wcO L1.d (ckOf L1) = W1 := ⟨_, rfl⟩
  rw [hW1] at HWC HOY HOZ
  obtain ⟨E, hE⟩ : ∃ E, W1.getD L1.d = E := ⟨_, rfl⟩
  obtain ⟨F, hF⟩ : ∃ F, W1.isSome = F := ⟨_, rfl⟩
  have HEF : Hid ((F = true → W1 = some E) ∧ (F = false → W1 = none)) := by
    cases W1 with
    | none => exact ⟨(fun e => by rw [← hF] at e; cases e), fun _ => rfl⟩
    | some E' => exact ⟨(fun _ => by rw [← hE]; rfl), (fun e => by rw [← hF] at e; cases e)⟩
  rw [hE, hF] at HWC
  clear hW1 hE hF B4 P4 XR bR
  go_upto_region 7 with fail
  go_cut [7, 8] (fun p f wx => ∃ (g : Nat) (e1 e2 : Option Addr) (e3 e4 : Nat), p = .pointer (some ⟨g, 0, none⟩) ∧ f = .bool F ∧ w4.heap.size ≤ g ∧ Box wx g #[.slice e1 E.sec.length e3, .slice e2 E.cache.length e4] 33 ∧ DOwn w4.heap.size wx.heap.size wx (.agg #[.slice e1 E.sec.length e3, .slice e2 E.cache.length e4]) E ∧ Below w4.heap.size w4 wx)
  case first =>
    clear HB4 HP4 HXR HBR HOY HOZ HEF
    go_region_held3 (fun x => (x.cell? ⟨pg, 0, none⟩ = some (.slice a1 L1.d.sec.length c1) ∧ x.cell? ⟨pg, 1, none⟩ = some (.slice a2 L1.d.cache.length c2) ∧ x.cell? ⟨pg, 2, none⟩ = some (.int .i64 L1.segs) ∧ x.cell? ⟨pg, 3, none⟩ = some (.slice a3 L1.used.length c3) ∧ x.cell? ⟨pg, 4, none⟩ = some (.int .i64 L1.ng) ∧ x.cell? ⟨pg, 5, none⟩ = some (.int .i64 L1.ns) ∧ x.cell? ⟨pg, 6, none⟩ = some (.int .i64 L1.st) ∧ x.cell? ⟨pg, 7, none⟩ = some (.int .i64 L1.nv)) ∧ Below w4.heap.size w4 x)
      (first | exact HK0.out | exact HK1.out | exact keepO HSC.out (by assumption) (belAlloc _ _) | exact hSD.out | exact hSW.out | exact keepO HSC.out hSD.out (belAlloc _ _) | exact keepO HSC.out hSW.out (belAlloc _ _) | exact keepOs HSC.out (Nat.le_refl _) (by assumption) | exact keepOs HSC.out tP.out (by assumption) | exact keepOs HSC.out tW.out (by assumption))
      (first
        | (go_at_call 59; refine (HCK.out _ _ (HS2.out _ (by assumption)).1).mono ?_; rintro e wP ⟨aQ, cQ, rfl, RQ⟩; have kP := RQ.bel; have hSD := Lib.hid (keepO HSC.out (by assumption) kP); have tP := Lib.hid hSD.out.2.size)
        | (go_at_call 16; refine Calls.mono (HWC.out _ aQ cQ (HS2.out _ (by assumption)).2 ?_) ?_; (· first | exact RQ.rows | exact RQ.rows.later (belAlloc _ _)); rintro e wR ⟨vR, rfl, oR, kR⟩; have hSW := Lib.hid (keepO HSC.out (by assumption) kR); have tW := Lib.hid hSW.out.2.size; obtain ⟨e1, e2, e3, e4, rfl⟩ := oR.form; (first | (have bx : Box wR w4.heap.size #[.slice none 0 0, .slice none 0 0] 33 := (HB0.out.later kP).later kR; have x0 := bx.cell 0 _ rfl; have x1 := bx.cell 1 _ rfl; have f0 := bx.loose 0; have f1 := bx.loose 1; have hle := Lib.hid (Nat.le_refl w4.heap.size)) | (have bx : Box wR wP.heap.size #[.slice none 0 0, .slice none 0 0] 33 := (Box.new wP _ _).later kR; have x0 := bx.cell 0 _ rfl; have x1 := bx.cell 1 _ rfl; have f0 := bx.loose 0; have f1 := bx.loose 1; have hle := tP) | skip)))
    all_goals
      go_wp2_with fail
      go_meet
      first
        | exact ⟨_, e1, e2, e3, e4, rfl, rfl, tW.out, Box.new wR _ _, ((oR.later (belAlloc _ _)).base tP.out).top, hSW.out.2.alloc tW.out _⟩
        | exact ⟨_, e1, e2, e3, e4, rfl, rfl, hle.out, (bx.set 0 _).set 1 _, (((oR.base (by first | exact tP.out | exact Nat.le_trans tP.out (by simp))).boxStore bx 0 _).boxStore (bx.set 0 _) 1 _).top, (hSW.out.2.setCell (p := ⟨_, 0, none⟩) hle.out _).setCell (p := ⟨_, 1, none⟩) hle.out _⟩
  case rest =>
  obtain ⟨g8, e1, e2, e3, e4, rfl, rfl, hg8, B8, O8, k5⟩ := hcut
  clear HSC HS2 HK0 HK1 HB0 HCK HWC
  have XR := HXR.out.later k5
  have bR := HBR.out.trans (k5.mono HBR.out.size)
  cases F with
  | false =>
    have HN : Hid (O = none) := HOZ.out (HEF.out.2 rfl)
    clear B8 O8 k5 HB4 HP4 HXR HBR HOY HOZ HEF hg8
    obtain ⟨r0, r1, r2, r3, r4, r5, r6, r7, f0, f1, f2, f3, f4, f5, f6, f7⟩ := XR.eightL
    have RX := XR.set8L (.slice none 0 0) (.slice none 0 0) (.int .i64 0) (.slice none 0 0) (.int .i64 0) (.int .i64 0) (.int .i64 0) (.int .i64 0)
    have BXX := below_set8L bR (Nat.le_refl _) (.slice none 0 0) (.slice none 0 0) (.int .i64 0) (.slice none 0 0) (.int .i64 0) (.int .i64 0) (.int .i64 0) (.int .i64 0)
    obtain ⟨u0, u1, u2, u3, u4, u5, u6, u7, _⟩ := RX.eightL
    have HFIN : Hid (FmR O w (.returned (.tuple #[.agg #[.slice none 0 0, .slice none 0 0, .int .i64 0, .slice none 0 0, .int .i64 0, .int .i64 0, .int .i64 0, .int .i64 0], .bool false])) (set8L wc w.heap.size (.slice none 0 0) (.slice none 0 0) (.int .i64 0) (.slice none 0 0) (.int .i64 0) (.int .i64 0) (.int .i64 0) (.int .i64 0))) := by
      rw [HN.out]
      exact ⟨_, _, rfl, ⟨_, _, _, _, rfl, lgP_nil BXX.size⟩, rfl, BXX⟩
    unfold set8L at u0 u1 u2 u3 u4 u5 u6 u7 HFIN
    clear RX BXX XR bR
    go_wp2
    refine bodyPost_ret (v := .tuple #[.agg #[.slice none 0 0, .slice none 0 0, .int .i64 0, .slice none 0 0, .int .i64 0, .int .i64 0, .int .i64 0, .int .i64 0], .bool false]) (by simp [results, Tryz.results22, go_sem, u0, u1, u2, u3, u4, u5, u6, u7]) rfl ?_
    exact HFIN.out

  | true =>
    have HOO := Lib.hid (HOY.out E (HEF.out.1 rfl))
    have BG := HB4.out.later k5
    obtain ⟨z0, z1⟩ : _ ∧ _ := ⟨B8.cell 0 _ rfl, B8.cell 1 _ rfl⟩
    obtain ⟨x0, x1, f0, f1⟩ : _ ∧ _ ∧ _ ∧ _ := ⟨BG.cell 0 _ rfl, BG.cell 1 _ rfl, BG.loose 0, BG.loose 1⟩
    have BG1 := (BG.set 0 (.slice e1 E.sec.length e3)).set 1 (.slice e2 E.cache.length e4)
    have x6 := BG1.cell 6 _ rfl
    have f6 := BG1.loose 6
    have BG2 := BG1.set 6 (.int .i64 1)
    have G2 : wc.grownBy (((wc.setCell ⟨pg, 0, none⟩ (.slice e1 E.sec.length e3)).setCell ⟨pg, 1, none⟩ (.slice e2 E.cache.length e4)).setCell ⟨pg, 6, none⟩ (.int .i64 1)) (some pg) := grownBy_storeO (grownBy_storeO (stored_grown wc pg 0 _) 1 _) 6 _
    clear B8 HOY HOZ HEF hg8
    go_upto_region 12 with fail
    clear z0 z1 x0 x1 f0 f1 x6 f6
    have hzz : (((wc.setCell ⟨pg, 0, none⟩ (.slice e1 E.sec.length e3)).setCell ⟨pg, 1, none⟩ (.slice e2 E.cache.length e4)).setCell ⟨pg, 6, none⟩ (.int .i64 1)).heap.size = wc.heap.size := by simp
    generalize ((wc.setCell ⟨pg, 0, none⟩ (.slice e1 E.sec.length e3)).setCell ⟨pg, 1, none⟩ (.slice e2 E.cache.length e4)).setCell ⟨pg, 6, none⟩ (.int .i64 1) = w6 at BG2 G2 hzz ⊢
    have HZZ := Lib.hid hzz
    clear hzz BG BG1
    have XR6 : Box w6 w.heap.size _ _ := (G2.block w.heap.size XR.lt (fun e => by have := Option.some.inj e; have := HPG.out; omega)).trans XR
    have bR6 : Below w.heap.size w w6 := bR.grown G2 bR.size (fun k hk => by have := Option.some.inj hk; have := HPG.out; omega)
    obtain ⟨s0, s1, s2, s3, s4, s5, s6, s7⟩ := BG2.eightO
    obtain ⟨r0, r1, r2, r3, r4, r5, r6, r7, f0, f1, f2, f3, f4, f5, f6, f7⟩ := XR6.eightL
    have RX := XR6.set8L (.slice e1 E.sec.length e3) (.slice e2 E.cache.length e4) (.int .i64 L1.segs) (.slice a3 L1.used.length c3) (.int .i64 L1.ng) (.int .i64 L1.ns) (.int .i64 1) (.int .i64 L1.nv)
    have BXX := below_set8L bR6 (Nat.le_refl _) (.slice e1 E.sec.length e3) (.slice e2 E.cache.length e4) (.int .i64 L1.segs) (.slice a3 L1.used.length c3) (.int .i64 L1.ng) (.int .i64 L1.ns) (.int .i64 1) (.int .i64 L1.nv)
    obtain ⟨u0, u1, u2, u3, u4, u5, u6, u7, _⟩ := RX.eightL
    have HFIN : Hid (FmR O w (.returned (.tuple #[.agg #[.slice e1 E.sec.length e3, .slice e2 E.cache.length e4, .int .i64 L1.segs, .slice a3 L1.used.length c3, .int .i64 L1.ng, .int .i64 L1.ns, .int .i64 1, .int .i64 L1.nv], .bool true])) (set8L w6 w.heap.size (.slice e1 E.sec.length e3) (.slice e2 E.cache.length e4) (.int .i64 L1.segs) (.slice a3 L1.used.length c3) (.int .i64 L1.ng) (.int .i64 L1.ns) (.int .i64 1) (.int .i64 L1.nv))) := by
      have G6 := grown_set8L w6 w.heap.size (.slice e1 E.sec.length e3) (.slice e2 E.cache.length e4) (.int .i64 L1.segs) (.slice a3 L1.used.length c3) (.int .i64 L1.ng) (.int .i64 L1.ns) (.int .i64 1) (.int .i64 L1.nv)
      generalize set8L w6 w.heap.size (.slice e1 E.sec.length e3) (.slice e2 E.cache.length e4) (.int .i64 L1.segs) (.slice a3 L1.used.length c3) (.int .i64 L1.ng) (.int .i64 L1.ns) (.int .i64 1) (.int .i64 L1.nv) = Z at BXX G6 ⊢
      have hP := HPG.out
      have hp4 := hpg4.out
      have blk : ∀ q, q < wc.heap.size → ¬ (q = pg ∨ q = w.heap.size) → Z.heap[q]? = wc.heap[q]? := fun q hq hn => (G6.block q (by have := HZZ.out; omega) (fun e => hn (.inr (Option.some.inj e)))).trans (G2.block q hq (fun e => hn (.inl (Option.some.inj e))))
      have hzZ : wc.heap.size ≤ Z.heap.size := by have := G6.size; have := HZZ.out; omega
      have dZ := O8.stayO hzZ (fun q h1 h2 => blk q h2 (by omega))
      have gz := (HP4.out.later k5).use.beside hzZ (fun q => q = pg ∨ q = w.heap.size) (fun q hq hn => blk q hq hn) (fun q hq => by
        rcases hq with rfl | rfl
        · exact ⟨_, _, HB4.out.later k5, by decide, by decide⟩
        · exact ⟨_, _, XR, by decide, by decide⟩)
      rw [HOO.out]
      refine ⟨_, _, rfl, ⟨_, _, _, hs, rfl, ?_⟩, rfl, BXX⟩
      have p9 := LgP.mkU (L := ⟨E, L1.segs, L1.used, L1.ng, L1.ns, 1, L1.nv⟩) dZ gz (by omega) (Nat.le_refl _)
      exact p9.widen (by omega) (Nat.le_refl _) (Nat.le_refl _)
    unfold set8L at u0 u1 u2 u3 u4 u5 u6 u7 HFIN
    clear RX BXX XR6 bR6 G2 XR bR O8 k5 BG2
    go_wp2
    refine bodyPost_ret (v := .tuple #[.agg #[.slice e1 E.sec.length e3, .slice e2 E.cache.length e4, .int .i64 L1.segs, .slice a3 L1.used.length c3, .int .i64 L1.ng, .int .i64 L1.ns, .int .i64 1, .int .i64 L1.nv], .bool true]) (by simp [results, Tryz.results22, go_sem, u0, u1, u2, u3, u4, u5, u6, u7]) rfl ?_
    exact HFIN.out

end Go.Proofs.YtieenkloiicnkaaGreatDoor
