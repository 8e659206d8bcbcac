/- Texts of our own, joined. -/
import Derived.Test.YtfhkhiejnemndaaGreatDoorJjx
import Derived.Test.YtfhkhiejnemndaaGreatDoorJux
import Derived.Test.YtfhkhiejnemndaaGreatDoorJw
import Derived.Test.YtfhkhiejnemndaaGreatDoorJbx
import Derived.Test.YtfhkhiejnemndaaGreatDoorJl
import Derived.Test.YtfhkhiejnemndaaGreatDoorJm
import Derived.Test.YtfhkhiejnemndaaGreatDoorJtx
import Derived.DeepKeys4
import Derived.WalkArith
import Derived.Lib.Small
import Derived.Lib.Hide
import Derived.Deep.RegionHeld3
import Derived.Deep.QuietTactic
import Derived.BigQuiet
import Derived.WalkSmall
import Derived.Laws.EntriesVeiled
/- OpenSeg of the program: a new head of a log, of whatever log in memory of its own. -/
namespace Go.Proofs.YtfhkhiejnemndaaGreatDoor
open Go.RowKit
set_option maxRecDepth 100000
set_option maxHeartbeats 8000000
noncomputable def opS (L : Lg) (keep : Int) : Option Lg := by
  classical exact if lgOkI L ∧ 0 ≤ keep then opO L keep else none
theorem opS_no {L : Lg} {keep : Int} (h : ¬ (lgOkI L ∧ 0 ≤ keep)) : opS L keep = none := by unfold opS; rw [if_neg h]
theorem opS_yes {L : Lg} {keep : Int} (h : lgOkI L) (h2 : 0 ≤ keep) : opS L keep = opO L keep := by unfold opS; rw [if_pos ⟨h, h2⟩]
theorem sgN_room {d : Dk} (h : sgN d ≠ 0) : 5 ≤ sgN d ∧ sgN d ≤ 11 ∧ 8 + 8 * (sgN d).toNat ≤ d.sec.length := by
  unfold sgN at h ⊢
  split at h
  · rename_i c
    rw [if_pos c]; by_cases c2 : d.sec.length < 8
    · rw [show ((d.sec.length : Int) - 8) = -((8 - d.sec.length : Nat) : Int) by omega, Int.neg_tdiv] at c
      have := Int.tdiv_nonneg (a := ((8 - d.sec.length : Nat) : Int)) (b := 8) (by omega) (by omega); omega
    · rw [Int.tdiv_eq_ediv_of_nonneg (by omega)] at c ⊢
      omega
  · exact absurd rfl h
theorem lgOkI.oph {L : Lg} (h : lgOkI L) : OpH L := by
  obtain ⟨h1, h2, h3, h4, h5, _⟩ := h; have h6 := sgN_room (d := L.d) (by rw [← h4]; exact h3); rw [← h4] at h6; exact ⟨h1, ⟨by omega, by omega⟩, h6.2.2, h5.1⟩
def OsR (L : Lg) (O : Option Lg) (w : World) (e : Ending) (w' : World) : Prop :=
  ∃ v, e = .returned (.tuple #[v, .bool O.isSome]) ∧ LgO w.heap.size w'.heap.size w' v (O.getD L) ∧ Below w.heap.size w w'
theorem implOpenSeg_any (L : Lg) (keep : Int) (B T : Nat) (va vb vu : Value) (hs : List SgH) (w : World) (hp : LgP B T w va vb vu L hs) (hL : L.lean 1048576) (htab : SumTab w) :
    Calls Tryz.prog 19 #[.agg #[va, vb, .int .i64 L.segs, vu, .int .i64 L.ng, .int .i64 L.ns, .int .i64 L.st, .int .i64 L.nv], .int .i64 keep] w fun e w' => OsR L (opS L keep) w e w' := by
  have b0 := belNew w (.cells #[va, vb, .int .i64 L.segs, vu, .int .i64 L.ng, .int .i64 L.ns, .int .i64 L.st, .int .i64 L.nv] 30); have X0 := Box.new w #[va, vb, .int .i64 L.segs, vu, .int .i64 L.ng, .int .i64 L.ns, .int .i64 L.st, .int .i64 L.nv] 30; have k1 := belNew (w.alloc (.cells #[va, vb, .int .i64 L.segs, vu, .int .i64 L.ng, .int .i64 L.ns, .int .i64 L.st, .int .i64 L.nv] 30)) (.cells #[.slice none 0 0, .slice none 0 0, .int .i64 0, .slice none 0 0, .int .i64 0, .int .i64 0, .int .i64 0, .int .i64 0] 30); have z0 : (w.alloc (.cells #[va, vb, .int .i64 L.segs, vu, .int .i64 L.ng, .int .i64 L.ns, .int .i64 L.st, .int .i64 L.nv] 30)).heap.size = w.heap.size + 1 := by simp
  have XR := Box.new (w.alloc (.cells #[va, vb, .int .i64 L.segs, vu, .int .i64 L.ng, .int .i64 L.ns, .int .i64 L.st, .int .i64 L.nv] 30)) #[.slice none 0 0, .slice none 0 0, .int .i64 0, .slice none 0 0, .int .i64 0, .int .i64 0, .int .i64 0, .int .i64 0] 30; rw [z0] at XR; have X1 := X0.later k1; have b2 := b0.trans (k1.mono b0.size); obtain ⟨W, hW⟩ : ∃ W, (w.alloc (.cells #[va, vb, .int .i64 L.segs, vu, .int .i64 L.ng, .int .i64 L.ns, .int .i64 L.st, .int .i64 L.nv] 30)).alloc (.cells #[.slice none 0 0, .slice none 0 0, .int .i64 0, .slice none 0 0, .int .i64 0, .int .i64 0, .int .i64 0, .int .i64 0] 30) = W := ⟨_, rfl⟩; rw [hW] at XR X1 b2; have HOL := Lib.hid (openedLog_any L B T va vb vu hs W (hp.later b2) hL); have HLK := Lib.hid (fun X (hX : Below w.heap.size w X) => implLogOk_any L _ X (LgO.rd ⟨va, vb, vu, hs, rfl, hp.later hX⟩) hL (htab.later hX)); have HTB : Hid (∀ X, Below w.heap.size w X → SumTab X) := fun X hX => htab.later hX; have HW := Lib.hid hW; obtain ⟨gr, hgr⟩ : ∃ gr, w.heap.size + 1 = gr := ⟨_, rfl⟩; obtain ⟨g0, hg0⟩ : ∃ g0, w.heap.size = g0 := ⟨_, rfl⟩; rw [hgr] at XR; rw [hg0] at X1; have HG : Hid (w.heap.size + 1 = gr ∧ w.heap.size = g0) := ⟨hgr, hg0⟩; have hgrw : w.heap.size ≤ gr := by omega
  have HGL : Hid (g0 < W.heap.size ∧ gr < W.heap.size) := ⟨X1.lt, XR.lt⟩; have HXL := Lib.hid X1; have HXR := Lib.hid XR; have HB2 := Lib.hid b2; have HYES : Hid (∀ (L' : Lg) (v : Value) (w' : World), opS L keep = some L' → LgO w.heap.size w'.heap.size w' v L' → Below w.heap.size w w' → OsR L (opS L keep) w (.returned (.tuple #[v, .bool true])) w') := fun L' v w' h1 h2 h3 => by rw [h1]; exact ⟨v, rfl, h2, h3⟩
  have HNO : Hid (opS L keep = none → ∀ (v : Value) (w' : World), LgO w.heap.size w'.heap.size w' v L → Below w.heap.size w w' → OsR L (opS L keep) w (.returned (.tuple #[v, .bool false])) w') := fun h1 v w' h2 h3 => by rw [h1]; exact ⟨v, rfl, h2, h3⟩
  obtain ⟨O, hO⟩ : ∃ O, opS L keep = O := ⟨_, rfl⟩; rw [hO] at HYES HNO ⊢; obtain ⟨a1, a2, a3, c1, c2, c3, e1, e2, e3⟩ := hp.form; subst e1 e2 e3; obtain ⟨y0, y1, y2, y3, y4, y5, y6, y7⟩ := X1.eightO; have HP := Lib.hid hp; clear X0 X1 XR b0 b2 k1 z0 hW hgr hg0 hp htab; have hp := HP; clear HP; replace hL := Lib.hid hL; have HO0 := Lib.hid hO; clear hO; go_enter Tryz.func19, Tryz.ntmps19
  go_upto_region 1 with fail
  rw [HW.out, HG.out.1, HG.out.2]; go_wp2_with fail
  clear y0 y1 y2 y3 y4 y5 y6 y7; refine HOL.out.mono ?_; rintro e w1 ⟨pg, va', vb', vu', hs', rfl, XP, P1, k1, hpg0⟩; have HXP := Lib.hid XP; have HP1 := Lib.hid P1; have HXL1 := Lib.hid (HXL.out.later k1); have HXR1 := Lib.hid (HXR.out.later k1); have HB1 := Lib.hid (HB2.out.trans (k1.mono HB2.out.size)); have HPG : Hid (W.heap.size ≤ pg) := hpg0; have HK1 := Lib.hid (HLK.out w1 HB1.out); obtain ⟨y0, y1, y2, y3, y4, y5, y6, y7⟩ := HXL1.out.eightO; clear HOL XP P1 k1 HLK HXL HXR hpg0; go_wp2_with fail
  clear y0 y1 y2 y3 y4 y5 y6 y7; by_cases hok : lgOkI L
  case neg =>
    have HO : O = none := by rw [← HO0.out]; exact opS_no (fun e => hok e.1)
    rw [sameP_no hok] at HK1; have HOO := Lib.hid HO; clear HYES HO hok HO0; refine HK1.out.mono ?_; rintro e w2 ⟨rfl, k2⟩; have HXL2 := Lib.hid (HXL1.out.later k2); have HXR2 := Lib.hid (HXR1.out.later k2); have bW := HB1.out.trans (k2.mono HB1.out.size); have HO := HOO.out; clear HK1 k2 HXL1 HXR1 HOO; replace HNO := Lib.hid (HNO.out HO); clear HO; have HCP := Lib.hid (copyLog_any L B T _ _ _ hs w2 (hp.out.later bW) hL.out); obtain ⟨y0, y1, y2, y3, y4, y5, y6, y7⟩ := HXL2.out.eightO; go_wp2_with fail
    clear y0 y1 y2 y3 y4 y5 y6 y7; refine HCP.out.mono ?_; rintro e w8 ⟨v8, rfl, o8, k8⟩; obtain ⟨p1, p2, p3, q1, q2, q3, rfl⟩ := o8.form; have XT := HXR2.out.later k8; have bT := bW.trans (k8.mono bW.size); have RX := XT.set8L (.slice p1 L.d.sec.length q1) (.slice p2 L.d.cache.length q2) (.int .i64 L.segs) (.slice p3 L.used.length q3) (.int .i64 L.ng) (.int .i64 L.ns) (.int .i64 L.st) (.int .i64 L.nv); have BXX := below_set8L bT hgrw (.slice p1 L.d.sec.length q1) (.slice p2 L.d.cache.length q2) (.int .i64 L.segs) (.slice p3 L.used.length q3) (.int .i64 L.ng) (.int .i64 L.ns) (.int .i64 L.st) (.int .i64 L.nv); obtain ⟨u0, u1, u2, u3, u4, u5, u6, u7⟩ := RX.eightO; have g9 := grown_set8L w8 gr (.slice p1 L.d.sec.length q1) (.slice p2 L.d.cache.length q2) (.int .i64 L.segs) (.slice p3 L.used.length q3) (.int .i64 L.ng) (.int .i64 L.ns) (.int .i64 L.st) (.int .i64 L.nv); have hgl : gr < w2.heap.size := HXR2.out.lt; have HL2 : Hid (LgO w.heap.size (set8L w8 gr (.slice p1 L.d.sec.length q1) (.slice p2 L.d.cache.length q2) (.int .i64 L.segs) (.slice p3 L.used.length q3) (.int .i64 L.ng) (.int .i64 L.ns) (.int .i64 L.st) (.int .i64 L.nv)).heap.size (set8L w8 gr (.slice p1 L.d.sec.length q1) (.slice p2 L.d.cache.length q2) (.int .i64 L.segs) (.slice p3 L.used.length q3) (.int .i64 L.ng) (.int .i64 L.ns) (.int .i64 L.st) (.int .i64 L.nv)) (.agg #[.slice p1 L.d.sec.length q1, .slice p2 L.d.cache.length q2, .int .i64 L.segs, .slice p3 L.used.length q3, .int .i64 L.ng, .int .i64 L.ns, .int .i64 L.st, .int .i64 L.nv]) L) := by
      obtain ⟨va9, vb9, vu9, hs9, e9, P9⟩ := o8; have h9 := P9.stay g9.size (fun q h1 h2 => g9.block q h2 (fun e => by have := Option.some.inj e; omega)); exact ⟨_, _, _, hs9, e9, h9.widen bW.size g9.size (Nat.le_refl _)⟩
    have HBZ := Lib.hid BXX; obtain ⟨r0, r1, r2, r3, r4, r5, r6, r7, f0, f1, f2, f3, f4, f5, f6, f7⟩ := XT.eightL; unfold set8L at u0 u1 u2 u3 u4 u5 u6 u7 HL2 HBZ; clear HCP k8 XT bT RX BXX g9 o8 bW; go_wp2; refine bodyPost_ret (v := .tuple #[.agg #[.slice p1 L.d.sec.length q1, .slice p2 L.d.cache.length q2, .int .i64 L.segs, .slice p3 L.used.length q3, .int .i64 L.ng, .int .i64 L.ns, .int .i64 L.st, .int .i64 L.nv], .bool false]) (by simp [results, Tryz.results19, go_sem, u0, u1, u2, u3, u4, u5, u6, u7]) rfl ?_; exact HNO.out _ _ HL2.out HBZ.out
  rw [sameP_yes hok] at HK1; refine HK1.out.mono ?_; rintro e w2 ⟨rfl, k2⟩; have HXL2 := Lib.hid (HXL1.out.later k2); have HXR2 := Lib.hid (HXR1.out.later k2); have HXP2 := Lib.hid (HXP.out.later k2); have HP2 := Lib.hid (HP1.out.later k2); have bW := HB1.out.trans (k2.mono HB1.out.size); clear HK1 k2 HXL1 HXR1 HXP HP1; by_cases hk : keep < 0
  · have HO : O = none := by rw [← HO0.out]; exact opS_no (fun e => by have := e.2; omega)
    replace HNO := Lib.hid (HNO.out HO); clear HYES HO hok HO0 HXP2 HP2; have HCP := Lib.hid (copyLog_any L B T _ _ _ hs w2 (hp.out.later bW) hL.out); obtain ⟨y0, y1, y2, y3, y4, y5, y6, y7⟩ := HXL2.out.eightO; go_wp2_with fail
    clear y0 y1 y2 y3 y4 y5 y6 y7; refine HCP.out.mono ?_; rintro e w8 ⟨v8, rfl, o8, k8⟩; obtain ⟨p1, p2, p3, q1, q2, q3, rfl⟩ := o8.form; have XT := HXR2.out.later k8; have bT := bW.trans (k8.mono bW.size); have RX := XT.set8L (.slice p1 L.d.sec.length q1) (.slice p2 L.d.cache.length q2) (.int .i64 L.segs) (.slice p3 L.used.length q3) (.int .i64 L.ng) (.int .i64 L.ns) (.int .i64 L.st) (.int .i64 L.nv); have BXX := below_set8L bT hgrw (.slice p1 L.d.sec.length q1) (.slice p2 L.d.cache.length q2) (.int .i64 L.segs) (.slice p3 L.used.length q3) (.int .i64 L.ng) (.int .i64 L.ns) (.int .i64 L.st) (.int .i64 L.nv); obtain ⟨u0, u1, u2, u3, u4, u5, u6, u7⟩ := RX.eightO; have g9 := grown_set8L w8 gr (.slice p1 L.d.sec.length q1) (.slice p2 L.d.cache.length q2) (.int .i64 L.segs) (.slice p3 L.used.length q3) (.int .i64 L.ng) (.int .i64 L.ns) (.int .i64 L.st) (.int .i64 L.nv); have hgl : gr < w2.heap.size := HXR2.out.lt; have HL2 : Hid (LgO w.heap.size (set8L w8 gr (.slice p1 L.d.sec.length q1) (.slice p2 L.d.cache.length q2) (.int .i64 L.segs) (.slice p3 L.used.length q3) (.int .i64 L.ng) (.int .i64 L.ns) (.int .i64 L.st) (.int .i64 L.nv)).heap.size (set8L w8 gr (.slice p1 L.d.sec.length q1) (.slice p2 L.d.cache.length q2) (.int .i64 L.segs) (.slice p3 L.used.length q3) (.int .i64 L.ng) (.int .i64 L.ns) (.int .i64 L.st) (.int .i64 L.nv)) (.agg #[.slice p1 L.d.sec.length q1, .slice p2 L.d.cache.length q2, .int .i64 L.segs, .slice p3 L.used.length q3, .int .i64 L.ng, .int .i64 L.ns, .int .i64 L.st, .int .i64 L.nv]) L) := by
      obtain ⟨va9, vb9, vu9, hs9, e9, P9⟩ := o8; have h9 := P9.stay g9.size (fun q h1 h2 => g9.block q h2 (fun e => by have := Option.some.inj e; omega)); exact ⟨_, _, _, hs9, e9, h9.widen bW.size g9.size (Nat.le_refl _)⟩
    have HBZ := Lib.hid BXX; obtain ⟨r0, r1, r2, r3, r4, r5, r6, r7, f0, f1, f2, f3, f4, f5, f6, f7⟩ := XT.eightL; unfold set8L at u0 u1 u2 u3 u4 u5 u6 u7 HL2 HBZ; clear HCP k8 XT bT RX BXX g9 o8 bW; go_wp2; refine bodyPost_ret (v := .tuple #[.agg #[.slice p1 L.d.sec.length q1, .slice p2 L.d.cache.length q2, .int .i64 L.segs, .slice p3 L.used.length q3, .int .i64 L.ng, .int .i64 L.ns, .int .i64 L.st, .int .i64 L.nv], .bool false]) (by simp [results, Tryz.results19, go_sem, u0, u1, u2, u3, u4, u5, u6, u7]) rfl ?_; exact HNO.out _ _ HL2.out HBZ.out
  · have hH := hok.oph
    have hO2 : opO L keep = O := by rw [← HO0.out]; exact (opS_yes hok (by omega)).symm
    have HOH := Lib.hid (openHead_any L keep pg W.heap.size pg va' vb' vu' hs' w2 HXP2.out HP2.out (.inr (Nat.le_refl _)) (L.lean_small hL.out).2.1 hH (by omega) (HTB.out w2 bW)); have HBW := Lib.hid bW; have HO2 := Lib.hid hO2; clear hH hO2 hok HO0 HXP2 HP2 bW; go_wp2_with fail
    refine HOH.out.mono ?_; rintro e w3 ⟨g3, h3⟩; clear HOH; have hWw := HB2.out.size; have hW2 := HBW.out.size; have hpg := HPG.out; have bW : Below w.heap.size w w3 := ⟨g3.os.trans HBW.out.os, g3.tape.trans HBW.out.tape, g3.output.trans HBW.out.output, Nat.le_trans hW2 g3.size, fun q hq => (g3.block q (by omega) (by omega) (.inl (by omega))).trans (HBW.out.block q hq)⟩; have hgl0 : g0 < W.heap.size ∧ gr < W.heap.size := ⟨by have := HG.out; have := HB2.out.size; exact HGL.out.1, HGL.out.2⟩; have HXL3 : Hid (Box w3 g0 #[.slice a1 L.d.sec.length c1, .slice a2 L.d.cache.length c2, .int .i64 L.segs, .slice a3 L.used.length c3, .int .i64 L.ng, .int .i64 L.ns, .int .i64 L.st, .int .i64 L.nv] 30) := (g3.block g0 HXL2.out.lt (by omega) (.inl (by omega))).trans HXL2.out; have HXR3 : Hid (Box w3 gr #[.slice none 0 0, .slice none 0 0, .int .i64 0, .slice none 0 0, .int .i64 0, .int .i64 0, .int .i64 0, .int .i64 0] 30) := (g3.block gr HXR2.out.lt (by omega) (.inl (by omega))).trans HXR2.out; clear HXL2 HXR2 g3 HBW; rcases h3 with ⟨ho, rfl, _, _⟩ | ⟨L', va9, vb9, vu9, hs9, ho, rfl, XP9, P9⟩
    · have HO : O = none := HO2.out.symm.trans ho
      replace HNO := Lib.hid (HNO.out HO); have HXL2 := HXL3; have HXR2 := HXR3; clear HYES HO ho HO2 HXL3 HXR3; have HCP := Lib.hid (copyLog_any L B T _ _ _ hs w3 (hp.out.later bW) hL.out); obtain ⟨y0, y1, y2, y3, y4, y5, y6, y7⟩ := HXL2.out.eightO; go_wp2_with fail
      clear y0 y1 y2 y3 y4 y5 y6 y7; refine HCP.out.mono ?_; rintro e w8 ⟨v8, rfl, o8, k8⟩; obtain ⟨p1, p2, p3, q1, q2, q3, rfl⟩ := o8.form; have XT := HXR2.out.later k8; have bT := bW.trans (k8.mono bW.size); have RX := XT.set8L (.slice p1 L.d.sec.length q1) (.slice p2 L.d.cache.length q2) (.int .i64 L.segs) (.slice p3 L.used.length q3) (.int .i64 L.ng) (.int .i64 L.ns) (.int .i64 L.st) (.int .i64 L.nv); have BXX := below_set8L bT hgrw (.slice p1 L.d.sec.length q1) (.slice p2 L.d.cache.length q2) (.int .i64 L.segs) (.slice p3 L.used.length q3) (.int .i64 L.ng) (.int .i64 L.ns) (.int .i64 L.st) (.int .i64 L.nv); obtain ⟨u0, u1, u2, u3, u4, u5, u6, u7⟩ := RX.eightO; have g9 := grown_set8L w8 gr (.slice p1 L.d.sec.length q1) (.slice p2 L.d.cache.length q2) (.int .i64 L.segs) (.slice p3 L.used.length q3) (.int .i64 L.ng) (.int .i64 L.ns) (.int .i64 L.st) (.int .i64 L.nv); have hgl : gr < w3.heap.size := HXR2.out.lt; have HL2 : Hid (LgO w.heap.size (set8L w8 gr (.slice p1 L.d.sec.length q1) (.slice p2 L.d.cache.length q2) (.int .i64 L.segs) (.slice p3 L.used.length q3) (.int .i64 L.ng) (.int .i64 L.ns) (.int .i64 L.st) (.int .i64 L.nv)).heap.size (set8L w8 gr (.slice p1 L.d.sec.length q1) (.slice p2 L.d.cache.length q2) (.int .i64 L.segs) (.slice p3 L.used.length q3) (.int .i64 L.ng) (.int .i64 L.ns) (.int .i64 L.st) (.int .i64 L.nv)) (.agg #[.slice p1 L.d.sec.length q1, .slice p2 L.d.cache.length q2, .int .i64 L.segs, .slice p3 L.used.length q3, .int .i64 L.ng, .int .i64 L.ns, .int .i64 L.st, .int .i64 L.nv]) L) := by
        obtain ⟨va9, vb9, vu9, hs9, e9, P9⟩ := o8; have h9 := P9.stay g9.size (fun q h1 h2 => g9.block q h2 (fun e => by have := Option.some.inj e; omega)); exact ⟨_, _, _, hs9, e9, h9.widen bW.size g9.size (Nat.le_refl _)⟩
      have HBZ := Lib.hid BXX; obtain ⟨r0, r1, r2, r3, r4, r5, r6, r7, f0, f1, f2, f3, f4, f5, f6, f7⟩ := XT.eightL; unfold set8L at u0 u1 u2 u3 u4 u5 u6 u7 HL2 HBZ; clear HCP k8 XT bT RX BXX g9 o8 bW; go_wp2; refine bodyPost_ret (v := .tuple #[.agg #[.slice p1 L.d.sec.length q1, .slice p2 L.d.cache.length q2, .int .i64 L.segs, .slice p3 L.used.length q3, .int .i64 L.ng, .int .i64 L.ns, .int .i64 L.st, .int .i64 L.nv], .bool false]) (by simp [results, Tryz.results19, go_sem, u0, u1, u2, u3, u4, u5, u6, u7]) rfl ?_; exact HNO.out _ _ HL2.out HBZ.out
    · have HO : O = some L' := HO2.out.symm.trans ho
      have HYES2 := Lib.hid (fun v w' => HYES.out L' v w' HO); clear HNO HO ho HO2 HYES; obtain ⟨p1, p2, p3, q1, q2, q3, f1, f2, f3⟩ := P9.form; subst f1 f2 f3; unfold lgC at XP9; have HCL := Lib.hid (closed_any _ _ _ _ _ _ _ _ _ _ _ _ _ _ pg w3 XP9); have HP9 := Lib.hid P9; have HB3 := Lib.hid bW; clear XP9 P9 bW HXL3; go_wp2_with fail
      refine HCL.out.mono ?_; rintro e w8 ⟨rfl, k8⟩; have XT := HXR3.out.later k8; have bT := HB3.out.trans (k8.mono HB3.out.size); have RX := XT.set8L (.slice p1 L'.d.sec.length q1) (.slice p2 L'.d.cache.length q2) (.int .i64 L'.segs) (.slice p3 L'.used.length q3) (.int .i64 L'.ng) (.int .i64 L'.ns) (.int .i64 L'.st) (.int .i64 L'.nv); have BXX := below_set8L bT hgrw (.slice p1 L'.d.sec.length q1) (.slice p2 L'.d.cache.length q2) (.int .i64 L'.segs) (.slice p3 L'.used.length q3) (.int .i64 L'.ng) (.int .i64 L'.ns) (.int .i64 L'.st) (.int .i64 L'.nv); obtain ⟨u0, u1, u2, u3, u4, u5, u6, u7⟩ := RX.eightO; have g9 := grown_set8L w8 gr (.slice p1 L'.d.sec.length q1) (.slice p2 L'.d.cache.length q2) (.int .i64 L'.segs) (.slice p3 L'.used.length q3) (.int .i64 L'.ng) (.int .i64 L'.ns) (.int .i64 L'.st) (.int .i64 L'.nv); have P8 := HP9.out.later k8; have HL2 : Hid (LgO w.heap.size (set8L w8 gr (.slice p1 L'.d.sec.length q1) (.slice p2 L'.d.cache.length q2) (.int .i64 L'.segs) (.slice p3 L'.used.length q3) (.int .i64 L'.ng) (.int .i64 L'.ns) (.int .i64 L'.st) (.int .i64 L'.nv)).heap.size (set8L w8 gr (.slice p1 L'.d.sec.length q1) (.slice p2 L'.d.cache.length q2) (.int .i64 L'.segs) (.slice p3 L'.used.length q3) (.int .i64 L'.ng) (.int .i64 L'.ns) (.int .i64 L'.st) (.int .i64 L'.nv)) (.agg #[.slice p1 L'.d.sec.length q1, .slice p2 L'.d.cache.length q2, .int .i64 L'.segs, .slice p3 L'.used.length q3, .int .i64 L'.ng, .int .i64 L'.ns, .int .i64 L'.st, .int .i64 L'.nv]) L') := by
        have h9 := P8.stay g9.size (fun q h1 h2 => g9.block q (Nat.lt_of_lt_of_le h2 P8.sec.2.1) (fun e => by have := Option.some.inj e; omega)); exact ⟨_, _, _, hs9, rfl, h9.widen hWw h9.sec.2.1 (Nat.le_refl _)⟩
      have HBZ := Lib.hid BXX; obtain ⟨r0, r1, r2, r3, r4, r5, r6, r7, f0, f1, f2, f3, f4, f5, f6, f7⟩ := XT.eightL; unfold set8L at u0 u1 u2 u3 u4 u5 u6 u7 HL2 HBZ; clear HCL k8 XT bT RX BXX g9 P8; go_wp2; refine bodyPost_ret (v := .tuple #[.agg #[.slice p1 L'.d.sec.length q1, .slice p2 L'.d.cache.length q2, .int .i64 L'.segs, .slice p3 L'.used.length q3, .int .i64 L'.ng, .int .i64 L'.ns, .int .i64 L'.st, .int .i64 L'.nv], .bool true]) (by simp [results, Tryz.results19, go_sem, u0, u1, u2, u3, u4, u5, u6, u7]) rfl ?_; exact HYES2.out _ _ HL2.out HBZ.out

/- Logs that were written on are right, as the program asks it; what opening a head makes of them; they are small. -/
theorem its_mem {u : List Sg} {x : Itm} (h : x ∈ its u) : ∃ s ∈ u, x ∈ s.items := by
  induction u with
  | nil => cases h
  | cons s u ih =>
    have h1 : x ∈ s.items ++ its u := h; rcases List.mem_append.1 h1 with h2 | h2
    · exact ⟨s, by simp, h2⟩
    · obtain ⟨t, t1, t2⟩ := ih h2
      exact ⟨t, by simp [t1], t2⟩
theorem SgR.holds {d : Dk} {s : Sg} (h : SgR d s) : holdsP d s := by
  obtain ⟨h1, h2, h3⟩ := h.frames; refine ⟨h1, h3, ?_⟩; rw [h2, List.map_map]; exact List.map_congr_left (fun x hx => fiO_itF h.gen (h.its x hx))
theorem LgQ.segsN {L : Lg} (h : LgQ L) : L.segs = sgN L.d := by
  have h1 := h.room; have h2 := h.segs; have e : ((L.d.sec.length : Int) - 8).tdiv 8 = L.segs := by
    rw [show (L.d.sec.length : Int) - 8 = 8 * L.segs by omega]; exact Int.mul_tdiv_cancel_left _ (by decide)
  unfold sgN; rw [e, if_pos h2]
theorem LgQ.itemsOk {L : Lg} (h : LgQ L) : itemsOk (its L.used) := by
  refine ⟨fun x hx => ?_, h.uniq, h.few⟩; obtain ⟨s, hs, hxs⟩ := its_mem hx; exact (h.seg s hs).1.its x hxs
theorem LgW.okI {L : Lg} (h : LgW L) : lgOkI L := by
  have hs := h.q.segs; have hc := h.q.cnt; refine ⟨h.q.ok, h.q.cac, by omega, h.q.segsN, ⟨h.q.ng, h.q.ns, h.q.nv, h.st⟩, ⟨⟨h.len, by omega⟩, fun i s hi => ?_⟩, h.q.itemsOk⟩; have hm : s ∈ L.used := List.mem_of_getElem? hi; obtain ⟨q1, q2, q3, q4⟩ := h.q.seg s hm; obtain ⟨hil, rfl⟩ := List.getElem?_eq_some_iff.1 hi; have hp := List.pairwise_iff_getElem.1 h.q.pw; refine ⟨?_, q1.no.1, q2, ?_, q1.holds, fun x hx => q4 x hx, q3⟩
  · cases i with
    | zero => show 0 < _; have := q1.gen.1; omega
    | succ i =>
      have hi2 : i < L.used.length := (by omega); rw [lastG_next (List.getElem?_eq_getElem hi2)]; exact (hp i (i + 1) hi2 hil (by omega)).1
  · refine hasB_no.2 (fun t ht e => ?_)
    obtain ⟨j, hj, rfl⟩ := List.getElem_of_mem ht; rw [List.length_take] at hj; rw [List.getElem_take] at e; exact (hp j i (by omega) hil (by omega)).2 e
theorem LgW.lean {L : Lg} (h : LgW L) : L.lean 1048576 := by
  have hok := h.q.ok; have hs := h.q.segs; have hc := h.q.cnt; have hf := h.q.few; rw [its_len] at hf; refine ⟨⟨by have := hok.2.1; omega, by rw [h.q.cac]; decide, fun s hs => by have := hok.2.2.2.1 s hs; omega, fun x hx => (by rw [h.q.cac] at hx; cases hx)⟩, by omega, fun b hb x hx => ?_⟩; have h2 := Rc.ok_small ((h.q.seg b hb).1.its x hx).2; omega
theorem LgW.opens {L : Lg} (h : LgW L) (hg : L.ng < 1000000000) {keep : Int} (hk : 0 ≤ keep) (hf : keep < ((fr L).length : Int)) : ∃ L', opO L keep = some L' ∧ L'.used = L.used ++ [⟨(opN L : Int), L.ng, ((hdT L.ng).size : Int), []⟩] ∧ (fr L').length + 1 = (fr L).length ∧ LgW L' := by
  have hN := opN_at (L := L) (by omega); have hsg : frN L.segs = L.segs.toNat := by unfold frN; have := h.q.segs; omega
  have hNs : (opN L : Int) < L.segs := by have := hN.2; have := h.q.segs; omega
  have hr := h.q.roomN hNs; have hsz := hdT_size h.q.ng; obtain ⟨d, p1, _⟩ := seg_put h.q.ok h.q.cac (s := opN L) (A := 0) (t := hdT L.ng) hr.2 (by omega); have ho := opO_some (L := L) (keep := keep) ⟨hk, hf, hg⟩ p1; have hw := h.open ho; have hu := (opO_all h.q.oph ho).2.2.1; refine ⟨_, ho, hu, ?_, hw⟩; have h1 := hw.q.cnt; have h2 := h.q.cnt; rw [hu, List.length_append] at h1; have h3 : (opL L d).segs = L.segs := rfl; rw [h3] at h1; simp only [List.length_cons, List.length_nil] at h1; omega
theorem wrO_ng (L : Lg) (x : Itm) : (wrO L x).1.ng = L.ng := by
  unfold wrO
  split
  · split <;> rfl
  · rfl
theorem opO_ng {L L' : Lg} {keep : Int} (ho : opO L keep = some L') : L'.ng = L.ng + 1 := by
  unfold opO at ho
  split at ho
  case isFalse => cases ho
  case isTrue =>
    cases hw : sgW L.d (opN L) 0 (hdT L.ng) with
    | none => rw [hw] at ho; cases ho
    | some d => rw [hw] at ho; cases ho; rfl
theorem apO_ng (L : Lg) (x : Itm) (keep : Int) : (apO L x keep).1.ng ≤ L.ng + 1 := by
  by_cases hf : fitsP L x
  · rw [apO_fits hf, wrO_ng]; omega
  · cases ho : opO L keep with
    | none => rw [apO_none hf ho]; show L.ng ≤ _; omega
    | some L1 => rw [apO_some hf ho, wrO_ng, opO_ng ho]; omega
theorem fmO_ng {segs : Int} {G : Lg} (hg : fmO segs = some G) : G.ng = 2 := by
  unfold fmO at hg
  split at hg
  case isFalse => cases hg
  case isTrue h =>
    cases ho : opO (fm0 segs) 0 with
    | none => rw [ho] at hg; cases hg
    | some L =>
      rw [ho] at hg; simp only [Option.bind_some] at hg; cases hw : wcO L.d (ckOf L) with
      | none => rw [hw] at hg; cases hg
      | some D => rw [hw] at hg; cases hg; exact opO_ng ho
theorem LgN.ng {L : Lg} {k : Nat} (h : LgN L k) : L.ng ≤ (k : Int) + 2 := by
  induction h with
  | new _ h2 => rw [fmO_ng h2]; omega
  | @app L k x h1 _ _ _ _ ih => have := apO_ng L x 1; omega

/- How records lie in memory; two lists of records that are alike. -/

/- What records tell, gathered box by box, plainly. -/
structure Tb where
  named : Itm
  next : Int
  adds : Int → Option Itm
  flags : Int → Option Itm

/- What is gone is taken away, plainly. -/
open Classical

/- The boxes that are told are those that the records of each Valid tell, plainly. -/

/- What is needed, plainly: by the model's words, and by who tells each subject. -/

/- Structs as keys of maps: two texts; three numbers. -/
open Go.Maps (Keyed)

/- The closures of wantedByKind. -/

/- How the records of a box are gathered in memory; the latest of a mail. -/

/- The records of a box gathered: one record more. -/

/- The program's tellers: the place of who tells each subject; and the list of closures. -/

/- The list of closures. -/
end Go.Proofs.YtfhkhiejnemndaaGreatDoor
