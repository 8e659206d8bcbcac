/- Texts of our own, joined. -/
import Derived.Test.YtleaahdnpjnmlaaGreatDoorJrx
import Derived.Test.YtleaahdnpjnmlaaGreatDoorJux
/- VictimOf of the program. -/
namespace Go.Proofs.YtleaahdnpjnmlaaGreatDoor
open Go.RowKit

structure VcI (g : Nat → Int) (i : Nat) (l : List Vi) : Prop where
  len : l.length ≤ i
  all : ∀ e ∈ l, e.gain ≤ (vcP g i).2 ∧ e.place < (i : Int)
  top : (l = [] ∧ (vcP g i).1 = -1 ∧ (vcP g i).2 = 0) ∨ l[0]? = some ⟨(vcP g i).1, (vcP g i).2⟩
theorem VcI.zero (g : Nat → Int) : VcI g 0 [] := ⟨Nat.le_refl _, fun e h => (by cases h), .inl ⟨rfl, rfl, rfl⟩⟩
theorem VcI.skip {g : Nat → Int} {i : Nat} {l : List Vi} (h : VcI g i l) (hg : ¬ 0 < g i) : VcI g (i + 1) l := by
  have h0 := (vcP_lim g i).2.2
  have e : vcP g (i + 1) = vcP g i := vcP_no (by omega)
  refine ⟨by have := h.len; omega, fun x hx => ?_, by rw [e]; exact h.top⟩
  rw [e]
  have := h.all x hx
  exact ⟨this.1, by have := this.2; omega⟩
theorem VcI.push {g : Nat → Int} {i : Nat} {l l2 : List Vi} (h : VcI g i l) (hl : l2.length = l.length + 1) (hm : ∀ e ∈ l2, e = (⟨(i : Int), g i⟩ : Vi) ∨ e ∈ l)
    (ht : l2[0]? = some (if decide ((vcP g i).2 < g i) then ⟨(i : Int), g i⟩ else ⟨(vcP g i).1, (vcP g i).2⟩)) : VcI g (i + 1) l2 := by
  by_cases c : (vcP g i).2 < g i
  · have e : vcP g (i + 1) = ((i : Int), g i) := vcP_yes c
    rw [decide_eq_true c, if_pos rfl] at ht
    refine ⟨by have := h.len; omega, fun x hx => ?_, .inr (by rw [e]; exact ht)⟩
    rw [e]
    rcases hm x hx with rfl | hx
    · exact ⟨Int.le_refl _, by show (i : Int) < ((i + 1 : Nat) : Int); omega⟩
    · have := h.all x hx
      exact ⟨by show x.gain ≤ g i; omega, by have := this.2; omega⟩
  · have e : vcP g (i + 1) = vcP g i := vcP_no c
    rw [decide_eq_false c, if_neg (by simp)] at ht
    refine ⟨by have := h.len; omega, fun x hx => ?_, .inr (by rw [e]; exact ht)⟩
    rw [e]
    rcases hm x hx with rfl | hx
    · exact ⟨by show g i ≤ _; omega, by show (i : Int) < ((i + 1 : Nat) : Int); omega⟩
    · have := h.all x hx
      exact ⟨this.1, by have := this.2; omega⟩
theorem VcI.more {g : Nat → Int} {i : Nat} {l : List Vi} (h : VcI g i l) : decide ((vcP g i).2 < g i) = true → ∀ e ∈ l, viL (⟨(i : Int), g i⟩ : Vi) e = true := fun c e he => by
  have c := of_decide_eq_true c
  exact viL_more (by have := (h.all e he).1; show e.gain < g i; omega)
theorem VcI.less {g : Nat → Int} {i : Nat} {l : List Vi} (h : VcI g i l) (hg : 0 < g i) : decide ((vcP g i).2 < g i) = false → l[0]? = some (⟨(vcP g i).1, (vcP g i).2⟩ : Vi) ∧ viL (⟨(i : Int), g i⟩ : Vi) ⟨(vcP g i).1, (vcP g i).2⟩ = false := fun c => by
  have c := of_decide_eq_false c
  have hlim := vcP_lim g i
  rcases h.top with ⟨_, _, e⟩ | e
  · rw [e] at c; omega
  · exact ⟨e, viL_less (by show g i ≤ (vcP g i).2; omega) (by show (vcP g i).1 ≤ (i : Int); omega)⟩
theorem cell_sameV {w w' : World} {g o : Nat} (h : w'.heap[g]? = w.heap[g]?) : w'.cell? ⟨g, o, none⟩ = w.cell? ⟨g, o, none⟩ := by
  unfold World.cell?
  simp only [h]

theorem HpL.weak {K K' : Nat → Prop} {W x : World} {p : Nat} {a : Option Addr} {cap : Nat} {l : List Vi} (h : HpL K W p x a cap l) (hK : ∀ k, K' k → K k) : HpL K' W p x a cap l :=
  ⟨h.box, h.row, h.bel, fun k hk => h.kept k (hK k hk), h.len, fun c => h.np (hK p c), fun k hk => ⟨(h.ne k hk).1, fun c => (h.ne k hk).2 (hK k c)⟩⟩

set_option maxRecDepth 100000 in
set_option maxHeartbeats 8000000 in
theorem implVictimOf_any (S : So) (v : Value) (w : World) (h : SoRd w v S) (hL : S.lean) (ht : SumTab w) :
    Calls Tryz.prog 14 #[v] w fun e w' => e = .returned (.int .i64 (vcO S)) ∧ Below w.heap.size w w' := by
  obtain ⟨va, vb, au, af, cu, cf, rfl, _, hu, _⟩ := h.opened
  obtain ⟨ad, cap, ev, hrow⟩ := hu.segs
  injection ev with e1 e2 e3
  subst e1 e3
  have b0 := belNew w (.cells #[va, vb, .int .i64 S.g.segs, .slice au S.g.used.length cu, .int .i64 S.g.ng, .int .i64 S.g.ns, .int .i64 S.g.st, .int .i64 S.g.nv, .slice af S.fr.length cf] 41)
  have q0 := Box.new w #[va, vb, .int .i64 S.g.segs, .slice au S.g.used.length cu, .int .i64 S.g.ng, .int .i64 S.g.ns, .int .i64 S.g.st, .int .i64 S.g.nv, .slice af S.fr.length cf] 41
  have hun : S.g.used.length ≤ 1048576 := (S.g.lean_small hL.1).2.1
  have HSZ : Hid (∀ X, Below w.heap.size w X → Calls Tryz.prog 26 #[.agg #[va, vb, .int .i64 S.g.segs, .slice au S.g.used.length cu, .int .i64 S.g.ng, .int .i64 S.g.ns, .int .i64 S.g.st, .int .i64 S.g.nv, .slice af S.fr.length cf]] X fun e w' => ∃ v', e = .returned v' ∧ RBuf intE X.heap.size X w' v' (gns S S.g.used.length)) := fun X hX => gains_any S _ X (h.later hX) hL (ht.later hX)
  have HLIM : Hid (∀ k, -9223372036854775808 ≤ gnI S k ∧ gnI S k ≤ 9223372036854775807) := fun k => gnI_lim S k
  obtain ⟨N, hN⟩ : ∃ N, vcO S = N := ⟨_, rfl⟩
  have HV : Hid ((vcP (gnI S) S.g.used.length).1 = N) := hN
  rw [hN]
  clear hN ht
  have HR : Hid _ := hrow
  clear hu hrow h hL e2
  obtain ⟨W, hW⟩ : ∃ W, w.alloc (.cells #[va, vb, .int .i64 S.g.segs, .slice au S.g.used.length cu, .int .i64 S.g.ng, .int .i64 S.g.ns, .int .i64 S.g.st, .int .i64 S.g.nv, .slice af S.fr.length cf] 41) = W := ⟨_, rfl⟩
  rw [hW] at b0 q0
  have HW := Lib.hid hW
  clear hW
  obtain ⟨n, hn⟩ : ∃ n, S.g.used.length = n := ⟨_, rfl⟩
  have HN := Lib.hid hn
  obtain ⟨m, hm⟩ : ∃ m, S.fr.length = m := ⟨_, rfl⟩
  simp only [hn, hm] at q0 HW HSZ HV ⊢
  rw [hn] at hun
  clear hm hn
  obtain ⟨g0, hg0⟩ : ∃ g0, w.heap.size = g0 := ⟨_, rfl⟩
  rw [hg0] at q0
  have HG0 := Lib.hid hg0
  clear hg0
  have hws : IntKind.i64.wrap ((n : Int) - 1) = (n : Int) - 1 := IntWalk.i64_in _ ⟨by omega, by omega⟩
  have hw2 : IntKind.i64.wrap ((n : Int) - 2) = (n : Int) - 2 := IntWalk.i64_in _ ⟨by omega, by omega⟩
  go_enter Tryz.func14, Tryz.ntmps14
  go_upto_region 1 with fail
  rw [HW.out, HG0.out]
  have hgw : g0 < W.heap.size := q0.lt
  have HGW : Hid (w.heap.size < W.heap.size) := by show _ < _; rw [HG0.out]; exact hgw
  have HBW := Lib.hid b0
  have kA := belNew W (.cells #[] 61)
  have R0 := RBuf.fresh viE W
  have zA : (W.alloc (.cells #[] 61)).heap.size = W.heap.size + 1 := by simp
  have q1 := q0.later kA
  have b1 := b0.trans (kA.mono b0.size)
  obtain ⟨WA, hWA⟩ : ∃ WA, W.alloc (.cells #[] 61) = WA := ⟨_, rfl⟩
  have R0' : RBuf viE W.heap.size W WA (.slice (some ⟨W.heap.size, 0, none⟩) 0 0) [] := by rw [← hWA]; exact R0
  rw [hWA] at zA q1 b1 kA
  have kB := belNew WA (.cells #[.slice (some ⟨W.heap.size, 0, none⟩) 0 0] 58)
  have XP := Box.new WA #[.slice (some ⟨W.heap.size, 0, none⟩) 0 0] 58
  have zB : (WA.alloc (.cells #[.slice (some ⟨W.heap.size, 0, none⟩) 0 0] 58)).heap.size = WA.heap.size + 1 := by simp
  have q2 := q1.later kB
  have b2 := b1.trans (kB.mono b1.size)
  have R2 := (R0'.here.later kB).here
  obtain ⟨WB, hWB⟩ : ∃ WB, WA.alloc (.cells #[.slice (some ⟨W.heap.size, 0, none⟩) 0 0] 58) = WB := ⟨_, rfl⟩
  rw [hWB] at XP zB q2 b2 R2 kB
  rw [zA] at XP zB
  obtain ⟨p, hp⟩ : ∃ p, W.heap.size + 1 = p := ⟨_, rfl⟩
  rw [hp] at XP zB
  obtain ⟨x0, x1, x2, x3, x4, x5, x6, x7, x8⟩ := q2.nineG
  have HWA : Hid (W.alloc (.cells #[] 61) = WA) := hWA
  have HWB : Hid (WA.alloc (.cells #[.slice (some ⟨W.heap.size, 0, none⟩) 0 0] 58) = WB) := hWB
  have HPP : Hid (W.heap.size + 1 = p) := hp
  have hpw : W.heap.size < p := by omega
  have HXP := Lib.hid XP
  have HR0 := Lib.hid R2
  have HB2 := Lib.hid b2
  have HZB : Hid (WB.heap.size = p + 1) := zB
  clear kA R0 R0' zA q1 b1 kB XP q2 hWA hWB hp R2 zB q0 b0
  go_upto_region 2 with fail
  rw [HWA.out, HWB.out, HPP.out]
  go_wp2_with fail
  clear x0 x1 x2 x3 x4 x5 x6 x7 x8 HWA HWB HPP
  refine (HSZ.out _ b2).mono ?_
  rintro e w2 ⟨v2, rfl, R1⟩
  obtain ⟨a1, p1, rfl⟩ := R1.form
  have hsl : (gns S n).length = n := gns_len S n
  rw [hsl] at R1 ⊢
  have hz := HZB.out
  have hzw := R1.bel.size
  have H0 : HpL (fun k => k < w2.heap.size ∧ k ≠ p ∧ k ≠ W.heap.size) w2 p w2 (some ⟨W.heap.size, 0, none⟩) 0 [] :=
    ⟨HXP.out.later R1.bel, ((HR0.out.later R1.bel).here.down (Below.refl _ _) (Nat.zero_le _)).here, Below.refl _ _, fun k hk => ⟨hk.1, rfl⟩, Nat.zero_le _, fun c => c.2.1 rfl, fun k hk => by
      have h9 : W.heap.size = k := Option.some.inj hk
      exact ⟨by omega, fun c => c.2.2 h9.symm⟩⟩
  have HRW : Hid (∀ (k : Nat), k < n → ∃ g off : Nat, a1 = some ⟨g, off, none⟩ ∧ (g < w2.heap.size ∧ g ≠ p ∧ g ≠ W.heap.size) ∧ w2.cell? ⟨g, off + k, none⟩ = some (.int .i64 (gnI S k))) := fun k hk => by
    obtain ⟨g, off, e, hc⟩ := R1.rows.intAt hsl (gns_at S hk)
    refine ⟨g, off, e, ?_, hc w2 (Below.refl _ _)⟩
    have := R1.own.lt g (by rw [e]; rfl)
    exact ⟨this.2, by have := this.1; omega, by have := this.1; omega⟩
  have HBZ : Hid (∀ (wr : World) (a : Option Addr) (cap : Nat) (l : List Vi), HpL (fun k => k < w2.heap.size ∧ k ≠ p ∧ k ≠ W.heap.size) w2 p wr a cap l → HpL (fun k => k < w.heap.size) w2 p wr a cap l) := fun wr a cap l hh => hh.weak (fun k hk => by
    have h1 := HGW.out
    have h2 := HB2.out.size
    exact ⟨by omega, by omega, by omega⟩)
  have HB3 := Lib.hid (HB2.out.trans (R1.bel.mono HB2.out.size))
  have HH0 := Lib.hid H0
  clear R1 H0 hsl hz hzw b2 HSZ HXP HR0 HB2 HR
  go_wp2_with fail
  go_loopw [11] (fun iv wr => ∃ (k : Nat) (a : Option Addr) (cap : Nat) (l : List Vi), k ≤ n ∧ iv = .int .i64 (k : Int) ∧ Hid (VcI (gnI S) k l) ∧ Hid (HpL (fun k => k < w2.heap.size ∧ k ≠ p ∧ k ≠ W.heap.size) w2 p wr a cap l)) (fun iv _ => n - (intOf iv).toNat)
  case atStart => exact ⟨0, _, _, [], by omega, rfl, VcI.zero _, HH0⟩
  case round =>
    clear HH0
    obtain ⟨k, a, cap, l, hk, rfl, HC, HH⟩ := hrel
    by_cases hlt : k < n
    · obtain ⟨gz, oz, rfl, hK, hz0⟩ := HRW.out k hlt
      have z0 : wr.cell? ⟨gz, oz + k, none⟩ = some (.int .i64 (gnI S k)) := (cell_sameV (HH.out.kept gz hK).2).trans hz0
      have hi0 : (0 : Int) ≤ (k : Int) := by omega
      have hi1 : (k : Int) < (n : Int) := by omega
      have hll := HC.out.len
      have HPS : Hid (0 < gnI S k → Calls Tryz.prog 27 #[.iface 56 (.pointer (some ⟨p, 0, none⟩)), .iface 61 (.agg #[.int .i64 (k : Int), .int .i64 (gnI S k)])] wr fun e w' => e = .returned (.tuple #[]) ∧
          ∃ (a : Option Addr) (cap : Nat) (l : List Vi), VcI (gnI S) (k + 1) l ∧ HpL (fun k => k < w2.heap.size ∧ k ≠ p ∧ k ≠ W.heap.size) w2 p w' a cap l) := fun hg => by
        refine (heapPush_any _ w2 wr p a cap l ⟨(k : Int), gnI S k⟩ ⟨(vcP (gnI S) k).1, (vcP (gnI S) k).2⟩ (decide ((vcP (gnI S) k).2 < gnI S k)) HH.out (by omega) HC.out.more (HC.out.less hg)).mono ?_
        rintro e w' ⟨rfl, a2, c2, l2, h1, h2, h3, h4⟩
        exact ⟨rfl, a2, c2, l2, HC.out.push h2 h4 h3, h1⟩
      have HSK : Hid (¬ 0 < gnI S k → VcI (gnI S) (k + 1) l) := fun hg => HC.out.skip hg
      obtain ⟨G, hG⟩ : ∃ G, gnI S k = G := ⟨_, rfl⟩
      rw [hG] at z0 HPS HSK
      clear hK hz0 hll hG HC
      by_cases hg : 0 < G
      · have HPS2 := Lib.hid (HPS.out hg)
        clear HPS HSK
        go_wp2_with fail
        clear z0
        refine HPS2.out.mono ?_
        rintro e w3 ⟨rfl, a3, c3, l3, h3, h4⟩
        have HC3 := Lib.hid h3
        have HH3 := Lib.hid h4
        clear HPS2 HH h3 h4
        go_wp2
        exact ⟨⟨k + 1, a3, c3, l3, by omega, by simp, HC3, HH3⟩, by first | omega | (simp [intOf]; omega)⟩
      · have HC3 := Lib.hid (HSK.out hg)
        have hg2 : ¬ (G > 0) := hg
        clear HPS HSK
        go_wp2_with fail
        exact ⟨⟨k + 1, a, cap, l, by omega, by simp, HC3, HH⟩, by first | omega | (simp [intOf]; omega)⟩
    · have hkn : k = n := by omega
      subst hkn
      have c0 := HH.out.cell
      have hlen := HH.out.len
      have HLN := Lib.hid (lenVi_any a l.length cap wr)
      have HF := Lib.hid (HB3.out.trans ((HBZ.out wr a cap l HH.out).below (fun k hk => hk)))
      rcases HC.out.top with ⟨e1, e2, e3⟩ | et
      · subst e1
        have HE : Hid (N = -1) := by show _ = _; rw [← HV.out]; exact e2
        have c0' : wr.cell? ⟨p, 0, none⟩ = some (.slice a 0 cap) := c0
        have HLN2 : Hid (Calls Tryz.prog 28 #[.slice a 0 cap] wr fun e w' => e = .returned (.int .i64 0) ∧ w' = wr) := HLN.out
        clear HC HRW e2 e3 c0 HLN HH hlen
        go_wp2_with fail
        refine HLN2.out.mono ?_
        rintro e wx ⟨rfl, rfl⟩
        clear HLN2
        go_wp2
        go_ret
        exact ⟨by rw [HE.out]; first | done | rfl | simp, HF.out⟩
      · obtain ⟨m2, hm2⟩ : ∃ m2, l.length = m2 + 1 := ⟨l.length - 1, by have := (List.getElem?_eq_some_iff.1 et).1; omega⟩
        have HBS := Lib.hid (best_any w.heap.size w2 wr p a cap m2 l ⟨(vcP (gnI S) k).1, (vcP (gnI S) k).2⟩ (HBZ.out wr a cap l HH.out) hm2 et)
        have HV2 := Lib.hid HV.out
        obtain ⟨bp, hbp⟩ : ∃ bp, (vcP (gnI S) k).1 = bp := ⟨_, rfl⟩
        obtain ⟨bg, hbg⟩ : ∃ bg, (vcP (gnI S) k).2 = bg := ⟨_, rfl⟩
        rw [hbp] at HV2
        rw [hbp, hbg] at HBS
        simp only at HBS
        have hne : ¬ (l.length = 0) := by omega
        obtain ⟨ln, hln⟩ : ∃ ln, l.length = ln := ⟨_, rfl⟩
        rw [hln] at c0 HLN hne
        have hq : ((ln : Int) == 0) = false := beq_eq_false_iff_ne.2 (by omega)
        have hq2 : ¬ ((ln : Int) = 0) := by omega
        clear HC HRW HV HH hlen hm2 et hbp hbg hln
        have hfi : ∀ X : World, (Instr.field 61 (.agg #[.int .i64 bp, .int .i64 bg]) 0).run Tryz.prog X = .ok (.int .i64 bp) X := fun _ => by kernel_rfl
        go_wp2_with fail
        refine HLN.out.mono ?_
        rintro e wx ⟨rfl, rfl⟩
        clear HLN
        go_wp2_with fail
        refine HBS.out.mono ?_
        rintro e w5 ⟨rfl, k5⟩
        have HF5 := Lib.hid (HB3.out.trans k5)
        clear HBS k5
        go_wp2
        go_ret
        exact ⟨by rw [← HV2.out]; first | done | rfl | simp, HF5.out⟩

end Go.Proofs.YtleaahdnpjnmlaaGreatDoor
