/- Texts of our own, joined. -/
import Derived.Test.YtfhkhiejnemndaaGreatDoorJix
import Derived.Test.YtfhkhiejnemndaaGreatDoorJvx
import Derived.Test.YtfhkhiejnemndaaGreatDoorJwx
import Derived.Below
import Derived.Deep.RegionHeld3
import Derived.Test.YtfhkhiejnemndaaGreatDoorJg
import Derived.ProofKit
import Derived.LaidMore
/- The walk of the law on opening a segment. -/
namespace Go.Proofs.YtfhkhiejnemndaaGreatDoor
open Go.RowKit
set_option maxRecDepth 100000
set_option maxHeartbeats 8000000
theorem Rows'.intFirst {w : World} {v : Value} {l : List Int} {k : Int} (h : Rows' intE w v l) (h0 : l[0]? = some k) : ∃ (g off c : Nat), v = .slice (some ⟨g, off, none⟩) l.length c ∧ g < w.heap.size ∧ w.cell? ⟨g, off, none⟩ = some (.int .i64 k) := by
  rcases h.ways with ⟨rfl, a, c, e⟩ | ⟨hne, g, off, c, e, hc, hg, hcl⟩
  · cases h0
  · exact ⟨g, off, c, e, hg, by have := hcl 0 k h0 0 _ rfl; simpa using this⟩
theorem LgP.agg {B T : Nat} {w : World} {va vb vu : Value} {L : Lg} {hs : List SgH} (h : LgP B T w va vb vu L hs) : LRd w (.agg #[va, vb, .int .i64 L.segs, vu, .int .i64 L.ng, .int .i64 L.ns, .int .i64 L.st, .int .i64 L.nv]) L := ⟨va, vb, vu, rfl, h.down.rd, h.use.own.rd⟩
theorem walk_FnOpens (a : Option Addr) (len cap : Nat) (w : World) (hcode : CodeIn w a len) (htab : SumTab w) :
    Calls Tryz.prog 4 #[.slice a len cap] w fun e w' => e = .returned (.bool true) ∧ Below w.heap.size w w' := by
  by_cases hbig : (1048576 : Int) < (len : Int)
  · go_enter Tryz.func4, Tryz.ntmps4
    go_wp2_with (go_at_call 6; refine (big_any a len cap _).mono ?_; rintro e w1 ⟨rfl, rfl⟩; rw [decide_eq_true hbig])
    go_ret; exact ⟨rfl, Below.refl _ _⟩
  have hlen : len ≤ 1048576 := by omega
  have HNB : Hid (decide ((1048576 : Int) < (len : Int)) = false) := decide_eq_false hbig; have HCO : Hid (∀ w', Below w.heap.size w w' → CodeIn w' a len ∧ SumTab w') := fun w' hb => ⟨hcode.later hb, htab.later hb⟩; clear htab; go_enter Tryz.func4, Tryz.ntmps4
  go_wp2_with fail
  refine (big_any a len cap _).mono ?_; rintro e w0 ⟨rfl, rfl⟩; rw [HNB.out]; go_wp2_with fail
  refine (drawLog_any a len cap _ hcode hlen).mono ?_; rintro e w1 ⟨L, k, va, vb, vu, hs, hk, hN, rfl, P1, b1⟩; have HW := Lib.hid (hN.w (by omega)); have hng := hN.ng; have HNG : Hid (L.ng < 1000000000) := by show _ < _; omega
  have HL := Lib.hid HW.out.lean; obtain ⟨aa, ab, au, ca, cb, cu, rfl, rfl, rfl⟩ := P1.form; clear hN hng hcode
  -- the box of g
  have kA := belNew w1 (.cells (lgC (.slice aa L.d.sec.length ca) (.slice ab L.d.cache.length cb) (.slice au L.used.length cu) L) 30); have G2 := Box.new w1 (lgC (.slice aa L.d.sec.length ca) (.slice ab L.d.cache.length cb) (.slice au L.used.length cu) L) 30; have P2 := P1.later kA; have b2 := b1.trans (kA.mono b1.size); unfold lgC at kA G2 P2 b2; go_upto_region 4 with fail
  generalize w1.alloc (.cells #[.slice aa L.d.sec.length ca, .slice ab L.d.cache.length cb, .int .i64 L.segs, .slice au L.used.length cu, .int .i64 L.ng, .int .i64 L.ns, .int .i64 L.st, .int .i64 L.nv] 30) = w2 at G2 P2 b2 kA ⊢; obtain ⟨gG, hgG⟩ : ∃ gG, w1.heap.size = gG := ⟨_, rfl⟩; rw [hgG] at G2 ⊢; clear P1 b1 kA hgG; go_wp2_with fail
  refine (drawPlaces_any a len cap _ (HCO.out _ b2).1 hlen).mono ?_; rintro e w3 ⟨l, v3, hl12, hlz, rfl, hib⟩; have k3 := hib.bel; obtain ⟨gp, cp, z0, z1, rfl, hcp, hgp, p0, _⟩ := places2 hl12 hlz hib; have G3 := G2.later k3; have P3 := P2.later k3; have b3 := b2.trans (k3.mono b2.size); clear G2 P2 b2 hib k3 hlz hl12; have hi12 : (0 : Int) < 12 := by decide
  go_upto_region 6 with fail
  obtain ⟨K, hK⟩ : ∃ K : Nat, ((z0 : Int) % 4) = (K : Int) := ⟨((z0 : Int) % 4).toNat, by omega⟩; rw [hK]; clear hK p0 hi12 hcp hgp
  -- what is free
  have hlu := (L.lean_small HL.out).2.1; have HFS := Lib.hid (implFreeSegs_any L _ w3 P3.agg hlu); have bx := G3; obtain ⟨x0, x1, x2, x3, x4, x5, x6, x7, _⟩ := bx.eightL; go_wp2_with fail
  clear x0 x1 x2 x3 x4 x5 x6 x7 bx; refine HFS.out.mono ?_; rintro e w4 ⟨v4, rfl, R4⟩; have k4 := R4.bel; obtain ⟨af, cf, rfl⟩ := R4.form; have G4 := G3.later k4; have P4 := P3.later k4; have b4 := b3.trans (k4.mono b3.size); have F4 := R4.rows; clear HFS G3 P3 b3 R4 k4
  -- a segment is opened
  have HOS := Lib.hid (implOpenSeg_any L (K : Int) _ _ _ _ _ hs w4 P4 HL.out (HCO.out _ b4).2); obtain ⟨x0, x1, x2, x3, x4, x5, x6, x7, _⟩ := G4.eightL; go_wp2_with fail
  clear x0 x1 x2 x3 x4 x5 x6 x7; refine HOS.out.mono ?_; rintro e w5 ⟨v5, rfl, O5, k5⟩; have G5 := G4.later k5; have P5 := P4.later k5; have F5 := F4.later k5; have b5 := b4.trans (k5.mono b4.size); clear HOS G4 P4 b4 F4; have HCN := Lib.hid HW.out.q.cnt; by_cases hc : (K : Int) < ((fr L).length : Int)
  · obtain ⟨M, ho, hMu, hMf, hMW⟩ := HW.out.opens HNG.out (by omega) hc
    rw [opS_yes HW.out.okI (by omega), ho] at O5 ⊢; have O5' : LgO w4.heap.size w5.heap.size w5 v5 M := O5; obtain ⟨vd, ve, vg, hs5, rfl, Q5⟩ := O5'; obtain ⟨ad, ae, ag, cd, ce, cg, rfl, rfl, rfl⟩ := Q5.form; have HMU := Lib.hid hMu; have HMF := Lib.hid hMf; have HMW := Lib.hid hMW; clear O5 hMu hMf hMW ho; have kB := belNew w5 (.cells #[.slice ad M.d.sec.length cd, .slice ae M.d.cache.length ce, .int .i64 M.segs, .slice ag M.used.length cg, .int .i64 M.ng, .int .i64 M.ns, .int .i64 M.st, .int .i64 M.nv] 30); have A6 := Box.new w5 #[.slice ad M.d.sec.length cd, .slice ae M.d.cache.length ce, .int .i64 M.segs, .slice ag M.used.length cg, .int .i64 M.ng, .int .i64 M.ns, .int .i64 M.st, .int .i64 M.nv] 30; have Q6 := Q5.later kB; have G6 := G5.later kB; have P6 := P5.later kB; have F6 := F5.later kB; have b6 := b5.trans (kB.mono b5.size); clear Q5 G5 P5 F5 b5; go_upto_region 8 with fail
    generalize w5.alloc (.cells #[.slice ad M.d.sec.length cd, .slice ae M.d.cache.length ce, .int .i64 M.segs, .slice ag M.used.length cg, .int .i64 M.ng, .int .i64 M.ns, .int .i64 M.st, .int .i64 M.nv] 30) = w6 at A6 Q6 G6 P6 F6 b6 kB ⊢; obtain ⟨gA, hgA⟩ : ∃ gA, w5.heap.size = gA := ⟨_, rfl⟩; rw [hgA] at A6 ⊢; clear kB hgA; obtain ⟨x0, x1, x2, x3, x4, x5, x6, x7, _⟩ := G6.eightL; obtain ⟨nf, hnf⟩ : ∃ nf, (fr L).length = nf := ⟨_, rfl⟩; obtain ⟨nu, hnu⟩ : ∃ nu, L.used.length = nu := ⟨_, rfl⟩; have hsg := HW.out.q.segs; have hsum : (nf : Int) + (nu : Int) = L.segs := by have := HCN.out; omega
    have hwr : IntKind.i64.wrap ((nf : Int) + (nu : Int)) = L.segs := by rw [hsum]; exact IntWalk.i64_in _ ⟨by omega, by omega⟩
    rw [hnf] at F6 hc ⊢; have HNU := Lib.hid hnu; have HP6 := Lib.hid P6; have HQ6 := Lib.hid Q6; rw [hnu] at x3 ⊢; have hbeq : (L.segs != L.segs) = false := by simp
    have HA6 := Lib.hid A6; have HG6 := Lib.hid G6; obtain ⟨y0, y1, y2, y3, y4, y5, y6, y7, _⟩ := HA6.out.eightL; obtain ⟨nm, hnm⟩ : ∃ nm, M.used.length = nm := ⟨_, rfl⟩; have HNM := Lib.hid hnm; have hnm2 : nm = nu + 1 := by rw [← hnm, HMU.out, List.length_append, HNU.out]; rfl
    rw [hnm] at y3 HA6; try rw [hnm]
    have hwm : IntKind.i64.wrap ((nm : Int) - 1) = (nu : Int) := by rw [hnm2]; exact (IntWalk.i64_in _ ⟨by omega, by omega⟩).trans (by omega)
    have hnu0 : (0 : Int) ≤ (nu : Int) := by omega
    have hnu1 : (nu : Int) < (nm : Int) := by omega
    -- the head as it lies
    have hrow := HQ6.out.use.own; have hlen6 : hs5.length = nm := by rw [hrow.len, HNM.out]
    obtain ⟨y, hy⟩ : ∃ y, hs5[nu]? = some y := ⟨_, List.getElem?_eq_getElem (by omega)⟩; have hsu : M.used[nu]? = some ⟨(opN L : Int), L.ng, ((hdT L.ng).size : Int), []⟩ := by rw [HMU.out, ← HNU.out]; simp
    obtain ⟨hye, hyr⟩ := hrow.at' nu y _ hy hsu; have hrr := hrow.row; rw [show M.used.length = hs5.length by rw [hlen6, HNM.out]] at hrr; obtain ⟨gr, rfl⟩ : ∃ gr, ag = some ⟨gr, 0, none⟩ := by
      rcases hrr.own.2 with ⟨_, h2⟩ | ⟨g, cp, cur, hv, _⟩
      · omega
      · injection hv with e1 e2 e3
        exact ⟨g, e1⟩
    have q0 := hrr.cell rfl nu y hy 0 _ rfl; have q1 := hrr.cell rfl nu y hy 1 _ rfl; have q2 := hrr.cell rfl nu y hy 2 _ rfl; have q3 := hrr.cell rfl nu y hy 3 _ rfl; rw [hye.1] at q0; rw [hye.2.1] at q1; rw [hye.2.2] at q2; simp only [show sgE.sz = 4 from rfl, Nat.add_zero] at q0 q1 q2 q3
    -- what is free, its first
    obtain ⟨gf, of, cf2, hfe, hgf, hfc⟩ := F6.intFirst (opN_at (L := L) (by rw [hnf]; omega)).1; rw [hnf] at hfe; injection hfe with e1 e2 e3; subst e1 e3; have HFC := Lib.hid hfc; have HGF := Lib.hid hgf; have hnf2 : (fr M).length + 1 = nf := by rw [← hnf]; exact HMF.out
    have HNB11 : Hid (nf ≤ 11) := by show _ ≤ _; rw [← hnf]; exact fr_len L
    have HNF2 := Lib.hid hnf2; have hgH := G6.lt; clear A6 P6 Q6 G6 hnf hnu hsum hsg hfc hgf hye hyr hrr hrow hsu hy hlen6 hnm F6; have kC := belNew w6 (.cells #[.int .i64 (opN L : Int), .int .i64 L.ng, .int .i64 ((hdT L.ng).size : Int), .slice y.a y.n y.c] 50); have H7 := Box.new w6 #[.int .i64 (opN L : Int), .int .i64 L.ng, .int .i64 ((hdT L.ng).size : Int), .slice y.a y.n y.c] 50; obtain ⟨w7, hw7⟩ : ∃ x, w6.alloc (.cells #[.int .i64 (opN L : Int), .int .i64 L.ng, .int .i64 ((hdT L.ng).size : Int), .slice y.a y.n y.c] 50) = x := ⟨_, rfl⟩; rw [hw7] at kC H7; have HW7 := Lib.hid hw7; obtain ⟨gH, hgH2⟩ : ∃ gH, w6.heap.size = gH := ⟨_, rfl⟩; have HGH := Lib.hid hgH2; rw [hgH2] at H7; have HH7 := Lib.hid H7; have HKC := Lib.hid kC; clear hw7 hgH2 H7 kC hgH; have hcN : K < nf := by omega
    have hcd : decide (K < nf) = true := decide_eq_true hcN; have HNM2 := Lib.hid hnm2; clear hnm2 hnf2; go_upto_region 13 with fail
    rw [HW7.out, HGH.out]; obtain ⟨m, hm⟩ : ∃ m, (fr M).length = m := ⟨_, rfl⟩; have HM := Lib.hid hm; have hwf : IntKind.i64.wrap ((nf : Int) - 1) = (m : Int) := (IntWalk.i64_in _ ⟨by omega, by have := HNB11.out; omega⟩).trans (by have := HNF2.out; omega); have hbm : ((m : Int) == (m : Int)) = true := by simp
    have hbn : ((opN L : Int) == (opN L : Int)) = true := by simp
    have hbg : (L.ng == L.ng) = true := by simp
    have hnf0 : (0 : Int) < (nf : Int) := by omega
    have hnfN : 0 < nf := by omega
    have hnfz : ¬ (nf = 0) := by omega
    have hnfl : ¬ (nf ≤ 0) := by omega
    have HOM : Hid (sameP (lgOkI M) = true) := sameP_yes HMW.out.okI; have HIT : Hid (its M.used = its L.used) := by show _ = _; rw [HMU.out, its_append]; simp only [its, List.append_nil]
    have HIL : Hid ((its L.used).length ≤ 200) := HW.out.q.few; have HLM := Lib.hid HMW.out.lean; have HY : Hid (∀ Y, Below w7.heap.size w7 Y → ((Y.cell? ⟨gG, 0, none⟩ = some (.slice aa L.d.sec.length ca) ∧ Y.cell? ⟨gG, 1, none⟩ = some (.slice ab L.d.cache.length cb) ∧ Y.cell? ⟨gG, 2, none⟩ = some (.int .i64 L.segs) ∧ Y.cell? ⟨gG, 3, none⟩ = some (.slice au nu cu) ∧ Y.cell? ⟨gG, 4, none⟩ = some (.int .i64 L.ng) ∧ Y.cell? ⟨gG, 5, none⟩ = some (.int .i64 L.ns) ∧ Y.cell? ⟨gG, 6, none⟩ = some (.int .i64 L.st) ∧ Y.cell? ⟨gG, 7, none⟩ = some (.int .i64 L.nv)) ∧ (Y.cell? ⟨gA, 0, none⟩ = some (.slice ad M.d.sec.length cd) ∧ Y.cell? ⟨gA, 1, none⟩ = some (.slice ae M.d.cache.length ce) ∧ Y.cell? ⟨gA, 2, none⟩ = some (.int .i64 M.segs) ∧ Y.cell? ⟨gA, 3, none⟩ = some (.slice (some ⟨gr, 0, none⟩) nm cg) ∧ Y.cell? ⟨gA, 4, none⟩ = some (.int .i64 M.ng) ∧ Y.cell? ⟨gA, 5, none⟩ = some (.int .i64 M.ns) ∧ Y.cell? ⟨gA, 6, none⟩ = some (.int .i64 M.st) ∧ Y.cell? ⟨gA, 7, none⟩ = some (.int .i64 M.nv)) ∧ (Y.cell? ⟨gH, 0, none⟩ = some (.int .i64 (opN L : Int)) ∧ Y.cell? ⟨gH, 1, none⟩ = some (.int .i64 L.ng)) ∧ Y.cell? ⟨gf, of, none⟩ = some (.int .i64 (opN L : Int))) ∧ (LRd Y (.agg #[.slice aa L.d.sec.length ca, .slice ab L.d.cache.length cb, .int .i64 L.segs, .slice au nu cu, .int .i64 L.ng, .int .i64 L.ns, .int .i64 L.st, .int .i64 L.nv]) L ∧ LRd Y (.agg #[.slice ad M.d.sec.length cd, .slice ae M.d.cache.length ce, .int .i64 M.segs, .slice (some ⟨gr, 0, none⟩) nm cg, .int .i64 M.ng, .int .i64 M.ns, .int .i64 M.st, .int .i64 M.nv]) M ∧ SumTab Y) ∧ Below w.heap.size w Y) := fun Y hY => by
      have k6 : Below w6.heap.size w6 Y := HKC.out.trans (hY.mono HKC.out.size); obtain ⟨a0, a1, a2, a3, a4, a5, a6, a7, _⟩ := (HG6.out.later k6).eightL; rw [HNU.out] at a3; obtain ⟨c0, c1, c2, c3, c4, c5, c6, c7, _⟩ := (HA6.out.later k6).eightL; have h7 := HH7.out.later hY; have r1 := (HP6.out.later k6).agg; have r2 := (HQ6.out.later k6).agg; rw [HNU.out] at r1; rw [HNM.out] at r2; exact ⟨⟨⟨a0, a1, a2, a3, a4, a5, a6, a7⟩, ⟨c0, c1, c2, c3, c4, c5, c6, c7⟩, ⟨h7.cell 0 _ rfl, h7.cell 1 _ rfl⟩, (k6.cell (p := ⟨gf, of, none⟩) HGF.out).trans HFC.out⟩, ⟨r1, r2, (HCO.out _ (b6.trans (k6.mono b6.size))).2⟩, b6.trans (k6.mono b6.size)⟩
    have kk : Below w7.heap.size w7 w7.drew := (Below.refl _ _).drew; have hcg : ∀ b ∈ L.used, ∀ x ∈ b.items, x.2.user.size ≤ 1048576 ∧ x.2.name.size ≤ 1048576 ∧ x.2.text.size ≤ 1048576 := L.lean_texts HL.out; have HTM := Lib.hid (M.lean_texts HLM.out); clear x0 x1 x2 x3 x4 x5 x6 x7 y0 y1 y2 y3 y4 y5 y6 y7 q0 q1 q2 q3 hm hwm hnu0 hnu1 hwr hbeq hcg; go_region_held3 (fun Y => ((Y.cell? ⟨gG, 0, none⟩ = some (.slice aa L.d.sec.length ca) ∧ Y.cell? ⟨gG, 1, none⟩ = some (.slice ab L.d.cache.length cb) ∧ Y.cell? ⟨gG, 2, none⟩ = some (.int .i64 L.segs) ∧ Y.cell? ⟨gG, 3, none⟩ = some (.slice au nu cu) ∧ Y.cell? ⟨gG, 4, none⟩ = some (.int .i64 L.ng) ∧ Y.cell? ⟨gG, 5, none⟩ = some (.int .i64 L.ns) ∧ Y.cell? ⟨gG, 6, none⟩ = some (.int .i64 L.st) ∧ Y.cell? ⟨gG, 7, none⟩ = some (.int .i64 L.nv)) ∧ (Y.cell? ⟨gA, 0, none⟩ = some (.slice ad M.d.sec.length cd) ∧ Y.cell? ⟨gA, 1, none⟩ = some (.slice ae M.d.cache.length ce) ∧ Y.cell? ⟨gA, 2, none⟩ = some (.int .i64 M.segs) ∧ Y.cell? ⟨gA, 3, none⟩ = some (.slice (some ⟨gr, 0, none⟩) nm cg) ∧ Y.cell? ⟨gA, 4, none⟩ = some (.int .i64 M.ng) ∧ Y.cell? ⟨gA, 5, none⟩ = some (.int .i64 M.ns) ∧ Y.cell? ⟨gA, 6, none⟩ = some (.int .i64 M.st) ∧ Y.cell? ⟨gA, 7, none⟩ = some (.int .i64 M.nv)) ∧ (Y.cell? ⟨gH, 0, none⟩ = some (.int .i64 (opN L : Int)) ∧ Y.cell? ⟨gH, 1, none⟩ = some (.int .i64 L.ng)) ∧ Y.cell? ⟨gf, of, none⟩ = some (.int .i64 (opN L : Int))))
      (first | exact (HY.out _ kk).1)
      (first
        | (go_at_call 13; obtain ⟨_, ⟨_, y2, y3⟩, _⟩ := HY.out _ kk; refine (implLogOk_any M _ _ y2 HLM.out y3).mono ?_; rintro e wX ⟨rfl, kX⟩; rw [HOM.out]; have kk := kk.trans (kX.mono kk.size); clear y2 y3 kX)
        | (go_at_call 18; obtain ⟨_, ⟨_, y2, y3⟩, _⟩ := HY.out _ kk; refine (implFreeSegs_any M _ _ y2 (M.lean_small HLM.out).2.1).mono ?_; rintro e wX ⟨vX, rfl, RX⟩; have kX := RX.bel; obtain ⟨aX, cX, rfl⟩ := RX.form; rw [HM.out]; have kk := kk.trans (kX.mono kk.size); clear y2 y3 kX RX)
        | (go_at_call 14; obtain ⟨_, ⟨_, y2, y3⟩, _⟩ := HY.out _ kk; refine (implItemsOf_any M _ _ y2 (by have := HLM.out.2.1; omega) HTM.out).mono ?_; rintro e wX ⟨vI, rfl, RI⟩; have kX := RI.bel; rw [HIT.out] at RI; have HRI := Lib.hid RI.rows; have kk := kk.trans (kX.mono kk.size); clear y2 y3 kX RI)
        | (go_at_call 15; obtain ⟨_, ⟨y1, _, y3⟩, _⟩ := HY.out _ kk; refine (specItemsOf_any L _ _ y1 (by have := HL.out.2.1; omega)).mono ?_; rintro e wZ ⟨vS, rfl, RS⟩; have kX := RS.bel; have HRS := Lib.hid RS.rows; have HRI2 := Lib.hid (HRI.out.later kX); have kk := kk.trans (kX.mono kk.size); clear y1 y3 kX RS)
        | (go_at_call 16; refine (sameItems_same (its L.used) _ _ _ HRI2.out HRS.out (by have := HIL.out; omega)).mono ?_; rintro e wV ⟨rfl, kX⟩; have kk := kk.trans (kX.mono kk.size); clear kX))
    all_goals
      have bE := (HY.out _ kk).2.2
      go_wp2
      go_ret
      exact ⟨rfl, bE⟩
  · have ho : opO L (K : Int) = none := opO_no (by omega)
    rw [opS_yes HW.out.okI (by omega), ho] at O5 ⊢; have O5' : LgO w4.heap.size w5.heap.size w5 v5 L := O5; obtain ⟨vd, ve, vg, hs5, rfl, Q5⟩ := O5'; obtain ⟨ad, ae, ag, cd, ce, cg, rfl, rfl, rfl⟩ := Q5.form; clear O5; have kB := belNew w5 (.cells #[.slice ad L.d.sec.length cd, .slice ae L.d.cache.length ce, .int .i64 L.segs, .slice ag L.used.length cg, .int .i64 L.ng, .int .i64 L.ns, .int .i64 L.st, .int .i64 L.nv] 30); have A6 := Box.new w5 #[.slice ad L.d.sec.length cd, .slice ae L.d.cache.length ce, .int .i64 L.segs, .slice ag L.used.length cg, .int .i64 L.ng, .int .i64 L.ns, .int .i64 L.st, .int .i64 L.nv] 30; have Q6 := Q5.later kB; have G6 := G5.later kB; have P6 := P5.later kB; have F6 := F5.later kB; have b6 := b5.trans (kB.mono b5.size); clear Q5 G5 P5 F5 b5; go_upto_region 8 with fail
    generalize w5.alloc (.cells #[.slice ad L.d.sec.length cd, .slice ae L.d.cache.length ce, .int .i64 L.segs, .slice ag L.used.length cg, .int .i64 L.ng, .int .i64 L.ns, .int .i64 L.st, .int .i64 L.nv] 30) = w6 at A6 Q6 G6 P6 F6 b6 kB ⊢; obtain ⟨gA, hgA⟩ : ∃ gA, w5.heap.size = gA := ⟨_, rfl⟩; rw [hgA] at A6 ⊢; clear kB hgA; obtain ⟨x0, x1, x2, x3, x4, x5, x6, x7, _⟩ := G6.eightL; obtain ⟨nf, hnf⟩ : ∃ nf, (fr L).length = nf := ⟨_, rfl⟩; obtain ⟨nu, hnu⟩ : ∃ nu, L.used.length = nu := ⟨_, rfl⟩; have hsg := HW.out.q.segs; have hsum : (nf : Int) + (nu : Int) = L.segs := by have := HCN.out; omega
    have hwr : IntKind.i64.wrap ((nf : Int) + (nu : Int)) = L.segs := by rw [hsum]; exact IntWalk.i64_in _ ⟨by omega, by omega⟩
    rw [hnf] at F6 hc ⊢; have HNU := Lib.hid hnu; have HP6 := Lib.hid P6; have HQ6 := Lib.hid Q6; rw [hnu] at x3 A6 ⊢; have hbeq : (L.segs != L.segs) = false := by simp
    have HA6 := Lib.hid A6; have HG6 := Lib.hid G6; obtain ⟨y0, y1, y2, y3, y4, y5, y6, y7, _⟩ := HA6.out.eightL; clear A6 P6 Q6 G6 F6 hnf hnu hsum hsg; go_wp2_with fail
    clear x0 x1 x2 x3 x4 x5 x6 x7 y0 y1 y2 y3 y4 y5 y6 y7; have HSL := Lib.hid (specSameLog_any L L _ _ w6 HQ6.out.agg HP6.out.agg (by have := HCN.out; have := HW.out.q.segs; omega) (fun b hb => by have h1 := gIts_mem hb; have h2 := HW.out.q.few; rw [its_len] at h2; omega)); have hse : sameP (L.same L) = true := sameP_yes ⟨rfl, rfl, rfl, rfl⟩; rw [HNU.out, hse] at HSL; refine HSL.out.mono ?_; rintro e w7 ⟨rfl, k7⟩; have bZ := Lib.hid (b6.trans (k7.mono b6.size)); clear HSL; go_wp2; go_ret; exact ⟨rfl, bZ.out⟩

/- The table of sixteen words, where the row lays it. -/
open Go.ChangeShapes Go.WideShapes Go.ChangeAt Go.RowKit
open Go.ChangeMaps (open_string shut_string)
set_option linter.unusedVariables false
theorem sumTabData : (Rows.laid_loop_example_g00287_impl_sumTable : DataW Unit) = Lib.tabData .u32 sumTabI := by rfl
theorem sumTab_of_laid {W : World} (h : laidMetH Tryz.prog [("loop.example/g00287/impl.sumTable", Rows.laid_loop_example_g00287_impl_sumTable)] W) : SumTab W := by
  rw [MakeChecks.laidMetH_plain _ _ _ (by kernel_rfl)] at h; obtain ⟨ps, ⟨g0, t0, cs0, f0, p0, q0, hg0, ht0, hv0, hd0, _, _⟩, _⟩ := h; have hg : Tryz.prog.globalNamed "loop.example/g00287/impl.sumTable" = some 0 := by kernel_rfl
  have ht : (Tryz.prog.globals[0]?).map (·.type) = some 215 := by kernel_rfl
  obtain rfl := Option.some.inj (hg.symm.trans hg0); obtain rfl := Option.some.inj (ht.symm.trans ht0); unfold SumTab Lib.TabIs; rw [sumTabData] at hd0; rw [hv0, ← Lib.cells_of_tab (P := Tryz.prog) Tryz.underlying215 Tryz.underlying174 (by kernel_rfl) (by kernel_rfl) hd0]
end Go.Proofs.YtfhkhiejnemndaaGreatDoor
