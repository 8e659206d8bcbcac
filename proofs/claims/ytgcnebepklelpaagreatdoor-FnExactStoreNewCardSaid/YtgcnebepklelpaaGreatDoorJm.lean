/- Texts of our own, joined. -/
import Derived.Test.YtgcnebepklelpaaGreatDoorJl
import Derived.Deep.RegionHeld3
/- A new head of a log: the model's l09Open. -/
namespace Go.Proofs.YtgcnebepklelpaaGreatDoor
open Go.RowKit

theorem belDrewO (w : World) : Below w.heap.size w w.drew := (Below.refl _ _).drew
theorem keepO {C : World → Prop} {W x y : World} (HS : ∀ x, Below W.heap.size W x → C x) (h : C x ∧ Below W.heap.size W x) (hb : Below x.heap.size x y) : C y ∧ Below W.heap.size W y :=
  ⟨HS _ (h.2.trans (hb.mono h.2.size)), h.2.trans (hb.mono h.2.size)⟩
theorem keepOs {C : World → Prop} {W x : World} {g : Nat} {y z : Value} (HS : ∀ x, Below W.heap.size W x → C x) (hg : W.heap.size ≤ g) (h : C x ∧ Below W.heap.size W x) : C ((x.setCell ⟨g, 0, none⟩ y).setCell ⟨g, 1, none⟩ z) ∧ Below W.heap.size W ((x.setCell ⟨g, 0, none⟩ y).setCell ⟨g, 1, none⟩ z) :=
  have hb := (h.2.setCell (p := ⟨g, 0, none⟩) hg y).setCell (p := ⟨g, 1, none⟩) hg z
  ⟨HS _ hb, hb⟩
theorem ints_first {w : World} {a : Option Addr} {n c : Nat} {l : List Int} {k : Int} (h : Rows' intE w (.slice a n c) l) (h0 : l[0]? = some k) : ∃ g : Nat, ∃ off : Nat, a = some ⟨g, off, none⟩ ∧ g < w.heap.size ∧ ∀ x, Below w.heap.size w x → x.cell? ⟨g, off, none⟩ = some (.int .i64 k) := by
  rcases h.ways with ⟨rfl, a, c, e⟩ | ⟨hne, g, off, c, e, hc, hg, hcl⟩
  · cases h0
  · cases e
    exact ⟨g, off, rfl, hg, fun x hb => (hb.cell (p := ⟨g, off, none⟩) hg).trans (by have := hcl 0 k h0 0 _ rfl; simpa using this)⟩

set_option maxRecDepth 100000 in
set_option maxHeartbeats 8000000 in
theorem l09Open_any (L : Lg) (keep : Int) (pg B T : Nat) (va vb vu : Value) (hs : List SgH) (w : World) (hb : Box w pg (lgC va vb vu L) 28) (hp : LgP B T w va vb vu L hs) (hpg : pg < B ∨ T ≤ pg) (hl : L.used.length ≤ 1048576) (H : OpH L) :
    Calls Tryz.prog 19 #[.pointer (some ⟨pg, 0, none⟩), .int .i64 keep] w fun e w' => OpR L keep pg B T 28 va vb vu hs w e w' := by
  obtain ⟨aa, ab, au, ca, cb, cu, rfl, rfl, rfl⟩ := hp.form
  have hlen : L.used.length = hs.length := hp.use.own.len.symm
  rw [hlen] at hb hp hl ⊢
  have HP := Lib.hid hp
  have HFR := Lib.hid (specFreeSegs_any L _ w ⟨_, _, _, rfl, hp.down.rd, hp.use.own.rd⟩ (by rw [hlen]; exact hl))
  unfold lgC at hb
  have hfl := fr_len L
  have HHL := Lib.hid hl
  have HH := Lib.hid H
  clear hlen hl hp
  obtain ⟨d, segs, us, ng, ns, st, nv⟩ := L
  simp only at hb HP HFR ⊢
  have HB := Lib.hid hb
  obtain ⟨x0, x1, x2, x3, x4, x5, x6, x7⟩ := hb.eightO
  have HPG : Hid (pg < w.heap.size) := hb.lt
  clear hb
  go_enter Tryz.func19, Tryz.ntmps19
  go_wp2_with fail
  clear x0 x1 x2 x3 x4 x5 x6 x7
  refine HFR.out.mono ?_
  rintro e w1 ⟨vf, rfl, rf⟩
  clear HFR
  obtain ⟨af, cf, rfl⟩ := rf.form
  have k1 := rf.bel
  have HRF := Lib.hid rf.rows
  have HNO : Hid (∀ x, Below w.heap.size w x → opO ⟨d, segs, us, ng, ns, st, nv⟩ keep = none → OpR ⟨d, segs, us, ng, ns, st, nv⟩ keep pg B T 28 (.slice aa d.sec.length ca) (.slice ab d.cache.length cb) (.slice au hs.length cu) hs w (.returned (.bool false)) x) := fun x hx h0 => ⟨grownBy_of_below hx _, .inl ⟨h0, rfl, HB.out.later hx, HP.out.later hx⟩⟩
  have hgfne : Hid (∀ k, (Value.slice af (fr ⟨d, segs, us, ng, ns, st, nv⟩).length cf).ownBlock = some k → k ≠ pg) := fun k hk => by have := (rf.own.lt k hk).1; have := HPG.out; omega
  clear rf
  by_cases h0 : keep < 0
  · have HE := Lib.hid (HNO.out _ k1 (opO_no (by omega)))
    go_wp2
    go_ret
    exact HE.out
  by_cases h1 : ((fr ⟨d, segs, us, ng, ns, st, nv⟩).length : Int) ≤ keep
  · have HE := Lib.hid (HNO.out _ k1 (opO_no (by omega)))
    go_wp2
    go_ret
    exact HE.out
  obtain ⟨hN0, _⟩ := opN_at (L := ⟨d, segs, us, ng, ns, st, nv⟩) (by omega)
  have hN12 := HH.out.first (by omega)
  obtain ⟨gf, of, rfl, hgf, hcf⟩ := ints_first HRF.out hN0
  have HCF := Lib.hid hcf
  have HGF := Lib.hid hgf
  have HGN : Hid (gf ≠ pg) := hgfne.out gf rfl
  clear hN0 hcf HRF hgf hgfne
  have HCAN : Hid (ng < 1000000000 → 0 ≤ keep ∧ keep < ((fr ⟨d, segs, us, ng, ns, st, nv⟩).length : Int) ∧ ng < 1000000000) := fun h => ⟨by omega, by omega, h⟩
  have HOS : Hid (∀ D, ng < 1000000000 → sgW d (opN ⟨d, segs, us, ng, ns, st, nv⟩) 0 (hdT ng) = some D → opO ⟨d, segs, us, ng, ns, st, nv⟩ keep = some (opL ⟨d, segs, us, ng, ns, st, nv⟩ D)) := fun D h hD => opO_some (HCAN.out h) hD
  have HON : Hid (sgW d (opN ⟨d, segs, us, ng, ns, st, nv⟩) 0 (hdT ng) = none → opO ⟨d, segs, us, ng, ns, st, nv⟩ keep = none) := fun h => opO_none h
  have HOG : Hid (¬ ng < 1000000000 → opO ⟨d, segs, us, ng, ns, st, nv⟩ keep = none) := fun h => opO_no (fun hc => h hc.2.2)
  have HFT : Hid (∀ x, Calls Tryz.prog 36 #[.agg #[.int .i64 ng, .int .i64 1, .string ⟨#[115, 101, 103]⟩]] x fun e w' => e = .returned (.tuple #[.string (hdT ng), .bool true]) ∧ Below x.heap.size x w') := fun x => by
    have h9 := specFrameText_any (hdF ng) x (by show segB.size ≤ _; decide)
    rw [ftT_yes (hdF_ok HH.out.gen)] at h9
    exact h9
  have HTZ : Hid ((hdT ng).size ≤ 196) := hdT_size HH.out.gen
  have hng : 1 ≤ ng ∧ ng ≤ 1000000000 := HH.out.gen
  obtain ⟨fn, hfn⟩ : ∃ fn, (fr ⟨d, segs, us, ng, ns, st, nv⟩).length = fn := ⟨_, rfl⟩
  rw [hfn] at h1 hfl ⊢
  have hf0 : (0 : Int) < (fn : Int) := by omega
  have hf1 : 0 < fn := by omega
  clear hfn
  obtain ⟨N, hN⟩ : ∃ N, opN ⟨d, segs, us, ng, ns, st, nv⟩ = N := ⟨_, rfl⟩
  obtain ⟨tx, htx⟩ : ∃ tx, hdT ng = tx := ⟨_, rfl⟩
  have HSG : Hid (∀ (x : World), DOwn B T x (.agg #[.slice aa d.sec.length ca, .slice ab d.cache.length cb]) d → Calls Tryz.prog 37 #[.agg #[.slice aa d.sec.length ca, .slice ab d.cache.length cb], .int .i64 (N : Int), .int .i64 0, .string tx] x fun e w' => ∃ (d' : Dk) (f : Bool), d'.ok ∧ sgW d N 0 tx = (if f = true then some d' else none) ∧ DiskR d' f x e w') := fun x hx => by
    rw [← hN, ← htx]
    refine (specSegWrite_sg d _ (opN ⟨d, segs, us, ng, ns, st, nv⟩) 0 (hdT ng) B T x hx HH.out.ok hN12.1 hN12.2 (by omega) (by have := HTZ.out; omega)).mono ?_
    rintro e w' ⟨d', f, a1, _, a3, _, a5⟩
    exact ⟨d', f, a1, a3, a5⟩
  have HOL : Hid (∀ D, opL ⟨d, segs, us, ng, ns, st, nv⟩ D = ⟨flD D, segs, us ++ [⟨(N : Int), ng, (tx.size : Int), []⟩], ng + 1, ns, st, nv⟩) := fun D => by unfold opL; rw [hN, htx]
  rw [hN, htx] at HOS HON
  rw [hN] at HCF
  rw [htx] at HFT HTZ
  clear hN htx hN12
  have c4 : w1.cell? ⟨pg, 4, none⟩ = some (.int .i64 ng) := (HB.out.later k1).cell 4 _ rfl
  go_wp2_with fail
  clear c4
  refine (HFT.out _).mono ?_
  rintro e w2 ⟨rfl, k2⟩
  have j2 := k1.trans (k2.mono k1.size)
  clear HFT
  have HSC : Hid (∀ x, Below w2.heap.size w2 x → (x.cell? ⟨pg, 0, none⟩ = some (.slice aa d.sec.length ca) ∧ x.cell? ⟨pg, 1, none⟩ = some (.slice ab d.cache.length cb) ∧ x.cell? ⟨gf, of, none⟩ = some (.int .i64 (N : Int)))) := fun x hx => by
    have hx2 := j2.trans (hx.mono j2.size)
    have hb2 := HB.out.later hx2
    exact ⟨hb2.cell 0 _ rfl, hb2.cell 1 _ rfl, HCF.out x (k2.trans (hx.mono k2.size))⟩
  have HS2 : Hid (∀ x, ((x.cell? ⟨pg, 0, none⟩ = some (.slice aa d.sec.length ca) ∧ x.cell? ⟨pg, 1, none⟩ = some (.slice ab d.cache.length cb) ∧ x.cell? ⟨gf, of, none⟩ = some (.int .i64 (N : Int))) ∧ Below w2.heap.size w2 x) → DOwn B T x (.agg #[.slice aa d.sec.length ca, .slice ab d.cache.length cb]) d) := fun x hx => HP.out.down.later (j2.trans (hx.2.mono j2.size))
  have HK0 : Hid ((fun x => (x.cell? ⟨pg, 0, none⟩ = some (.slice aa d.sec.length ca) ∧ x.cell? ⟨pg, 1, none⟩ = some (.slice ab d.cache.length cb) ∧ x.cell? ⟨gf, of, none⟩ = some (.int .i64 (N : Int))) ∧ Below w2.heap.size w2 x) w2.drew) := ⟨HSC.out _ (belDrewO _), belDrewO _⟩
  have HB0 : Hid (Box (w2.alloc (.cells #[.slice none 0 0, .slice none 0 0] 25)).drew w2.heap.size #[.slice none 0 0, .slice none 0 0] 25) := Box.new w2 _ _
  have K2 := Lib.hid k2
  clear k2 k1
  go_upto_region 5 with fail
  go_cut [8, 9] (fun p f wx => ∃ (g : Nat) (E : Dk) (F : Bool) (e1 e2 : Option Addr) (e3 e4 : Nat), p = .pointer (some ⟨g, 0, none⟩) ∧ f = .bool F ∧ w2.heap.size ≤ g ∧ E.ok ∧ sgW d N 0 tx = (if F = true then some E else none) ∧ Box wx g #[.slice e1 E.sec.length e3, .slice e2 E.cache.length e4] 25 ∧ DOwn w2.heap.size wx.heap.size wx (.agg #[.slice e1 E.sec.length e3, .slice e2 E.cache.length e4]) E ∧ Below w2.heap.size w2 wx)
  case first =>
    clear HOS HON HOG HCAN HOL HNO HP HB HH
    go_region_held3 (fun x => (x.cell? ⟨pg, 0, none⟩ = some (.slice aa d.sec.length ca) ∧ x.cell? ⟨pg, 1, none⟩ = some (.slice ab d.cache.length cb) ∧ x.cell? ⟨gf, of, none⟩ = some (.int .i64 (N : Int))) ∧ Below w2.heap.size w2 x)
      (first | exact HK0.out | exact keepO HSC.out (by assumption) (belAlloc _ _) | exact hSW.out | exact keepO HSC.out hSW.out (belAlloc _ _) | exact keepOs HSC.out (Nat.le_refl _) (by assumption) | exact keepOs HSC.out tW.out (by assumption))
      (first
        | (go_at_call 37; refine (HSG.out _ (HS2.out _ (by assumption))).mono ?_; rintro e wR ⟨E, F, hE, hF, vR, rfl, oR, kR⟩; have HE9 := Lib.hid hE; have HF9 := Lib.hid hF; clear hE hF; have hSW := Lib.hid (keepO HSC.out (by assumption) kR); have tW := Lib.hid hSW.out.2.size; obtain ⟨e1, e2, e3, e4, rfl⟩ := oR.form; (first | (have bx : Box wR w2.heap.size #[.slice none 0 0, .slice none 0 0] 25 := HB0.out.later kR; have x0 := bx.cell 0 _ rfl; have x1 := bx.cell 1 _ rfl; have f0 := bx.loose 0; have f1 := bx.loose 1) | skip)))
    all_goals
      go_wp2_with fail
      go_meet
      first
        | exact ⟨_, E, F, e1, e2, e3, e4, rfl, rfl, tW.out, HE9.out, HF9.out, Box.new wR _ _, ((oR.later (belAlloc _ _)).base (Nat.le_refl _)).top, hSW.out.2.alloc tW.out _⟩
        | exact ⟨_, E, F, e1, e2, e3, e4, rfl, rfl, Nat.le_refl _, HE9.out, HF9.out, (bx.set 0 _).set 1 _, (((oR.base (by simp)).boxStore bx 0 _).boxStore (bx.set 0 _) 1 _).top, (hSW.out.2.setCell (p := ⟨_, 0, none⟩) (Nat.le_refl _) _).setCell (p := ⟨_, 1, none⟩) (Nat.le_refl _) _⟩
  case rest =>
  obtain ⟨g8, D8, F, e1, e2, e3, e4, rfl, rfl, hg8, hE, hF, B8, O8, k3⟩ := hcut
  clear HSC HS2 HK0 HB0 HSG
  have j3 := j2.trans (k3.mono j2.size)
  have HCF3 : Hid (∀ x, Below wc.heap.size wc x → x.cell? ⟨gf, of, none⟩ = some (.int .i64 (N : Int))) := fun x hx => by
    have h9 := K2.out.trans (k3.mono K2.out.size)
    exact HCF.out x (h9.trans (hx.mono h9.size))
  have hz3 : Hid (w.heap.size ≤ w2.heap.size ∧ w2.heap.size ≤ wc.heap.size) := ⟨j2.size, k3.size⟩
  clear HCF K2 k3 j2 hg8
  cases F with
  | false =>
    have HE := Lib.hid (HNO.out _ j3 (HON.out (by rw [hF]; rfl)))
    clear hF hE B8 O8 j3 HCF3
    go_wp2
    go_ret
    exact HE.out
  | true =>
  have HD8 : Hid (sgW d N 0 tx = some D8) := by show _ = _; rw [hF]; rfl
  have c4 : wc.cell? ⟨pg, 4, none⟩ = some (.int .i64 ng) := (HB.out.later j3).cell 4 _ rfl
  by_cases hngm : ng < 1000000000
  case neg =>
    have HE := Lib.hid (HNO.out _ j3 (HOG.out (by omega)))
    have hge : (1000000000 : Int) ≤ ng := by omega
    clear hF hE B8 O8 j3 HCF3
    go_wp2
    go_ret
    exact HE.out
  obtain ⟨hsD, htD, huD⟩ := Dk.ok_small hE
  have HFL := Lib.hid (specFlushDisk_any D8 _ _ _ _ O8 hsD htD huD)
  have HOS8 := Lib.hid (HOS.out D8 hngm HD8.out)
  rw [HOL.out D8] at HOS8
  generalize flD D8 = E at HFL HOS8
  obtain ⟨z0, z1⟩ : _ ∧ _ := ⟨B8.cell 0 _ rfl, B8.cell 1 _ rfl⟩
  have hge : ¬ (1000000000 : Int) ≤ ng := by omega
  clear hF hE hsD htD huD O8 B8 HOS HON HOG HNO HOL HD8 HCAN
  go_wp2_with fail
  clear z0 z1 c4
  refine HFL.out.mono ?_
  rintro e w7 ⟨v7, rfl, o7, k7⟩
  clear HFL
  obtain ⟨p1, p2, r1, r2, rfl⟩ := o7.form
  have j7 := j3.trans (k7.mono j3.size)
  have BX7 := HB.out.later j7
  obtain ⟨x0, x1, f0, f1⟩ : _ ∧ _ ∧ _ ∧ _ := ⟨BX7.cell 0 _ rfl, BX7.cell 1 _ rfl, BX7.loose 0, BX7.loose 1⟩
  have BXP : Box ((w7.setCell ⟨pg, 0, none⟩ (.slice p1 E.sec.length r1)).setCell ⟨pg, 1, none⟩ (.slice p2 E.cache.length r2)) pg #[.slice p1 E.sec.length r1, .slice p2 E.cache.length r2, .int .i64 segs, .slice au hs.length cu, .int .i64 ng, .int .i64 ns, .int .i64 st, .int .i64 nv] 28 := (BX7.set 0 (.slice p1 E.sec.length r1)).set 1 (.slice p2 E.cache.length r2)
  have G79 : w7.grownBy ((w7.setCell ⟨pg, 0, none⟩ (.slice p1 E.sec.length r1)).setCell ⟨pg, 1, none⟩ (.slice p2 E.cache.length r2)) (some pg) := grownBy_storeO (stored_grown w7 pg 0 _) 1 _
  have G7 : w.grownBy w7 (some pg) := grownBy_of_below j7 _
  have CF9 : ((w7.setCell ⟨pg, 0, none⟩ (.slice p1 E.sec.length r1)).setCell ⟨pg, 1, none⟩ (.slice p2 E.cache.length r2)).cell? ⟨gf, of, none⟩ = some (.int .i64 (N : Int)) := G79.cell (HCF3.out _ k7) (fun e => HGN.out (Option.some.inj e))
  have hz7 : Hid (wc.heap.size ≤ w7.heap.size) := k7.size
  clear HCF3 k7 j7 BX7 j3
  go_upto_region 9 with fail
  clear x0 x1 f0 f1
  have hz9 : ((w7.setCell ⟨pg, 0, none⟩ (.slice p1 E.sec.length r1)).setCell ⟨pg, 1, none⟩ (.slice p2 E.cache.length r2)).heap.size = w7.heap.size := by simp
  generalize (w7.setCell ⟨pg, 0, none⟩ (.slice p1 E.sec.length r1)).setCell ⟨pg, 1, none⟩ (.slice p2 E.cache.length r2) = w9 at BXP G79 CF9 hz9 ⊢
  have HZ9 := Lib.hid hz9
  clear hz9
  have HG9 : Hid (w.grownBy w9 (some pg)) := G7.trans G79
  have HG79 := Lib.hid G79
  have PF : ∀ x, KO w9 pg (.int .i64 ng) x → x.cell? ⟨gf, of, none⟩ = some (.int .i64 (N : Int)) := fun x hx => hx.cell CF9 HGN.out
  have P4 : ∀ x, KO w9 pg (.int .i64 ng) x → x.cell? ⟨pg, 4, none⟩ = some (.int .i64 ng) := fun x hx => hx.2
  have hpW : pg < w9.heap.size := BXP.lt
  have hpn : Hid (∀ k, (Value.slice au hs.length cu).ownBlock = some k → k ≠ pg) := fun k hk => by
    have h8 := HP.out.use.row k hk
    have h9 := (HP.out.use.own.where'.1 k hk).1
    omega
  have HF : Hid (∀ x, KO w9 pg (.int .i64 ng) x → Rows' sgE x (.slice au hs.length cu) hs) := fun x hx => by
    have r9 : RBuf sgE B w9 w9 (.slice au hs.length cu) hs := HP.out.use.own.row.stayG HG9.out.size (fun k hk => HG9.out.block k (HP.out.use.own.where'.1 k hk).2 (fun e => hpn.out k hk (Option.some.inj e)))
    exact (r9.ko hx (fun e => hpn.out pg e rfl)).rows
  clear G79 G7 CF9
  go_cut [79] (fun v wx => ∃ (a : Option Addr) (c : Nat) (y : World), v = .slice a (hs.length + 1) c ∧ RBuf sgE w9.heap.size y y (.slice a (hs.length + 1) c) (hs ++ [(⟨(N : Int), ng, (tx.size : Int), none, 0, 0⟩ : SgH)]) ∧ Box y pg #[.slice p1 E.sec.length r1, .slice p2 E.cache.length r2, .int .i64 segs, .slice au hs.length cu, .int .i64 ng, .int .i64 ns, .int .i64 st, .int .i64 nv] 28 ∧ w9.grownBy y (some pg) ∧ wx = y.setCell ⟨pg, 3, none⟩ (.slice a (hs.length + 1) c))
  case first =>
    clear HP HB HH HOS8 o7
    refine wp_region_held_drew (S := KO w9 pg (.int .i64 ng)) (by kernel_rfl) (KO.drew (BXP.cell 4 _ rfl)) (fun hHeld => ?_)
    refine takeL (i := 0) (v := .pointer (some ⟨pg, 0, none⟩)) rfl (by kernel_rfl) (by kernel_rfl) (by kernel_rfl) (fun _ _ _ h => h) (Or.inl ⟨by rfl, ?_⟩) (by assumption) ?_
    · intro x hSx; go_simp
    try simp only [Act.put, List.setIfInBounds_toArray, List.set_cons_zero, List.set_cons_succ]
    refine takeL (i := 2) (v := .pointer (some ⟨pg, 0, none⟩)) rfl (by kernel_rfl) (by kernel_rfl) (by kernel_rfl) (fun _ _ _ h => h) (Or.inl ⟨by rfl, ?_⟩) (by assumption) ?_
    · intro x hSx; go_simp
    try simp only [Act.put, List.setIfInBounds_toArray, List.set_cons_zero, List.set_cons_succ]
    refine takeL (i := 3) (v := .pointer (some ⟨pg, 0, none⟩)) rfl (by kernel_rfl) (by kernel_rfl) (by kernel_rfl) (fun _ _ _ h => h) (Or.inl ⟨by rfl, ?_⟩) (by assumption) ?_
    · intro x hSx; go_simp
    try simp only [Act.put, List.setIfInBounds_toArray, List.set_cons_zero, List.set_cons_succ]
    refine takeL (i := 4) (v := .pointer (some ⟨pg, 3, none⟩)) rfl (by kernel_rfl) (by kernel_rfl) (by kernel_rfl) (fun _ _ _ h => h) (Or.inl ⟨by rfl, ?_⟩) (by assumption) ?_
    · intro x hSx; go_simp
    try simp only [Act.put, List.setIfInBounds_toArray, List.set_cons_zero, List.set_cons_succ]
    refine takeL (i := 7) (v := .slice (some ⟨gf, of, none⟩) fn cf) rfl (by kernel_rfl) (by kernel_rfl) (by kernel_rfl) (fun _ _ _ h => h) (Or.inl ⟨by rfl, ?_⟩) (by assumption) ?_
    · intro x hSx; go_simp
    try simp only [Act.put, List.setIfInBounds_toArray, List.set_cons_zero, List.set_cons_succ]
    refine takeL (i := 8) (v := .pointer (some ⟨gf, of, none⟩)) rfl (by kernel_rfl) (by kernel_rfl) (by kernel_rfl) (fun _ _ _ h => h) (Or.inl ⟨by rfl, ?_⟩) (by assumption) ?_
    · intro x hSx; go_simp
    try simp only [Act.put, List.setIfInBounds_toArray, List.set_cons_zero, List.set_cons_succ]
    refine takeL (i := 9) (v := .int .i64 (N : Int)) rfl (by kernel_rfl) (by kernel_rfl) (by kernel_rfl) (fun _ _ _ h => h) (Or.inl ⟨by rfl, ?_⟩) (by assumption) ?_
    · intro x hSx; have q0 := PF x hSx; go_simp
    try simp only [Act.put, List.setIfInBounds_toArray, List.set_cons_zero, List.set_cons_succ]
    refine takeL (i := 10) (v := .pointer (some ⟨pg, 0, none⟩)) rfl (by kernel_rfl) (by kernel_rfl) (by kernel_rfl) (fun _ _ _ h => h) (Or.inl ⟨by rfl, ?_⟩) (by assumption) ?_
    · intro x hSx; go_simp
    try simp only [Act.put, List.setIfInBounds_toArray, List.set_cons_zero, List.set_cons_succ]
    refine takeL (i := 11) (v := .pointer (some ⟨pg, 0, none⟩)) rfl (by kernel_rfl) (by kernel_rfl) (by kernel_rfl) (fun _ _ _ h => h) (Or.inl ⟨by rfl, ?_⟩) (by assumption) ?_
    · intro x hSx; go_simp
    try simp only [Act.put, List.setIfInBounds_toArray, List.set_cons_zero, List.set_cons_succ]
    refine takeL (i := 12) (v := .pointer (some ⟨pg, 4, none⟩)) rfl (by kernel_rfl) (by kernel_rfl) (by kernel_rfl) (fun _ _ _ h => h) (Or.inl ⟨by rfl, ?_⟩) (by assumption) ?_
    · intro x hSx; go_simp
    try simp only [Act.put, List.setIfInBounds_toArray, List.set_cons_zero, List.set_cons_succ]
    refine takeL (i := 13) (v := .int .i64 ng) rfl (by kernel_rfl) (by kernel_rfl) (by kernel_rfl) (fun _ _ _ h => h) (Or.inl ⟨by rfl, ?_⟩) (by assumption) ?_
    · intro x hSx; have q0 := P4 x hSx; go_simp
    try simp only [Act.put, List.setIfInBounds_toArray, List.set_cons_zero, List.set_cons_succ]
    refine takeL (i := 14) (v := .string tx) rfl (by kernel_rfl) (by kernel_rfl) (by kernel_rfl) (fun _ _ _ h => h) (Or.inl ⟨by rfl, ?_⟩) (by assumption) ?_
    · intro x hSx; go_simp
    try simp only [Act.put, List.setIfInBounds_toArray, List.set_cons_zero, List.set_cons_succ]
    refine takeL (i := 15) (v := .int .i64 (tx.size : Int)) rfl (by kernel_rfl) (by kernel_rfl) (by kernel_rfl) (fun _ _ _ h => h) (Or.inl ⟨by rfl, ?_⟩) (by assumption) ?_
    · intro x hSx; go_simp
    try simp only [Act.put, List.setIfInBounds_toArray, List.set_cons_zero, List.set_cons_succ]
    refine takeL (i := 16) (v := .agg #[.int .i64 (N : Int), .int .i64 ng, .int .i64 (tx.size : Int), .slice none 0 0]) rfl (by kernel_rfl) (by kernel_rfl) (by kernel_rfl) (fun _ _ _ h => h) (Or.inl ⟨by rfl, ?_⟩) (by assumption) ?_
    · intro x hSx; go_simp
    try simp only [Act.put, List.setIfInBounds_toArray, List.set_cons_zero, List.set_cons_succ]
    replace BXP : Box w9.drew pg _ _ := BXP
    have hz : w9.heap.size ≤ w9.drew.heap.size := Nat.le_refl _
    have hlt : Hid (0 ≤ w9.drew.heap.size) := Nat.zero_le _
    generalize w9.drew = Y0 at hHeld hz BXP hlt ⊢
    refine wpAnyH_ready (rs := [1, 5, 17]) (by kernel_rfl) (by simp) ?_
    refine readyThree rfl rfl rfl (fun K' hK => ?_) (fun K' hK => ?_) (fun K' hK => ?_)
    · skip
      go_simp
      refine hK.out _ _ (hHeld.later (belNew Y0 (.cells #[] 76))) (fun hS2 => ?_)
      clear hK K' hHeld
      have hHeld := hS2
      clear hS2
      try simp only [Act.put, List.setIfInBounds_toArray, List.set_cons_zero, List.set_cons_succ]
      have R : RBuf sgE w9.heap.size (Y0.alloc (.cells #[] 76)) (Y0.alloc (.cells #[] 76)) (.slice (some ⟨Y0.heap.size, 0, none⟩) 0 0) [] := (RBuf.fresh sgE Y0).here.lower hz
      replace BXP := BXP.later (belNew Y0 (.cells #[] 76))
      replace hz : w9.heap.size ≤ (Y0.alloc (.cells #[] 76)).heap.size := hHeld.1.size
      replace hlt : Hid (Y0.heap.size < (Y0.alloc (.cells #[] 76)).heap.size) := by show _ < _; simp
      generalize Y0.alloc (.cells #[] 76) = Y2 at hHeld R BXP hz hlt ⊢
      generalize Y0.heap.size = ga1 at R hlt ⊢
      refine wpAnyH_ready (rs := [5, 17]) (by kernel_rfl) (by simp) ?_
      refine readyTwo rfl rfl (fun K' hK => ?_) (fun K' hK => ?_)
      · skip
        have c3 := BXP.cell 3 _ rfl
        go_simp
        clear c3
        refine hK.out _ _ (hHeld) (fun hS2 => ?_)
        clear hK K' hHeld
        have hHeld := hS2
        clear hS2
        try simp only [Act.put, List.setIfInBounds_toArray, List.set_cons_zero, List.set_cons_succ]
        refine wpAnyH_ready (rs := [6, 17]) (by kernel_rfl) (by simp) ?_
        refine readyTwo rfl rfl (fun K' hK => ?_) (fun K' hK => ?_)
        · skip
          refine step_append_rdO rfl _ _ sgE rfl w9.heap.size _ [] rfl R _ hs rfl (HF.out _ hHeld) (by show _ * 49 ≤ _; simp only [List.length_nil]; have := HHL.out; omega) ?_
          intro v' Y3 r' g' at' hlt'
          rw [List.nil_append] at r'
          obtain ⟨va', vc', rfl⟩ := r'.form
          have hrp := Lib.hid (fun k hk => (hlt' k hk).1)
          refine hK.out _ _ (hHeld.grown g' (fun k hk => (hlt' k hk).1) hpW) (fun hS2 => ?_)
          clear hK K' hHeld
          have hHeld := hS2
          clear hS2
          try simp only [Act.put, List.setIfInBounds_toArray, List.set_cons_zero, List.set_cons_succ]
          replace BXP : Box _ pg _ _ := (g'.block pg BXP.lt (fun e => by have := (hlt' pg e.symm).1; omega)).trans BXP
          replace hz : w9.heap.size ≤ Y3.heap.size := hHeld.1.size
          replace hlt : Hid (0 ≤ Y3.heap.size) := Nat.zero_le _
          clear R hrp
          have R := r'
          clear r' at' hlt' g'
          refine wpAnyH_ready (rs := [17]) (by kernel_rfl) (by simp) ?_
          refine readyOne rfl (fun K' hK => ?_)
          go_simp
          refine hK.out _ _ (hHeld.later (belNew Y3 (.cells #[.int .i64 (N : Int), .int .i64 ng, .int .i64 (tx.size : Int), .slice none 0 0] 76))) (fun hS2 => ?_)
          clear hK K' hHeld
          have hHeld := hS2
          clear hS2
          try simp only [Act.put, List.setIfInBounds_toArray, List.set_cons_zero, List.set_cons_succ]
          have L : RBuf sgE w9.heap.size (Y3.alloc (.cells #[.int .i64 (N : Int), .int .i64 ng, .int .i64 (tx.size : Int), .slice none 0 0] 76)) (Y3.alloc (.cells #[.int .i64 (N : Int), .int .i64 ng, .int .i64 (tx.size : Int), .slice none 0 0] 76)) (.slice (some ⟨Y3.heap.size, 0, none⟩) 1 1) [(⟨(N : Int), ng, (tx.size : Int), none, 0, 0⟩ : SgH)] := (RBuf.lit1 sgE Y3 (⟨(N : Int), ng, (tx.size : Int), none, 0, 0⟩ : SgH)).lower hz
          replace R := (R.later (belNew Y3 (.cells #[.int .i64 (N : Int), .int .i64 ng, .int .i64 (tx.size : Int), .slice none 0 0] 76))).here
          replace BXP := BXP.later (belNew Y3 (.cells #[.int .i64 (N : Int), .int .i64 ng, .int .i64 (tx.size : Int), .slice none 0 0] 76))
          replace hz : w9.heap.size ≤ (Y3.alloc (.cells #[.int .i64 (N : Int), .int .i64 ng, .int .i64 (tx.size : Int), .slice none 0 0] 76)).heap.size := hHeld.1.size
          replace hlt : Hid (Y3.heap.size < (Y3.alloc (.cells #[.int .i64 (N : Int), .int .i64 ng, .int .i64 (tx.size : Int), .slice none 0 0] 76)).heap.size) := by show _ < _; simp
          generalize Y3.alloc (.cells #[.int .i64 (N : Int), .int .i64 ng, .int .i64 (tx.size : Int), .slice none 0 0] 76) = Y5 at hHeld R L BXP hz hlt ⊢
          generalize Y3.heap.size = ga4 at L hlt ⊢
          refine wpAnyH_ready (rs := [18]) (by kernel_rfl) (by simp) ?_
          refine readyOne rfl (fun K' hK => ?_)
          refine step_append_rows rfl _ _ sgE rfl w9.heap.size _ hs rfl R _ _ [(⟨(N : Int), ng, (tx.size : Int), none, 0, 0⟩ : SgH)] rfl L (by show _ * 49 ≤ _; simp only [List.length_cons, List.length_nil]; have := HHL.out; omega) ?_
          intro v' Y6 r'' g'' at'' hlt''
          obtain ⟨vd, ve, hvf⟩ := r''.form
          simp only [List.length_append, List.length_cons, List.length_nil, Nat.zero_add] at hvf
          subst hvf
          refine hK.out _ _ (hHeld.grown g'' (fun k hk => (hlt'' k hk).1) hpW) (fun hS2 => ?_)
          clear hK K' hHeld
          have hHeld := hS2
          clear hS2
          try simp only [Act.put, List.setIfInBounds_toArray, List.set_cons_zero, List.set_cons_succ]
          replace BXP : Box _ pg _ _ := (g''.block pg BXP.lt (fun e => by have := (hlt'' pg e.symm).1; omega)).trans BXP
          refine takeL (i := 19) (v := .pointer (some ⟨pg, 0, none⟩)) rfl (by kernel_rfl) (by kernel_rfl) (by kernel_rfl) (fun _ _ _ h => h) (Or.inl ⟨by rfl, ?_⟩) (by assumption) ?_
          · intro x hSx; go_simp
          try simp only [Act.put, List.setIfInBounds_toArray, List.set_cons_zero, List.set_cons_succ]
          refine takeL (i := 20) (v := .pointer (some ⟨pg, 3, none⟩)) rfl (by kernel_rfl) (by kernel_rfl) (by kernel_rfl) (fun _ _ _ h => h) (Or.inl ⟨by rfl, ?_⟩) (by assumption) ?_
          · intro x hSx; go_simp
          try simp only [Act.put, List.setIfInBounds_toArray, List.set_cons_zero, List.set_cons_succ]
          refine wpAnyH_ready (rs := [21]) (by kernel_rfl) (by simp) ?_
          refine readyOne rfl (fun K' hK => ?_)
          have c3 := BXP.cell 3 _ rfl
          have f3 := BXP.loose 3
          go_simp
          clear c3 f3
          refine hK.out _ _ (hHeld.put _) (fun hS2 => ?_)
          clear hK K' hS2
          try simp only [Act.put, List.setIfInBounds_toArray, List.set_cons_zero, List.set_cons_succ]
          refine wpAnyH_done (by kernel_rfl) ?_ _
          go_wp2_with fail
          go_meet
          exact ⟨vd, ve, Y6, rfl, r'', BXP, hHeld.1, rfl⟩
        · skip
          go_simp
          refine hK.out _ _ (hHeld.later (belNew Y2 (.cells #[.int .i64 (N : Int), .int .i64 ng, .int .i64 (tx.size : Int), .slice none 0 0] 76))) (fun hS2 => ?_)
          clear hK K' hHeld
          have hHeld := hS2
          clear hS2
          try simp only [Act.put, List.setIfInBounds_toArray, List.set_cons_zero, List.set_cons_succ]
          have L : RBuf sgE w9.heap.size (Y2.alloc (.cells #[.int .i64 (N : Int), .int .i64 ng, .int .i64 (tx.size : Int), .slice none 0 0] 76)) (Y2.alloc (.cells #[.int .i64 (N : Int), .int .i64 ng, .int .i64 (tx.size : Int), .slice none 0 0] 76)) (.slice (some ⟨Y2.heap.size, 0, none⟩) 1 1) [(⟨(N : Int), ng, (tx.size : Int), none, 0, 0⟩ : SgH)] := (RBuf.lit1 sgE Y2 (⟨(N : Int), ng, (tx.size : Int), none, 0, 0⟩ : SgH)).lower hz
          replace R := (R.later (belNew Y2 (.cells #[.int .i64 (N : Int), .int .i64 ng, .int .i64 (tx.size : Int), .slice none 0 0] 76))).here
          replace BXP := BXP.later (belNew Y2 (.cells #[.int .i64 (N : Int), .int .i64 ng, .int .i64 (tx.size : Int), .slice none 0 0] 76))
          replace hz : w9.heap.size ≤ (Y2.alloc (.cells #[.int .i64 (N : Int), .int .i64 ng, .int .i64 (tx.size : Int), .slice none 0 0] 76)).heap.size := hHeld.1.size
          have hne : Hid (Y2.heap.size ≠ ga1) := by have := hlt.out; show _ ≠ _; omega
          replace hlt : Hid (Y2.heap.size < (Y2.alloc (.cells #[.int .i64 (N : Int), .int .i64 ng, .int .i64 (tx.size : Int), .slice none 0 0] 76)).heap.size) := by show _ < _; simp
          generalize Y2.alloc (.cells #[.int .i64 (N : Int), .int .i64 ng, .int .i64 (tx.size : Int), .slice none 0 0] 76) = Y8 at hHeld R L BXP hz hlt ⊢
          generalize Y2.heap.size = ga7 at L hlt hne ⊢
          refine wpAnyH_ready (rs := [6]) (by kernel_rfl) (by simp) ?_
          refine readyOne rfl (fun K' hK => ?_)
          refine step_append_rdO rfl _ _ sgE rfl w9.heap.size _ [] rfl R _ hs rfl (HF.out _ hHeld) (by show _ * 49 ≤ _; simp only [List.length_nil]; have := HHL.out; omega) ?_
          intro v' Y9 r' g' at' hlt'
          rw [List.nil_append] at r'
          obtain ⟨va', vc', rfl⟩ := r'.form
          have hrp := Lib.hid (fun k hk => (hlt' k hk).1)
          refine hK.out _ _ (hHeld.grown g' (fun k hk => (hlt' k hk).1) hpW) (fun hS2 => ?_)
          clear hK K' hHeld
          have hHeld := hS2
          clear hS2
          try simp only [Act.put, List.setIfInBounds_toArray, List.set_cons_zero, List.set_cons_succ]
          replace BXP : Box _ pg _ _ := (g'.block pg BXP.lt (fun e => by have := (hlt' pg e.symm).1; omega)).trans BXP
          replace hz : w9.heap.size ≤ Y9.heap.size := hHeld.1.size
          replace L := L.shift g' (.inr (fun e => hne.out (Option.some.inj e)))
          replace hlt : Hid (0 ≤ Y9.heap.size) := Nat.zero_le _
          clear R hrp
          have R := r'
          clear r' at' hlt' g'
          refine wpAnyH_ready (rs := [18]) (by kernel_rfl) (by simp) ?_
          refine readyOne rfl (fun K' hK => ?_)
          refine step_append_rows rfl _ _ sgE rfl w9.heap.size _ hs rfl R _ _ [(⟨(N : Int), ng, (tx.size : Int), none, 0, 0⟩ : SgH)] rfl L (by show _ * 49 ≤ _; simp only [List.length_cons, List.length_nil]; have := HHL.out; omega) ?_
          intro v' Y10 r'' g'' at'' hlt''
          obtain ⟨vd, ve, hvf⟩ := r''.form
          simp only [List.length_append, List.length_cons, List.length_nil, Nat.zero_add] at hvf
          subst hvf
          refine hK.out _ _ (hHeld.grown g'' (fun k hk => (hlt'' k hk).1) hpW) (fun hS2 => ?_)
          clear hK K' hHeld
          have hHeld := hS2
          clear hS2
          try simp only [Act.put, List.setIfInBounds_toArray, List.set_cons_zero, List.set_cons_succ]
          replace BXP : Box _ pg _ _ := (g''.block pg BXP.lt (fun e => by have := (hlt'' pg e.symm).1; omega)).trans BXP
          refine takeL (i := 19) (v := .pointer (some ⟨pg, 0, none⟩)) rfl (by kernel_rfl) (by kernel_rfl) (by kernel_rfl) (fun _ _ _ h => h) (Or.inl ⟨by rfl, ?_⟩) (by assumption) ?_
          · intro x hSx; go_simp
          try simp only [Act.put, List.setIfInBounds_toArray, List.set_cons_zero, List.set_cons_succ]
          refine takeL (i := 20) (v := .pointer (some ⟨pg, 3, none⟩)) rfl (by kernel_rfl) (by kernel_rfl) (by kernel_rfl) (fun _ _ _ h => h) (Or.inl ⟨by rfl, ?_⟩) (by assumption) ?_
          · intro x hSx; go_simp
          try simp only [Act.put, List.setIfInBounds_toArray, List.set_cons_zero, List.set_cons_succ]
          refine wpAnyH_ready (rs := [21]) (by kernel_rfl) (by simp) ?_
          refine readyOne rfl (fun K' hK => ?_)
          have c3 := BXP.cell 3 _ rfl
          have f3 := BXP.loose 3
          go_simp
          clear c3 f3
          refine hK.out _ _ (hHeld.put _) (fun hS2 => ?_)
          clear hK K' hS2
          try simp only [Act.put, List.setIfInBounds_toArray, List.set_cons_zero, List.set_cons_succ]
          refine wpAnyH_done (by kernel_rfl) ?_ _
          go_wp2_with fail
          go_meet
          exact ⟨vd, ve, Y10, rfl, r'', BXP, hHeld.1, rfl⟩
      · skip
        go_simp
        refine hK.out _ _ (hHeld.later (belNew Y2 (.cells #[.int .i64 (N : Int), .int .i64 ng, .int .i64 (tx.size : Int), .slice none 0 0] 76))) (fun hS2 => ?_)
        clear hK K' hHeld
        have hHeld := hS2
        clear hS2
        try simp only [Act.put, List.setIfInBounds_toArray, List.set_cons_zero, List.set_cons_succ]
        have L : RBuf sgE w9.heap.size (Y2.alloc (.cells #[.int .i64 (N : Int), .int .i64 ng, .int .i64 (tx.size : Int), .slice none 0 0] 76)) (Y2.alloc (.cells #[.int .i64 (N : Int), .int .i64 ng, .int .i64 (tx.size : Int), .slice none 0 0] 76)) (.slice (some ⟨Y2.heap.size, 0, none⟩) 1 1) [(⟨(N : Int), ng, (tx.size : Int), none, 0, 0⟩ : SgH)] := (RBuf.lit1 sgE Y2 (⟨(N : Int), ng, (tx.size : Int), none, 0, 0⟩ : SgH)).lower hz
        replace R := (R.later (belNew Y2 (.cells #[.int .i64 (N : Int), .int .i64 ng, .int .i64 (tx.size : Int), .slice none 0 0] 76))).here
        replace BXP := BXP.later (belNew Y2 (.cells #[.int .i64 (N : Int), .int .i64 ng, .int .i64 (tx.size : Int), .slice none 0 0] 76))
        replace hz : w9.heap.size ≤ (Y2.alloc (.cells #[.int .i64 (N : Int), .int .i64 ng, .int .i64 (tx.size : Int), .slice none 0 0] 76)).heap.size := hHeld.1.size
        have hne : Hid (Y2.heap.size ≠ ga1) := by have := hlt.out; show _ ≠ _; omega
        replace hlt : Hid (Y2.heap.size < (Y2.alloc (.cells #[.int .i64 (N : Int), .int .i64 ng, .int .i64 (tx.size : Int), .slice none 0 0] 76)).heap.size) := by show _ < _; simp
        generalize Y2.alloc (.cells #[.int .i64 (N : Int), .int .i64 ng, .int .i64 (tx.size : Int), .slice none 0 0] 76) = Y12 at hHeld R L BXP hz hlt ⊢
        generalize Y2.heap.size = ga11 at L hlt hne ⊢
        refine wpAnyH_ready (rs := [5]) (by kernel_rfl) (by simp) ?_
        refine readyOne rfl (fun K' hK => ?_)
        have c3 := BXP.cell 3 _ rfl
        go_simp
        clear c3
        refine hK.out _ _ (hHeld) (fun hS2 => ?_)
        clear hK K' hHeld
        have hHeld := hS2
        clear hS2
        try simp only [Act.put, List.setIfInBounds_toArray, List.set_cons_zero, List.set_cons_succ]
        refine wpAnyH_ready (rs := [6]) (by kernel_rfl) (by simp) ?_
        refine readyOne rfl (fun K' hK => ?_)
        refine step_append_rdO rfl _ _ sgE rfl w9.heap.size _ [] rfl R _ hs rfl (HF.out _ hHeld) (by show _ * 49 ≤ _; simp only [List.length_nil]; have := HHL.out; omega) ?_
        intro v' Y13 r' g' at' hlt'
        rw [List.nil_append] at r'
        obtain ⟨va', vc', rfl⟩ := r'.form
        have hrp := Lib.hid (fun k hk => (hlt' k hk).1)
        refine hK.out _ _ (hHeld.grown g' (fun k hk => (hlt' k hk).1) hpW) (fun hS2 => ?_)
        clear hK K' hHeld
        have hHeld := hS2
        clear hS2
        try simp only [Act.put, List.setIfInBounds_toArray, List.set_cons_zero, List.set_cons_succ]
        replace BXP : Box _ pg _ _ := (g'.block pg BXP.lt (fun e => by have := (hlt' pg e.symm).1; omega)).trans BXP
        replace hz : w9.heap.size ≤ Y13.heap.size := hHeld.1.size
        replace L := L.shift g' (.inr (fun e => hne.out (Option.some.inj e)))
        replace hlt : Hid (0 ≤ Y13.heap.size) := Nat.zero_le _
        clear R hrp
        have R := r'
        clear r' at' hlt' g'
        refine wpAnyH_ready (rs := [18]) (by kernel_rfl) (by simp) ?_
        refine readyOne rfl (fun K' hK => ?_)
        refine step_append_rows rfl _ _ sgE rfl w9.heap.size _ hs rfl R _ _ [(⟨(N : Int), ng, (tx.size : Int), none, 0, 0⟩ : SgH)] rfl L (by show _ * 49 ≤ _; simp only [List.length_cons, List.length_nil]; have := HHL.out; omega) ?_
        intro v' Y14 r'' g'' at'' hlt''
        obtain ⟨vd, ve, hvf⟩ := r''.form
        simp only [List.length_append, List.length_cons, List.length_nil, Nat.zero_add] at hvf
        subst hvf
        refine hK.out _ _ (hHeld.grown g'' (fun k hk => (hlt'' k hk).1) hpW) (fun hS2 => ?_)
        clear hK K' hHeld
        have hHeld := hS2
        clear hS2
        try simp only [Act.put, List.setIfInBounds_toArray, List.set_cons_zero, List.set_cons_succ]
        replace BXP : Box _ pg _ _ := (g''.block pg BXP.lt (fun e => by have := (hlt'' pg e.symm).1; omega)).trans BXP
        refine takeL (i := 19) (v := .pointer (some ⟨pg, 0, none⟩)) rfl (by kernel_rfl) (by kernel_rfl) (by kernel_rfl) (fun _ _ _ h => h) (Or.inl ⟨by rfl, ?_⟩) (by assumption) ?_
        · intro x hSx; go_simp
        try simp only [Act.put, List.setIfInBounds_toArray, List.set_cons_zero, List.set_cons_succ]
        refine takeL (i := 20) (v := .pointer (some ⟨pg, 3, none⟩)) rfl (by kernel_rfl) (by kernel_rfl) (by kernel_rfl) (fun _ _ _ h => h) (Or.inl ⟨by rfl, ?_⟩) (by assumption) ?_
        · intro x hSx; go_simp
        try simp only [Act.put, List.setIfInBounds_toArray, List.set_cons_zero, List.set_cons_succ]
        refine wpAnyH_ready (rs := [21]) (by kernel_rfl) (by simp) ?_
        refine readyOne rfl (fun K' hK => ?_)
        have c3 := BXP.cell 3 _ rfl
        have f3 := BXP.loose 3
        go_simp
        clear c3 f3
        refine hK.out _ _ (hHeld.put _) (fun hS2 => ?_)
        clear hK K' hS2
        try simp only [Act.put, List.setIfInBounds_toArray, List.set_cons_zero, List.set_cons_succ]
        refine wpAnyH_done (by kernel_rfl) ?_ _
        go_wp2_with fail
        go_meet
        exact ⟨vd, ve, Y14, rfl, r'', BXP, hHeld.1, rfl⟩
    · skip
      have c3 := BXP.cell 3 _ rfl
      go_simp
      clear c3
      refine hK.out _ _ (hHeld) (fun hS2 => ?_)
      clear hK K' hHeld
      have hHeld := hS2
      clear hS2
      try simp only [Act.put, List.setIfInBounds_toArray, List.set_cons_zero, List.set_cons_succ]
      refine wpAnyH_ready (rs := [1, 17]) (by kernel_rfl) (by simp) ?_
      refine readyTwo rfl rfl (fun K' hK => ?_) (fun K' hK => ?_)
      · skip
        go_simp
        refine hK.out _ _ (hHeld.later (belNew Y0 (.cells #[] 76))) (fun hS2 => ?_)
        clear hK K' hHeld
        have hHeld := hS2
        clear hS2
        try simp only [Act.put, List.setIfInBounds_toArray, List.set_cons_zero, List.set_cons_succ]
        have R : RBuf sgE w9.heap.size (Y0.alloc (.cells #[] 76)) (Y0.alloc (.cells #[] 76)) (.slice (some ⟨Y0.heap.size, 0, none⟩) 0 0) [] := (RBuf.fresh sgE Y0).here.lower hz
        replace BXP := BXP.later (belNew Y0 (.cells #[] 76))
        replace hz : w9.heap.size ≤ (Y0.alloc (.cells #[] 76)).heap.size := hHeld.1.size
        replace hlt : Hid (Y0.heap.size < (Y0.alloc (.cells #[] 76)).heap.size) := by show _ < _; simp
        generalize Y0.alloc (.cells #[] 76) = Y16 at hHeld R BXP hz hlt ⊢
        generalize Y0.heap.size = ga15 at R hlt ⊢
        refine wpAnyH_ready (rs := [6, 17]) (by kernel_rfl) (by simp) ?_
        refine readyTwo rfl rfl (fun K' hK => ?_) (fun K' hK => ?_)
        · skip
          refine step_append_rdO rfl _ _ sgE rfl w9.heap.size _ [] rfl R _ hs rfl (HF.out _ hHeld) (by show _ * 49 ≤ _; simp only [List.length_nil]; have := HHL.out; omega) ?_
          intro v' Y17 r' g' at' hlt'
          rw [List.nil_append] at r'
          obtain ⟨va', vc', rfl⟩ := r'.form
          have hrp := Lib.hid (fun k hk => (hlt' k hk).1)
          refine hK.out _ _ (hHeld.grown g' (fun k hk => (hlt' k hk).1) hpW) (fun hS2 => ?_)
          clear hK K' hHeld
          have hHeld := hS2
          clear hS2
          try simp only [Act.put, List.setIfInBounds_toArray, List.set_cons_zero, List.set_cons_succ]
          replace BXP : Box _ pg _ _ := (g'.block pg BXP.lt (fun e => by have := (hlt' pg e.symm).1; omega)).trans BXP
          replace hz : w9.heap.size ≤ Y17.heap.size := hHeld.1.size
          replace hlt : Hid (0 ≤ Y17.heap.size) := Nat.zero_le _
          clear R hrp
          have R := r'
          clear r' at' hlt' g'
          refine wpAnyH_ready (rs := [17]) (by kernel_rfl) (by simp) ?_
          refine readyOne rfl (fun K' hK => ?_)
          go_simp
          refine hK.out _ _ (hHeld.later (belNew Y17 (.cells #[.int .i64 (N : Int), .int .i64 ng, .int .i64 (tx.size : Int), .slice none 0 0] 76))) (fun hS2 => ?_)
          clear hK K' hHeld
          have hHeld := hS2
          clear hS2
          try simp only [Act.put, List.setIfInBounds_toArray, List.set_cons_zero, List.set_cons_succ]
          have L : RBuf sgE w9.heap.size (Y17.alloc (.cells #[.int .i64 (N : Int), .int .i64 ng, .int .i64 (tx.size : Int), .slice none 0 0] 76)) (Y17.alloc (.cells #[.int .i64 (N : Int), .int .i64 ng, .int .i64 (tx.size : Int), .slice none 0 0] 76)) (.slice (some ⟨Y17.heap.size, 0, none⟩) 1 1) [(⟨(N : Int), ng, (tx.size : Int), none, 0, 0⟩ : SgH)] := (RBuf.lit1 sgE Y17 (⟨(N : Int), ng, (tx.size : Int), none, 0, 0⟩ : SgH)).lower hz
          replace R := (R.later (belNew Y17 (.cells #[.int .i64 (N : Int), .int .i64 ng, .int .i64 (tx.size : Int), .slice none 0 0] 76))).here
          replace BXP := BXP.later (belNew Y17 (.cells #[.int .i64 (N : Int), .int .i64 ng, .int .i64 (tx.size : Int), .slice none 0 0] 76))
          replace hz : w9.heap.size ≤ (Y17.alloc (.cells #[.int .i64 (N : Int), .int .i64 ng, .int .i64 (tx.size : Int), .slice none 0 0] 76)).heap.size := hHeld.1.size
          replace hlt : Hid (Y17.heap.size < (Y17.alloc (.cells #[.int .i64 (N : Int), .int .i64 ng, .int .i64 (tx.size : Int), .slice none 0 0] 76)).heap.size) := by show _ < _; simp
          generalize Y17.alloc (.cells #[.int .i64 (N : Int), .int .i64 ng, .int .i64 (tx.size : Int), .slice none 0 0] 76) = Y19 at hHeld R L BXP hz hlt ⊢
          generalize Y17.heap.size = ga18 at L hlt ⊢
          refine wpAnyH_ready (rs := [18]) (by kernel_rfl) (by simp) ?_
          refine readyOne rfl (fun K' hK => ?_)
          refine step_append_rows rfl _ _ sgE rfl w9.heap.size _ hs rfl R _ _ [(⟨(N : Int), ng, (tx.size : Int), none, 0, 0⟩ : SgH)] rfl L (by show _ * 49 ≤ _; simp only [List.length_cons, List.length_nil]; have := HHL.out; omega) ?_
          intro v' Y20 r'' g'' at'' hlt''
          obtain ⟨vd, ve, hvf⟩ := r''.form
          simp only [List.length_append, List.length_cons, List.length_nil, Nat.zero_add] at hvf
          subst hvf
          refine hK.out _ _ (hHeld.grown g'' (fun k hk => (hlt'' k hk).1) hpW) (fun hS2 => ?_)
          clear hK K' hHeld
          have hHeld := hS2
          clear hS2
          try simp only [Act.put, List.setIfInBounds_toArray, List.set_cons_zero, List.set_cons_succ]
          replace BXP : Box _ pg _ _ := (g''.block pg BXP.lt (fun e => by have := (hlt'' pg e.symm).1; omega)).trans BXP
          refine takeL (i := 19) (v := .pointer (some ⟨pg, 0, none⟩)) rfl (by kernel_rfl) (by kernel_rfl) (by kernel_rfl) (fun _ _ _ h => h) (Or.inl ⟨by rfl, ?_⟩) (by assumption) ?_
          · intro x hSx; go_simp
          try simp only [Act.put, List.setIfInBounds_toArray, List.set_cons_zero, List.set_cons_succ]
          refine takeL (i := 20) (v := .pointer (some ⟨pg, 3, none⟩)) rfl (by kernel_rfl) (by kernel_rfl) (by kernel_rfl) (fun _ _ _ h => h) (Or.inl ⟨by rfl, ?_⟩) (by assumption) ?_
          · intro x hSx; go_simp
          try simp only [Act.put, List.setIfInBounds_toArray, List.set_cons_zero, List.set_cons_succ]
          refine wpAnyH_ready (rs := [21]) (by kernel_rfl) (by simp) ?_
          refine readyOne rfl (fun K' hK => ?_)
          have c3 := BXP.cell 3 _ rfl
          have f3 := BXP.loose 3
          go_simp
          clear c3 f3
          refine hK.out _ _ (hHeld.put _) (fun hS2 => ?_)
          clear hK K' hS2
          try simp only [Act.put, List.setIfInBounds_toArray, List.set_cons_zero, List.set_cons_succ]
          refine wpAnyH_done (by kernel_rfl) ?_ _
          go_wp2_with fail
          go_meet
          exact ⟨vd, ve, Y20, rfl, r'', BXP, hHeld.1, rfl⟩
        · skip
          go_simp
          refine hK.out _ _ (hHeld.later (belNew Y16 (.cells #[.int .i64 (N : Int), .int .i64 ng, .int .i64 (tx.size : Int), .slice none 0 0] 76))) (fun hS2 => ?_)
          clear hK K' hHeld
          have hHeld := hS2
          clear hS2
          try simp only [Act.put, List.setIfInBounds_toArray, List.set_cons_zero, List.set_cons_succ]
          have L : RBuf sgE w9.heap.size (Y16.alloc (.cells #[.int .i64 (N : Int), .int .i64 ng, .int .i64 (tx.size : Int), .slice none 0 0] 76)) (Y16.alloc (.cells #[.int .i64 (N : Int), .int .i64 ng, .int .i64 (tx.size : Int), .slice none 0 0] 76)) (.slice (some ⟨Y16.heap.size, 0, none⟩) 1 1) [(⟨(N : Int), ng, (tx.size : Int), none, 0, 0⟩ : SgH)] := (RBuf.lit1 sgE Y16 (⟨(N : Int), ng, (tx.size : Int), none, 0, 0⟩ : SgH)).lower hz
          replace R := (R.later (belNew Y16 (.cells #[.int .i64 (N : Int), .int .i64 ng, .int .i64 (tx.size : Int), .slice none 0 0] 76))).here
          replace BXP := BXP.later (belNew Y16 (.cells #[.int .i64 (N : Int), .int .i64 ng, .int .i64 (tx.size : Int), .slice none 0 0] 76))
          replace hz : w9.heap.size ≤ (Y16.alloc (.cells #[.int .i64 (N : Int), .int .i64 ng, .int .i64 (tx.size : Int), .slice none 0 0] 76)).heap.size := hHeld.1.size
          have hne : Hid (Y16.heap.size ≠ ga15) := by have := hlt.out; show _ ≠ _; omega
          replace hlt : Hid (Y16.heap.size < (Y16.alloc (.cells #[.int .i64 (N : Int), .int .i64 ng, .int .i64 (tx.size : Int), .slice none 0 0] 76)).heap.size) := by show _ < _; simp
          generalize Y16.alloc (.cells #[.int .i64 (N : Int), .int .i64 ng, .int .i64 (tx.size : Int), .slice none 0 0] 76) = Y22 at hHeld R L BXP hz hlt ⊢
          generalize Y16.heap.size = ga21 at L hlt hne ⊢
          refine wpAnyH_ready (rs := [6]) (by kernel_rfl) (by simp) ?_
          refine readyOne rfl (fun K' hK => ?_)
          refine step_append_rdO rfl _ _ sgE rfl w9.heap.size _ [] rfl R _ hs rfl (HF.out _ hHeld) (by show _ * 49 ≤ _; simp only [List.length_nil]; have := HHL.out; omega) ?_
          intro v' Y23 r' g' at' hlt'
          rw [List.nil_append] at r'
          obtain ⟨va', vc', rfl⟩ := r'.form
          have hrp := Lib.hid (fun k hk => (hlt' k hk).1)
          refine hK.out _ _ (hHeld.grown g' (fun k hk => (hlt' k hk).1) hpW) (fun hS2 => ?_)
          clear hK K' hHeld
          have hHeld := hS2
          clear hS2
          try simp only [Act.put, List.setIfInBounds_toArray, List.set_cons_zero, List.set_cons_succ]
          replace BXP : Box _ pg _ _ := (g'.block pg BXP.lt (fun e => by have := (hlt' pg e.symm).1; omega)).trans BXP
          replace hz : w9.heap.size ≤ Y23.heap.size := hHeld.1.size
          replace L := L.shift g' (.inr (fun e => hne.out (Option.some.inj e)))
          replace hlt : Hid (0 ≤ Y23.heap.size) := Nat.zero_le _
          clear R hrp
          have R := r'
          clear r' at' hlt' g'
          refine wpAnyH_ready (rs := [18]) (by kernel_rfl) (by simp) ?_
          refine readyOne rfl (fun K' hK => ?_)
          refine step_append_rows rfl _ _ sgE rfl w9.heap.size _ hs rfl R _ _ [(⟨(N : Int), ng, (tx.size : Int), none, 0, 0⟩ : SgH)] rfl L (by show _ * 49 ≤ _; simp only [List.length_cons, List.length_nil]; have := HHL.out; omega) ?_
          intro v' Y24 r'' g'' at'' hlt''
          obtain ⟨vd, ve, hvf⟩ := r''.form
          simp only [List.length_append, List.length_cons, List.length_nil, Nat.zero_add] at hvf
          subst hvf
          refine hK.out _ _ (hHeld.grown g'' (fun k hk => (hlt'' k hk).1) hpW) (fun hS2 => ?_)
          clear hK K' hHeld
          have hHeld := hS2
          clear hS2
          try simp only [Act.put, List.setIfInBounds_toArray, List.set_cons_zero, List.set_cons_succ]
          replace BXP : Box _ pg _ _ := (g''.block pg BXP.lt (fun e => by have := (hlt'' pg e.symm).1; omega)).trans BXP
          refine takeL (i := 19) (v := .pointer (some ⟨pg, 0, none⟩)) rfl (by kernel_rfl) (by kernel_rfl) (by kernel_rfl) (fun _ _ _ h => h) (Or.inl ⟨by rfl, ?_⟩) (by assumption) ?_
          · intro x hSx; go_simp
          try simp only [Act.put, List.setIfInBounds_toArray, List.set_cons_zero, List.set_cons_succ]
          refine takeL (i := 20) (v := .pointer (some ⟨pg, 3, none⟩)) rfl (by kernel_rfl) (by kernel_rfl) (by kernel_rfl) (fun _ _ _ h => h) (Or.inl ⟨by rfl, ?_⟩) (by assumption) ?_
          · intro x hSx; go_simp
          try simp only [Act.put, List.setIfInBounds_toArray, List.set_cons_zero, List.set_cons_succ]
          refine wpAnyH_ready (rs := [21]) (by kernel_rfl) (by simp) ?_
          refine readyOne rfl (fun K' hK => ?_)
          have c3 := BXP.cell 3 _ rfl
          have f3 := BXP.loose 3
          go_simp
          clear c3 f3
          refine hK.out _ _ (hHeld.put _) (fun hS2 => ?_)
          clear hK K' hS2
          try simp only [Act.put, List.setIfInBounds_toArray, List.set_cons_zero, List.set_cons_succ]
          refine wpAnyH_done (by kernel_rfl) ?_ _
          go_wp2_with fail
          go_meet
          exact ⟨vd, ve, Y24, rfl, r'', BXP, hHeld.1, rfl⟩
      · skip
        go_simp
        refine hK.out _ _ (hHeld.later (belNew Y0 (.cells #[.int .i64 (N : Int), .int .i64 ng, .int .i64 (tx.size : Int), .slice none 0 0] 76))) (fun hS2 => ?_)
        clear hK K' hHeld
        have hHeld := hS2
        clear hS2
        try simp only [Act.put, List.setIfInBounds_toArray, List.set_cons_zero, List.set_cons_succ]
        have L : RBuf sgE w9.heap.size (Y0.alloc (.cells #[.int .i64 (N : Int), .int .i64 ng, .int .i64 (tx.size : Int), .slice none 0 0] 76)) (Y0.alloc (.cells #[.int .i64 (N : Int), .int .i64 ng, .int .i64 (tx.size : Int), .slice none 0 0] 76)) (.slice (some ⟨Y0.heap.size, 0, none⟩) 1 1) [(⟨(N : Int), ng, (tx.size : Int), none, 0, 0⟩ : SgH)] := (RBuf.lit1 sgE Y0 (⟨(N : Int), ng, (tx.size : Int), none, 0, 0⟩ : SgH)).lower hz
        replace BXP := BXP.later (belNew Y0 (.cells #[.int .i64 (N : Int), .int .i64 ng, .int .i64 (tx.size : Int), .slice none 0 0] 76))
        replace hz : w9.heap.size ≤ (Y0.alloc (.cells #[.int .i64 (N : Int), .int .i64 ng, .int .i64 (tx.size : Int), .slice none 0 0] 76)).heap.size := hHeld.1.size
        replace hlt : Hid (Y0.heap.size < (Y0.alloc (.cells #[.int .i64 (N : Int), .int .i64 ng, .int .i64 (tx.size : Int), .slice none 0 0] 76)).heap.size) := by show _ < _; simp
        generalize Y0.alloc (.cells #[.int .i64 (N : Int), .int .i64 ng, .int .i64 (tx.size : Int), .slice none 0 0] 76) = Y26 at hHeld L BXP hz hlt ⊢
        generalize Y0.heap.size = ga25 at L hlt ⊢
        refine wpAnyH_ready (rs := [1]) (by kernel_rfl) (by simp) ?_
        refine readyOne rfl (fun K' hK => ?_)
        go_simp
        refine hK.out _ _ (hHeld.later (belNew Y26 (.cells #[] 76))) (fun hS2 => ?_)
        clear hK K' hHeld
        have hHeld := hS2
        clear hS2
        try simp only [Act.put, List.setIfInBounds_toArray, List.set_cons_zero, List.set_cons_succ]
        have R : RBuf sgE w9.heap.size (Y26.alloc (.cells #[] 76)) (Y26.alloc (.cells #[] 76)) (.slice (some ⟨Y26.heap.size, 0, none⟩) 0 0) [] := (RBuf.fresh sgE Y26).here.lower hz
        replace L := (L.later (belNew Y26 (.cells #[] 76))).here
        replace BXP := BXP.later (belNew Y26 (.cells #[] 76))
        replace hz : w9.heap.size ≤ (Y26.alloc (.cells #[] 76)).heap.size := hHeld.1.size
        have hne : Hid (ga25 ≠ Y26.heap.size) := by have := hlt.out; show _ ≠ _; omega
        replace hlt : Hid (Y26.heap.size < (Y26.alloc (.cells #[] 76)).heap.size) := by show _ < _; simp
        generalize Y26.alloc (.cells #[] 76) = Y28 at hHeld R L BXP hz hlt ⊢
        generalize Y26.heap.size = ga27 at R hlt hne ⊢
        refine wpAnyH_ready (rs := [6]) (by kernel_rfl) (by simp) ?_
        refine readyOne rfl (fun K' hK => ?_)
        refine step_append_rdO rfl _ _ sgE rfl w9.heap.size _ [] rfl R _ hs rfl (HF.out _ hHeld) (by show _ * 49 ≤ _; simp only [List.length_nil]; have := HHL.out; omega) ?_
        intro v' Y29 r' g' at' hlt'
        rw [List.nil_append] at r'
        obtain ⟨va', vc', rfl⟩ := r'.form
        have hrp := Lib.hid (fun k hk => (hlt' k hk).1)
        refine hK.out _ _ (hHeld.grown g' (fun k hk => (hlt' k hk).1) hpW) (fun hS2 => ?_)
        clear hK K' hHeld
        have hHeld := hS2
        clear hS2
        try simp only [Act.put, List.setIfInBounds_toArray, List.set_cons_zero, List.set_cons_succ]
        replace BXP : Box _ pg _ _ := (g'.block pg BXP.lt (fun e => by have := (hlt' pg e.symm).1; omega)).trans BXP
        replace hz : w9.heap.size ≤ Y29.heap.size := hHeld.1.size
        replace L := L.shift g' (.inr (fun e => hne.out (Option.some.inj e)))
        replace hlt : Hid (0 ≤ Y29.heap.size) := Nat.zero_le _
        clear R hrp
        have R := r'
        clear r' at' hlt' g'
        refine wpAnyH_ready (rs := [18]) (by kernel_rfl) (by simp) ?_
        refine readyOne rfl (fun K' hK => ?_)
        refine step_append_rows rfl _ _ sgE rfl w9.heap.size _ hs rfl R _ _ [(⟨(N : Int), ng, (tx.size : Int), none, 0, 0⟩ : SgH)] rfl L (by show _ * 49 ≤ _; simp only [List.length_cons, List.length_nil]; have := HHL.out; omega) ?_
        intro v' Y30 r'' g'' at'' hlt''
        obtain ⟨vd, ve, hvf⟩ := r''.form
        simp only [List.length_append, List.length_cons, List.length_nil, Nat.zero_add] at hvf
        subst hvf
        refine hK.out _ _ (hHeld.grown g'' (fun k hk => (hlt'' k hk).1) hpW) (fun hS2 => ?_)
        clear hK K' hHeld
        have hHeld := hS2
        clear hS2
        try simp only [Act.put, List.setIfInBounds_toArray, List.set_cons_zero, List.set_cons_succ]
        replace BXP : Box _ pg _ _ := (g''.block pg BXP.lt (fun e => by have := (hlt'' pg e.symm).1; omega)).trans BXP
        refine takeL (i := 19) (v := .pointer (some ⟨pg, 0, none⟩)) rfl (by kernel_rfl) (by kernel_rfl) (by kernel_rfl) (fun _ _ _ h => h) (Or.inl ⟨by rfl, ?_⟩) (by assumption) ?_
        · intro x hSx; go_simp
        try simp only [Act.put, List.setIfInBounds_toArray, List.set_cons_zero, List.set_cons_succ]
        refine takeL (i := 20) (v := .pointer (some ⟨pg, 3, none⟩)) rfl (by kernel_rfl) (by kernel_rfl) (by kernel_rfl) (fun _ _ _ h => h) (Or.inl ⟨by rfl, ?_⟩) (by assumption) ?_
        · intro x hSx; go_simp
        try simp only [Act.put, List.setIfInBounds_toArray, List.set_cons_zero, List.set_cons_succ]
        refine wpAnyH_ready (rs := [21]) (by kernel_rfl) (by simp) ?_
        refine readyOne rfl (fun K' hK => ?_)
        have c3 := BXP.cell 3 _ rfl
        have f3 := BXP.loose 3
        go_simp
        clear c3 f3
        refine hK.out _ _ (hHeld.put _) (fun hS2 => ?_)
        clear hK K' hS2
        try simp only [Act.put, List.setIfInBounds_toArray, List.set_cons_zero, List.set_cons_succ]
        refine wpAnyH_done (by kernel_rfl) ?_ _
        go_wp2_with fail
        go_meet
        exact ⟨vd, ve, Y30, rfl, r'', BXP, hHeld.1, rfl⟩
    · skip
      go_simp
      refine hK.out _ _ (hHeld.later (belNew Y0 (.cells #[.int .i64 (N : Int), .int .i64 ng, .int .i64 (tx.size : Int), .slice none 0 0] 76))) (fun hS2 => ?_)
      clear hK K' hHeld
      have hHeld := hS2
      clear hS2
      try simp only [Act.put, List.setIfInBounds_toArray, List.set_cons_zero, List.set_cons_succ]
      have L : RBuf sgE w9.heap.size (Y0.alloc (.cells #[.int .i64 (N : Int), .int .i64 ng, .int .i64 (tx.size : Int), .slice none 0 0] 76)) (Y0.alloc (.cells #[.int .i64 (N : Int), .int .i64 ng, .int .i64 (tx.size : Int), .slice none 0 0] 76)) (.slice (some ⟨Y0.heap.size, 0, none⟩) 1 1) [(⟨(N : Int), ng, (tx.size : Int), none, 0, 0⟩ : SgH)] := (RBuf.lit1 sgE Y0 (⟨(N : Int), ng, (tx.size : Int), none, 0, 0⟩ : SgH)).lower hz
      replace BXP := BXP.later (belNew Y0 (.cells #[.int .i64 (N : Int), .int .i64 ng, .int .i64 (tx.size : Int), .slice none 0 0] 76))
      replace hz : w9.heap.size ≤ (Y0.alloc (.cells #[.int .i64 (N : Int), .int .i64 ng, .int .i64 (tx.size : Int), .slice none 0 0] 76)).heap.size := hHeld.1.size
      replace hlt : Hid (Y0.heap.size < (Y0.alloc (.cells #[.int .i64 (N : Int), .int .i64 ng, .int .i64 (tx.size : Int), .slice none 0 0] 76)).heap.size) := by show _ < _; simp
      generalize Y0.alloc (.cells #[.int .i64 (N : Int), .int .i64 ng, .int .i64 (tx.size : Int), .slice none 0 0] 76) = Y32 at hHeld L BXP hz hlt ⊢
      generalize Y0.heap.size = ga31 at L hlt ⊢
      refine wpAnyH_ready (rs := [1, 5]) (by kernel_rfl) (by simp) ?_
      refine readyTwo rfl rfl (fun K' hK => ?_) (fun K' hK => ?_)
      · skip
        go_simp
        refine hK.out _ _ (hHeld.later (belNew Y32 (.cells #[] 76))) (fun hS2 => ?_)
        clear hK K' hHeld
        have hHeld := hS2
        clear hS2
        try simp only [Act.put, List.setIfInBounds_toArray, List.set_cons_zero, List.set_cons_succ]
        have R : RBuf sgE w9.heap.size (Y32.alloc (.cells #[] 76)) (Y32.alloc (.cells #[] 76)) (.slice (some ⟨Y32.heap.size, 0, none⟩) 0 0) [] := (RBuf.fresh sgE Y32).here.lower hz
        replace L := (L.later (belNew Y32 (.cells #[] 76))).here
        replace BXP := BXP.later (belNew Y32 (.cells #[] 76))
        replace hz : w9.heap.size ≤ (Y32.alloc (.cells #[] 76)).heap.size := hHeld.1.size
        have hne : Hid (ga31 ≠ Y32.heap.size) := by have := hlt.out; show _ ≠ _; omega
        replace hlt : Hid (Y32.heap.size < (Y32.alloc (.cells #[] 76)).heap.size) := by show _ < _; simp
        generalize Y32.alloc (.cells #[] 76) = Y34 at hHeld R L BXP hz hlt ⊢
        generalize Y32.heap.size = ga33 at R hlt hne ⊢
        refine wpAnyH_ready (rs := [5]) (by kernel_rfl) (by simp) ?_
        refine readyOne rfl (fun K' hK => ?_)
        have c3 := BXP.cell 3 _ rfl
        go_simp
        clear c3
        refine hK.out _ _ (hHeld) (fun hS2 => ?_)
        clear hK K' hHeld
        have hHeld := hS2
        clear hS2
        try simp only [Act.put, List.setIfInBounds_toArray, List.set_cons_zero, List.set_cons_succ]
        refine wpAnyH_ready (rs := [6]) (by kernel_rfl) (by simp) ?_
        refine readyOne rfl (fun K' hK => ?_)
        refine step_append_rdO rfl _ _ sgE rfl w9.heap.size _ [] rfl R _ hs rfl (HF.out _ hHeld) (by show _ * 49 ≤ _; simp only [List.length_nil]; have := HHL.out; omega) ?_
        intro v' Y35 r' g' at' hlt'
        rw [List.nil_append] at r'
        obtain ⟨va', vc', rfl⟩ := r'.form
        have hrp := Lib.hid (fun k hk => (hlt' k hk).1)
        refine hK.out _ _ (hHeld.grown g' (fun k hk => (hlt' k hk).1) hpW) (fun hS2 => ?_)
        clear hK K' hHeld
        have hHeld := hS2
        clear hS2
        try simp only [Act.put, List.setIfInBounds_toArray, List.set_cons_zero, List.set_cons_succ]
        replace BXP : Box _ pg _ _ := (g'.block pg BXP.lt (fun e => by have := (hlt' pg e.symm).1; omega)).trans BXP
        replace hz : w9.heap.size ≤ Y35.heap.size := hHeld.1.size
        replace L := L.shift g' (.inr (fun e => hne.out (Option.some.inj e)))
        replace hlt : Hid (0 ≤ Y35.heap.size) := Nat.zero_le _
        clear R hrp
        have R := r'
        clear r' at' hlt' g'
        refine wpAnyH_ready (rs := [18]) (by kernel_rfl) (by simp) ?_
        refine readyOne rfl (fun K' hK => ?_)
        refine step_append_rows rfl _ _ sgE rfl w9.heap.size _ hs rfl R _ _ [(⟨(N : Int), ng, (tx.size : Int), none, 0, 0⟩ : SgH)] rfl L (by show _ * 49 ≤ _; simp only [List.length_cons, List.length_nil]; have := HHL.out; omega) ?_
        intro v' Y36 r'' g'' at'' hlt''
        obtain ⟨vd, ve, hvf⟩ := r''.form
        simp only [List.length_append, List.length_cons, List.length_nil, Nat.zero_add] at hvf
        subst hvf
        refine hK.out _ _ (hHeld.grown g'' (fun k hk => (hlt'' k hk).1) hpW) (fun hS2 => ?_)
        clear hK K' hHeld
        have hHeld := hS2
        clear hS2
        try simp only [Act.put, List.setIfInBounds_toArray, List.set_cons_zero, List.set_cons_succ]
        replace BXP : Box _ pg _ _ := (g''.block pg BXP.lt (fun e => by have := (hlt'' pg e.symm).1; omega)).trans BXP
        refine takeL (i := 19) (v := .pointer (some ⟨pg, 0, none⟩)) rfl (by kernel_rfl) (by kernel_rfl) (by kernel_rfl) (fun _ _ _ h => h) (Or.inl ⟨by rfl, ?_⟩) (by assumption) ?_
        · intro x hSx; go_simp
        try simp only [Act.put, List.setIfInBounds_toArray, List.set_cons_zero, List.set_cons_succ]
        refine takeL (i := 20) (v := .pointer (some ⟨pg, 3, none⟩)) rfl (by kernel_rfl) (by kernel_rfl) (by kernel_rfl) (fun _ _ _ h => h) (Or.inl ⟨by rfl, ?_⟩) (by assumption) ?_
        · intro x hSx; go_simp
        try simp only [Act.put, List.setIfInBounds_toArray, List.set_cons_zero, List.set_cons_succ]
        refine wpAnyH_ready (rs := [21]) (by kernel_rfl) (by simp) ?_
        refine readyOne rfl (fun K' hK => ?_)
        have c3 := BXP.cell 3 _ rfl
        have f3 := BXP.loose 3
        go_simp
        clear c3 f3
        refine hK.out _ _ (hHeld.put _) (fun hS2 => ?_)
        clear hK K' hS2
        try simp only [Act.put, List.setIfInBounds_toArray, List.set_cons_zero, List.set_cons_succ]
        refine wpAnyH_done (by kernel_rfl) ?_ _
        go_wp2_with fail
        go_meet
        exact ⟨vd, ve, Y36, rfl, r'', BXP, hHeld.1, rfl⟩
      · skip
        have c3 := BXP.cell 3 _ rfl
        go_simp
        clear c3
        refine hK.out _ _ (hHeld) (fun hS2 => ?_)
        clear hK K' hHeld
        have hHeld := hS2
        clear hS2
        try simp only [Act.put, List.setIfInBounds_toArray, List.set_cons_zero, List.set_cons_succ]
        refine wpAnyH_ready (rs := [1]) (by kernel_rfl) (by simp) ?_
        refine readyOne rfl (fun K' hK => ?_)
        go_simp
        refine hK.out _ _ (hHeld.later (belNew Y32 (.cells #[] 76))) (fun hS2 => ?_)
        clear hK K' hHeld
        have hHeld := hS2
        clear hS2
        try simp only [Act.put, List.setIfInBounds_toArray, List.set_cons_zero, List.set_cons_succ]
        have R : RBuf sgE w9.heap.size (Y32.alloc (.cells #[] 76)) (Y32.alloc (.cells #[] 76)) (.slice (some ⟨Y32.heap.size, 0, none⟩) 0 0) [] := (RBuf.fresh sgE Y32).here.lower hz
        replace L := (L.later (belNew Y32 (.cells #[] 76))).here
        replace BXP := BXP.later (belNew Y32 (.cells #[] 76))
        replace hz : w9.heap.size ≤ (Y32.alloc (.cells #[] 76)).heap.size := hHeld.1.size
        have hne : Hid (ga31 ≠ Y32.heap.size) := by have := hlt.out; show _ ≠ _; omega
        replace hlt : Hid (Y32.heap.size < (Y32.alloc (.cells #[] 76)).heap.size) := by show _ < _; simp
        generalize Y32.alloc (.cells #[] 76) = Y38 at hHeld R L BXP hz hlt ⊢
        generalize Y32.heap.size = ga37 at R hlt hne ⊢
        refine wpAnyH_ready (rs := [6]) (by kernel_rfl) (by simp) ?_
        refine readyOne rfl (fun K' hK => ?_)
        refine step_append_rdO rfl _ _ sgE rfl w9.heap.size _ [] rfl R _ hs rfl (HF.out _ hHeld) (by show _ * 49 ≤ _; simp only [List.length_nil]; have := HHL.out; omega) ?_
        intro v' Y39 r' g' at' hlt'
        rw [List.nil_append] at r'
        obtain ⟨va', vc', rfl⟩ := r'.form
        have hrp := Lib.hid (fun k hk => (hlt' k hk).1)
        refine hK.out _ _ (hHeld.grown g' (fun k hk => (hlt' k hk).1) hpW) (fun hS2 => ?_)
        clear hK K' hHeld
        have hHeld := hS2
        clear hS2
        try simp only [Act.put, List.setIfInBounds_toArray, List.set_cons_zero, List.set_cons_succ]
        replace BXP : Box _ pg _ _ := (g'.block pg BXP.lt (fun e => by have := (hlt' pg e.symm).1; omega)).trans BXP
        replace hz : w9.heap.size ≤ Y39.heap.size := hHeld.1.size
        replace L := L.shift g' (.inr (fun e => hne.out (Option.some.inj e)))
        replace hlt : Hid (0 ≤ Y39.heap.size) := Nat.zero_le _
        clear R hrp
        have R := r'
        clear r' at' hlt' g'
        refine wpAnyH_ready (rs := [18]) (by kernel_rfl) (by simp) ?_
        refine readyOne rfl (fun K' hK => ?_)
        refine step_append_rows rfl _ _ sgE rfl w9.heap.size _ hs rfl R _ _ [(⟨(N : Int), ng, (tx.size : Int), none, 0, 0⟩ : SgH)] rfl L (by show _ * 49 ≤ _; simp only [List.length_cons, List.length_nil]; have := HHL.out; omega) ?_
        intro v' Y40 r'' g'' at'' hlt''
        obtain ⟨vd, ve, hvf⟩ := r''.form
        simp only [List.length_append, List.length_cons, List.length_nil, Nat.zero_add] at hvf
        subst hvf
        refine hK.out _ _ (hHeld.grown g'' (fun k hk => (hlt'' k hk).1) hpW) (fun hS2 => ?_)
        clear hK K' hHeld
        have hHeld := hS2
        clear hS2
        try simp only [Act.put, List.setIfInBounds_toArray, List.set_cons_zero, List.set_cons_succ]
        replace BXP : Box _ pg _ _ := (g''.block pg BXP.lt (fun e => by have := (hlt'' pg e.symm).1; omega)).trans BXP
        refine takeL (i := 19) (v := .pointer (some ⟨pg, 0, none⟩)) rfl (by kernel_rfl) (by kernel_rfl) (by kernel_rfl) (fun _ _ _ h => h) (Or.inl ⟨by rfl, ?_⟩) (by assumption) ?_
        · intro x hSx; go_simp
        try simp only [Act.put, List.setIfInBounds_toArray, List.set_cons_zero, List.set_cons_succ]
        refine takeL (i := 20) (v := .pointer (some ⟨pg, 3, none⟩)) rfl (by kernel_rfl) (by kernel_rfl) (by kernel_rfl) (fun _ _ _ h => h) (Or.inl ⟨by rfl, ?_⟩) (by assumption) ?_
        · intro x hSx; go_simp
        try simp only [Act.put, List.setIfInBounds_toArray, List.set_cons_zero, List.set_cons_succ]
        refine wpAnyH_ready (rs := [21]) (by kernel_rfl) (by simp) ?_
        refine readyOne rfl (fun K' hK => ?_)
        have c3 := BXP.cell 3 _ rfl
        have f3 := BXP.loose 3
        go_simp
        clear c3 f3
        refine hK.out _ _ (hHeld.put _) (fun hS2 => ?_)
        clear hK K' hS2
        try simp only [Act.put, List.setIfInBounds_toArray, List.set_cons_zero, List.set_cons_succ]
        refine wpAnyH_done (by kernel_rfl) ?_ _
        go_wp2_with fail
        go_meet
        exact ⟨vd, ve, Y40, rfl, r'', BXP, hHeld.1, rfl⟩
  case rest =>
  obtain ⟨a9, c9, y, rfl, R9, BY, GY, rfl⟩ := hcut
  have BZ := BY.set 3 (.slice a9 (hs.length + 1) c9)
  have c4 := BZ.cell 4 _ rfl
  have f4 := BZ.loose 4
  have hw1 : IntKind.i64.wrap (ng + 1) = ng + 1 := IntWalk.i64_in _ ⟨by omega, by omega⟩
  have HFIN : Hid (OpR ⟨d, segs, us, ng, ns, st, nv⟩ keep pg B T 28 (.slice aa d.sec.length ca) (.slice ab d.cache.length cb) (.slice au hs.length cu) hs w (.returned (.bool true)) ((y.setCell ⟨pg, 3, none⟩ (.slice a9 (hs.length + 1) c9)).setCell ⟨pg, 4, none⟩ (.int .i64 (ng + 1)))) := by
    have gZ : w9.grownBy ((y.setCell ⟨pg, 3, none⟩ (.slice a9 (hs.length + 1) c9)).setCell ⟨pg, 4, none⟩ (.int .i64 (ng + 1))) (some pg) := grownBy_storeO (grownBy_storeO GY 3 _) 4 _
    have BF := BZ.set 4 (.int .i64 (ng + 1))
    have hpn9 : (Value.slice a9 (hs.length + 1) c9).ownBlock ≠ some pg := fun e => by have := (R9.own.lt pg e).1; omega
    have hpn9' : (Value.slice a9 (hs.length + 1) c9).ownBlock = none ∨ (Value.slice a9 (hs.length + 1) c9).ownBlock ≠ some pg := .inr hpn9
    have RZ := (R9.shift (stored_grown y pg 3 (.slice a9 (hs.length + 1) c9)) hpn9').shift (stored_grown _ pg 4 (.int .i64 (ng + 1))) hpn9'
    generalize (y.setCell ⟨pg, 3, none⟩ (.slice a9 (hs.length + 1) c9)).setCell ⟨pg, 4, none⟩ (.int .i64 (ng + 1)) = Z at gZ BF RZ ⊢
    have gw := HG9.out.trans gZ
    have g7 := HG79.out.trans gZ
    have hPZ := HPG.out
    have hz : w.heap.size ≤ Z.heap.size := gw.size
    have dZ := o7.stayO g7.size (fun q h1 h2 => g7.block q h2 (fun e => by have := Option.some.inj e; have := hz3.out; omega))
    have hT := HP.out.use.le
    have gz := HP.out.use.grow hz (fun q h1 h2 => gw.block q (by omega) (fun e => by have := Option.some.inj e; omega)) ⟨(N : Int), ng, (tx.size : Int), []⟩ (⟨(N : Int), ng, (tx.size : Int), none, 0, 0⟩ : SgH) ⟨rfl, rfl, rfl⟩ rfl rfl RZ (by have := HZ9.out; have := hz3.out; have := hz7.out; omega) (by have := HP.out.use.own.row.le; have := HZ9.out; have := hz3.out; have := hz7.out; omega)
    refine ⟨gw, .inr ⟨_, .slice p1 E.sec.length r1, .slice p2 E.cache.length r2, .slice a9 (hs.length + 1) c9, hs ++ [(⟨(N : Int), ng, (tx.size : Int), none, 0, 0⟩ : SgH)], HOS8.out, rfl, BF, ?_⟩⟩
    refine LgP.mkO (T0 := T) dZ gz (by have := HP.out.use.own.row.le; have := hz3.out; omega) (by have := hz3.out; omega) (fun k hk => by have := (RZ.own.lt k hk).1; have := HZ9.out; omega) (fun j x9 hj k hk => ?_)
    by_cases hc : j < hs.length
    · rw [List.getElem?_append_left hc] at hj
      exact HP.out.use.its j x9 hj k hk
    · rw [List.getElem?_append_right (by omega)] at hj
      have hj0 : j - hs.length = 0 := by
        have := (List.getElem?_eq_some_iff.1 hj).1
        simp at this; omega
      rw [hj0] at hj
      simp at hj
      subst hj
      cases hk
  clear BZ BY GY R9 HF PF P4 BXP
  go_wp2
  go_ret
  exact HFIN.out

end Go.Proofs.YtgcnebepklelpaaGreatDoor
