/- Texts of our own, joined. -/
import Derived.Test.YtlifgcgoehkinaaGreatDoorJr
import Derived.Test.YtlifgcgoehkinaaGreatDoorJd
/- How much of each segment is needed: the model's l13Sizes. -/
namespace Go.Proofs.YtlifgcgoehkinaaGreatDoor
open Go.RowKit

set_option maxRecDepth 100000 in
set_option maxHeartbeats 8000000 in
theorem specSizes_any (S : So) (v : Value) (w : World) (h : SoRd w v S) (hL : S.lean) :
    Calls Tryz.prog 11 #[v] w fun e w' => ∃ v', e = .returned v' ∧ RBuf intE w.heap.size w w' v' (szs S S.g.used.length) := by
  obtain ⟨va, vb, au, af, cu, cf, rfl, _, hu, _⟩ := h.opened
  obtain ⟨ad, cap, ev, hrow⟩ := hu.segs
  injection ev with e1 e2 e3
  subst e1 e3
  have b0 := belNew w (.cells #[va, vb, .int .i64 S.g.segs, .slice au S.g.used.length cu, .int .i64 S.g.ng, .int .i64 S.g.ns, .int .i64 S.g.st, .int .i64 S.g.nv, .slice af S.fr.length cf] 41)
  have q0 := Box.new w #[va, vb, .int .i64 S.g.segs, .slice au S.g.used.length cu, .int .i64 S.g.ng, .int .i64 S.g.ns, .int .i64 S.g.st, .int .i64 S.g.nv, .slice af S.fr.length cf] 41
  have hl := S.lean_its hL
  have HFC : Hid (∀ (no : Int) X, Below w.heap.size w X → Calls Tryz.prog 21 #[.agg #[va, vb, .int .i64 S.g.segs, .slice au S.g.used.length cu, .int .i64 S.g.ng, .int .i64 S.g.ns, .int .i64 S.g.st, .int .i64 S.g.nv, .slice af S.fr.length cf], .int .i64 no] X fun e w' => e = .returned (.bool (frI S.fr no)) ∧ Below X.heap.size X w') := fun no X hX => specFreed_any S _ no X (h.later hX) hL.2
  have HKP : Hid (∀ X, Below w.heap.size w X → Calls Tryz.prog 20 #[.agg #[va, vb, .int .i64 S.g.segs, .slice au S.g.used.length cu, .int .i64 S.g.ng, .int .i64 S.g.ns, .int .i64 S.g.st, .int .i64 S.g.nv, .slice af S.fr.length cf]] X fun e w' => ∃ v', e = .returned v' ∧ RBuf itE X.heap.size X w' v' (its (kU S.fr S.g.used))) := fun X hX => specKept_any S _ X (h.later hX) hL
  have hkl : (its (kU S.fr S.g.used)).length ≤ 1048576 := by
    have h1 := gIts_kU S.fr S.g.used
    rw [its_len]
    omega
  have HND : Hid (∀ v X, Rows' itE X v (its (kU S.fr S.g.used)) → Calls Tryz.prog 19 #[v] X fun e w' => ∃ v', e = .returned v' ∧ RBuf boE X.heap.size X w' v' (ndS S)) := fun v X hX => specNeededAll_any _ v X hX hkl (fun x hx => by
    obtain ⟨b, hb, hx⟩ := its_mem hx
    exact S.g.lean_texts hL.1 b (kU_mem hb) x hx)
  have HTX : Hid (∀ (k : Nat) (s : Sg), S.g.used[k]? = some s → ∀ (j : Nat) (x : Itm), s.items[j]? = some x → x.2.user.size ≤ 1048576 ∧ x.2.name.size ≤ 1048576 ∧ x.2.text.size ≤ 1048576) := fun k s hs j x hx => S.g.lean_texts hL.1 s (List.mem_of_getElem? hs) x (List.mem_of_getElem? hx)
  have HOF : Hid (∀ (k : Nat) (s : Sg), S.g.used[k]? = some s → frI S.fr s.no = false → offN S.fr S.g.used k + s.items.length ≤ (ndS S).length) := fun k s hs hf => by
    rw [ndS_len, ← offN_yes hs hf]
    exact offN_le _ _ _
  have hnd : (ndS S).length ≤ 1048576 := by rw [ndS_len]; exact hkl
  have HSL : Hid (∀ (k : Nat) (s : Sg), S.g.used[k]? = some s → s.items.length ≤ 1048576) := fun k s hs => by have := gIts_at hs; omega
  have HR : Hid _ := hrow
  clear hu hrow h hL e2 hkl
  obtain ⟨W, hW⟩ : ∃ W, w.alloc (.cells #[va, vb, .int .i64 S.g.segs, .slice au S.g.used.length cu, .int .i64 S.g.ng, .int .i64 S.g.ns, .int .i64 S.g.st, .int .i64 S.g.nv, .slice af S.fr.length cf] 41) = W := ⟨_, rfl⟩
  rw [hW] at b0 q0
  have HW := Lib.hid hW
  clear hW
  obtain ⟨n, hn⟩ : ∃ n, S.g.used.length = n := ⟨_, rfl⟩
  have HN := Lib.hid hn
  obtain ⟨m, hm⟩ : ∃ m, S.fr.length = m := ⟨_, rfl⟩
  rw [hn, hm] at q0 HW HFC HKP ⊢
  rw [hn] at hl
  clear hm hn
  obtain ⟨g0, hg0⟩ : ∃ g0, w.heap.size = g0 := ⟨_, rfl⟩
  rw [hg0] at q0
  have HG0 := Lib.hid hg0
  clear hg0
  go_enter Tryz.func11, Tryz.ntmps11
  go_upto_region 1 with fail
  rw [HW.out, HG0.out]
  obtain ⟨⟨x0, x1, x2, x3, x4, x5, x6, x7, x8⟩, _⟩ := q0.nineL
  go_wp2_with fail
  clear x0 x1 x2 x3 x4 x5 x6 x7 x8
  refine (HKP.out _ b0).mono ?_
  rintro e w1 ⟨v1, rfl, R1⟩
  obtain ⟨a1, p1, rfl⟩ := R1.form
  go_wp2_with fail
  refine (HND.out _ _ R1.rows).mono ?_
  rintro e w2 ⟨v2, rfl, R2⟩
  obtain ⟨a2, p2, rfl⟩ := R2.form
  have b1 := b0.trans (R1.bel.mono b0.size)
  have b2 := b1.trans (R2.bel.mono b1.size)
  have HQ := Lib.hid ((q0.later R1.bel).later R2.bel)
  have HB2 := Lib.hid b2
  have HD2 := Lib.hid R2.rows
  have I0 := RBuf.fresh intE w2
  have HO0 : Hid (offN S.fr S.g.used 0 = 0) := by show _ = _; simp [offN, kU, its]
  obtain ⟨nl, hnl⟩ : ∃ nl, (ndS S).length = nl := ⟨_, rfl⟩
  rw [hnl] at hnd HOF HD2 ⊢
  have HNL := Lib.hid hnl
  clear q0 b0 b1 b2 R1 R2 HW HKP HND hnl
  go_wp2_with fail
  go_loopw [4, 5, 6] (fun v av iv wr => ∃ k : Nat, k ≤ n ∧ iv = .int .i64 (k : Int) ∧ av = .int .i64 (offN S.fr S.g.used k : Int) ∧ RBuf intE w2.heap.size w2 wr v (szs S k)) (fun _ _ iv _ => n - (intOf iv).toNat)
  case atStart => exact ⟨0, by omega, rfl, by rw [HO0.out]; rfl, I0⟩
  case round =>
    clear I0 HO0
    obtain ⟨k, hk, rfl, rfl, I⟩ := hrel
    by_cases hlt : k < n
    · obtain ⟨s, hgs⟩ : ∃ s, S.g.used[k]? = some s := ⟨_, List.getElem?_eq_getElem (by rw [HN.out]; exact hlt)⟩
      have bW := HB2.out.trans (I.bel.mono HB2.out.size)
      obtain ⟨ga, oa, am, nm, cm, rfl, a0, a1', a2', a4, rm⟩ := HR.out _ bW k s hgs
      have hgl : ga < wr.heap.size := World.block_lt_of_cell? _ _ a0
      have HX : Hid (∀ X, Below wr.heap.size wr X → ((X.cell? ⟨g0, 0, none⟩ = some (va) ∧ X.cell? ⟨g0, 1, none⟩ = some (vb) ∧ X.cell? ⟨g0, 2, none⟩ = some (.int .i64 S.g.segs) ∧ X.cell? ⟨g0, 3, none⟩ = some (.slice (some ⟨ga, oa, none⟩) n cu) ∧ X.cell? ⟨g0, 4, none⟩ = some (.int .i64 S.g.ng) ∧ X.cell? ⟨g0, 5, none⟩ = some (.int .i64 S.g.ns) ∧ X.cell? ⟨g0, 6, none⟩ = some (.int .i64 S.g.st) ∧ X.cell? ⟨g0, 7, none⟩ = some (.int .i64 S.g.nv) ∧ X.cell? ⟨g0, 8, none⟩ = some (.slice af m cf)) ∧ X.cell? ⟨ga, oa + k * 4, none⟩ = some (.int .i64 s.no)) ∧ (X.cell? ⟨ga, oa + k * 4 + 1, none⟩ = some (.int .i64 s.gen) ∧ X.cell? ⟨ga, oa + k * 4 + 3, none⟩ = some (.slice am nm cm)) ∧ Below w.heap.size w X) := fun X hX => by
        obtain ⟨c, _⟩ := (HQ.out.later (I.bel.trans (hX.mono I.bel.size))).nineL
        exact ⟨⟨c, (hX.cell (p := ⟨ga, oa + k * 4, none⟩) hgl).trans a0⟩, ⟨(hX.cell (p := ⟨ga, oa + k * 4 + 1, none⟩) hgl).trans a1', (hX.cell (p := ⟨ga, oa + k * 4 + 3, none⟩) hgl).trans a4⟩, bW.trans (hX.mono bW.size)⟩
      have HM := Lib.hid rm
      have HNO : Hid (frI S.fr s.no = true → offN S.fr S.g.used (k + 1) = offN S.fr S.g.used k ∧ szs S (k + 1) = szs S k ++ [(0 : Int)]) := fun c => ⟨offN_no hgs c, by rw [szs_succ, szI_at hgs, ndI_no hgs c]; rfl⟩
      have HYES : Hid (frI S.fr s.no = false → offN S.fr S.g.used (k + 1) = offN S.fr S.g.used k + s.items.length ∧ szs S (k + 1) = szs S k ++ [(smF s.gen (ndT s.items (ndS S) (offN S.fr S.g.used k) s.items.length) : Int)]) := fun c => ⟨offN_yes hgs c, by rw [szs_succ, szI_at hgs, ndI_yes hgs c]⟩
      have HOF2 := Lib.hid (HOF.out k s hgs)
      have HTX2 := Lib.hid (HTX.out k s hgs)
      have hml := HSL.out k s hgs
      have HFS := Lib.hid (HFC.out s.no)
      have hsl : (szs S k).length = k := szs_len S k
      have hi0 : (0 : Int) ≤ (k : Int) := by omega
      have hi1 : (k : Int) < (n : Int) := by omega
      obtain ⟨D, hD⟩ : ∃ D, frI S.fr s.no = D := ⟨_, rfl⟩
      rw [hD] at HFS HNO HYES HOF2
      obtain ⟨off, hoff⟩ : ∃ off, offN S.fr S.g.used k = off := ⟨_, rfl⟩
      rw [hoff] at HNO HYES HOF2 ⊢
      obtain ⟨zs, hzs⟩ : ∃ zs, szs S k = zs := ⟨_, rfl⟩
      rw [hzs] at I HNO HYES hsl
      have HZL := Lib.hid hsl
      clear hgs rm a0 a1' a2' a4 bW hD hoff hzs hsl
      have HI := Lib.hid I
      clear I
      obtain ⟨a3, p3, rfl⟩ := HI.out.form
      have c3 := (HX.out wr (Below.refl _ _)).1.1.2.2.2.1
      go_upto_region 8 with fail
      clear c3
      go_cut [31] (fun c wc => c = .bool D ∧ Below wr.heap.size wr wc)
      case first =>
        have kk : Below wr.heap.size wr wr.drew := (Below.refl _ _).drew
        obtain ⟨⟨⟨x0, x1, x2, x3, x4, x5, x6, x7, x8⟩, y0⟩, _, _⟩ := HX.out _ kk
        clear HM HNO HYES HI HOF2 HTX2
        go_region_held3 (fun X => (X.cell? ⟨g0, 0, none⟩ = some (va) ∧ X.cell? ⟨g0, 1, none⟩ = some (vb) ∧ X.cell? ⟨g0, 2, none⟩ = some (.int .i64 S.g.segs) ∧ X.cell? ⟨g0, 3, none⟩ = some (.slice (some ⟨ga, oa, none⟩) n cu) ∧ X.cell? ⟨g0, 4, none⟩ = some (.int .i64 S.g.ng) ∧ X.cell? ⟨g0, 5, none⟩ = some (.int .i64 S.g.ns) ∧ X.cell? ⟨g0, 6, none⟩ = some (.int .i64 S.g.st) ∧ X.cell? ⟨g0, 7, none⟩ = some (.int .i64 S.g.nv) ∧ X.cell? ⟨g0, 8, none⟩ = some (.slice af m cf)) ∧ X.cell? ⟨ga, oa + k * 4, none⟩ = some (.int .i64 s.no))
          (first | exact (HX.out _ kk).1)
          (first | (go_at_call 21; refine (HFS.out _ (HX.out _ kk).2.2).mono ?_; rintro e wX ⟨rfl, kX⟩; have kk := kk.trans (kX.mono kk.size)))
        all_goals
          go_wp2_with fail
          go_meet
          exact ⟨rfl, kk⟩
      case rest =>
        obtain ⟨rfl, k5⟩ := hcut
        have HI2 := Lib.hid (HI.out.later k5)
        clear HI HFS
        cases D with
        | true =>
          have HK2 := Lib.hid (HNO.out rfl)
          have HR6 := Lib.hid (HI2.out.alloc (.cells #[.int .i64 0] 3))
          have HL6 := Lib.hid (RBuf.lit1 intE wc (0 : Int))
          clear HNO HYES HX HM HOF2 HTX2 HI2
          go_wp2_with (at_builtin; refine wpList_append_rows rfl _ _ intE rfl w2.heap.size _ _ rfl HR6.out.here wc.heap.size _ [(0 : Int)] rfl HL6.out (by have := HZL.out; show _ * 9 ≤ _; simp only [List.length_cons, List.length_nil]; omega) ?_; intro v6 w6 r6 g6 at6)
          exact ⟨⟨k + 1, by omega, by simp, by rw [HK2.out.1], by rw [HK2.out.2]; exact ⟨r6.own, HR6.out.bel.grown g6 HR6.out.le (fun q hq => (HR6.out.own.lt q hq).1), r6.le⟩⟩, by first | omega | (simp [intOf]; omega)⟩
        | false =>
          have HK2 := Lib.hid (HYES.out rfl)
          have hoff := HOF2.out rfl
          obtain ⟨ml, hml2⟩ : ∃ ml, s.items.length = ml := ⟨_, rfl⟩
          rw [hml2] at hml HK2 hoff
          have HMR := Lib.hid HM.out.items
          have HY : Hid (∀ X, Below wc.heap.size wc X → (X.cell? ⟨g0, 3, none⟩ = some (.slice (some ⟨ga, oa, none⟩) n cu) ∧ X.cell? ⟨ga, oa + k * 4 + 1, none⟩ = some (.int .i64 s.gen) ∧ X.cell? ⟨ga, oa + k * 4 + 3, none⟩ = some (.slice am nm cm)) ∧ Below w.heap.size w X) := fun X hX => by
            obtain ⟨⟨c, _⟩, d, e⟩ := HX.out X (k5.trans (hX.mono k5.size))
            exact ⟨⟨c.2.2.2.1, d⟩, e⟩
          have HD3 : Hid (∀ X, Below wc.heap.size wc X → Rows' boE X (.slice a2 nl p2) (ndS S)) := fun X hX => (HD2.out.later (HI2.out.bel.trans (hX.mono HI2.out.bel.size)))
          obtain ⟨ai, ci, ei, hits⟩ := HMR.out
          injection ei with f1 f2 f3
          subst f1 f2 f3
          have HIT : Hid _ := hits
          have HML := Lib.hid hml2
          rw [hml2] at HY
          clear HNO HYES HX HM HOF2 HMR hits
          have I9 : Below wc.heap.size wc wc := Below.refl _ _
          clear hml2
          go_wp2_with fail
          go_loopw [5, 7, 8] (fun av nv jv wr => ∃ j : Nat, j ≤ ml ∧ jv = .int .i64 (j : Int) ∧ av = .int .i64 ((off + j : Nat) : Int) ∧ nv = .int .i64 (smF s.gen (ndT s.items (ndS S) off j) : Int) ∧ Below wc.heap.size wc wr) (fun _ _ jv _ => ml - (intOf jv).toNat)
          case atStart => exact ⟨0, by omega, rfl, rfl, rfl, I9⟩
          case round =>
            clear I9
            obtain ⟨j, hj, rfl, rfl, rfl, bq⟩ := hrel
            by_cases hlj : j < ml
            · obtain ⟨x, hgx⟩ : ∃ x, s.items[j]? = some x := ⟨_, List.getElem?_eq_getElem (by rw [HML.out]; exact hlj)⟩
              obtain ⟨gi, oi, rfl, _⟩ := HIT.out _ (HY.out _ bq).2 j x hgx
              have HZ : Hid (∀ X, Below wr.heap.size wr X → ((X.cell? ⟨g0, 3, none⟩ = some (.slice (some ⟨ga, oa, none⟩) n cu) ∧ X.cell? ⟨ga, oa + k * 4 + 1, none⟩ = some (.int .i64 s.gen) ∧ X.cell? ⟨ga, oa + k * 4 + 3, none⟩ = some (.slice (some ⟨gi, oi, none⟩) ml cm)) ∧ (X.cell? ⟨gi, oi + j * 9, none⟩ = some (.int .i64 x.1) ∧ X.cell? ⟨gi, oi + j * 9 + 1, none⟩ = some (.int .i64 x.2.kind) ∧ X.cell? ⟨gi, oi + j * 9 + 2, none⟩ = some (.int .i64 x.2.valid) ∧ X.cell? ⟨gi, oi + j * 9 + 3, none⟩ = some (.int .i64 x.2.uid) ∧ X.cell? ⟨gi, oi + j * 9 + 4, none⟩ = some (.int .i64 x.2.next) ∧ X.cell? ⟨gi, oi + j * 9 + 5, none⟩ = some (.int .i64 x.2.flags) ∧ X.cell? ⟨gi, oi + j * 9 + 6, none⟩ = some (.string x.2.user) ∧ X.cell? ⟨gi, oi + j * 9 + 7, none⟩ = some (.string x.2.name) ∧ X.cell? ⟨gi, oi + j * 9 + 8, none⟩ = some (.string x.2.text))) ∧ Below wc.heap.size wc X) := fun X hX => by
                have bX := bq.trans (hX.mono bq.size)
                obtain ⟨c, d⟩ := HY.out X bX
                obtain ⟨_, _, e, q⟩ := HIT.out X d j x hgx
                cases e
                exact ⟨⟨c, q⟩, bX⟩
              have hD4 := HD3.out wr bq
              rw [← HNL.out] at hD4
              have htl : off + j < (ndS S).length := by rw [HNL.out]; omega
              obtain ⟨gn, on, rfl, hcl⟩ := hD4.at (off + j) htl
              have hcn := hcl wr (Below.refl _ _) 0 _ rfl
              rw [show boE.sz = 1 from rfl, Nat.mul_one, Nat.add_zero] at hcn
              obtain ⟨b, hb⟩ : ∃ b, (ndS S)[off + j] = b := ⟨_, rfl⟩
              rw [hb] at hcn
              have hb2 : (ndS S)[off + j]? = some b := by rw [List.getElem?_eq_getElem htl, hb]
              obtain ⟨B, hB⟩ := ifT_frO x s.gen
              have hF := frO_body x s.gen
              have hz := szF_le x s.gen
              have htx := HTX2.out j x hgx
              have HIF := Lib.hid (fun X => specItemFrame_any x.1 x.2 s.gen X (by omega) (by omega) (by omega))
              rw [hB] at HIF
              have HSY : Hid (b = true → smF s.gen (ndT s.items (ndS S) off (j + 1)) = smF s.gen (ndT s.items (ndS S) off j) + szF x s.gen) := fun c => by
                rw [ndT_yes hgx (by rw [hb2, c]), smF_app]
                rfl
              have HSN : Hid (b = false → smF s.gen (ndT s.items (ndS S) off (j + 1)) = smF s.gen (ndT s.items (ndS S) off j)) := fun c => by rw [ndT_no (by rw [hb2, c])]
              have hA : smF s.gen (ndT s.items (ndS S) off j) ≤ 205520896 := by
                have := smF_le s.gen (ndT s.items (ndS S) off j)
                have := ndT_len s.items (ndS S) off j
                omega
              obtain ⟨A, hAe⟩ : ∃ A, smF s.gen (ndT s.items (ndS S) off j) = A := ⟨_, rfl⟩
              obtain ⟨t, ht⟩ : ∃ t, off + j = t := ⟨_, rfl⟩
              obtain ⟨F, hFe⟩ : ∃ F, frO x s.gen = F := ⟨_, rfl⟩
              obtain ⟨z, hze⟩ : ∃ z, szF x s.gen = z := ⟨_, rfl⟩
              have hFz : fsz F = z := by rw [← hFe, ← hze]; rfl
              rw [hFe] at hF HIF
              have HFZ := Lib.hid (fun X => specFrameSize_any F X hF)
              rw [hFz] at HFZ
              rw [hAe] at HSY HSN hA ⊢
              rw [hze] at HSY hz
              rw [ht] at hcn htl ⊢
              unfold Fr.v at HFZ HIF
              unfold itV at HIF
              have HTT := Lib.hid ht
              have hoj : (t : Int) < (nl : Int) := by omega
              have ht0 : (0 : Int) ≤ (t : Int) := by omega
              have hj0 : (0 : Int) ≤ (j : Int) := by omega
              have hj1 : (j : Int) < (ml : Int) := by omega
              clear hD4 hcl hb hb2 hB hF htx hAe hFe hze hFz hgx ht htl
              obtain ⟨⟨⟨y3, y4, y5⟩, z0, z1, z2, z3, z4, z5, z6, z7, z8⟩, _⟩ := HZ.out wr (Below.refl _ _)
              cases b with
              | false =>
                have HS' := Lib.hid (HSN.out rfl)
                clear HSY HSN HIF HFZ z0 z1 z2 z3 z4 z5 z6 z7 z8
                go_wp2_with fail
                exact ⟨⟨j + 1, by omega, by simp, by have := HTT.out; rw [← this]; simp only [Value.int.injEq, true_and]; omega, by rw [HS'.out], bq⟩, by first | omega | (simp [intOf]; omega)⟩
              | true =>
                have HS' := Lib.hid (HSY.out rfl)
                clear HSY HSN
                go_upto_region 14 with fail
                clear y3 y4 y5 z0 z1 z2 z3 z4 z5 z6 z7 z8 hcn
                go_cut [9, 10] (fun p c wy => ∃ g : Nat, p = .pointer (some ⟨g, 0, none⟩) ∧ c = .bool B ∧ Box wy g #[.int .i64 F.gen, .int .i64 F.seq, .string F.body] 62 ∧ Below wr.heap.size wr wy)
                case first =>
                  have HK0 : Hid (((wr.drew.cell? ⟨g0, 3, none⟩ = some (.slice (some ⟨ga, oa, none⟩) n cu) ∧ wr.drew.cell? ⟨ga, oa + k * 4 + 1, none⟩ = some (.int .i64 s.gen) ∧ wr.drew.cell? ⟨ga, oa + k * 4 + 3, none⟩ = some (.slice (some ⟨gi, oi, none⟩) ml cm)) ∧ (wr.drew.cell? ⟨gi, oi + j * 9, none⟩ = some (.int .i64 x.1) ∧ wr.drew.cell? ⟨gi, oi + j * 9 + 1, none⟩ = some (.int .i64 x.2.kind) ∧ wr.drew.cell? ⟨gi, oi + j * 9 + 2, none⟩ = some (.int .i64 x.2.valid) ∧ wr.drew.cell? ⟨gi, oi + j * 9 + 3, none⟩ = some (.int .i64 x.2.uid) ∧ wr.drew.cell? ⟨gi, oi + j * 9 + 4, none⟩ = some (.int .i64 x.2.next) ∧ wr.drew.cell? ⟨gi, oi + j * 9 + 5, none⟩ = some (.int .i64 x.2.flags) ∧ wr.drew.cell? ⟨gi, oi + j * 9 + 6, none⟩ = some (.string x.2.user) ∧ wr.drew.cell? ⟨gi, oi + j * 9 + 7, none⟩ = some (.string x.2.name) ∧ wr.drew.cell? ⟨gi, oi + j * 9 + 8, none⟩ = some (.string x.2.text))) ∧ Below wr.heap.size wr wr.drew) := ⟨(HZ.out _ (Below.refl _ _).drew).1, (Below.refl _ _).drew⟩
                  have HKB : Hid (∀ x0 y0 : World, (∃ p : Prop, p ∧ Below wr.heap.size wr x0) → Below x0.heap.size x0 y0 → ((y0.cell? ⟨g0, 3, none⟩ = some (.slice (some ⟨ga, oa, none⟩) n cu) ∧ y0.cell? ⟨ga, oa + k * 4 + 1, none⟩ = some (.int .i64 s.gen) ∧ y0.cell? ⟨ga, oa + k * 4 + 3, none⟩ = some (.slice (some ⟨gi, oi, none⟩) ml cm)) ∧ (y0.cell? ⟨gi, oi + j * 9, none⟩ = some (.int .i64 x.1) ∧ y0.cell? ⟨gi, oi + j * 9 + 1, none⟩ = some (.int .i64 x.2.kind) ∧ y0.cell? ⟨gi, oi + j * 9 + 2, none⟩ = some (.int .i64 x.2.valid) ∧ y0.cell? ⟨gi, oi + j * 9 + 3, none⟩ = some (.int .i64 x.2.uid) ∧ y0.cell? ⟨gi, oi + j * 9 + 4, none⟩ = some (.int .i64 x.2.next) ∧ y0.cell? ⟨gi, oi + j * 9 + 5, none⟩ = some (.int .i64 x.2.flags) ∧ y0.cell? ⟨gi, oi + j * 9 + 6, none⟩ = some (.string x.2.user) ∧ y0.cell? ⟨gi, oi + j * 9 + 7, none⟩ = some (.string x.2.name) ∧ y0.cell? ⟨gi, oi + j * 9 + 8, none⟩ = some (.string x.2.text))) ∧ Below wr.heap.size wr y0) := fun x0 y0 h0 h1 => by
                    obtain ⟨_, _, h0⟩ := h0
                    have h2 := h0.trans (h1.mono h0.size)
                    exact ⟨(HZ.out y0 h2).1, h2⟩
                  have HKS : Hid (∀ (x0 : World) (g : Nat) (u0 u1 u2 : Value), wr.heap.size ≤ g → (∃ p : Prop, p ∧ Below wr.heap.size wr x0) → (((((x0.setCell ⟨g, 0, none⟩ u0).setCell ⟨g, 1, none⟩ u1).setCell ⟨g, 2, none⟩ u2).cell? ⟨g0, 3, none⟩ = some (.slice (some ⟨ga, oa, none⟩) n cu) ∧ (((x0.setCell ⟨g, 0, none⟩ u0).setCell ⟨g, 1, none⟩ u1).setCell ⟨g, 2, none⟩ u2).cell? ⟨ga, oa + k * 4 + 1, none⟩ = some (.int .i64 s.gen) ∧ (((x0.setCell ⟨g, 0, none⟩ u0).setCell ⟨g, 1, none⟩ u1).setCell ⟨g, 2, none⟩ u2).cell? ⟨ga, oa + k * 4 + 3, none⟩ = some (.slice (some ⟨gi, oi, none⟩) ml cm)) ∧ ((((x0.setCell ⟨g, 0, none⟩ u0).setCell ⟨g, 1, none⟩ u1).setCell ⟨g, 2, none⟩ u2).cell? ⟨gi, oi + j * 9, none⟩ = some (.int .i64 x.1) ∧ (((x0.setCell ⟨g, 0, none⟩ u0).setCell ⟨g, 1, none⟩ u1).setCell ⟨g, 2, none⟩ u2).cell? ⟨gi, oi + j * 9 + 1, none⟩ = some (.int .i64 x.2.kind) ∧ (((x0.setCell ⟨g, 0, none⟩ u0).setCell ⟨g, 1, none⟩ u1).setCell ⟨g, 2, none⟩ u2).cell? ⟨gi, oi + j * 9 + 2, none⟩ = some (.int .i64 x.2.valid) ∧ (((x0.setCell ⟨g, 0, none⟩ u0).setCell ⟨g, 1, none⟩ u1).setCell ⟨g, 2, none⟩ u2).cell? ⟨gi, oi + j * 9 + 3, none⟩ = some (.int .i64 x.2.uid) ∧ (((x0.setCell ⟨g, 0, none⟩ u0).setCell ⟨g, 1, none⟩ u1).setCell ⟨g, 2, none⟩ u2).cell? ⟨gi, oi + j * 9 + 4, none⟩ = some (.int .i64 x.2.next) ∧ (((x0.setCell ⟨g, 0, none⟩ u0).setCell ⟨g, 1, none⟩ u1).setCell ⟨g, 2, none⟩ u2).cell? ⟨gi, oi + j * 9 + 5, none⟩ = some (.int .i64 x.2.flags) ∧ (((x0.setCell ⟨g, 0, none⟩ u0).setCell ⟨g, 1, none⟩ u1).setCell ⟨g, 2, none⟩ u2).cell? ⟨gi, oi + j * 9 + 6, none⟩ = some (.string x.2.user) ∧ (((x0.setCell ⟨g, 0, none⟩ u0).setCell ⟨g, 1, none⟩ u1).setCell ⟨g, 2, none⟩ u2).cell? ⟨gi, oi + j * 9 + 7, none⟩ = some (.string x.2.name) ∧ (((x0.setCell ⟨g, 0, none⟩ u0).setCell ⟨g, 1, none⟩ u1).setCell ⟨g, 2, none⟩ u2).cell? ⟨gi, oi + j * 9 + 8, none⟩ = some (.string x.2.text))) ∧ Below wr.heap.size wr (((x0.setCell ⟨g, 0, none⟩ u0).setCell ⟨g, 1, none⟩ u1).setCell ⟨g, 2, none⟩ u2)) := fun x0 g u0 u1 u2 hg h0 => by
                    obtain ⟨_, _, h0⟩ := h0
                    have h2 := ((h0.setCell (p := ⟨g, 0, none⟩) hg u0).setCell (p := ⟨g, 1, none⟩) hg u1).setCell (p := ⟨g, 2, none⟩) hg u2
                    exact ⟨(HZ.out _ h2).1, h2⟩
                  have HB0 : Hid (Box (wr.alloc (.cells #[.int .i64 0, .int .i64 0, .string ⟨#[]⟩] 62)).drew wr.heap.size #[.int .i64 0, .int .i64 0, .string ⟨#[]⟩] 62) := Box.new wr _ _
                  obtain ⟨⟨⟨y3, y4, y5⟩, z0, z1, z2, z3, z4, z5, z6, z7, z8⟩, _⟩ := HK0.out
                  clear HFZ HY HIT HD3 HI2 HK2 HTX2 bq
                  go_region_held3 (fun X => ((X.cell? ⟨g0, 3, none⟩ = some (.slice (some ⟨ga, oa, none⟩) n cu) ∧ X.cell? ⟨ga, oa + k * 4 + 1, none⟩ = some (.int .i64 s.gen) ∧ X.cell? ⟨ga, oa + k * 4 + 3, none⟩ = some (.slice (some ⟨gi, oi, none⟩) ml cm)) ∧ (X.cell? ⟨gi, oi + j * 9, none⟩ = some (.int .i64 x.1) ∧ X.cell? ⟨gi, oi + j * 9 + 1, none⟩ = some (.int .i64 x.2.kind) ∧ X.cell? ⟨gi, oi + j * 9 + 2, none⟩ = some (.int .i64 x.2.valid) ∧ X.cell? ⟨gi, oi + j * 9 + 3, none⟩ = some (.int .i64 x.2.uid) ∧ X.cell? ⟨gi, oi + j * 9 + 4, none⟩ = some (.int .i64 x.2.next) ∧ X.cell? ⟨gi, oi + j * 9 + 5, none⟩ = some (.int .i64 x.2.flags) ∧ X.cell? ⟨gi, oi + j * 9 + 6, none⟩ = some (.string x.2.user) ∧ X.cell? ⟨gi, oi + j * 9 + 7, none⟩ = some (.string x.2.name) ∧ X.cell? ⟨gi, oi + j * 9 + 8, none⟩ = some (.string x.2.text))) ∧ Below wr.heap.size wr X)
                    (first | exact HK0.out | exact HKB.out _ _ ⟨_, by assumption⟩ (belNew _ _) | exact HKB.out _ _ ⟨_, by assumption⟩ kS | exact HKB.out _ _ ⟨_, hSS.out⟩ (belNew _ _) | exact HKS.out _ _ _ _ _ (Nat.le_refl _) ⟨_, by assumption⟩ | exact HKS.out _ _ _ _ _ tS ⟨_, by assumption⟩)
                    (first
                      | (go_at_call 22; refine (HIF.out _).mono ?_; rintro e wS ⟨rfl, kS⟩; have hSS := Lib.hid (HKB.out _ _ ⟨_, by assumption⟩ kS); have tS : wr.heap.size ≤ wS.heap.size := hSS.out.2.size; (first | (have bx : Box wS wr.heap.size #[.int .i64 0, .int .i64 0, .string ⟨#[]⟩] 62 := HB0.out.later kS; have x0 := bx.cell 0 _ rfl; have x1 := bx.cell 1 _ rfl; have x2 := bx.cell 2 _ rfl; have f0 := bx.loose 0; have f1 := bx.loose 1; have f2 := bx.loose 2) | skip)))
                  all_goals
                    go_wp2_with fail
                    go_meet
                    first
                      | exact ⟨_, rfl, rfl, Box.new wS _ _, hSS.out.2.alloc tS _⟩
                      | exact ⟨_, rfl, rfl, ((bx.set 0 _).set 1 _).set 2 _, ((hSS.out.2.setCell (p := ⟨wr.heap.size, 0, none⟩) (Nat.le_refl _) _).setCell (p := ⟨wr.heap.size, 1, none⟩) (Nat.le_refl _) _).setCell (p := ⟨wr.heap.size, 2, none⟩) (Nat.le_refl _) _⟩
                case rest =>
                  obtain ⟨g9, rfl, rfl, bx9, k9⟩ := hcut
                  have t0 := bx9.cell 0 _ rfl
                  have t1 := bx9.cell 1 _ rfl
                  have t2 := bx9.cell 2 _ rfl
                  clear bx9
                  go_wp2_with fail
                  refine (HFZ.out _).mono ?_
                  rintro e w10 ⟨rfl, k10⟩
                  have k11 := k9.trans (k10.mono k9.size)
                  have k12 := bq.trans (k11.mono bq.size)
                  clear t0 t1 t2 k9 k10 k11
                  go_wp2_with fail
                  exact ⟨⟨j + 1, by omega, by simp, by have := HTT.out; rw [← this]; simp only [Value.int.injEq, true_and]; omega, by rw [HS'.out]; simp, k12⟩, by first | omega | (simp [intOf]; omega)⟩
            · obtain ⟨⟨y3, y4, y5⟩, _⟩ := HY.out _ bq
              have hjm : j = ml := by omega
              subst hjm
              have HI3 := Lib.hid (HI2.out.later bq)
              obtain ⟨A, hAe⟩ : ∃ A, smF s.gen (ndT s.items (ndS S) off j) = A := ⟨_, rfl⟩
              rw [hAe] at HK2 ⊢
              have HR6 := Lib.hid (HI3.out.alloc (.cells #[.int .i64 (A : Int)] 3))
              have HL6 := Lib.hid (RBuf.lit1 intE wr (A : Int))
              clear HI2 HI3 HY HIT HD3 hAe HTX2
              go_wp2_with (at_builtin; refine wpList_append_rows rfl _ _ intE rfl w2.heap.size _ _ rfl HR6.out.here wr.heap.size _ [(A : Int)] rfl HL6.out (by have := HZL.out; show _ * 9 ≤ _; simp only [List.length_cons, List.length_nil]; omega) ?_; intro v6 w6 r6 g6 at6)
              exact ⟨⟨k + 1, by omega, by simp, by rw [HK2.out.1]; simp, by rw [HK2.out.2]; exact ⟨r6.own, HR6.out.bel.grown g6 HR6.out.le (fun q hq => (HR6.out.own.lt q hq).1), r6.le⟩⟩, by first | omega | (simp [intOf]; omega)⟩
    · have HE : Hid (n = k) := by show _ = _; omega
      have c3 := ((HQ.out.later I.bel).nineL).1.2.2.2.1
      have HI := Lib.hid I
      clear I
      go_wp2
      go_ret
      exact ⟨_, rfl, by rw [HE.out]; exact HI.out.down (HB2.out.trans (HI.out.bel.mono HB2.out.size)) HB2.out.size⟩

end Go.Proofs.YtlifgcgoehkinaaGreatDoor
