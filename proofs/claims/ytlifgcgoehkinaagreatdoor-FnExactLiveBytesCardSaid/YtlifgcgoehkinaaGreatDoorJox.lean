/- Texts of our own, joined. -/
import Derived.Test.YtlifgcgoehkinaaGreatDoorJnx
/- How much of each segment is needed: the program's liveSizes. -/
namespace Go.Proofs.YtlifgcgoehkinaaGreatDoor
open Go.RowKit

def szG (g : Nat → Nat) (n : Nat) : List Int := (List.range n).map (fun j => (g j : Int))
theorem szG_len (g : Nat → Nat) (n : Nat) : (szG g n).length = n := by unfold szG; simp
theorem szG_at (g : Nat → Nat) {n i : Nat} (h : i < n) : (szG g n)[i]? = some (g i : Int) := by unfold szG; simp [h]
theorem szG_set (g : Nat → Nat) (n i v : Nat) : (szG g n).set i (v : Int) = szG (fun j => if j = i then v else g j) n := by
  apply List.ext_getElem?
  intro j
  by_cases hj : j < n
  · rw [szG_at _ hj]
    by_cases c : j = i
    · subst c
      rw [List.getElem?_set_self (by rw [szG_len]; exact hj), if_pos rfl]
    · rw [List.getElem?_set_ne (fun e => c e.symm), szG_at _ hj, if_neg c]
  · rw [List.getElem?_eq_none (by rw [List.length_set, szG_len]; omega), List.getElem?_eq_none (by rw [szG_len]; omega)]
theorem szG_same {g g' : Nat → Nat} {n : Nat} (h : ∀ j, j < n → g j = g' j) : szG g n = szG g' n := by
  apply List.ext_getElem?
  intro j
  by_cases hj : j < n
  · rw [szG_at _ hj, szG_at _ hj, h j hj]
  · rw [List.getElem?_eq_none (by rw [szG_len]; omega), List.getElem?_eq_none (by rw [szG_len]; omega)]
theorem szs_G (S : So) (n : Nat) : szs S n = szG (szI S) n := rfl
theorem szG_zero (n : Nat) : List.replicate n (0 : Int) = szG (fun _ => 0) n := by
  apply List.ext_getElem?
  intro j
  by_cases hj : j < n
  · rw [szG_at _ hj, List.getElem?_replicate, if_pos hj]; rfl
  · rw [List.getElem?_eq_none (by rw [List.length_replicate]; omega), List.getElem?_eq_none (by rw [szG_len]; omega)]
theorem grownOfB {w w' : World} (hb : Below w.heap.size w w') (r : Option Nat) : w.grownBy w' r := ⟨hb.os, hb.tape, hb.output, hb.size, fun k hk _ => hb.block k hk⟩

set_option maxRecDepth 100000 in
set_option maxHeartbeats 8000000 in
theorem liveSizes_any (S : So) (v : Value) (w : World) (h : SoRd w v S) (hL : S.lean) (ht : SumTab w) :
    Calls Tryz.prog 14 #[v] w fun e w' => ∃ v', e = .returned v' ∧ RBuf intE w.heap.size w w' v' (szs S S.g.used.length) := by
  obtain ⟨va, vb, au, af, cu, cf, rfl, _, hu, _⟩ := h.opened
  obtain ⟨ad, cap, ev, hrow⟩ := hu.segs
  injection ev with e1 e2 e3
  subst e1 e3
  have b0 := belNew w (.cells #[va, vb, .int .i64 S.g.segs, .slice au S.g.used.length cu, .int .i64 S.g.ng, .int .i64 S.g.ns, .int .i64 S.g.st, .int .i64 S.g.nv, .slice af S.fr.length cf] 41)
  have q0 := Box.new w #[va, vb, .int .i64 S.g.segs, .slice au S.g.used.length cu, .int .i64 S.g.ng, .int .i64 S.g.ns, .int .i64 S.g.st, .int .i64 S.g.nv, .slice af S.fr.length cf] 41
  have hl := S.lean_its hL
  have HNB : Hid (∀ X, Below w.heap.size w X → Calls Tryz.prog 26 #[.agg #[va, vb, .int .i64 S.g.segs, .slice au S.g.used.length cu, .int .i64 S.g.ng, .int .i64 S.g.ns, .int .i64 S.g.st, .int .i64 S.g.nv, .slice af S.fr.length cf]] X fun e w' => ∃ v', e = .returned v' ∧ NbR X.heap.size w' v' S.g.used.length (ndI S.fr S.g.used (ndS S)) ∧ Below X.heap.size X w') := fun X hX => neededBySeg_any S _ X (h.later hX) hL
  have HST : Hid (∀ X, Below w.heap.size w X → SumTab X) := fun X hX => ht.later hX
  have HZL : Hid (∀ k, (ndI S.fr S.g.used (ndS S) k).length ≤ 1048576) := fun k => by have := ndI_len (f := S.fr) (u := S.g.used) (nd := ndS S) k; omega
  have HSI : Hid (∀ (k : Nat) (s : Sg), S.g.used[k]? = some s → szI S k = smF s.gen (ndI S.fr S.g.used (ndS S) k)) := fun k s hs => szI_at hs
  have HR : Hid _ := hrow
  clear hu hrow h hL e2 ht
  obtain ⟨W, hW⟩ : ∃ W, w.alloc (.cells #[va, vb, .int .i64 S.g.segs, .slice au S.g.used.length cu, .int .i64 S.g.ng, .int .i64 S.g.ns, .int .i64 S.g.st, .int .i64 S.g.nv, .slice af S.fr.length cf] 41) = W := ⟨_, rfl⟩
  rw [hW] at b0 q0
  have HW := Lib.hid hW
  clear hW
  obtain ⟨n, hn⟩ : ∃ n, S.g.used.length = n := ⟨_, rfl⟩
  have HN := Lib.hid hn
  obtain ⟨m, hm⟩ : ∃ m, S.fr.length = m := ⟨_, rfl⟩
  rw [hn, hm] at q0 HW HNB ⊢
  rw [hn] at hl
  clear hm hn
  obtain ⟨g0, hg0⟩ : ∃ g0, w.heap.size = g0 := ⟨_, rfl⟩
  rw [hg0] at q0
  have HG0 := Lib.hid hg0
  clear hg0
  go_enter Tryz.func14, Tryz.ntmps14
  go_upto_region 1 with fail
  rw [HW.out, HG0.out]
  have x3 := q0.cell 3 (.slice au n cu) rfl
  have HQ0 := Lib.hid q0
  have HB0 := Lib.hid b0
  clear q0 b0 HW
  go_upto_region 2 with (at_make; refine wpList_make_rows rfl _ _ intE rfl .i64 .i64 _ _ n rfl rfl rfl rfl (by show 9 * n ≤ _; omega) ?_; intro w1 hr1 hs1)
  clear x3
  have q1 := HQ0.out.later hr1.bel
  have b1 := HB0.out.trans (hr1.bel.mono HB0.out.size)
  obtain ⟨x0, x1, x2, x3, x4, x5, x6, x7, x8⟩ := q1.nineG
  rw [show intE.z0 = (0 : Int) from rfl, szG_zero] at hr1
  go_wp2_with fail
  clear x0 x1 x2 x3 x4 x5 x6 x7 x8
  refine (HNB.out _ b1).mono ?_
  rintro e w2 ⟨v2, rfl, R2, k2⟩
  obtain ⟨a2, p2, rfl⟩ := R2.form
  have HR2 := Lib.hid R2
  have HQ := Lib.hid (q1.later k2)
  have HB2 := Lib.hid (b1.trans (k2.mono b1.size))
  have HI1 := Lib.hid (hr1.later k2)
  have HS1 : Hid (W.heap.size < w1.heap.size) := hs1
  have HGW : Hid (g0 < W.heap.size) := HQ0.out.lt
  have HBW := Lib.hid HB0.out
  clear R2 k2 q1 b1 hr1 hs1 HNB HQ0 HB0
  go_wp2_with fail
  go_loopw [18] (fun iv wr => ∃ k : Nat, k ≤ n ∧ iv = .int .i64 (k : Int) ∧ RBuf intE W.heap.size W wr (.slice (some ⟨W.heap.size, 0, none⟩) n n) (szG (fun j => if j < k then szI S j else 0) n) ∧ Hid (w2.grownBy wr (some W.heap.size))) (fun iv _ => n - (intOf iv).toNat)
  case atStart => exact ⟨0, by omega, rfl, by rw [szG_same (g' := fun _ => 0) (fun j _ => by simp)]; exact HI1.out, grownOfB (Below.refl _ _) _⟩
  case round =>
    clear HI1
    obtain ⟨k, hk, rfl, I, HG⟩ := hrel
    obtain ⟨wo, hwo⟩ : ∃ wo, wo = wr := ⟨_, rfl⟩
    subst hwo
    by_cases hlt : k < n
    · obtain ⟨s, hgs⟩ : ∃ s, S.g.used[k]? = some s := ⟨_, List.getElem?_eq_getElem (by rw [HN.out]; exact hlt)⟩
      obtain ⟨gr, ai, ci, rfl, hcr, hir⟩ := (HR2.out.grown HG.out (fun q hq => by have := Option.some.inj hq; have := HS1.out; omega)).at hlt
      have HIR := Lib.hid hir
      have hli := HZL.out k
      have HSK := Lib.hid (HSI.out k s hgs)
      obtain ⟨li, hli2⟩ : ∃ li, ndI S.fr S.g.used (ndS S) k = li := ⟨_, rfl⟩
      rw [hli2] at hcr hli HSK HIR
      obtain ⟨ml, hml⟩ : ∃ ml, li.length = ml := ⟨_, rfl⟩
      rw [hml] at hcr hli HIR
      have HML := Lib.hid hml
      have hi0 : (0 : Int) ≤ (k : Int) := by omega
      have hi1 : (k : Int) < (n : Int) := by omega
      have HGS := Lib.hid hgs
      clear hir hli2 hml hgs
      have HI := Lib.hid I
      clear I
      go_wp2_with fail
      clear hcr
      go_loopw [25] (fun jv wr => ∃ j : Nat, j ≤ ml ∧ jv = .int .i64 (j : Int) ∧ RBuf intE W.heap.size W wr (.slice (some ⟨W.heap.size, 0, none⟩) n n) (szG (fun t => if t < k then szI S t else if t = k then smF s.gen (li.take j) else 0) n) ∧ Hid (wo.grownBy wr (some W.heap.size))) (fun jv _ => ml - (intOf jv).toNat)
      case atStart => exact ⟨0, by omega, rfl, by rw [szG_same (g' := fun t => if t < k then szI S t else 0) (fun t _ => by rw [List.take_zero]; split <;> (try rfl); split <;> rfl)]; exact HI.out, grownOfB (Below.refl _ _) _⟩
      case round =>
        clear HI
        obtain ⟨j, hj, rfl, I, HG2⟩ := hrel
        have HG3 : Hid (w2.grownBy wr (some W.heap.size)) := HG.out.trans HG2.out
        by_cases hlj : j < ml
        · obtain ⟨x, hgx⟩ : ∃ x, li[j]? = some x := ⟨_, List.getElem?_eq_getElem (by rw [HML.out]; exact hlj)⟩
          have bX : Below w.heap.size w wr := HBW.out.trans (I.bel.mono HBW.out.size)
          obtain ⟨ga, oa, am, nm, cm, rfl, _, d1, _, _, _⟩ := HR.out _ bX k s HGS.out
          have hRI := (HIR.out.shift HG2.out (.inr (fun e => by have := (HIR.out.own.lt W.heap.size e).1; have := HS1.out; omega))).rows
          obtain ⟨ad, cd, ed, hits⟩ := hRI.items
          injection ed with f1 f2 f3
          subst f1 f3
          obtain ⟨gx, ox, rfl, i0, i1, i2, i3, i4, i5, i6, i7, i8⟩ := hits wr (Below.refl _ _) j x hgx
          have hj0 : (0 : Int) ≤ (j : Int) := by omega
          have hj1 : (j : Int) < (ml : Int) := by omega
          have hgl : ga < wr.heap.size := World.block_lt_of_cell? _ _ d1
          have kI := belNew wr (.cells #[.int .i64 x.1, .int .i64 x.2.kind, .int .i64 x.2.valid, .int .i64 x.2.uid, .int .i64 x.2.next, .int .i64 x.2.flags, .string x.2.user, .string x.2.name, .string x.2.text] 68)
          have I6 := I.later kI
          have XI := Box.new wr #[.int .i64 x.1, .int .i64 x.2.kind, .int .i64 x.2.valid, .int .i64 x.2.uid, .int .i64 x.2.next, .int .i64 x.2.flags, .string x.2.user, .string x.2.name, .string x.2.text] 68
          have XQ := (HQ.out.butG HG3.out (fun q hq e => by have h8 : W.heap.size = q := Option.some.inj hq; have := HGW.out; omega)).later kI
          have d1' := (kI.cell (p := ⟨ga, oa + k * 4 + 1, none⟩) hgl).trans d1
          have G6 : Hid (wo.grownBy (wr.alloc (.cells #[.int .i64 x.1, .int .i64 x.2.kind, .int .i64 x.2.valid, .int .i64 x.2.uid, .int .i64 x.2.next, .int .i64 x.2.flags, .string x.2.user, .string x.2.name, .string x.2.text] 68)) (some W.heap.size)) := HG2.out.trans (grownOfB kI _)
          obtain ⟨Bf, hBf⟩ := ifT_frO x s.gen
          have hF := frO_body x s.gen
          have hz := szF_le x s.gen
          have HIF := Lib.hid (fun X => implItemFrame_any x.1 x.2 s.gen X)
          rw [hBf] at HIF
          have HSM := Lib.hid (smF_take (gen := s.gen) hgx)
          have hA : smF s.gen (li.take j) ≤ 205520896 := by
            have h1 := smF_le s.gen (li.take j)
            have h2 : (li.take j).length ≤ 1048576 := by rw [List.length_take]; omega
            omega
          obtain ⟨F, hFe⟩ : ∃ F, frO x s.gen = F := ⟨_, rfl⟩
          obtain ⟨z, hze⟩ : ∃ z, szF x s.gen = z := ⟨_, rfl⟩
          have hFz : fsz F = z := by rw [← hFe, ← hze]; rfl
          rw [hFe] at hF HIF
          have HFZ := Lib.hid (fun X (hX : Below w.heap.size w X) => implFrameSize_any F X hF (HST.out X hX))
          rw [hFz] at HFZ
          rw [hze] at HSM hz
          obtain ⟨A, hAe⟩ : ∃ A, smF s.gen (li.take j) = A := ⟨_, rfl⟩
          rw [hAe] at HSM hA I6
          unfold Fr.v at HFZ HIF
          unfold itV at HIF
          clear hRI hits f2 hgx hBf hF hFe hze hFz hAe I
          go_upto_region 8 with fail
          clear i0 i1 i2 i3 i4 i5 i6 i7 i8
          obtain ⟨wI, hwI⟩ : ∃ wI, wr.alloc (.cells #[.int .i64 x.1, .int .i64 x.2.kind, .int .i64 x.2.valid, .int .i64 x.2.uid, .int .i64 x.2.next, .int .i64 x.2.flags, .string x.2.user, .string x.2.name, .string x.2.text] 68) = wI := ⟨_, rfl⟩
          rw [hwI] at I6 XI XQ d1' G6 kI ⊢
          clear hwI
          have bI := bX.trans (kI.mono bX.size)
          have hgI : ga < wI.heap.size := Nat.lt_of_lt_of_le hgl kI.size
          obtain ⟨gI, hgI2⟩ : ∃ gI, wr.heap.size = gI := ⟨_, rfl⟩
          rw [hgI2] at XI ⊢
          clear hgI2
          have HX : Hid (∀ X, Below wI.heap.size wI X → (X.cell? ⟨g0, 3, none⟩ = some (.slice (some ⟨ga, oa, none⟩) n cu) ∧ X.cell? ⟨ga, oa + k * 4 + 1, none⟩ = some (.int .i64 s.gen)) ∧ (X.cell? ⟨gI, 0, none⟩ = some (.int .i64 x.1) ∧ X.cell? ⟨gI, 1, none⟩ = some (.int .i64 x.2.kind) ∧ X.cell? ⟨gI, 2, none⟩ = some (.int .i64 x.2.valid) ∧ X.cell? ⟨gI, 3, none⟩ = some (.int .i64 x.2.uid) ∧ X.cell? ⟨gI, 4, none⟩ = some (.int .i64 x.2.next) ∧ X.cell? ⟨gI, 5, none⟩ = some (.int .i64 x.2.flags) ∧ X.cell? ⟨gI, 6, none⟩ = some (.string x.2.user) ∧ X.cell? ⟨gI, 7, none⟩ = some (.string x.2.name) ∧ X.cell? ⟨gI, 8, none⟩ = some (.string x.2.text))) := fun X hX => ⟨⟨(XQ.later hX).cell 3 _ rfl, (hX.cell (p := ⟨ga, oa + k * 4 + 1, none⟩) hgI).trans d1'⟩, (XI.later hX).nineG⟩
          have HBI := Lib.hid bI
          have HI6 := Lib.hid I6
          clear d1 d1' kI I6 XI XQ bI bX hgI hgl
          go_cut [8, 9] (fun p c wy => ∃ g : Nat, p = .pointer (some ⟨g, 0, none⟩) ∧ c = .bool Bf ∧ Box wy g #[.int .i64 F.gen, .int .i64 F.seq, .string F.body] 62 ∧ Below wI.heap.size wI wy)
          case first =>
            have HK0 : Hid (((wI.drew.cell? ⟨g0, 3, none⟩ = some (.slice (some ⟨ga, oa, none⟩) n cu) ∧ wI.drew.cell? ⟨ga, oa + k * 4 + 1, none⟩ = some (.int .i64 s.gen)) ∧ (wI.drew.cell? ⟨gI, 0, none⟩ = some (.int .i64 x.1) ∧ wI.drew.cell? ⟨gI, 1, none⟩ = some (.int .i64 x.2.kind) ∧ wI.drew.cell? ⟨gI, 2, none⟩ = some (.int .i64 x.2.valid) ∧ wI.drew.cell? ⟨gI, 3, none⟩ = some (.int .i64 x.2.uid) ∧ wI.drew.cell? ⟨gI, 4, none⟩ = some (.int .i64 x.2.next) ∧ wI.drew.cell? ⟨gI, 5, none⟩ = some (.int .i64 x.2.flags) ∧ wI.drew.cell? ⟨gI, 6, none⟩ = some (.string x.2.user) ∧ wI.drew.cell? ⟨gI, 7, none⟩ = some (.string x.2.name) ∧ wI.drew.cell? ⟨gI, 8, none⟩ = some (.string x.2.text))) ∧ Below wI.heap.size wI wI.drew) := ⟨HX.out _ (Below.refl _ _).drew, (Below.refl _ _).drew⟩
            have HKB : Hid (∀ x0 y0 : World, (∃ p : Prop, p ∧ Below wI.heap.size wI x0) → Below x0.heap.size x0 y0 → ((y0.cell? ⟨g0, 3, none⟩ = some (.slice (some ⟨ga, oa, none⟩) n cu) ∧ y0.cell? ⟨ga, oa + k * 4 + 1, none⟩ = some (.int .i64 s.gen)) ∧ (y0.cell? ⟨gI, 0, none⟩ = some (.int .i64 x.1) ∧ y0.cell? ⟨gI, 1, none⟩ = some (.int .i64 x.2.kind) ∧ y0.cell? ⟨gI, 2, none⟩ = some (.int .i64 x.2.valid) ∧ y0.cell? ⟨gI, 3, none⟩ = some (.int .i64 x.2.uid) ∧ y0.cell? ⟨gI, 4, none⟩ = some (.int .i64 x.2.next) ∧ y0.cell? ⟨gI, 5, none⟩ = some (.int .i64 x.2.flags) ∧ y0.cell? ⟨gI, 6, none⟩ = some (.string x.2.user) ∧ y0.cell? ⟨gI, 7, none⟩ = some (.string x.2.name) ∧ y0.cell? ⟨gI, 8, none⟩ = some (.string x.2.text))) ∧ Below wI.heap.size wI y0) := fun x0 y0 h0 h1 => by
              obtain ⟨_, _, h0⟩ := h0
              have h2 := h0.trans (h1.mono h0.size)
              exact ⟨HX.out y0 h2, h2⟩
            have HKS : Hid (∀ (x0 : World) (g : Nat) (u0 u1 u2 : Value), wI.heap.size ≤ g → (∃ p : Prop, p ∧ Below wI.heap.size wI x0) → (((((x0.setCell ⟨g, 0, none⟩ u0).setCell ⟨g, 1, none⟩ u1).setCell ⟨g, 2, none⟩ u2).cell? ⟨g0, 3, none⟩ = some (.slice (some ⟨ga, oa, none⟩) n cu) ∧ (((x0.setCell ⟨g, 0, none⟩ u0).setCell ⟨g, 1, none⟩ u1).setCell ⟨g, 2, none⟩ u2).cell? ⟨ga, oa + k * 4 + 1, none⟩ = some (.int .i64 s.gen)) ∧ ((((x0.setCell ⟨g, 0, none⟩ u0).setCell ⟨g, 1, none⟩ u1).setCell ⟨g, 2, none⟩ u2).cell? ⟨gI, 0, none⟩ = some (.int .i64 x.1) ∧ (((x0.setCell ⟨g, 0, none⟩ u0).setCell ⟨g, 1, none⟩ u1).setCell ⟨g, 2, none⟩ u2).cell? ⟨gI, 1, none⟩ = some (.int .i64 x.2.kind) ∧ (((x0.setCell ⟨g, 0, none⟩ u0).setCell ⟨g, 1, none⟩ u1).setCell ⟨g, 2, none⟩ u2).cell? ⟨gI, 2, none⟩ = some (.int .i64 x.2.valid) ∧ (((x0.setCell ⟨g, 0, none⟩ u0).setCell ⟨g, 1, none⟩ u1).setCell ⟨g, 2, none⟩ u2).cell? ⟨gI, 3, none⟩ = some (.int .i64 x.2.uid) ∧ (((x0.setCell ⟨g, 0, none⟩ u0).setCell ⟨g, 1, none⟩ u1).setCell ⟨g, 2, none⟩ u2).cell? ⟨gI, 4, none⟩ = some (.int .i64 x.2.next) ∧ (((x0.setCell ⟨g, 0, none⟩ u0).setCell ⟨g, 1, none⟩ u1).setCell ⟨g, 2, none⟩ u2).cell? ⟨gI, 5, none⟩ = some (.int .i64 x.2.flags) ∧ (((x0.setCell ⟨g, 0, none⟩ u0).setCell ⟨g, 1, none⟩ u1).setCell ⟨g, 2, none⟩ u2).cell? ⟨gI, 6, none⟩ = some (.string x.2.user) ∧ (((x0.setCell ⟨g, 0, none⟩ u0).setCell ⟨g, 1, none⟩ u1).setCell ⟨g, 2, none⟩ u2).cell? ⟨gI, 7, none⟩ = some (.string x.2.name) ∧ (((x0.setCell ⟨g, 0, none⟩ u0).setCell ⟨g, 1, none⟩ u1).setCell ⟨g, 2, none⟩ u2).cell? ⟨gI, 8, none⟩ = some (.string x.2.text))) ∧ Below wI.heap.size wI (((x0.setCell ⟨g, 0, none⟩ u0).setCell ⟨g, 1, none⟩ u1).setCell ⟨g, 2, none⟩ u2)) := fun x0 g u0 u1 u2 hg h0 => by
              obtain ⟨_, _, h0⟩ := h0
              have h2 := ((h0.setCell (p := ⟨g, 0, none⟩) hg u0).setCell (p := ⟨g, 1, none⟩) hg u1).setCell (p := ⟨g, 2, none⟩) hg u2
              exact ⟨HX.out _ h2, h2⟩
            have HB0 : Hid (Box (wI.alloc (.cells #[.int .i64 0, .int .i64 0, .string ⟨#[]⟩] 62)).drew wI.heap.size #[.int .i64 0, .int .i64 0, .string ⟨#[]⟩] 62) := Box.new wI _ _
            obtain ⟨⟨⟨y3, y4⟩, z0, z1, z2, z3, z4, z5, z6, z7, z8⟩, _⟩ := HK0.out
            clear HFZ HR2 HR HIR HSI HST HZL HI6
            go_region_held3 (fun X => ((X.cell? ⟨g0, 3, none⟩ = some (.slice (some ⟨ga, oa, none⟩) n cu) ∧ X.cell? ⟨ga, oa + k * 4 + 1, none⟩ = some (.int .i64 s.gen)) ∧ (X.cell? ⟨gI, 0, none⟩ = some (.int .i64 x.1) ∧ X.cell? ⟨gI, 1, none⟩ = some (.int .i64 x.2.kind) ∧ X.cell? ⟨gI, 2, none⟩ = some (.int .i64 x.2.valid) ∧ X.cell? ⟨gI, 3, none⟩ = some (.int .i64 x.2.uid) ∧ X.cell? ⟨gI, 4, none⟩ = some (.int .i64 x.2.next) ∧ X.cell? ⟨gI, 5, none⟩ = some (.int .i64 x.2.flags) ∧ X.cell? ⟨gI, 6, none⟩ = some (.string x.2.user) ∧ X.cell? ⟨gI, 7, none⟩ = some (.string x.2.name) ∧ X.cell? ⟨gI, 8, none⟩ = some (.string x.2.text))) ∧ Below wI.heap.size wI X)
              (first | exact HK0.out | exact HKB.out _ _ ⟨_, by assumption⟩ (belNew _ _) | exact HKB.out _ _ ⟨_, by assumption⟩ kS | exact HKB.out _ _ ⟨_, hSS.out⟩ (belNew _ _) | exact HKS.out _ _ _ _ _ (Nat.le_refl _) ⟨_, by assumption⟩ | exact HKS.out _ _ _ _ _ tS ⟨_, by assumption⟩)
              (first
                | (go_at_call 27; refine (HIF.out _).mono ?_; rintro e wS ⟨rfl, kS⟩; have hSS := Lib.hid (HKB.out _ _ ⟨_, by assumption⟩ kS); have tS : wI.heap.size ≤ wS.heap.size := hSS.out.2.size; (first | (have bx : Box wS wI.heap.size #[.int .i64 0, .int .i64 0, .string ⟨#[]⟩] 62 := HB0.out.later kS; have x0 := bx.cell 0 _ rfl; have x1 := bx.cell 1 _ rfl; have x2 := bx.cell 2 _ rfl; have f0 := bx.loose 0; have f1 := bx.loose 1; have f2 := bx.loose 2) | skip)))
            all_goals
              go_wp2_with fail
              go_meet
              first
                | exact ⟨_, rfl, rfl, Box.new wS _ _, hSS.out.2.alloc tS _⟩
                | exact ⟨_, rfl, rfl, ((bx.set 0 _).set 1 _).set 2 _, ((hSS.out.2.setCell (p := ⟨wI.heap.size, 0, none⟩) (Nat.le_refl _) _).setCell (p := ⟨wI.heap.size, 1, none⟩) (Nat.le_refl _) _).setCell (p := ⟨wI.heap.size, 2, none⟩) (Nat.le_refl _) _⟩
          case rest =>
            obtain ⟨g9, rfl, rfl, bx9, k9⟩ := hcut
            have t0 := bx9.cell 0 _ rfl
            have t1 := bx9.cell 1 _ rfl
            have t2 := bx9.cell 2 _ rfl
            have I9 : RBuf intE W.heap.size W wc (.slice (some ⟨W.heap.size, 0, none⟩) (szG (fun t => if t < k then szI S t else if t = k then A else 0) n).length n) (szG (fun t => if t < k then szI S t else if t = k then A else 0) n) := by rw [szG_len]; exact HI6.out.later k9
            have hgk : (szG (fun t => if t < k then szI S t else if t = k then A else 0) n)[k]? = some (A : Int) := by rw [szG_at _ hlt, if_neg (by omega), if_pos rfl]
            have HC9 : Hid (∀ X, Below wc.heap.size wc X → X.cell? ⟨W.heap.size, k, none⟩ = some (.int .i64 (A : Int)) ∧ X.frozen? ⟨W.heap.size, k, none⟩ = false) := fun X hX => by
              have h1 := (I9.later hX).cell rfl k _ hgk 0 _ rfl
              rw [show intE.sz = 1 from rfl, Nat.mul_one, Nat.add_zero] at h1
              exact ⟨h1, (I9.later hX).loose k⟩
            have HS9 : Hid (∀ X, Below wc.heap.size wc X → RBuf intE W.heap.size W (X.setCell ⟨W.heap.size, k, none⟩ (.int .i64 ((A : Int) + (z : Int)))) (.slice (some ⟨W.heap.size, 0, none⟩) n n) (szG (fun t => if t < k then szI S t else if t = k then smF s.gen (li.take (j + 1)) else 0) n) ∧ wo.grownBy (X.setCell ⟨W.heap.size, k, none⟩ (.int .i64 ((A : Int) + (z : Int)))) (some W.heap.size)) := fun X hX => by
              have h1 := (I9.later hX).stored k _ ((A + z : Nat) : Int) hgk 0 (by decide) (.int .i64 ((A : Int) + (z : Int))) (by show [Value.int .i64 ((A + z : Nat) : Int)] = [Value.int .i64 ((A : Int) + (z : Int))]; rw [Int.natCast_add])
              rw [show intE.sz = 1 from rfl, Nat.mul_one, Nat.add_zero, szG_set, szG_len] at h1
              refine ⟨?_, (G6.out.trans (grownOfB k9 _)).trans ((grownOfB hX _).trans (stored_grown X W.heap.size k _))⟩
              rw [szG_same (g' := fun t => if t = k then A + z else if t < k then szI S t else if t = k then A else 0) (fun t _ => by
                rw [HSM.out]
                by_cases c1 : t = k
                · subst c1
                  rw [if_neg (by omega), if_pos rfl, if_pos rfl]
                · rw [if_neg c1, if_neg c1, if_neg c1])]
              exact h1
            have hadd : IntKind.i64.wrap ((A : Int) + (z : Int)) = (A : Int) + (z : Int) := IntWalk.i64_in _ ⟨by omega, by omega⟩
            have kD : Below wc.heap.size wc wc.drew := (Below.refl _ _).drew
            have HF9 := Lib.hid (HFZ.out wc.drew ((HBI.out.trans (k9.mono HBI.out.size)).drew))
            obtain ⟨c9, f9⟩ := HC9.out wc (Below.refl _ _)
            obtain ⟨c9', f9'⟩ := HC9.out _ kD
            clear bx9 I9 hgk HFZ HR2 HR HIR HSI HST HZL HI6 HX HIF
            go_upto_region 9 with fail
            go_region_law (first | (go_simp; go_at_call 28; refine HF9.out.mono ?_; rintro e wF ⟨rfl, kF⟩; have kG := kD.trans (kF.mono kD.size); obtain ⟨c8, f8⟩ := HC9.out _ kG; dsimp only))
            all_goals
              have I10 := Lib.hid (HS9.out _ kG)
              clear c9 f9 c9' f9' c8 f8 kF kG t0 t1 t2 HC9 HS9 HF9
              go_wp2_with fail
              exact ⟨⟨j + 1, by omega, by simp, I10.out.1, I10.out.2⟩, by first | omega | (simp [intOf]; omega)⟩
        · have hjm : j = ml := by omega
          have HE : Hid (∀ t, t < n → (if t < k then szI S t else if t = k then smF s.gen (li.take j) else 0) = (if t < k + 1 then szI S t else 0)) := fun t _ => by
            by_cases c1 : t < k
            · rw [if_pos c1, if_pos (by omega)]
            · by_cases c2 : t = k
              · subst c2
                rw [if_neg c1, if_pos rfl, if_pos (by omega), HSK.out, List.take_of_length_le (by rw [HML.out]; omega)]
              · rw [if_neg c1, if_neg c2, if_neg (by omega)]
          have HI := Lib.hid I
          clear I
          go_wp2_with fail
          exact ⟨⟨k + 1, by omega, by simp, by rw [← szG_same HE.out]; exact HI.out, HG3⟩, by first | omega | (simp [intOf]; omega)⟩
    · have HE : Hid (szs S n = szG (fun j => if j < k then szI S j else 0) n) := by show _ = _; rw [szs_G]; exact szG_same (fun j hj => by rw [if_pos (by omega)])
      have HI := Lib.hid I
      clear I
      go_wp2_with fail
      go_ret
      exact ⟨_, rfl, by rw [HE.out]; exact HI.out.down (HBW.out.trans (HI.out.bel.mono HBW.out.size)) HBW.out.size⟩

end Go.Proofs.YtlifgcgoehkinaaGreatDoor
