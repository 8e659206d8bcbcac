/- Texts of our own, joined. -/
import Derived.Test.YtgcnebepklelpaaGreatJg
import Derived.Test.YtgcnebepklelpaaGreatJc
/- The helpers of the exact laws over logs. -/
namespace Go.Proofs.YtgcnebepklelpaaGreat
open Go.RowKit

set_option maxRecDepth 100000 in
set_option maxHeartbeats 1000000 in
theorem eqLog_same (L : Lg) (v1 v2 : Value) (w : World) (h1 : LRd w v1 L) (h2 : LRd w v2 L) (hs : L.d.small) (hl : L.used.length ≤ 1099511627776) (hm : ∀ b ∈ L.used, b.items.length ≤ 1099511627776) :
    Calls Tryz.prog 22 #[v1, v2] w fun e w' => e = .returned (.bool true) ∧ Below w.heap.size w w' := by
  obtain ⟨va, vb, vu, rfl, ha, hb⟩ := h1
  obtain ⟨vc, vd, vx, rfl, hc, hd⟩ := h2
  have b0 : Below w.heap.size w ((w.alloc (.cells #[va, vb, .int .i64 L.segs, vu, .int .i64 L.ng, .int .i64 L.ns, .int .i64 L.st, .int .i64 L.nv] 42)).alloc (.cells #[vc, vd, .int .i64 L.segs, vx, .int .i64 L.ng, .int .i64 L.ns, .int .i64 L.st, .int .i64 L.nv] 42)) := ((Below.refl _ _).alloc (Nat.le_refl _) _).alloc (by simp) _
  have q0 := Box.new w #[va, vb, .int .i64 L.segs, vu, .int .i64 L.ng, .int .i64 L.ns, .int .i64 L.st, .int .i64 L.nv] 42
  have q1 := Box.new (w.alloc (.cells #[va, vb, .int .i64 L.segs, vu, .int .i64 L.ng, .int .i64 L.ns, .int .i64 L.st, .int .i64 L.nv] 42)) #[vc, vd, .int .i64 L.segs, vx, .int .i64 L.ng, .int .i64 L.ns, .int .i64 L.st, .int .i64 L.nv] 42
  rw [show (w.alloc (.cells #[va, vb, .int .i64 L.segs, vu, .int .i64 L.ng, .int .i64 L.ns, .int .i64 L.st, .int .i64 L.nv] 42)).heap.size = w.heap.size + 1 by simp] at q1
  replace q0 := q0.later (belNew _ (.cells #[vc, vd, .int .i64 L.segs, vx, .int .i64 L.ng, .int .i64 L.ns, .int .i64 L.st, .int .i64 L.nv] 42))
  have HB : Hid (∀ x, Below ((w.alloc (.cells #[va, vb, .int .i64 L.segs, vu, .int .i64 L.ng, .int .i64 L.ns, .int .i64 L.st, .int .i64 L.nv] 42)).alloc (.cells #[vc, vd, .int .i64 L.segs, vx, .int .i64 L.ng, .int .i64 L.ns, .int .i64 L.st, .int .i64 L.nv] 42)).heap.size ((w.alloc (.cells #[va, vb, .int .i64 L.segs, vu, .int .i64 L.ng, .int .i64 L.ns, .int .i64 L.st, .int .i64 L.nv] 42)).alloc (.cells #[vc, vd, .int .i64 L.segs, vx, .int .i64 L.ng, .int .i64 L.ns, .int .i64 L.st, .int .i64 L.nv] 42)) x →
      Below w.heap.size w x ∧ GRd x vu L.used ∧ GRd x vx L.used ∧ Box x w.heap.size #[va, vb, .int .i64 L.segs, vu, .int .i64 L.ng, .int .i64 L.ns, .int .i64 L.st, .int .i64 L.nv] 42 ∧ Box x (w.heap.size + 1) #[vc, vd, .int .i64 L.segs, vx, .int .i64 L.ng, .int .i64 L.ns, .int .i64 L.st, .int .i64 L.nv] 42) := by
    intro x h
    have h' : Below w.heap.size w x := b0.trans (h.mono b0.size)
    exact ⟨h', hb.later h', hd.later h', q0.later h, q1.later h⟩
  have HD := Lib.hid (eqDisk_same L.d _ _ _ (ha.later b0) (hc.later b0) hs)
  have HG := Lib.hid (fun x p q => eqSegS_same L.used vu vx x p q hl hm)
  clear hb hd ha hc q0 q1 b0 hm
  go_enter Tryz.func22, Tryz.ntmps22
  go_wp2_with fail
  refine HD.out.mono ?_
  rintro e w1 ⟨rfl, k1⟩
  obtain ⟨b1, r1, r2, x0, x1⟩ := HB.out w1 k1
  obtain ⟨c0, c1, c2, c3, c4, c5, c6, c7, _⟩ := x0.eightL
  obtain ⟨d0, d1, d2, d3, d4, d5, d6, d7, _⟩ := x1.eightL
  clear x0 x1
  go_wp2_with fail
  refine (HG.out _ r1 r2).mono ?_
  rintro e w2 ⟨rfl, k2⟩
  obtain ⟨b2, _, _, x0, x1⟩ := HB.out w2 (k1.trans (k2.mono k1.size))
  clear c0 c1 c2 c3 c4 c5 c6 c7 d0 d1 d2 d3 d4 d5 d6 d7 r1 r2
  obtain ⟨c0, c1, c2, c3, c4, c5, c6, c7, _⟩ := x0.eightL
  obtain ⟨d0, d1, d2, d3, d4, d5, d6, d7, _⟩ := x1.eightL
  clear x0 x1
  go_wp2
  go_ret
  exact ⟨rfl, b2⟩

set_option maxRecDepth 100000 in
set_option maxHeartbeats 1000000 in
theorem markDisk_fine (d : Dk) (va vb : Value) (k B T : Nat) (w : World) (h1 : LOwn strE B T w va d.sec) (h2 : LOwn wrE B T w vb d.cache) (h3 : va.ownBlock = none ∨ va.ownBlock ≠ vb.ownBlock) (hk : 1 ≤ k) (hk2 : k + d.count ≤ 1099511627776) :
    Calls Tryz.prog 48 #[.agg #[va, vb], .int .i64 (k : Int)] w fun e w' => e = .returned (.int .i64 ((k + d.count : Nat) : Int)) ∧ LOwn strE B T w' va (marksD k d).sec ∧ LOwn wrE B T w' vb (marksD k d).cache ∧ Kept B T w w' ∧ ∀ q, q < w.heap.size → va.ownBlock ≠ some q → vb.ownBlock ≠ some q → w'.heap[q]? = w.heap[q]? := by
  unfold Dk.count at hk2
  have b0 : Below w.heap.size w (w.alloc (.cells #[va, vb] 39)) := (Below.refl _ _).alloc (Nat.le_refl _) _
  have k0 := Kept.of_below b0 B T
  have h1' := h1.later b0
  have hin : ∀ j, va.ownBlock = some j → B ≤ j ∧ j < T := fun j hj => ⟨(h1.1.own.lt j hj).1, h1.2.2 j hj⟩
  have hin2 : ∀ j, vb.ownBlock = some j → B ≤ j ∧ j < T := fun j hj => ⟨(h2.1.own.lt j hj).1, h2.2.2 j hj⟩
  have hT : T ≤ w.heap.size := h1.2.1
  have HB : Hid (∀ w', (w.alloc (.cells #[va, vb] 39)).grownBy w' va.ownBlock → SBuf B (w.alloc (.cells #[va, vb] 39)) w' va (marksOf k d.sec.length) →
      w'.cell? ⟨w.heap.size, 1, none⟩ = some vb ∧ LOwn wrE B T w' vb d.cache ∧ Kept B T w w') := by
    intro w' hg hb
    refine ⟨?_, (h2.later b0).grown hg ?_, k0.trans (Kept.of_grown hg hin)⟩
    · have : (w.alloc (.cells #[va, vb] 39)).cell? ⟨w.heap.size, 1, none⟩ = some vb := by
        rw [cell_of_row _ _ _ #[va, vb] _ (0, 0) (heap_alloc_new w _)]; rfl
      exact hg.cell this (fun e => by have := hin w.heap.size e.symm; omega)
    · rcases h3 with h3 | h3
      · cases hvb : vb.ownBlock with
        | none => exact .inl rfl
        | some j => exact .inr (by rw [h3]; simp)
      · exact .inr (Ne.symm h3)
  clear h2 k0
  go_enter Tryz.func48, Tryz.ntmps48
  go_wp2_with fail
  refine (markStringS_row d.sec va k B _ _ h1'.1.toS hk (by omega)).mono ?_
  rintro e w1 ⟨rfl, hs1, hg1⟩
  obtain ⟨c1, r1, k1⟩ := HB.out w1 hg1 hs1
  go_wp2_with fail
  refine (markWriteS_any d.cache vb (k + d.sec.length) B _ _ r1.1 (by omega) (by omega)).mono ?_
  rintro e w2 ⟨rfl, hs2, hg2⟩
  go_wp2
  go_ret
  have k2 := Kept.of_grown hg2 hin2
  refine ⟨congrArg (fun z : Int => Ending.returned (.int .i64 z)) (show (k : Int) + (d.sec.length : Int) + 2 * (d.cache.length : Int) = ((k + d.count : Nat) : Int) by unfold Dk.count; omega), ?_, ?_, k1.trans k2, fun q hq hqa hqb => ?_⟩
  · have l1 : LOwn strE B T w1 va (marksOf k d.sec.length) := ⟨hs1.toR.here, Nat.le_trans hT k1.size, fun j hj => (hin j hj).2⟩
    exact l1.grown hg2 h3
  · exact ⟨hs2.here, Nat.le_trans hT (k1.trans k2).size, fun j hj => (hin2 j hj).2⟩
  · have e1 := hg1.block q (Nat.lt_of_lt_of_le hq b0.size) (fun e => hqa e.symm)
    have e2 := hg2.block q (Nat.lt_of_lt_of_le hq (Nat.le_trans b0.size hg1.size)) (fun e => hqb e.symm)
    exact e2.trans (e1.trans (b0.block q hq))

set_option maxRecDepth 100000 in
set_option maxHeartbeats 2000000 in
theorem markLog_any (L : Lg) (v : Value) (k B T : Nat) (w : World) (h : LgO B T w v L) (hk : 1 ≤ k) (hk2 : L.kL k ≤ 1099511627776) (hl : L.used.length ≤ 1099511627776) :
    Calls Tryz.prog 24 #[v, .int .i64 (k : Int)] w fun e w' => e = .returned (.int .i64 (L.kL k : Int)) ∧ LgO B T w' v (marksLg k L) ∧ Kept B T w w' := by
  obtain ⟨va, vb, vu, hs, rfl, P⟩ := h
  have hT : T ≤ w.heap.size := P.use.le
  have hk3 : k + L.d.count ≤ 1099511627776 := Nat.le_trans (kF_le _ _) hk2
  have b0 := belNew w (.cells #[va, vb, .int .i64 L.segs, vu, .int .i64 L.ng, .int .i64 L.ns, .int .i64 L.st, .int .i64 L.nv] 42)
  have q0 := Box.new w #[va, vb, .int .i64 L.segs, vu, .int .i64 L.ng, .int .i64 L.ns, .int .i64 L.st, .int .i64 L.nv] 42
  have P1 := P.later b0
  have k0 := Kept.of_below b0 B T
  clear P
  have HMD := Lib.hid (markDisk_fine L.d va vb k B T _ P1.sec P1.cac P1.two hk hk3)
  have HP := Lib.hid P1
  have HK0 := Lib.hid k0
  have HMS := Lib.hid (fun x hx => markSegS_any L.used vu (k + L.d.count) B hs x hx (by omega) hk2 hl)
  have hcl : Hid (w.heap.size < (w.alloc (.cells #[va, vb, .int .i64 L.segs, vu, .int .i64 L.ng, .int .i64 L.ns, .int .i64 L.st, .int .i64 L.nv] 42)).heap.size) := by show _ < _; simp
  obtain ⟨K1, hK1⟩ : ∃ K1, k + L.d.count = K1 := ⟨_, rfl⟩
  have HK1 := Lib.hid hK1
  rw [hK1] at HMD HMS
  obtain ⟨K2, hK2⟩ : ∃ K2, L.kL k = K2 := ⟨_, rfl⟩
  have HK2 : Hid (kF K1 L.used = K2) := by show _ = _; rw [← hK1, ← hK2]; rfl
  rw [hK2]
  rw [HK2.out] at HMS
  clear P1 k0 b0 hK1 hK2 hk2 hk3
  go_enter Tryz.func24, Tryz.ntmps24
  go_wp2_with fail
  generalize w.alloc (.cells #[va, vb, .int .i64 L.segs, vu, .int .i64 L.ng, .int .i64 L.ns, .int .i64 L.st, .int .i64 L.nv] 42) = W at HMD HP HK0 q0 hcl ⊢
  refine HMD.out.mono ?_
  rintro e w1 ⟨rfl, s1, c1, k1, f1⟩
  have q1 : Box w1 w.heap.size #[va, vb, .int .i64 L.segs, vu, .int .i64 L.ng, .int .i64 L.ns, .int .i64 L.st, .int .i64 L.nv] 42 := q0.keptG k1 (by omega)
  have u1 : SgO B w1 vu L.used hs := HP.out.use.own.stay k1.size (fun q hq => f1 q (HP.out.use.own.where'.1 q hq).2 (fun e => (HP.out.far q (.inl e)).1 hq) (fun e => (HP.out.far q (.inr e)).1 hq)) (fun j x hj q hq => f1 q (HP.out.use.own.where'.2 j x hj q hq).2 (fun e => (HP.out.far q (.inl e)).2 j x hj hq) (fun e => (HP.out.far q (.inr e)).2 j x hj hq))
  have c3 := q1.cell 3 _ rfl
  have HS1 := Lib.hid s1
  have HC1 := Lib.hid c1
  have HKK1 := Lib.hid k1
  clear s1 c1 k1 f1 q0 q1 HMD
  go_wp2_with fail
  clear c3
  refine (HMS.out _ u1).mono ?_
  rintro e w2 ⟨rfl, ⟨hs', u2, mv2⟩, b2, f2⟩
  have HU2 := Lib.hid u2
  have HMV := Lib.hid mv2
  have HF2 := Lib.hid f2
  have HB2 := Lib.hid b2
  clear u1 u2 mv2 f2 b2 HMS
  go_wp2
  go_ret
  have hrow : ∀ q, vu.ownBlock = some q → q < T := HP.out.use.row
  have hits : ∀ (j : Nat) (x : SgH), hs[j]? = some x → ∀ q, x.mv.ownBlock = some q → q < T := HP.out.use.its
  have hz1 : W.heap.size ≤ w1.heap.size := HKK1.out.size
  have hz2 : w1.heap.size ≤ w2.heap.size := HB2.out.size
  have hTW : T ≤ W.heap.size := HP.out.use.le
  refine ⟨rfl, ⟨va, vb, vu, hs', rfl, ⟨?_, ?_, HP.out.two, ⟨?_, by omega, hrow, fun j y hj q hq => ?_⟩, fun q hq => ⟨(HP.out.far q hq).1, fun j y hj e => ?_⟩⟩⟩, HK0.out.trans (HKK1.out.trans ⟨HB2.out.os, HB2.out.tape, HB2.out.output, hz2, fun q hq ho => HF2.out q hq (fun e => ?_) (fun j x hj e => ?_)⟩)⟩
  · refine ⟨HS1.out.1.stayG hz2 (fun q hq => HF2.out q (HS1.out.1.own.lt q hq).2 (HP.out.far q (.inl hq)).1 (HP.out.far q (.inl hq)).2), by omega, HS1.out.2.2⟩
  · refine ⟨HC1.out.1.stayG hz2 (fun q hq => HF2.out q (HC1.out.1.own.lt q hq).2 (HP.out.far q (.inr hq)).1 (HP.out.far q (.inr hq)).2), by omega, HC1.out.2.2⟩
  · show SgO B w2 vu (marksG (k + L.d.count) L.used) hs'
    rw [HK1.out]
    exact HU2.out
  · obtain ⟨x, hx, ex⟩ := HMV.out j y hj
    rw [ex] at hq
    exact hits j x hx q hq
  · obtain ⟨x, hx, ex⟩ := HMV.out j y hj
    rw [ex] at e
    exact (HP.out.far q hq).2 j x hx e
  · have h1 := hrow q e
    have h2 := (HP.out.use.own.where'.1 q e).1
    omega
  · have h1 := hits j x hj q e
    have h2 := (HP.out.use.own.where'.2 j x hj q e).1
    omega


set_option maxRecDepth 100000 in
set_option maxHeartbeats 4000000 in
theorem toLog_any (L : Lg) (v : Value) (w : World) (h : LIn w v L) (hL : L.lean 1048576) :
    Calls Tryz.prog 17 #[v] w fun e w' => ∃ v', e = .returned v' ∧ LgO w.heap.size w'.heap.size w' v' L ∧ Below w.heap.size w w' := by
  obtain ⟨va, vb, vu, rfl, ha, hb, _, _⟩ := h
  obtain ⟨⟨hL1, hL2, _, _⟩, hL3, _⟩ := hL
  have hm : ∀ b ∈ L.used, b.items.length ≤ 1048576 := fun b hb => by have := gIts_mem hb; omega
  have bA := belNew w (.cells #[va, vb, .int .i64 L.segs, vu, .int .i64 L.ng, .int .i64 L.ns, .int .i64 L.st, .int .i64 L.nv] 28)
  have qA := Box.new w #[va, vb, .int .i64 L.segs, vu, .int .i64 L.ng, .int .i64 L.ns, .int .i64 L.st, .int .i64 L.nv] 28
  obtain ⟨wA, hwA⟩ : ∃ wA, wA = w.alloc (.cells #[va, vb, .int .i64 L.segs, vu, .int .i64 L.ng, .int .i64 L.ns, .int .i64 L.st, .int .i64 L.nv] 28) := ⟨_, rfl⟩
  have eA : wA.heap.size = w.heap.size + 1 := by rw [hwA]; simp
  rw [← hwA] at bA qA
  have hB := Box.new wA #[.slice none 0 0, .slice none 0 0, .int .i64 0, .slice none 0 0, .int .i64 0, .int .i64 0, .int .i64 0, .int .i64 0] 42
  have kB := belNew wA (.cells #[.slice none 0 0, .slice none 0 0, .int .i64 0, .slice none 0 0, .int .i64 0, .int .i64 0, .int .i64 0, .int .i64 0] 42)
  have bB := bA.trans (kB.mono bA.size)
  obtain ⟨wB, hwB⟩ : ∃ wB, wB = wA.alloc (.cells #[.slice none 0 0, .slice none 0 0, .int .i64 0, .slice none 0 0, .int .i64 0, .int .i64 0, .int .i64 0, .int .i64 0] 42) := ⟨_, rfl⟩
  have eB : wB.heap.size = w.heap.size + 1 + 1 := by rw [hwB]; simp; omega
  rw [← hwB] at hB kB bB
  rw [eA] at hB
  have hC := Box.new wB #[.slice none 0 0, .slice none 0 0, .int .i64 0, .slice none 0 0, .int .i64 0, .int .i64 0, .int .i64 0, .int .i64 0] 42
  have kC := belNew wB (.cells #[.slice none 0 0, .slice none 0 0, .int .i64 0, .slice none 0 0, .int .i64 0, .int .i64 0, .int .i64 0, .int .i64 0] 42)
  have bC := bB.trans (kC.mono bB.size)
  obtain ⟨wC, hwC⟩ : ∃ wC, wC = wB.alloc (.cells #[.slice none 0 0, .slice none 0 0, .int .i64 0, .slice none 0 0, .int .i64 0, .int .i64 0, .int .i64 0, .int .i64 0] 42) := ⟨_, rfl⟩
  have eC : wC.heap.size = w.heap.size + 1 + 1 + 1 := by rw [hwC]; simp; omega
  rw [← hwC] at hC kC bC
  rw [eB] at hC
  have x1 := hB.later kC
  have x0 := (qA.later kB).later kC
  have HT := Lib.hid (toDisk_any L.d _ wC (ha.later bC) (by omega) (by omega))
  have HU := Lib.hid (fun x p => toSegS_any L.used vu x p (by omega) hm)
  have HEC := Lib.hid eC
  have HWC : Hid (wC = ((w.alloc (.cells #[va, vb, .int .i64 L.segs, vu, .int .i64 L.ng, .int .i64 L.ns, .int .i64 L.st, .int .i64 L.nv] 28)).alloc (.cells #[.slice none 0 0, .slice none 0 0, .int .i64 0, .slice none 0 0, .int .i64 0, .int .i64 0, .int .i64 0, .int .i64 0] 42)).alloc (.cells #[.slice none 0 0, .slice none 0 0, .int .i64 0, .slice none 0 0, .int .i64 0, .int .i64 0, .int .i64 0, .int .i64 0] 42)) := by rw [← hwA, ← hwB, ← hwC]; exact rfl
  have HLB : Hid (∀ x, Below w.heap.size w x → LGRd x vu L.used) := fun x hx => hb.later hx
  clear ha hb qA hB kB bB bA kC eA eB eC hwA hwB hwC hm hL3
  go_enter Tryz.func17, Tryz.ntmps17
  go_wp2_with fail
  rw [← HWC.out]
  clear HWC
  refine HT.out.mono ?_
  rintro e w4 ⟨v1, rfl, o1, k4⟩
  obtain ⟨a1, a2, p1, p2, rfl⟩ := o1.form
  replace x0 := x0.later k4
  replace x1 := x1.later k4
  have x2 := hC.later k4
  have b4 := bC.trans (k4.mono bC.size)
  obtain ⟨c0, c1, c2, c3, c4, c5, c6, c7, _⟩ := x0.eightL
  obtain ⟨d0, d1, d2, d3, d4, d5, d6, d7, f0, f1, f2, f3, f4, f5, f6, f7⟩ := x2.eightL
  have y0 := ((x0.other (g := w.heap.size + 1 + 1) (by omega) 0 (.slice a1 L.d.sec.length p1)).other (g := w.heap.size + 1 + 1) (by omega) 1 (.slice a2 L.d.cache.length p2)).other (g := w.heap.size + 1 + 1) (by omega) 2 (.int .i64 L.segs)
  have y1 := ((x1.other (g := w.heap.size + 1 + 1) (by omega) 0 (.slice a1 L.d.sec.length p1)).other (g := w.heap.size + 1 + 1) (by omega) 1 (.slice a2 L.d.cache.length p2)).other (g := w.heap.size + 1 + 1) (by omega) 2 (.int .i64 L.segs)
  have y2a : Box (w4.setCell ⟨w.heap.size + 1 + 1, 0, none⟩ (.slice a1 L.d.sec.length p1)) (w.heap.size + 1 + 1) #[.slice a1 L.d.sec.length p1, .slice none 0 0, .int .i64 0, .slice none 0 0, .int .i64 0, .int .i64 0, .int .i64 0, .int .i64 0] 42 := x2.set 0 _
  have y2b : Box ((w4.setCell ⟨w.heap.size + 1 + 1, 0, none⟩ (.slice a1 L.d.sec.length p1)).setCell ⟨w.heap.size + 1 + 1, 1, none⟩ (.slice a2 L.d.cache.length p2)) (w.heap.size + 1 + 1) #[.slice a1 L.d.sec.length p1, .slice a2 L.d.cache.length p2, .int .i64 0, .slice none 0 0, .int .i64 0, .int .i64 0, .int .i64 0, .int .i64 0] 42 := y2a.set 1 _
  have y2 : Box (((w4.setCell ⟨w.heap.size + 1 + 1, 0, none⟩ (.slice a1 L.d.sec.length p1)).setCell ⟨w.heap.size + 1 + 1, 1, none⟩ (.slice a2 L.d.cache.length p2)).setCell ⟨w.heap.size + 1 + 1, 2, none⟩ (.int .i64 L.segs)) (w.heap.size + 1 + 1) #[.slice a1 L.d.sec.length p1, .slice a2 L.d.cache.length p2, .int .i64 L.segs, .slice none 0 0, .int .i64 0, .int .i64 0, .int .i64 0, .int .i64 0] 42 := y2b.set 2 _
  have b5 := ((b4.setCell (p := ⟨w.heap.size + 1 + 1, 0, none⟩) (by simp; omega) (.slice a1 L.d.sec.length p1)).setCell (p := ⟨w.heap.size + 1 + 1, 1, none⟩) (by simp; omega) (.slice a2 L.d.cache.length p2)).setCell (p := ⟨w.heap.size + 1 + 1, 2, none⟩) (by simp; omega) (.int .i64 L.segs)
  have g5 := ((stored_grown w4 (w.heap.size + 1 + 1) 0 (.slice a1 L.d.sec.length p1)).trans (stored_grown _ (w.heap.size + 1 + 1) 1 (.slice a2 L.d.cache.length p2))).trans (stored_grown _ (w.heap.size + 1 + 1) 2 (.int .i64 L.segs))
  have s5 : (((w4.setCell ⟨w.heap.size + 1 + 1, 0, none⟩ (.slice a1 L.d.sec.length p1)).setCell ⟨w.heap.size + 1 + 1, 1, none⟩ (.slice a2 L.d.cache.length p2)).setCell ⟨w.heap.size + 1 + 1, 2, none⟩ (.int .i64 L.segs)).heap.size = w4.heap.size := by simp
  have HO1 := Lib.hid o1
  have HK4 := Lib.hid k4
  clear x0 x1 x2 y2a y2b b4 hC o1 k4 bC HT
  have HB5 := Lib.hid b5
  have HG5 := Lib.hid g5
  have HS5 := Lib.hid s5
  clear b5 g5 s5
  go_wp2_with fail
  clear c0 c1 c2 c3 c4 c5 c6 c7 d0 d1 d2 d3 d4 d5 d6 d7 f0 f1 f2 f3 f4 f5 f6 f7
  generalize ((w4.setCell ⟨w.heap.size + 1 + 1, 0, none⟩ (.slice a1 L.d.sec.length p1)).setCell ⟨w.heap.size + 1 + 1, 1, none⟩ (.slice a2 L.d.cache.length p2)).setCell ⟨w.heap.size + 1 + 1, 2, none⟩ (.int .i64 L.segs) = w5 at y0 y1 y2 HB5 HG5 HS5 ⊢
  refine (HU.out _ (HLB.out _ HB5.out)).mono ?_
  rintro e w6 ⟨v2, hs, rfl, S, k6⟩
  obtain ⟨a3, p3, rfl⟩ := S.row.form
  have hlen := S.len
  rw [hlen] at S ⊢
  have HP : Hid (LgP wC.heap.size w6.heap.size w6 (.slice a1 L.d.sec.length p1) (.slice a2 L.d.cache.length p2) (.slice a3 L.used.length p3) L hs) := by
    have o5 : DOwn wC.heap.size w4.heap.size w5 (.agg #[.slice a1 L.d.sec.length p1, .slice a2 L.d.cache.length p2]) L.d := by
      refine HO1.out.kept (B' := w.heap.size + 1 + 1) (T' := w.heap.size + 1 + 1 + 1) (Kept.of_grown HG5.out (fun k hk => by have := Option.some.inj hk; omega)) (.inr ?_)
      have := HEC.out
      omega
    exact LgP.mk2 (o5.later k6) S.gown (by have := HS5.out; omega) (by have := HK4.out.size; have := HS5.out; omega) (by have := k6.size; have := HS5.out; omega)
  have b6 := HB5.out.trans (k6.mono HB5.out.size)
  replace y0 := y0.later k6
  replace y1 := y1.later k6
  replace y2 := y2.later k6
  obtain ⟨c0, c1, c2, c3, c4, c5, c6, c7, _⟩ := y0.eightL
  obtain ⟨d0, d1, d2, d3, d4, d5, d6, d7, f0, f1, f2, f3, f4, f5, f6, f7⟩ := y2.eightL
  obtain ⟨l0, l1, l2, l3, l4, l5, l6, l7, m0, m1, m2, m3, m4, m5, m6, m7⟩ := y1.eightL
  have HB6 := Lib.hid b6
  have L5 := (((((y1.other (g := w.heap.size + 1 + 1) (by omega) 3 (.slice a3 L.used.length p3)).other (g := w.heap.size + 1 + 1) (by omega) 4 (.int .i64 L.ng)).other (g := w.heap.size + 1 + 1) (by omega) 5 (.int .i64 L.ns)).other (g := w.heap.size + 1 + 1) (by omega) 6 (.int .i64 L.st)).other (g := w.heap.size + 1 + 1) (by omega) 7 (.int .i64 L.nv)).set8L (.slice a1 L.d.sec.length p1) (.slice a2 L.d.cache.length p2) (.int .i64 L.segs) (.slice a3 L.used.length p3) (.int .i64 L.ng) (.int .i64 L.ns) (.int .i64 L.st) (.int .i64 L.nv)
  have G5 : w6.grownBy (((((w6.setCell ⟨w.heap.size + 1 + 1, 3, none⟩ (.slice a3 L.used.length p3)).setCell ⟨w.heap.size + 1 + 1, 4, none⟩ (.int .i64 L.ng)).setCell ⟨w.heap.size + 1 + 1, 5, none⟩ (.int .i64 L.ns)).setCell ⟨w.heap.size + 1 + 1, 6, none⟩ (.int .i64 L.st)).setCell ⟨w.heap.size + 1 + 1, 7, none⟩ (.int .i64 L.nv)) (some (w.heap.size + 1 + 1)) := ((((stored_grown w6 (w.heap.size + 1 + 1) 3 (.slice a3 L.used.length p3)).trans (stored_grown _ (w.heap.size + 1 + 1) 4 (.int .i64 L.ng))).trans (stored_grown _ (w.heap.size + 1 + 1) 5 (.int .i64 L.ns))).trans (stored_grown _ (w.heap.size + 1 + 1) 6 (.int .i64 L.st))).trans (stored_grown _ (w.heap.size + 1 + 1) 7 (.int .i64 L.nv))
  have G6 := grown_set8L (((((w6.setCell ⟨w.heap.size + 1 + 1, 3, none⟩ (.slice a3 L.used.length p3)).setCell ⟨w.heap.size + 1 + 1, 4, none⟩ (.int .i64 L.ng)).setCell ⟨w.heap.size + 1 + 1, 5, none⟩ (.int .i64 L.ns)).setCell ⟨w.heap.size + 1 + 1, 6, none⟩ (.int .i64 L.st)).setCell ⟨w.heap.size + 1 + 1, 7, none⟩ (.int .i64 L.nv)) (w.heap.size + 1) (.slice a1 L.d.sec.length p1) (.slice a2 L.d.cache.length p2) (.int .i64 L.segs) (.slice a3 L.used.length p3) (.int .i64 L.ng) (.int .i64 L.ns) (.int .i64 L.st) (.int .i64 L.nv)
  have b5 : Below w.heap.size w (set8L (((((w6.setCell ⟨w.heap.size + 1 + 1, 3, none⟩ (.slice a3 L.used.length p3)).setCell ⟨w.heap.size + 1 + 1, 4, none⟩ (.int .i64 L.ng)).setCell ⟨w.heap.size + 1 + 1, 5, none⟩ (.int .i64 L.ns)).setCell ⟨w.heap.size + 1 + 1, 6, none⟩ (.int .i64 L.st)).setCell ⟨w.heap.size + 1 + 1, 7, none⟩ (.int .i64 L.nv)) (w.heap.size + 1) (.slice a1 L.d.sec.length p1) (.slice a2 L.d.cache.length p2) (.int .i64 L.segs) (.slice a3 L.used.length p3) (.int .i64 L.ng) (.int .i64 L.ns) (.int .i64 L.st) (.int .i64 L.nv)) := below_set8L (((((HB6.out.setCell (p := ⟨w.heap.size + 1 + 1, 3, none⟩) (by simp; omega) (.slice a3 L.used.length p3)).setCell (p := ⟨w.heap.size + 1 + 1, 4, none⟩) (by simp; omega) (.int .i64 L.ng)).setCell (p := ⟨w.heap.size + 1 + 1, 5, none⟩) (by simp; omega) (.int .i64 L.ns)).setCell (p := ⟨w.heap.size + 1 + 1, 6, none⟩) (by simp; omega) (.int .i64 L.st)).setCell (p := ⟨w.heap.size + 1 + 1, 7, none⟩) (by simp; omega) (.int .i64 L.nv)) (by omega) (.slice a1 L.d.sec.length p1) (.slice a2 L.d.cache.length p2) (.int .i64 L.segs) (.slice a3 L.used.length p3) (.int .i64 L.ng) (.int .i64 L.ns) (.int .i64 L.st) (.int .i64 L.nv)
  obtain ⟨z0, z1, z2, z3, z4, z5, z6, z7, _⟩ := L5.eightL
  have HG5 := Lib.hid G5
  have HG6 := Lib.hid G6
  have HB7 := Lib.hid b5
  unfold set8L at z0 z1 z2 z3 z4 z5 z6 z7 HG6 HB7
  clear L5 G5 G6 b5 S k6 hlen b6 y0 HB5 HS5 HO1 HK4 HLB HU
  clear y1 y2
  go_wp2
  refine bodyPost_ret (v := .agg #[.slice a1 L.d.sec.length p1, .slice a2 L.d.cache.length p2, .int .i64 L.segs, .slice a3 L.used.length p3, .int .i64 L.ng, .int .i64 L.ns, .int .i64 L.st, .int .i64 L.nv]) (by simp [results, Tryz.results17, go_sem, z0, z1, z2, z3, z4, z5, z6, z7]) rfl ⟨_, rfl, ⟨_, _, _, hs, rfl, ?_⟩, HB7.out⟩
  have hz := Nat.le_trans HG5.out.size HG6.out.size
  refine (HP.out.stay hz (fun q h1 h2 => ?_)).widen (by have := HEC.out; omega) hz (Nat.le_refl _)
  have h3 := HEC.out
  have e1 := HG5.out.block q h2 (fun e => by have := Option.some.inj e; omega)
  have e2 := HG6.out.block q (Nat.lt_of_lt_of_le h2 HG5.out.size) (fun e => by have := Option.some.inj e; omega)
  exact e2.trans e1

end Go.Proofs.YtgcnebepklelpaaGreat

/- The helpers of the exact laws over stores. -/
namespace Go.Proofs.YtgcnebepklelpaaGreat
open Go.RowKit

set_option maxRecDepth 100000 in
set_option maxHeartbeats 1000000 in
theorem eqStore_same (S : So) (v1 v2 : Value) (w : World) (h1 : SoRd w v1 S) (h2 : SoRd w v2 S) (hs : S.g.d.small) (hl : S.g.used.length ≤ 1099511627776) (hm : ∀ b ∈ S.g.used, b.items.length ≤ 1099511627776) (hf : S.fr.length ≤ 1099511627776) :
    Calls Tryz.prog 9 #[v1, v2] w fun e w' => e = .returned (.bool true) ∧ Below w.heap.size w w' := by
  obtain ⟨va, vb, vu, vf, rfl, ha, hb⟩ := h1
  obtain ⟨vc, vd, vx, vg, rfl, hc, hd⟩ := h2
  have b0 : Below w.heap.size w ((w.alloc (.cells #[va, vb, .int .i64 S.g.segs, vu, .int .i64 S.g.ng, .int .i64 S.g.ns, .int .i64 S.g.st, .int .i64 S.g.nv, vf] 44)).alloc (.cells #[vc, vd, .int .i64 S.g.segs, vx, .int .i64 S.g.ng, .int .i64 S.g.ns, .int .i64 S.g.st, .int .i64 S.g.nv, vg] 44)) := ((Below.refl _ _).alloc (Nat.le_refl _) _).alloc (by simp) _
  have q0 := Box.new w #[va, vb, .int .i64 S.g.segs, vu, .int .i64 S.g.ng, .int .i64 S.g.ns, .int .i64 S.g.st, .int .i64 S.g.nv, vf] 44
  have q1 := Box.new (w.alloc (.cells #[va, vb, .int .i64 S.g.segs, vu, .int .i64 S.g.ng, .int .i64 S.g.ns, .int .i64 S.g.st, .int .i64 S.g.nv, vf] 44)) #[vc, vd, .int .i64 S.g.segs, vx, .int .i64 S.g.ng, .int .i64 S.g.ns, .int .i64 S.g.st, .int .i64 S.g.nv, vg] 44
  rw [show (w.alloc (.cells #[va, vb, .int .i64 S.g.segs, vu, .int .i64 S.g.ng, .int .i64 S.g.ns, .int .i64 S.g.st, .int .i64 S.g.nv, vf] 44)).heap.size = w.heap.size + 1 by simp] at q1
  replace q0 := q0.later (belNew _ (.cells #[vc, vd, .int .i64 S.g.segs, vx, .int .i64 S.g.ng, .int .i64 S.g.ns, .int .i64 S.g.st, .int .i64 S.g.nv, vg] 44))
  have HB : Hid (∀ x, Below ((w.alloc (.cells #[va, vb, .int .i64 S.g.segs, vu, .int .i64 S.g.ng, .int .i64 S.g.ns, .int .i64 S.g.st, .int .i64 S.g.nv, vf] 44)).alloc (.cells #[vc, vd, .int .i64 S.g.segs, vx, .int .i64 S.g.ng, .int .i64 S.g.ns, .int .i64 S.g.st, .int .i64 S.g.nv, vg] 44)).heap.size ((w.alloc (.cells #[va, vb, .int .i64 S.g.segs, vu, .int .i64 S.g.ng, .int .i64 S.g.ns, .int .i64 S.g.st, .int .i64 S.g.nv, vf] 44)).alloc (.cells #[vc, vd, .int .i64 S.g.segs, vx, .int .i64 S.g.ng, .int .i64 S.g.ns, .int .i64 S.g.st, .int .i64 S.g.nv, vg] 44)) x →
      Below w.heap.size w x ∧ Rows' intE x vf S.fr ∧ Rows' intE x vg S.fr ∧ Box x w.heap.size #[va, vb, .int .i64 S.g.segs, vu, .int .i64 S.g.ng, .int .i64 S.g.ns, .int .i64 S.g.st, .int .i64 S.g.nv, vf] 44 ∧ Box x (w.heap.size + 1) #[vc, vd, .int .i64 S.g.segs, vx, .int .i64 S.g.ng, .int .i64 S.g.ns, .int .i64 S.g.st, .int .i64 S.g.nv, vg] 44) := by
    intro x h
    have h' : Below w.heap.size w x := b0.trans (h.mono b0.size)
    exact ⟨h', hb.later h', hd.later h', q0.later h, q1.later h⟩
  have HD := Lib.hid (eqLog_same S.g _ _ _ (ha.later b0) (hc.later b0) hs hl hm)
  have HG := Lib.hid (fun x p q => eqIntS_same S.fr vf vg x p q hf)
  clear hb hd ha hc q0 q1 b0 hm
  go_enter Tryz.func9, Tryz.ntmps9
  go_wp2_with fail
  refine HD.out.mono ?_
  rintro e w1 ⟨rfl, k1⟩
  obtain ⟨b1, r1, r2, x0, x1⟩ := HB.out w1 k1
  have c8 := x0.cell 8 _ rfl
  have d8 := x1.cell 8 _ rfl
  clear x0 x1
  go_wp2_with fail
  refine (HG.out _ r1 r2).mono ?_
  rintro e w2 ⟨rfl, k2⟩
  obtain ⟨b2, _, _, _, _⟩ := HB.out w2 (k1.trans (k2.mono k1.size))
  clear c8 d8 r1 r2
  go_wp2
  go_ret
  exact ⟨rfl, b2⟩

set_option maxRecDepth 100000 in
set_option maxHeartbeats 1000000 in
theorem szIntS_any (l : List Int) (v : Value) (left : Int) (w : World) (h : IsIn w v l) (h0 : 0 ≤ left) (h1 : left ≤ 1048576) :
    Calls Tryz.prog 14 #[v, .int .i64 left] w fun e w' => (∃ r : Int, e = .returned (.int .i64 r) ∧ r ≤ left ∧ (0 ≤ r → (l.length : Int) ≤ left)) ∧ w' = w := by
  obtain ⟨hr, hl⟩ := h
  obtain ⟨a, c, rfl⟩ : ∃ (a : Option Addr) (c : Nat), v = .slice a l.length c := by
    rcases hr.ways with ⟨rfl, a, c, rfl⟩ | ⟨_, g, off, c, rfl, _⟩
    · exact ⟨a, c, rfl⟩
    · exact ⟨_, c, rfl⟩
  clear hr
  generalize l.length = n at *
  by_cases hn : left - (n : Int) < 0
  · go_enter Tryz.func14, Tryz.ntmps14
    go_wp2
    go_ret
    exact ⟨⟨-1, rfl, by omega, fun h => absurd h (by omega)⟩, rfl⟩
  · go_enter Tryz.func14, Tryz.ntmps14
    go_wp2
    go_ret
    exact ⟨⟨_, rfl, by omega, fun _ => by omega⟩, rfl⟩

set_option maxRecDepth 100000 in
set_option maxHeartbeats 1000000 in
theorem szLog_to (L : Lg) (v : Value) (left : Int) (w : World) (h : LIn w v L) (h0 : 0 ≤ left) (h1 : left ≤ 1048576) :
    Calls Tryz.prog 13 #[v, .int .i64 left] w fun e w' => (∃ r : Int, e = .returned (.int .i64 r) ∧ r ≤ left ∧ (0 ≤ r → L.lean 1048576)) ∧ Below w.heap.size w w' := by
  obtain ⟨va, vb, vu, rfl, ha, hb, hl, hz⟩ := h
  have b0 := belNew w (.cells #[va, vb, .int .i64 L.segs, vu, .int .i64 L.ng, .int .i64 L.ns, .int .i64 L.st, .int .i64 L.nv] 28)
  have q0 := Box.new w #[va, vb, .int .i64 L.segs, vu, .int .i64 L.ng, .int .i64 L.ns, .int .i64 L.st, .int .i64 L.nv] 28
  have HD := Lib.hid (szDisk_any L.d _ left _ (ha.later b0) h0 h1)
  have HB : Hid (∀ x, Below (w.alloc (.cells #[va, vb, .int .i64 L.segs, vu, .int .i64 L.ng, .int .i64 L.ns, .int .i64 L.st, .int .i64 L.nv] 28)).heap.size (w.alloc (.cells #[va, vb, .int .i64 L.segs, vu, .int .i64 L.ng, .int .i64 L.ns, .int .i64 L.st, .int .i64 L.nv] 28)) x → Below w.heap.size w x ∧ LGRd x vu L.used ∧ Box x w.heap.size #[va, vb, .int .i64 L.segs, vu, .int .i64 L.ng, .int .i64 L.ns, .int .i64 L.st, .int .i64 L.nv] 28) := by
    intro x h
    have h' : Below w.heap.size w x := b0.trans (h.mono b0.size)
    exact ⟨h', hb.later h', q0.later h⟩
  have HG := Lib.hid (fun x r p h0 h1 => szSegS_any L.used vu r x p h0 h1 hl hz)
  clear ha hb q0 b0 hz
  go_enter Tryz.func13, Tryz.ntmps13
  go_wp2_with fail
  refine HD.out.mono ?_
  rintro e w1 ⟨r, rfl, k1, hr1, hr2, hr3⟩
  obtain ⟨b1, g1, x1⟩ := HB.out w1 k1
  have HR := Lib.hid hr3
  clear hr3
  by_cases hn : r < 0
  · clear x1
    go_wp2
    go_ret
    exact ⟨⟨-1, rfl, by omega, fun h => absurd h (by omega)⟩, b1⟩
  · obtain ⟨c0, c1, c2, c3, c4, c5, c6, c7, _⟩ := x1.eightL
    clear x1
    go_wp2_with fail
    clear c0 c1 c2 c3 c4 c5 c6 c7
    refine (HG.out _ r g1 (by omega) (by omega)).mono ?_
    rintro e w2 ⟨⟨q, rfl, hq, hq2, hq3⟩, k2⟩
    obtain ⟨b2, _, _⟩ := HB.out w2 (k1.trans (k2.mono k1.size))
    have HQ := Lib.hid hq
    clear hq
    by_cases hn2 : q < 0
    · go_wp2
      go_ret
      exact ⟨⟨-1, rfl, by omega, fun h => absurd h (by omega)⟩, b2⟩
    · have HE : Hid (L.lean 1048576) := by
        have h3 := HR.out (by omega)
        rcases HQ.out with h4 | ⟨h4, h5⟩
        · exact absurd h4 hn2
        · obtain ⟨d1, d2, d3, d4⟩ := h3
          exact ⟨⟨by omega, by omega, fun s hs => by have := d3 s hs; omega, fun s hs => by have := d4 s hs; omega⟩, by omega, fun b hb => (h5 b hb).mono (by omega)⟩
      have hqr : q ≤ left := by omega
      go_wp2
      go_ret
      exact ⟨⟨q, rfl, hqr, fun _ => HE.out⟩, b2⟩

set_option maxRecDepth 100000 in
set_option maxHeartbeats 1000000 in
theorem szStore_any (S : So) (v : Value) (left : Int) (w : World) (h : SoIn w v S) (h0 : 0 ≤ left) (h1 : left ≤ 1048576) :
    Calls Tryz.prog 4 #[v, .int .i64 left] w fun e w' => (∃ r : Int, e = .returned (.int .i64 r) ∧ r ≤ left ∧ (0 ≤ r → S.lean)) ∧ Below w.heap.size w w' := by
  obtain ⟨va, vb, vu, vf, rfl, ha, hb⟩ := h
  have b0 := belNew w (.cells #[va, vb, .int .i64 S.g.segs, vu, .int .i64 S.g.ng, .int .i64 S.g.ns, .int .i64 S.g.st, .int .i64 S.g.nv, vf] 31)
  have q0 := Box.new w #[va, vb, .int .i64 S.g.segs, vu, .int .i64 S.g.ng, .int .i64 S.g.ns, .int .i64 S.g.st, .int .i64 S.g.nv, vf] 31
  have HD := Lib.hid (szLog_to S.g _ left _ (ha.later b0) h0 h1)
  have HB : Hid (∀ x, Below (w.alloc (.cells #[va, vb, .int .i64 S.g.segs, vu, .int .i64 S.g.ng, .int .i64 S.g.ns, .int .i64 S.g.st, .int .i64 S.g.nv, vf] 31)).heap.size (w.alloc (.cells #[va, vb, .int .i64 S.g.segs, vu, .int .i64 S.g.ng, .int .i64 S.g.ns, .int .i64 S.g.st, .int .i64 S.g.nv, vf] 31)) x → Below w.heap.size w x ∧ IsIn x vf S.fr ∧ Box x w.heap.size #[va, vb, .int .i64 S.g.segs, vu, .int .i64 S.g.ng, .int .i64 S.g.ns, .int .i64 S.g.st, .int .i64 S.g.nv, vf] 31) := by
    intro x h
    have h' : Below w.heap.size w x := b0.trans (h.mono b0.size)
    exact ⟨h', ⟨hb.1.later h', hb.2⟩, q0.later h⟩
  have HG := Lib.hid (fun x r p g0 g1 => szIntS_any S.fr vf r x p g0 g1)
  clear ha hb q0 b0
  go_enter Tryz.func4, Tryz.ntmps4
  go_wp2_with fail
  refine HD.out.mono ?_
  rintro e w1 ⟨⟨r, rfl, hr1, hr2⟩, k1⟩
  obtain ⟨b1, g1, x1⟩ := HB.out w1 k1
  have HR := Lib.hid hr2
  clear hr2
  by_cases hn : r < 0
  · clear x1
    go_wp2
    go_ret
    exact ⟨⟨-1, rfl, by omega, fun h => absurd h (by omega)⟩, b1⟩
  · have c8 := x1.cell 8 _ rfl
    clear x1
    go_wp2_with fail
    clear c8
    refine (HG.out _ r g1 (by omega) (by omega)).mono ?_
    rintro e w2 ⟨⟨q, rfl, hq, hq2⟩, rfl⟩
    have HQ := Lib.hid hq2
    clear hq2
    by_cases hn2 : q < 0
    · go_wp2
      go_ret
      exact ⟨⟨-1, rfl, by omega, fun h => absurd h (by omega)⟩, b1⟩
    · have HE : Hid S.lean := by
        have h3 := HR.out (by omega)
        have h4 := HQ.out (by omega)
        exact ⟨h3, by omega⟩
      go_wp2
      go_ret
      exact ⟨⟨q, rfl, by omega, fun _ => HE.out⟩, b1⟩

set_option maxRecDepth 100000 in
set_option maxHeartbeats 2000000 in
theorem markStore_any (S : So) (v : Value) (k B T : Nat) (w : World) (h : SoO B T w v S) (hk : 1 ≤ k) (hk2 : S.kS k ≤ 1099511627776) (hl : S.g.used.length ≤ 1099511627776) :
    Calls Tryz.prog 10 #[v, .int .i64 (k : Int)] w fun e w' => e = .returned (.int .i64 (S.kS k : Int)) ∧ SoO B T w' v (marksSo k S) ∧ Kept B T w w' := by
  obtain ⟨va, vb, vu, vf, hs, B1, T1, B2, T2, rfl, hn, P, Q⟩ := h
  have hk3 : S.g.kL k ≤ 1099511627776 := by unfold So.kS at hk2; omega
  have b0 := belNew w (.cells #[va, vb, .int .i64 S.g.segs, vu, .int .i64 S.g.ng, .int .i64 S.g.ns, .int .i64 S.g.st, .int .i64 S.g.nv, vf] 44)
  have q0 := Box.new w #[va, vb, .int .i64 S.g.segs, vu, .int .i64 S.g.ng, .int .i64 S.g.ns, .int .i64 S.g.st, .int .i64 S.g.nv, vf] 44
  have k0 := Kept.of_below b0 B T
  have hcl : w.heap.size < (w.alloc (.cells #[va, vb, .int .i64 S.g.segs, vu, .int .i64 S.g.ng, .int .i64 S.g.ns, .int .i64 S.g.st, .int .i64 S.g.nv, vf] 44)).heap.size := by simp
  have HML := Lib.hid (markLog_any S.g _ k B1 T1 _ ⟨va, vb, vu, hs, rfl, P.later b0⟩ hk hk3 hl)
  have HQ := Lib.hid (Q.later b0)
  have HK0 := Lib.hid k0
  obtain ⟨K1, hK1⟩ : ∃ K1, S.g.kL k = K1 := ⟨_, rfl⟩
  have HK1 := Lib.hid hK1
  rw [hK1] at HML
  have hK2 : S.kS k = K1 + S.fr.length := by unfold So.kS; rw [hK1]
  have HMI := Lib.hid (fun x (hx : RBuf intE B2 x x vf S.fr) => markIntS_put S.fr vf K1 B2 x x hx (by omega))
  rw [hK2]
  have HN := Lib.hid hn
  have hcl' := Lib.hid hcl
  clear P Q b0 k0 hK1 hK2 hk2 hk3 hcl hn
  obtain ⟨n, hln⟩ : ∃ n, S.fr.length = n := ⟨_, rfl⟩
  have HLN := Lib.hid hln
  rw [hln] at HMI ⊢
  clear hln
  go_enter Tryz.func10, Tryz.ntmps10
  go_wp2_with fail
  generalize w.alloc (.cells #[va, vb, .int .i64 S.g.segs, vu, .int .i64 S.g.ng, .int .i64 S.g.ns, .int .i64 S.g.st, .int .i64 S.g.nv, vf] 44) = W at HML HQ HK0 q0 hcl' ⊢
  refine HML.out.mono ?_
  rintro e w1 ⟨rfl, p1, k1⟩
  have q1 : Box w1 w.heap.size #[va, vb, .int .i64 S.g.segs, vu, .int .i64 S.g.ng, .int .i64 S.g.ns, .int .i64 S.g.st, .int .i64 S.g.nv, vf] 44 := q0.keptG k1 (by have := HN.out; omega)
  have Q1 := HQ.out.kept k1 (by have := HN.out; omega)
  have c8 := q1.cell 8 _ rfl
  have HP1 := Lib.hid p1
  have HKK1 := Lib.hid k1
  clear p1 k1 q0 q1 HML
  go_wp2_with fail
  clear c8
  refine (HMI.out _ Q1.1).mono ?_
  rintro e w2 ⟨rfl, r2, g2⟩
  have k2 : Kept B2 T2 w1 w2 := Kept.of_grown g2 (fun j hj => ⟨(Q1.1.own.lt j hj).1, Q1.2.2 j hj⟩)
  have HE : Hid (SoO B T w2 (.agg #[va, vb, .int .i64 S.g.segs, vu, .int .i64 S.g.ng, .int .i64 S.g.ns, .int .i64 S.g.st, .int .i64 S.g.nv, vf]) (marksSo k S)) := by
    have h1 := HP1.out.kept k2 (by have := HN.out; omega)
    have h2 : LOwn intE B2 T2 w2 vf (marksN (S.g.kL k) S.fr.length) := by
      rw [HK1.out, HLN.out]
      exact ⟨r2.here, Nat.le_trans Q1.2.1 k2.size, Q1.2.2⟩
    exact SoO.mk2 (S := marksSo k S) h1 h2 (by have := HN.out; have := HK0.out.size; have := HKK1.out.size; have := k2.size; omega)
  have HKE : Hid (Kept B T w w2) := HK0.out.trans ((HKK1.out.wideS (by have := HN.out; omega) (by have := HN.out; omega)).trans (k2.wideS (by have := HN.out; omega) (by have := HN.out; omega)))
  clear r2 g2 k2 Q1
  go_wp2
  go_ret
  exact ⟨rfl, HE.out, HKE.out⟩


set_option maxRecDepth 100000 in
set_option maxHeartbeats 4000000 in
theorem toStore_any (S : So) (v : Value) (w : World) (h : SoIn w v S) (hL : S.lean) :
    Calls Tryz.prog 6 #[v] w fun e w' => ∃ v', e = .returned v' ∧ SoO w.heap.size w'.heap.size w' v' S ∧ Below w.heap.size w w' := by
  obtain ⟨va, vb, vu, vf, rfl, ha, hb⟩ := h
  have bA := belNew w (.cells #[va, vb, .int .i64 S.g.segs, vu, .int .i64 S.g.ng, .int .i64 S.g.ns, .int .i64 S.g.st, .int .i64 S.g.nv, vf] 31)
  have qA := Box.new w #[va, vb, .int .i64 S.g.segs, vu, .int .i64 S.g.ng, .int .i64 S.g.ns, .int .i64 S.g.st, .int .i64 S.g.nv, vf] 31
  obtain ⟨wA, hwA⟩ : ∃ wA, wA = w.alloc (.cells #[va, vb, .int .i64 S.g.segs, vu, .int .i64 S.g.ng, .int .i64 S.g.ns, .int .i64 S.g.st, .int .i64 S.g.nv, vf] 31) := ⟨_, rfl⟩
  have eA : wA.heap.size = w.heap.size + 1 := by rw [hwA]; simp
  rw [← hwA] at bA qA
  have hB := Box.new wA #[.slice none 0 0, .slice none 0 0, .int .i64 0, .slice none 0 0, .int .i64 0, .int .i64 0, .int .i64 0, .int .i64 0, .slice none 0 0] 44
  have kB := belNew wA (.cells #[.slice none 0 0, .slice none 0 0, .int .i64 0, .slice none 0 0, .int .i64 0, .int .i64 0, .int .i64 0, .int .i64 0, .slice none 0 0] 44)
  have bB := bA.trans (kB.mono bA.size)
  obtain ⟨wB, hwB⟩ : ∃ wB, wB = wA.alloc (.cells #[.slice none 0 0, .slice none 0 0, .int .i64 0, .slice none 0 0, .int .i64 0, .int .i64 0, .int .i64 0, .int .i64 0, .slice none 0 0] 44) := ⟨_, rfl⟩
  have eB : wB.heap.size = w.heap.size + 1 + 1 := by rw [hwB]; simp; omega
  rw [← hwB] at hB kB bB
  rw [eA] at hB
  have hC := Box.new wB #[.slice none 0 0, .slice none 0 0, .int .i64 0, .slice none 0 0, .int .i64 0, .int .i64 0, .int .i64 0, .int .i64 0, .slice none 0 0] 44
  have kC := belNew wB (.cells #[.slice none 0 0, .slice none 0 0, .int .i64 0, .slice none 0 0, .int .i64 0, .int .i64 0, .int .i64 0, .int .i64 0, .slice none 0 0] 44)
  have bC := bB.trans (kC.mono bB.size)
  obtain ⟨wC, hwC⟩ : ∃ wC, wC = wB.alloc (.cells #[.slice none 0 0, .slice none 0 0, .int .i64 0, .slice none 0 0, .int .i64 0, .int .i64 0, .int .i64 0, .int .i64 0, .slice none 0 0] 44) := ⟨_, rfl⟩
  have eC : wC.heap.size = w.heap.size + 1 + 1 + 1 := by rw [hwC]; simp; omega
  rw [← hwC] at hC kC bC
  rw [eB] at hC
  have x1 := hB.later kC
  have x0 := (qA.later kB).later kC
  have HT := Lib.hid (toLog_any S.g _ wC (ha.later bC) hL.1)
  have HU := Lib.hid (fun x p => toIntS_any S.fr vf x p hL.2)
  have HEC := Lib.hid eC
  have HWC : Hid (wC = ((w.alloc (.cells #[va, vb, .int .i64 S.g.segs, vu, .int .i64 S.g.ng, .int .i64 S.g.ns, .int .i64 S.g.st, .int .i64 S.g.nv, vf] 31)).alloc (.cells #[.slice none 0 0, .slice none 0 0, .int .i64 0, .slice none 0 0, .int .i64 0, .int .i64 0, .int .i64 0, .int .i64 0, .slice none 0 0] 44)).alloc (.cells #[.slice none 0 0, .slice none 0 0, .int .i64 0, .slice none 0 0, .int .i64 0, .int .i64 0, .int .i64 0, .int .i64 0, .slice none 0 0] 44)) := by rw [← hwA, ← hwB, ← hwC]; exact rfl
  have HLB : Hid (∀ x, Below w.heap.size w x → Rows' intE x vf S.fr) := fun x hx => hb.1.later hx
  clear ha hb qA hB kB bB bA kC eA eB eC hwA hwB hwC
  go_enter Tryz.func6, Tryz.ntmps6
  go_wp2_with fail
  rw [← HWC.out]
  clear HWC
  refine HT.out.mono ?_
  rintro e w4 ⟨v1, rfl, o1, k4⟩
  obtain ⟨a1, a2, a3, p1, p2, p3, rfl⟩ := o1.form
  replace x0 := x0.later k4
  replace x1 := x1.later k4
  have x2 := hC.later k4
  have b4 := bC.trans (k4.mono bC.size)
  have c8 := x0.cell 8 _ rfl
  obtain ⟨⟨d0, d1, d2, d3, d4, d5, d6, d7, d8⟩, f0, f1, f2, f3, f4, f5, f6, f7, f8⟩ := x2.nineL
  have y0 := x0.others8 (g := w.heap.size + 1 + 1) (by omega) (.slice a1 S.g.d.sec.length p1) (.slice a2 S.g.d.cache.length p2) (.int .i64 S.g.segs) (.slice a3 S.g.used.length p3) (.int .i64 S.g.ng) (.int .i64 S.g.ns) (.int .i64 S.g.st) (.int .i64 S.g.nv)
  have y1 := x1.others8 (g := w.heap.size + 1 + 1) (by omega) (.slice a1 S.g.d.sec.length p1) (.slice a2 S.g.d.cache.length p2) (.int .i64 S.g.segs) (.slice a3 S.g.used.length p3) (.int .i64 S.g.ng) (.int .i64 S.g.ns) (.int .i64 S.g.st) (.int .i64 S.g.nv)
  have y2 := x2.set8S (.slice a1 S.g.d.sec.length p1) (.slice a2 S.g.d.cache.length p2) (.int .i64 S.g.segs) (.slice a3 S.g.used.length p3) (.int .i64 S.g.ng) (.int .i64 S.g.ns) (.int .i64 S.g.st) (.int .i64 S.g.nv)
  have b5 := below_set8L b4 (b := w.heap.size + 1 + 1) (by omega) (.slice a1 S.g.d.sec.length p1) (.slice a2 S.g.d.cache.length p2) (.int .i64 S.g.segs) (.slice a3 S.g.used.length p3) (.int .i64 S.g.ng) (.int .i64 S.g.ns) (.int .i64 S.g.st) (.int .i64 S.g.nv)
  have g5 := grown_set8L w4 (w.heap.size + 1 + 1) (.slice a1 S.g.d.sec.length p1) (.slice a2 S.g.d.cache.length p2) (.int .i64 S.g.segs) (.slice a3 S.g.used.length p3) (.int .i64 S.g.ng) (.int .i64 S.g.ns) (.int .i64 S.g.st) (.int .i64 S.g.nv)
  have s5 := size_set8L w4 (w.heap.size + 1 + 1) (.slice a1 S.g.d.sec.length p1) (.slice a2 S.g.d.cache.length p2) (.int .i64 S.g.segs) (.slice a3 S.g.used.length p3) (.int .i64 S.g.ng) (.int .i64 S.g.ns) (.int .i64 S.g.st) (.int .i64 S.g.nv)
  have HO1 := Lib.hid o1
  have HK4 := Lib.hid k4
  have HB5 := Lib.hid b5
  have HG5 := Lib.hid g5
  have HS5 := Lib.hid s5
  clear x0 x1 x2 b4 hC o1 k4 bC HT b5 g5 s5
  have c8y := y0.cell 8 _ rfl
  have d8y := y2.cell 8 _ rfl
  have f8y := y2.loose 8
  unfold set8L at y0 y1 y2 HB5 HG5 HS5 c8y d8y f8y
  go_wp2_with fail
  clear d0 d1 d2 d3 d4 d5 d6 d7 d8 f0 f1 f2 f3 f4 f5 f6 f7 f8 c8 c8y d8y f8y
  generalize (((((((w4.setCell ⟨w.heap.size + 1 + 1, 0, none⟩ (.slice a1 S.g.d.sec.length p1)).setCell ⟨w.heap.size + 1 + 1, 1, none⟩ (.slice a2 S.g.d.cache.length p2)).setCell ⟨w.heap.size + 1 + 1, 2, none⟩ (.int .i64 S.g.segs)).setCell ⟨w.heap.size + 1 + 1, 3, none⟩ (.slice a3 S.g.used.length p3)).setCell ⟨w.heap.size + 1 + 1, 4, none⟩ (.int .i64 S.g.ng)).setCell ⟨w.heap.size + 1 + 1, 5, none⟩ (.int .i64 S.g.ns)).setCell ⟨w.heap.size + 1 + 1, 6, none⟩ (.int .i64 S.g.st)).setCell ⟨w.heap.size + 1 + 1, 7, none⟩ (.int .i64 S.g.nv) = w5 at y0 y1 y2 HB5 HG5 HS5 ⊢
  refine (HU.out _ (HLB.out _ HB5.out)).mono ?_
  rintro e w6 ⟨v2, rfl, R⟩
  obtain ⟨a4, p4, rfl⟩ := R.form
  have k6 := R.bel
  have HP : Hid (SoO w.heap.size w6.heap.size w6 (.agg #[.slice a1 S.g.d.sec.length p1, .slice a2 S.g.d.cache.length p2, .int .i64 S.g.segs, .slice a3 S.g.used.length p3, .int .i64 S.g.ng, .int .i64 S.g.ns, .int .i64 S.g.st, .int .i64 S.g.nv, .slice a4 S.fr.length p4]) S ∧ LgO wC.heap.size w4.heap.size w6 (.agg #[.slice a1 S.g.d.sec.length p1, .slice a2 S.g.d.cache.length p2, .int .i64 S.g.segs, .slice a3 S.g.used.length p3, .int .i64 S.g.ng, .int .i64 S.g.ns, .int .i64 S.g.st, .int .i64 S.g.nv]) S.g ∧ LOwn intE w5.heap.size w6.heap.size w6 (.slice a4 S.fr.length p4) S.fr) := by
    have o5 : LgO wC.heap.size w4.heap.size w5 (.agg #[.slice a1 S.g.d.sec.length p1, .slice a2 S.g.d.cache.length p2, .int .i64 S.g.segs, .slice a3 S.g.used.length p3, .int .i64 S.g.ng, .int .i64 S.g.ns, .int .i64 S.g.st, .int .i64 S.g.nv]) S.g := by
      refine HO1.out.kept (B' := w.heap.size + 1 + 1) (T' := w.heap.size + 1 + 1 + 1) (Kept.of_grown HG5.out (fun k hk => by have := Option.some.inj hk; omega)) (.inr ?_)
      have := HEC.out
      omega
    have q1 := o5.later k6
    have q2 := R.lown
    exact ⟨SoO.mk2 q1 q2 (by have := HEC.out; have := HS5.out; have := k6.size; have := HK4.out.size; omega), q1, q2⟩
  have HW5 : Hid (wC.heap.size ≤ w5.heap.size) := by show _ ≤ _; have := HS5.out; have := HK4.out.size; omega
  have HT4 : Hid (w4.heap.size ≤ w5.heap.size ∧ w5.heap.size ≤ w6.heap.size) := by have := HS5.out; have := k6.size; exact ⟨by omega, by omega⟩
  have b6 := HB5.out.trans (k6.mono HB5.out.size)
  replace y0 := y0.later k6
  replace y1 := y1.later k6
  replace y2 := y2.later k6
  have HB6 := Lib.hid b6
  have z2 := y2.set 8 (.slice a4 S.fr.length p4)
  obtain ⟨⟨d0, d1, d2, d3, d4, d5, d6, d7, d8⟩, f0, f1, f2, f3, f4, f5, f6, f7, f8⟩ := y2.nineL
  obtain ⟨⟨l0, l1, l2, l3, l4, l5, l6, l7, l8⟩, m0, m1, m2, m3, m4, m5, m6, m7, m8⟩ := y1.nineL
  have z1 := y1.other (g := w.heap.size + 1 + 1) (by omega) 8 (.slice a4 S.fr.length p4)
  have L5 := z1.set9S (.slice a1 S.g.d.sec.length p1) (.slice a2 S.g.d.cache.length p2) (.int .i64 S.g.segs) (.slice a3 S.g.used.length p3) (.int .i64 S.g.ng) (.int .i64 S.g.ns) (.int .i64 S.g.st) (.int .i64 S.g.nv) (.slice a4 S.fr.length p4)
  have G5 := stored_grown w6 (w.heap.size + 1 + 1) 8 (.slice a4 S.fr.length p4)
  have G6 := grown_set9S (w6.setCell ⟨w.heap.size + 1 + 1, 8, none⟩ (.slice a4 S.fr.length p4)) (w.heap.size + 1) (.slice a1 S.g.d.sec.length p1) (.slice a2 S.g.d.cache.length p2) (.int .i64 S.g.segs) (.slice a3 S.g.used.length p3) (.int .i64 S.g.ng) (.int .i64 S.g.ns) (.int .i64 S.g.st) (.int .i64 S.g.nv) (.slice a4 S.fr.length p4)
  have b7 := below_set9S (b6.setCell (p := ⟨w.heap.size + 1 + 1, 8, none⟩) (by simp; omega) (.slice a4 S.fr.length p4)) (b := w.heap.size + 1) (by omega) (.slice a1 S.g.d.sec.length p1) (.slice a2 S.g.d.cache.length p2) (.int .i64 S.g.segs) (.slice a3 S.g.used.length p3) (.int .i64 S.g.ng) (.int .i64 S.g.ns) (.int .i64 S.g.st) (.int .i64 S.g.nv) (.slice a4 S.fr.length p4)
  obtain ⟨⟨z0, z1, z2, z3, z4, z5, z6, z7, z8⟩, _⟩ := L5.nineL
  have HGG5 := Lib.hid G5
  have HGG6 := Lib.hid G6
  have HB7 := Lib.hid b7
  unfold set9S set8L at z0 z1 z2 z3 z4 z5 z6 z7 z8 HGG6 HB7
  clear L5 G5 G6 b7 R k6 b6 y0 y1 y2 HB5 HS5 HO1 HK4 HLB HU HG5
  go_wp2
  refine bodyPost_ret (v := .agg #[.slice a1 S.g.d.sec.length p1, .slice a2 S.g.d.cache.length p2, .int .i64 S.g.segs, .slice a3 S.g.used.length p3, .int .i64 S.g.ng, .int .i64 S.g.ns, .int .i64 S.g.st, .int .i64 S.g.nv, .slice a4 S.fr.length p4]) (by simp [results, Tryz.results6, go_sem, z0, z1, z2, z3, z4, z5, z6, z7, z8]) rfl ⟨_, rfl, ?_, HB7.out⟩
  have hz := Nat.le_trans HGG5.out.size HGG6.out.size
  obtain ⟨_, q1, q2⟩ := HP.out
  have kk : Kept (w.heap.size + 1) (w.heap.size + 1 + 1 + 1) w6 _ := (Kept.of_grown HGG5.out (fun k hk => by have := Option.some.inj hk; omega)).trans (Kept.of_grown HGG6.out (fun k hk => by have := Option.some.inj hk; omega))
  have hw5 : wC.heap.size ≤ w5.heap.size := HW5.out
  exact SoO.mk2 (q1.kept kk (by have := HEC.out; omega)) (q2.kept kk (by have := HEC.out; omega)) (by have := HEC.out; have := HT4.out; omega)

end Go.Proofs.YtgcnebepklelpaaGreat

/- How mails lie in memory. -/
namespace Go.Proofs.YtgcnebepklelpaaGreat
open Go.RowKit

def mlE : Enc Ml where
  ty := 110
  sty := 75
  sz := 3
  bytes := 32
  zero := .agg #[.int .i64 0, .int .i64 0, .string ⟨#[]⟩]
  f := fun x => [.int .i64 x.uid, .int .i64 x.flags, .string x.text]
  len := fun _ => rfl
  pos := by decide
  one := fun _ u hu => by simp at hu; rcases hu with rfl | rfl | rfl <;> rfl
  und := Tryz.underlying75
  info := by kernel_rfl
  zc := rfl
  z0 := ⟨0, 0, ⟨#[]⟩⟩
  zf := rfl

end Go.Proofs.YtgcnebepklelpaaGreat

/- How boxes lie in memory: a row of boxes, each with a row of mails of its own. -/
namespace Go.Proofs.YtgcnebepklelpaaGreat
open Go.RowKit

structure BxH where
  valid : Int
  user : ByteArray
  name : ByteArray
  next : Int
  a : Option Addr
  n : Nat
  c : Nat
def BxH.mv (h : BxH) : Value := .slice h.a h.n h.c

def hdE : Enc BxH where
  ty := 78
  sty := 33
  sz := 5
  bytes := 72
  zero := .agg #[.int .i64 0, .string ⟨#[]⟩, .string ⟨#[]⟩, .int .i64 0, .slice none 0 0]
  f := fun x => [.int .i64 x.valid, .string x.user, .string x.name, .int .i64 x.next, .slice x.a x.n x.c]
  len := fun _ => rfl
  pos := by decide
  one := fun _ u hu => by simp at hu; rcases hu with rfl | rfl | rfl | rfl | rfl <;> rfl
  und := Tryz.underlying33
  info := by kernel_rfl
  zc := rfl
  z0 := ⟨0, ⟨#[]⟩, ⟨#[]⟩, 0, none, 0, 0⟩
  zf := rfl

structure StO (B : Nat) (w : World) (v : Value) (bs : List Bx) (hs : List BxH) : Prop where
  row : RBuf hdE B w w v hs
  len : hs.length = bs.length
  at' : ∀ (j : Nat) (h : BxH) (b : Bx), hs[j]? = some h → bs[j]? = some b → (h.valid = b.valid ∧ h.user = b.user ∧ h.name = b.name ∧ h.next = b.next) ∧ RBuf mlE B w w h.mv b.mails
  far : ∀ (j : Nat) (h : BxH), hs[j]? = some h → ∀ k, h.mv.ownBlock = some k → v.ownBlock ≠ some k
  apart : ∀ (i j : Nat) (h h' : BxH), hs[i]? = some h → hs[j]? = some h' → i ≠ j → ∀ k, h.mv.ownBlock = some k → h'.mv.ownBlock ≠ some k

theorem RBuf.here' {α : Type} {E : Enc α} {B : Nat} {w0 w w' : World} {v : Value} {l : List α} (h : RBuf E B w0 w v l) (hb : Below w.heap.size w w') : RBuf E B w' w' v l := (h.later hb).here
theorem StO.later {B : Nat} {w w' : World} {v : Value} {bs : List Bx} {hs : List BxH} (h : StO B w v bs hs) (hb : Below w.heap.size w w') : StO B w' v bs hs :=
  ⟨h.row.here' hb, h.len, fun j x b h1 h2 => ⟨(h.at' j x b h1 h2).1, (h.at' j x b h1 h2).2.here' hb⟩, h.far, h.apart⟩
theorem StO.nil (w : World) : StO w.heap.size w (.slice none 0 0) [] [] :=
  ⟨RBuf.nil hdE w, rfl, fun j h b h1 => by simp at h1, fun j h h1 => by simp at h1, fun i j h h' h1 => by simp at h1⟩
theorem StO.lt {B : Nat} {w : World} {v : Value} {bs : List Bx} {hs : List BxH} (h : StO B w v bs hs) {j : Nat} {x : BxH} (hj : hs[j]? = some x) {k : Nat} (hk : x.mv.ownBlock = some k) : k < w.heap.size := by
  have hl : j < hs.length := (List.getElem?_eq_some_iff.1 hj).1
  have hb : bs[j]? = some (bs[j]'(by rw [← h.len]; exact hl)) := List.getElem?_eq_getElem _
  exact ((h.at' j x _ hj hb).2.own.lt k hk).2

theorem StO.push {B : Nat} {w w' : World} {v v' : Value} {bs : List Bx} {hs : List BxH} (h : StO B w v bs hs) (b : Bx) (x : BxH)
    (hx : x.valid = b.valid ∧ x.user = b.user ∧ x.name = b.name ∧ x.next = b.next) (hm : RBuf mlE B w w x.mv b.mails)
    (hv : ∀ k, x.mv.ownBlock = some k → v.ownBlock ≠ some k) (ho : ∀ (j : Nat) (y : BxH), hs[j]? = some y → ∀ k, y.mv.ownBlock = some k → x.mv.ownBlock ≠ some k)
    (hr : RBuf hdE B w' w' v' (hs ++ [x])) (hg : w.grownBy w' v.ownBlock) (ha : v'.ownBlock = v.ownBlock ∨ v'.ownBlock = some w.heap.size) : StO B w' v' (bs ++ [b]) (hs ++ [x]) := by
  have kept : ∀ (m : Value) (l : List Ml), RBuf mlE B w w m l → (∀ k, m.ownBlock = some k → v.ownBlock ≠ some k) → RBuf mlE B w' w' m l := fun m l hm hf => by
    refine hm.shift hg ?_
    cases hmb : m.ownBlock with
    | none => exact .inl rfl
    | some k => exact .inr (fun e => hf k hmb e.symm)
  have old : ∀ {j : Nat} {y : BxH}, (hs ++ [x])[j]? = some y → (hs[j]? = some y ∧ j < hs.length) ∨ (j = hs.length ∧ y = x) := fun {j y} hj => by
    by_cases c : j < hs.length
    · rw [List.getElem?_append_left c] at hj
      exact .inl ⟨hj, c⟩
    · rw [List.getElem?_append_right (by omega)] at hj
      have hj0 : j - hs.length = 0 := by
        have := (List.getElem?_eq_some_iff.1 hj).1
        simp at this; omega
      rw [hj0] at hj
      simp at hj
      exact .inr ⟨by omega, hj.symm⟩
  have hvlt : ∀ {k : Nat}, x.mv.ownBlock = some k → k < w.heap.size := fun {k} hk => (hm.own.lt k hk).2
  refine ⟨hr, by simp [h.len], fun j y c h1 h2 => ?_, fun j y h1 k hk => ?_, fun i j y z h1 h2 hij k hk => ?_⟩
  · rcases old h1 with ⟨h3, hl⟩ | ⟨rfl, rfl⟩
    · rw [List.getElem?_append_left (by rw [← h.len]; exact hl)] at h2
      exact ⟨(h.at' j y c h3 h2).1, kept _ _ (h.at' j y c h3 h2).2 (h.far j y h3)⟩
    · rw [List.getElem?_append_right (by rw [h.len]; omega), h.len] at h2
      simp at h2
      subst h2
      exact ⟨hx, kept _ _ hm hv⟩
  · rcases old h1 with ⟨h3, _⟩ | ⟨_, rfl⟩
    · rcases ha with e | e
      · rw [e]; exact h.far j y h3 k hk
      · rw [e]; intro e2; have := h.lt h3 hk; have := Option.some.inj e2; omega
    · rcases ha with e | e
      · rw [e]; exact hv k hk
      · rw [e]; intro e2; have := hvlt hk; have := Option.some.inj e2; omega
  · rcases old h1 with ⟨h3, hl3⟩ | ⟨ei, rfl⟩
    · rcases old h2 with ⟨h4, _⟩ | ⟨_, rfl⟩
      · exact h.apart i j y z h3 h4 hij k hk
      · exact ho i y h3 k hk
    · rcases old h2 with ⟨h4, _⟩ | ⟨ej, _⟩
      · intro e; exact ho j z h4 k e hk
      · omega

end Go.Proofs.YtgcnebepklelpaaGreat

/- Boxes in memory of their own: what leaves them as they are. -/
namespace Go.Proofs.YtgcnebepklelpaaGreat
open Go.RowKit

theorem StO.shift {B : Nat} {w w' : World} {v : Value} {bs : List Bx} {hs : List BxH} {r : Option Nat} (h : StO B w v bs hs) (hg : w.grownBy w' r) (h1 : ∀ k, r = some k → v.ownBlock ≠ some k ∧ ∀ (j : Nat) (x : BxH), hs[j]? = some x → x.mv.ownBlock ≠ some k) : StO B w' v bs hs := by
  have sh : ∀ {α : Type} {E : Enc α} {m : Value} {l : List α}, RBuf E B w w m l → (∀ k, r = some k → m.ownBlock ≠ some k) → RBuf E B w' w' m l := fun {α E m l} hm hf => by
    refine hm.shift hg ?_
    cases hb : m.ownBlock with
    | none => exact .inl rfl
    | some k => exact .inr (fun e => hf k e.symm hb)
  exact ⟨sh h.row (fun k hk => (h1 k hk).1), h.len, fun j x b e1 e2 => ⟨(h.at' j x b e1 e2).1, sh (h.at' j x b e1 e2).2 (fun k hk => (h1 k hk).2 j x e1)⟩, h.far, h.apart⟩
theorem StO.where' {B : Nat} {w : World} {v : Value} {bs : List Bx} {hs : List BxH} (h : StO B w v bs hs) : (∀ k, v.ownBlock = some k → B ≤ k ∧ k < w.heap.size) ∧ ∀ (j : Nat) (x : BxH), hs[j]? = some x → ∀ k, x.mv.ownBlock = some k → B ≤ k ∧ k < w.heap.size := by
  refine ⟨fun k hk => h.row.own.lt k hk, fun j x hj k hk => ?_⟩
  have hl : j < hs.length := (List.getElem?_eq_some_iff.1 hj).1
  have hb : bs[j]? = some (bs[j]'(by rw [← h.len]; exact hl)) := List.getElem?_eq_getElem _
  exact (h.at' j x _ hj hb).2.own.lt k hk
theorem StO.under {B C : Nat} {w w' : World} {v : Value} {bs : List Bx} {hs : List BxH} (h : StO B w v bs hs) (hb : Below C w w') (h1 : ∀ k, v.ownBlock = some k → k < C) (h2 : ∀ (j : Nat) (x : BxH), hs[j]? = some x → ∀ k, x.mv.ownBlock = some k → k < C) : StO B w' v bs hs := by
  have sh : ∀ {α : Type} {E : Enc α} {m : Value} {l : List α}, RBuf E B w w m l → (∀ k, m.ownBlock = some k → k < C) → RBuf E B w' w' m l := fun {α E m l} hm hf => by
    refine ⟨⟨hm.own.1, ?_⟩, Below.refl _ _, Nat.le_trans hm.le hb.size⟩
    rcases hm.own.2 with e | ⟨g, cap, cur, rfl, hg, hh, hrest⟩
    · exact .inl e
    · exact .inr ⟨g, cap, cur, rfl, hg, (hb.block g (hf g rfl)).trans hh, hrest⟩
  exact ⟨sh h.row h1, h.len, fun j x b e1 e2 => ⟨(h.at' j x b e1 e2).1, sh (h.at' j x b e1 e2).2 (h2 j x e1)⟩, h.far, h.apart⟩
theorem StO.lower {B B0 : Nat} {w : World} {v : Value} {bs : List Bx} {hs : List BxH} (h : StO B w v bs hs) (hB : B0 ≤ B) : StO B0 w v bs hs :=
  ⟨h.row.lower hB, h.len, fun j x b h1 h2 => ⟨(h.at' j x b h1 h2).1, (h.at' j x b h1 h2).2.lower hB⟩, h.far, h.apart⟩

end Go.Proofs.YtgcnebepklelpaaGreat
