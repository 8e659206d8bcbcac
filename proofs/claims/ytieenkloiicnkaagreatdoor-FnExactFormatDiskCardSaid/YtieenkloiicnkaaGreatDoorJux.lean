/- Texts of our own, joined. -/
import Derived.Test.YtieenkloiicnkaaGreatDoorJd
/- The helpers of the exact laws over logs. -/
namespace Go.Proofs.YtieenkloiicnkaaGreatDoor
open Go.RowKit

set_option maxRecDepth 100000 in
set_option maxHeartbeats 1000000 in
theorem eqLog_same (L : Lg) (v1 v2 : Value) (w : World) (h1 : LRd w v1 L) (h2 : LRd w v2 L) (hs : L.d.small) (hl : L.used.length ≤ 1099511627776) (hm : ∀ b ∈ L.used, b.items.length ≤ 1099511627776) :
    Calls Tryz.prog 24 #[v1, v2] w fun e w' => e = .returned (.bool true) ∧ Below w.heap.size w w' := by
  obtain ⟨va, vb, vu, rfl, ha, hb⟩ := h1
  obtain ⟨vc, vd, vx, rfl, hc, hd⟩ := h2
  have b0 : Below w.heap.size w ((w.alloc (.cells #[va, vb, .int .i64 L.segs, vu, .int .i64 L.ng, .int .i64 L.ns, .int .i64 L.st, .int .i64 L.nv] 55)).alloc (.cells #[vc, vd, .int .i64 L.segs, vx, .int .i64 L.ng, .int .i64 L.ns, .int .i64 L.st, .int .i64 L.nv] 55)) := ((Below.refl _ _).alloc (Nat.le_refl _) _).alloc (by simp) _
  have q0 := Box.new w #[va, vb, .int .i64 L.segs, vu, .int .i64 L.ng, .int .i64 L.ns, .int .i64 L.st, .int .i64 L.nv] 55
  have q1 := Box.new (w.alloc (.cells #[va, vb, .int .i64 L.segs, vu, .int .i64 L.ng, .int .i64 L.ns, .int .i64 L.st, .int .i64 L.nv] 55)) #[vc, vd, .int .i64 L.segs, vx, .int .i64 L.ng, .int .i64 L.ns, .int .i64 L.st, .int .i64 L.nv] 55
  rw [show (w.alloc (.cells #[va, vb, .int .i64 L.segs, vu, .int .i64 L.ng, .int .i64 L.ns, .int .i64 L.st, .int .i64 L.nv] 55)).heap.size = w.heap.size + 1 by simp] at q1
  replace q0 := q0.later (belNew _ (.cells #[vc, vd, .int .i64 L.segs, vx, .int .i64 L.ng, .int .i64 L.ns, .int .i64 L.st, .int .i64 L.nv] 55))
  have HB : Hid (∀ x, Below ((w.alloc (.cells #[va, vb, .int .i64 L.segs, vu, .int .i64 L.ng, .int .i64 L.ns, .int .i64 L.st, .int .i64 L.nv] 55)).alloc (.cells #[vc, vd, .int .i64 L.segs, vx, .int .i64 L.ng, .int .i64 L.ns, .int .i64 L.st, .int .i64 L.nv] 55)).heap.size ((w.alloc (.cells #[va, vb, .int .i64 L.segs, vu, .int .i64 L.ng, .int .i64 L.ns, .int .i64 L.st, .int .i64 L.nv] 55)).alloc (.cells #[vc, vd, .int .i64 L.segs, vx, .int .i64 L.ng, .int .i64 L.ns, .int .i64 L.st, .int .i64 L.nv] 55)) x →
      Below w.heap.size w x ∧ GRd x vu L.used ∧ GRd x vx L.used ∧ Box x w.heap.size #[va, vb, .int .i64 L.segs, vu, .int .i64 L.ng, .int .i64 L.ns, .int .i64 L.st, .int .i64 L.nv] 55 ∧ Box x (w.heap.size + 1) #[vc, vd, .int .i64 L.segs, vx, .int .i64 L.ng, .int .i64 L.ns, .int .i64 L.st, .int .i64 L.nv] 55) := by
    intro x h
    have h' : Below w.heap.size w x := b0.trans (h.mono b0.size)
    exact ⟨h', hb.later h', hd.later h', q0.later h, q1.later h⟩
  have HD := Lib.hid (eqDisk_same L.d _ _ _ (ha.later b0) (hc.later b0) hs)
  have HG := Lib.hid (fun x p q => eqSegS_same L.used vu vx x p q hl hm)
  clear hb hd ha hc q0 q1 b0 hm
  go_enter Tryz.func24, Tryz.ntmps24
  go_wp2_with fail
  refine HD.out.mono ?_
  rintro e w1 ⟨rfl, k1⟩
  obtain ⟨b1, r1, r2, x0, x1⟩ := HB.out w1 k1
  obtain ⟨c0, c1, c2, c3, c4, c5, c6, c7, _⟩ := x0.eightL
  obtain ⟨d0, d1, d2, d3, d4, d5, d6, d7, _⟩ := x1.eightL
  clear x0 x1
  go_wp2_with fail
  refine (HG.out _ r1 r2).mono ?_
  rintro e w2 ⟨rfl, k2⟩
  obtain ⟨b2, _, _, x0, x1⟩ := HB.out w2 (k1.trans (k2.mono k1.size))
  clear c0 c1 c2 c3 c4 c5 c6 c7 d0 d1 d2 d3 d4 d5 d6 d7 r1 r2
  obtain ⟨c0, c1, c2, c3, c4, c5, c6, c7, _⟩ := x0.eightL
  obtain ⟨d0, d1, d2, d3, d4, d5, d6, d7, _⟩ := x1.eightL
  clear x0 x1
  go_wp2
  go_ret
  exact ⟨rfl, b2⟩


set_option maxRecDepth 100000 in
set_option maxHeartbeats 1000000 in
theorem markDisk_fine (d : Dk) (va vb : Value) (k B T : Nat) (w : World) (h1 : LOwn strE B T w va d.sec) (h2 : LOwn wrE B T w vb d.cache) (h3 : va.ownBlock = none ∨ va.ownBlock ≠ vb.ownBlock) (hk : 1 ≤ k) (hk2 : k + d.count ≤ 1099511627776) :
    Calls Tryz.prog 12 #[.agg #[va, vb], .int .i64 (k : Int)] w fun e w' => e = .returned (.int .i64 ((k + d.count : Nat) : Int)) ∧ LOwn strE B T w' va (marksD k d).sec ∧ LOwn wrE B T w' vb (marksD k d).cache ∧ Kept B T w w' ∧ ∀ q, q < w.heap.size → va.ownBlock ≠ some q → vb.ownBlock ≠ some q → w'.heap[q]? = w.heap[q]? := by
  unfold Dk.count at hk2
  have b0 : Below w.heap.size w (w.alloc (.cells #[va, vb] 33)) := (Below.refl _ _).alloc (Nat.le_refl _) _
  have k0 := Kept.of_below b0 B T
  have h1' := h1.later b0
  have hin : ∀ j, va.ownBlock = some j → B ≤ j ∧ j < T := fun j hj => ⟨(h1.1.own.lt j hj).1, h1.2.2 j hj⟩
  have hin2 : ∀ j, vb.ownBlock = some j → B ≤ j ∧ j < T := fun j hj => ⟨(h2.1.own.lt j hj).1, h2.2.2 j hj⟩
  have hT : T ≤ w.heap.size := h1.2.1
  have HB : Hid (∀ w', (w.alloc (.cells #[va, vb] 33)).grownBy w' va.ownBlock → SBuf B (w.alloc (.cells #[va, vb] 33)) w' va (marksOf k d.sec.length) →
      w'.cell? ⟨w.heap.size, 1, none⟩ = some vb ∧ LOwn wrE B T w' vb d.cache ∧ Kept B T w w') := by
    intro w' hg hb
    refine ⟨?_, (h2.later b0).grown hg ?_, k0.trans (Kept.of_grown hg hin)⟩
    · have : (w.alloc (.cells #[va, vb] 33)).cell? ⟨w.heap.size, 1, none⟩ = some vb := by
        rw [cell_of_row _ _ _ #[va, vb] _ (0, 0) (heap_alloc_new w _)]; rfl
      exact hg.cell this (fun e => by have := hin w.heap.size e.symm; omega)
    · rcases h3 with h3 | h3
      · cases hvb : vb.ownBlock with
        | none => exact .inl rfl
        | some j => exact .inr (by rw [h3]; simp)
      · exact .inr (Ne.symm h3)
  clear h2 k0
  go_enter Tryz.func12, Tryz.ntmps12
  go_wp2_with fail
  refine (markStringS_row d.sec va k B _ _ h1'.1.toS hk (by omega)).mono ?_
  rintro e w1 ⟨rfl, hs1, hg1⟩
  obtain ⟨c1, r1, k1⟩ := HB.out w1 hg1 hs1
  go_wp2_with fail
  refine (markWriteS_any d.cache vb (k + d.sec.length) B _ _ r1.1 (by omega) (by omega)).mono ?_
  rintro e w2 ⟨rfl, hs2, hg2⟩
  go_wp2
  go_ret
  have k2 := Kept.of_grown hg2 hin2
  refine ⟨congrArg (fun z : Int => Ending.returned (.int .i64 z)) (show (k : Int) + (d.sec.length : Int) + 2 * (d.cache.length : Int) = ((k + d.count : Nat) : Int) by unfold Dk.count; omega), ?_, ?_, k1.trans k2, fun q hq hqa hqb => ?_⟩
  · have l1 : LOwn strE B T w1 va (marksOf k d.sec.length) := ⟨hs1.toR.here, Nat.le_trans hT k1.size, fun j hj => (hin j hj).2⟩
    exact l1.grown hg2 h3
  · exact ⟨hs2.here, Nat.le_trans hT (k1.trans k2).size, fun j hj => (hin2 j hj).2⟩
  · have e1 := hg1.block q (Nat.lt_of_lt_of_le hq b0.size) (fun e => hqa e.symm)
    have e2 := hg2.block q (Nat.lt_of_lt_of_le hq (Nat.le_trans b0.size hg1.size)) (fun e => hqb e.symm)
    exact e2.trans (e1.trans (b0.block q hq))

set_option maxRecDepth 100000 in
set_option maxHeartbeats 2000000 in
theorem markLog_any (L : Lg) (v : Value) (k B T : Nat) (w : World) (h : LgO B T w v L) (hk : 1 ≤ k) (hk2 : L.kL k ≤ 1099511627776) (hl : L.used.length ≤ 1099511627776) :
    Calls Tryz.prog 25 #[v, .int .i64 (k : Int)] w fun e w' => e = .returned (.int .i64 (L.kL k : Int)) ∧ LgO B T w' v (marksLg k L) ∧ Kept B T w w' := by
  obtain ⟨va, vb, vu, hs, rfl, P⟩ := h
  have hT : T ≤ w.heap.size := P.use.le
  have hk3 : k + L.d.count ≤ 1099511627776 := Nat.le_trans (kF_le _ _) hk2
  have b0 := belNew w (.cells #[va, vb, .int .i64 L.segs, vu, .int .i64 L.ng, .int .i64 L.ns, .int .i64 L.st, .int .i64 L.nv] 55)
  have q0 := Box.new w #[va, vb, .int .i64 L.segs, vu, .int .i64 L.ng, .int .i64 L.ns, .int .i64 L.st, .int .i64 L.nv] 55
  have P1 := P.later b0
  have k0 := Kept.of_below b0 B T
  clear P
  have HMD := Lib.hid (markDisk_fine L.d va vb k B T _ P1.sec P1.cac P1.two hk hk3)
  have HP := Lib.hid P1
  have HK0 := Lib.hid k0
  have HMS := Lib.hid (fun x hx => markSegS_any L.used vu (k + L.d.count) B hs x hx (by omega) hk2 hl)
  have hcl : Hid (w.heap.size < (w.alloc (.cells #[va, vb, .int .i64 L.segs, vu, .int .i64 L.ng, .int .i64 L.ns, .int .i64 L.st, .int .i64 L.nv] 55)).heap.size) := by show _ < _; simp
  obtain ⟨K1, hK1⟩ : ∃ K1, k + L.d.count = K1 := ⟨_, rfl⟩
  have HK1 := Lib.hid hK1
  rw [hK1] at HMD HMS
  obtain ⟨K2, hK2⟩ : ∃ K2, L.kL k = K2 := ⟨_, rfl⟩
  have HK2 : Hid (kF K1 L.used = K2) := by show _ = _; rw [← hK1, ← hK2]; rfl
  rw [hK2]
  rw [HK2.out] at HMS
  clear P1 k0 b0 hK1 hK2 hk2 hk3
  go_enter Tryz.func25, Tryz.ntmps25
  go_wp2_with fail
  generalize w.alloc (.cells #[va, vb, .int .i64 L.segs, vu, .int .i64 L.ng, .int .i64 L.ns, .int .i64 L.st, .int .i64 L.nv] 55) = W at HMD HP HK0 q0 hcl ⊢
  refine HMD.out.mono ?_
  rintro e w1 ⟨rfl, s1, c1, k1, f1⟩
  have q1 : Box w1 w.heap.size #[va, vb, .int .i64 L.segs, vu, .int .i64 L.ng, .int .i64 L.ns, .int .i64 L.st, .int .i64 L.nv] 55 := q0.keptG k1 (by omega)
  have u1 : SgO B w1 vu L.used hs := HP.out.use.own.stay k1.size (fun q hq => f1 q (HP.out.use.own.where'.1 q hq).2 (fun e => (HP.out.far q (.inl e)).1 hq) (fun e => (HP.out.far q (.inr e)).1 hq)) (fun j x hj q hq => f1 q (HP.out.use.own.where'.2 j x hj q hq).2 (fun e => (HP.out.far q (.inl e)).2 j x hj hq) (fun e => (HP.out.far q (.inr e)).2 j x hj hq))
  have c3 := q1.cell 3 _ rfl
  have HS1 := Lib.hid s1
  have HC1 := Lib.hid c1
  have HKK1 := Lib.hid k1
  clear s1 c1 k1 f1 q0 q1 HMD
  go_wp2_with fail
  clear c3
  refine (HMS.out _ u1).mono ?_
  rintro e w2 ⟨rfl, ⟨hs', u2, mv2⟩, b2, f2⟩
  have HU2 := Lib.hid u2
  have HMV := Lib.hid mv2
  have HF2 := Lib.hid f2
  have HB2 := Lib.hid b2
  clear u1 u2 mv2 f2 b2 HMS
  go_wp2
  go_ret
  have hrow : ∀ q, vu.ownBlock = some q → q < T := HP.out.use.row
  have hits : ∀ (j : Nat) (x : SgH), hs[j]? = some x → ∀ q, x.mv.ownBlock = some q → q < T := HP.out.use.its
  have hz1 : W.heap.size ≤ w1.heap.size := HKK1.out.size
  have hz2 : w1.heap.size ≤ w2.heap.size := HB2.out.size
  have hTW : T ≤ W.heap.size := HP.out.use.le
  refine ⟨rfl, ⟨va, vb, vu, hs', rfl, ⟨?_, ?_, HP.out.two, ⟨?_, by omega, hrow, fun j y hj q hq => ?_⟩, fun q hq => ⟨(HP.out.far q hq).1, fun j y hj e => ?_⟩⟩⟩, HK0.out.trans (HKK1.out.trans ⟨HB2.out.os, HB2.out.tape, HB2.out.output, hz2, fun q hq ho => HF2.out q hq (fun e => ?_) (fun j x hj e => ?_)⟩)⟩
  · refine ⟨HS1.out.1.stayG hz2 (fun q hq => HF2.out q (HS1.out.1.own.lt q hq).2 (HP.out.far q (.inl hq)).1 (HP.out.far q (.inl hq)).2), by omega, HS1.out.2.2⟩
  · refine ⟨HC1.out.1.stayG hz2 (fun q hq => HF2.out q (HC1.out.1.own.lt q hq).2 (HP.out.far q (.inr hq)).1 (HP.out.far q (.inr hq)).2), by omega, HC1.out.2.2⟩
  · show SgO B w2 vu (marksG (k + L.d.count) L.used) hs'
    rw [HK1.out]
    exact HU2.out
  · obtain ⟨x, hx, ex⟩ := HMV.out j y hj
    rw [ex] at hq
    exact hits j x hx q hq
  · obtain ⟨x, hx, ex⟩ := HMV.out j y hj
    rw [ex] at e
    exact (HP.out.far q hq).2 j x hx e
  · have h1 := hrow q e
    have h2 := (HP.out.use.own.where'.1 q e).1
    omega
  · have h1 := hits j x hj q e
    have h2 := (HP.out.use.own.where'.2 j x hj q e).1
    omega

set_option maxRecDepth 100000 in
set_option maxHeartbeats 2000000 in
theorem heldLog_any (L : Lg) (v : Value) (k : Nat) (w : World) (h : LRd w v (marksLg k L)) (hk : 1 ≤ k) (hk2 : L.kL k ≤ 1099511627776) (hl : L.used.length ≤ 1099511627776) :
    Calls Tryz.prog 26 #[v, .int .i64 (k : Int)] w fun e w' => e = .returned (.int .i64 (L.kL k : Int)) ∧ Below w.heap.size w w' := by
  obtain ⟨va, vb, vu, rfl, ha, hb⟩ := h
  change Calls Tryz.prog 26 #[.agg #[va, vb, .int .i64 L.segs, vu, .int .i64 L.ng, .int .i64 L.ns, .int .i64 L.st, .int .i64 L.nv], .int .i64 (k : Int)] w _
  replace ha : DRd w (.agg #[va, vb]) (marksD k L.d) := ha
  replace hb : GRd w vu (marksG (k + L.d.count) L.used) := hb
  have hk3 : k + L.d.count ≤ 1099511627776 := Nat.le_trans (kF_le _ _) hk2
  have b0 := belNew w (.cells #[va, vb, .int .i64 L.segs, vu, .int .i64 L.ng, .int .i64 L.ns, .int .i64 L.st, .int .i64 L.nv] 55)
  have q0 := Box.new w #[va, vb, .int .i64 L.segs, vu, .int .i64 L.ng, .int .i64 L.ns, .int .i64 L.st, .int .i64 L.nv] 55
  have HD := Lib.hid (heldDisk_any L.d _ k _ (ha.later b0) hk hk3)
  have HB : Hid (∀ x, Below (w.alloc (.cells #[va, vb, .int .i64 L.segs, vu, .int .i64 L.ng, .int .i64 L.ns, .int .i64 L.st, .int .i64 L.nv] 55)).heap.size (w.alloc (.cells #[va, vb, .int .i64 L.segs, vu, .int .i64 L.ng, .int .i64 L.ns, .int .i64 L.st, .int .i64 L.nv] 55)) x → Below w.heap.size w x ∧ GRd x vu (marksG (k + L.d.count) L.used) ∧ Box x w.heap.size #[va, vb, .int .i64 L.segs, vu, .int .i64 L.ng, .int .i64 L.ns, .int .i64 L.st, .int .i64 L.nv] 55) := by
    intro x h
    have h' : Below w.heap.size w x := b0.trans (h.mono b0.size)
    exact ⟨h', hb.later h', q0.later h⟩
  have HG := Lib.hid (fun x hx => heldSegS_any L.used vu (k + L.d.count) x hx (by omega) hk2 hl)
  obtain ⟨K1, hK1⟩ : ∃ K1, k + L.d.count = K1 := ⟨_, rfl⟩
  rw [hK1] at HD HG HB
  obtain ⟨K2, hK2⟩ : ∃ K2, L.kL k = K2 := ⟨_, rfl⟩
  have HK2 : Hid (kF K1 L.used = K2) := by show _ = _; rw [← hK1, ← hK2]; rfl
  rw [hK2]
  rw [HK2.out] at HG
  have hp1 : ¬ ((K1 : Int) < 0) := by omega
  have hp2 : ¬ ((K2 : Int) < 0) := by omega
  clear ha hb q0 b0 hK1 hK2 hk2 hk3
  go_enter Tryz.func26, Tryz.ntmps26
  go_wp2_with fail
  refine HD.out.mono ?_
  rintro e w1 ⟨rfl, k1⟩
  obtain ⟨b1, g1, x1⟩ := HB.out w1 k1
  have c3 := x1.cell 3 _ rfl
  clear x1
  go_wp2_with fail
  clear c3
  refine (HG.out _ g1).mono ?_
  rintro e w2 ⟨rfl, k2⟩
  obtain ⟨b2, _, _⟩ := HB.out w2 (k1.trans (k2.mono k1.size))
  go_wp2
  go_ret
  exact ⟨rfl, b2⟩


end Go.Proofs.YtieenkloiicnkaaGreatDoor
