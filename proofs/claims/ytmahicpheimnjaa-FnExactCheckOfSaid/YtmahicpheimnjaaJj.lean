/- Texts of our own, joined. -/
import Derived.Test.YtmahicpheimnjaaJi
import Derived.Test.YtmahicpheimnjaaJb
import Derived.Test.YtmahicpheimnjaaJa
import Derived.Test.YtmahicpheimnjaaJg
import Derived.ProofKit
import Derived.Lib.Hide
import Derived.WalkSmall
import Derived.Deep.QuietTactic
import Derived.BigQuiet
import Derived.Deep.RegionHeld3
import Derived.Test.YtmahicpheimnjaaJh
import Derived.Deep.RegionLaw
/- The helpers of the exact laws over logs. -/
namespace Go.Proofs.Ytmahicpheimnjaa
open Go.RowKit

set_option maxRecDepth 100000 in
set_option maxHeartbeats 1000000 in
theorem eqLog_same (L : Lg) (v1 v2 : Value) (w : World) (h1 : LRd w v1 L) (h2 : LRd w v2 L) (hs : L.d.small) (hl : L.used.length ≤ 1099511627776) (hm : ∀ b ∈ L.used, b.items.length ≤ 1099511627776) :
    Calls Try.prog 21 #[v1, v2] w fun e w' => e = .returned (.bool true) ∧ Below w.heap.size w w' := by
  obtain ⟨va, vb, vu, rfl, ha, hb⟩ := h1
  obtain ⟨vc, vd, vx, rfl, hc, hd⟩ := h2
  have b0 : Below w.heap.size w ((w.alloc (.cells #[va, vb, .int .i64 L.segs, vu, .int .i64 L.ng, .int .i64 L.ns, .int .i64 L.st, .int .i64 L.nv] 63)).alloc (.cells #[vc, vd, .int .i64 L.segs, vx, .int .i64 L.ng, .int .i64 L.ns, .int .i64 L.st, .int .i64 L.nv] 63)) := ((Below.refl _ _).alloc (Nat.le_refl _) _).alloc (by simp) _
  have q0 := Box.new w #[va, vb, .int .i64 L.segs, vu, .int .i64 L.ng, .int .i64 L.ns, .int .i64 L.st, .int .i64 L.nv] 63
  have q1 := Box.new (w.alloc (.cells #[va, vb, .int .i64 L.segs, vu, .int .i64 L.ng, .int .i64 L.ns, .int .i64 L.st, .int .i64 L.nv] 63)) #[vc, vd, .int .i64 L.segs, vx, .int .i64 L.ng, .int .i64 L.ns, .int .i64 L.st, .int .i64 L.nv] 63
  rw [show (w.alloc (.cells #[va, vb, .int .i64 L.segs, vu, .int .i64 L.ng, .int .i64 L.ns, .int .i64 L.st, .int .i64 L.nv] 63)).heap.size = w.heap.size + 1 by simp] at q1
  replace q0 := q0.later (belNew _ (.cells #[vc, vd, .int .i64 L.segs, vx, .int .i64 L.ng, .int .i64 L.ns, .int .i64 L.st, .int .i64 L.nv] 63))
  have HB : Hid (∀ x, Below ((w.alloc (.cells #[va, vb, .int .i64 L.segs, vu, .int .i64 L.ng, .int .i64 L.ns, .int .i64 L.st, .int .i64 L.nv] 63)).alloc (.cells #[vc, vd, .int .i64 L.segs, vx, .int .i64 L.ng, .int .i64 L.ns, .int .i64 L.st, .int .i64 L.nv] 63)).heap.size ((w.alloc (.cells #[va, vb, .int .i64 L.segs, vu, .int .i64 L.ng, .int .i64 L.ns, .int .i64 L.st, .int .i64 L.nv] 63)).alloc (.cells #[vc, vd, .int .i64 L.segs, vx, .int .i64 L.ng, .int .i64 L.ns, .int .i64 L.st, .int .i64 L.nv] 63)) x →
      Below w.heap.size w x ∧ GRd x vu L.used ∧ GRd x vx L.used ∧ Box x w.heap.size #[va, vb, .int .i64 L.segs, vu, .int .i64 L.ng, .int .i64 L.ns, .int .i64 L.st, .int .i64 L.nv] 63 ∧ Box x (w.heap.size + 1) #[vc, vd, .int .i64 L.segs, vx, .int .i64 L.ng, .int .i64 L.ns, .int .i64 L.st, .int .i64 L.nv] 63) := by
    intro x h
    have h' : Below w.heap.size w x := b0.trans (h.mono b0.size)
    exact ⟨h', hb.later h', hd.later h', q0.later h, q1.later h⟩
  have HD := Lib.hid (eqDisk_same L.d _ _ _ (ha.later b0) (hc.later b0) hs)
  have HG := Lib.hid (fun x p q => eqSegS_same L.used vu vx x p q hl hm)
  clear hb hd ha hc q0 q1 b0 hm
  go_enter Try.func21, Try.ntmps21
  go_wp2_with fail
  refine HD.out.mono ?_
  rintro e w1 ⟨rfl, k1⟩
  obtain ⟨b1, r1, r2, x0, x1⟩ := HB.out w1 k1
  obtain ⟨c0, c1, c2, c3, c4, c5, c6, c7, _⟩ := x0.eightL
  obtain ⟨d0, d1, d2, d3, d4, d5, d6, d7, _⟩ := x1.eightL
  clear x0 x1
  go_wp2_with fail
  refine (HG.out _ r1 r2).mono ?_
  rintro e w2 ⟨rfl, k2⟩
  obtain ⟨b2, _, _, x0, x1⟩ := HB.out w2 (k1.trans (k2.mono k1.size))
  clear c0 c1 c2 c3 c4 c5 c6 c7 d0 d1 d2 d3 d4 d5 d6 d7 r1 r2
  obtain ⟨c0, c1, c2, c3, c4, c5, c6, c7, _⟩ := x0.eightL
  obtain ⟨d0, d1, d2, d3, d4, d5, d6, d7, _⟩ := x1.eightL
  clear x0 x1
  go_wp2
  go_ret
  exact ⟨rfl, b2⟩

set_option maxRecDepth 100000 in
set_option maxHeartbeats 1000000 in
theorem szLog_any (L : Lg) (v : Value) (w : World) (h : LIn w v L) :
    Calls Try.prog 16 #[v, .int .i64 1048576] w fun e w' => (∃ r : Int, e = .returned (.int .i64 r) ∧ (0 ≤ r → L.lean 1048576)) ∧ Below w.heap.size w w' := by
  obtain ⟨va, vb, vu, rfl, ha, hb, hl, hz⟩ := h
  have b0 := belNew w (.cells #[va, vb, .int .i64 L.segs, vu, .int .i64 L.ng, .int .i64 L.ns, .int .i64 L.st, .int .i64 L.nv] 52)
  have q0 := Box.new w #[va, vb, .int .i64 L.segs, vu, .int .i64 L.ng, .int .i64 L.ns, .int .i64 L.st, .int .i64 L.nv] 52
  have HD := Lib.hid (szDisk_any L.d _ 1048576 _ (ha.later b0) (by omega) (by omega))
  have HB : Hid (∀ x, Below (w.alloc (.cells #[va, vb, .int .i64 L.segs, vu, .int .i64 L.ng, .int .i64 L.ns, .int .i64 L.st, .int .i64 L.nv] 52)).heap.size (w.alloc (.cells #[va, vb, .int .i64 L.segs, vu, .int .i64 L.ng, .int .i64 L.ns, .int .i64 L.st, .int .i64 L.nv] 52)) x → Below w.heap.size w x ∧ LGRd x vu L.used ∧ Box x w.heap.size #[va, vb, .int .i64 L.segs, vu, .int .i64 L.ng, .int .i64 L.ns, .int .i64 L.st, .int .i64 L.nv] 52) := by
    intro x h
    have h' : Below w.heap.size w x := b0.trans (h.mono b0.size)
    exact ⟨h', hb.later h', q0.later h⟩
  have HG := Lib.hid (fun x r p h0 h1 => szSegS_any L.used vu r x p h0 h1 hl hz)
  clear ha hb q0 b0 hz
  go_enter Try.func16, Try.ntmps16
  go_wp2_with fail
  refine HD.out.mono ?_
  rintro e w1 ⟨r, rfl, k1, hr1, hr2, hr3⟩
  obtain ⟨b1, g1, x1⟩ := HB.out w1 k1
  have HR := Lib.hid hr3
  clear hr3
  by_cases hn : r < 0
  · clear x1
    go_wp2
    go_ret
    exact ⟨⟨-1, rfl, fun h => absurd h (by omega)⟩, b1⟩
  · obtain ⟨c0, c1, c2, c3, c4, c5, c6, c7, _⟩ := x1.eightL
    clear x1
    go_wp2_with fail
    clear c0 c1 c2 c3 c4 c5 c6 c7
    refine (HG.out _ r g1 (by omega) (by omega)).mono ?_
    rintro e w2 ⟨⟨q, rfl, hq, hq2, hq3⟩, k2⟩
    obtain ⟨b2, _, _⟩ := HB.out w2 (k1.trans (k2.mono k1.size))
    have HQ := Lib.hid hq
    clear hq
    by_cases hn2 : q < 0
    · go_wp2
      go_ret
      exact ⟨⟨-1, rfl, fun h => absurd h (by omega)⟩, b2⟩
    · have HE : Hid (L.lean 1048576) := by
        have h3 := HR.out (by omega)
        rcases HQ.out with h4 | ⟨h4, h5⟩
        · exact absurd h4 hn2
        · exact ⟨h3, by omega, fun b hb => (h5 b hb).mono hr1⟩
      go_wp2
      go_ret
      exact ⟨⟨q, rfl, fun _ => HE.out⟩, b2⟩

set_option maxRecDepth 100000 in
set_option maxHeartbeats 1000000 in
/-- A disk marked: no block but those of its two rows. -/
theorem markDisk_fine (d : Dk) (va vb : Value) (k B T : Nat) (w : World) (h1 : LOwn strE B T w va d.sec) (h2 : LOwn wrE B T w vb d.cache) (h3 : va.ownBlock = none ∨ va.ownBlock ≠ vb.ownBlock) (hk : 1 ≤ k) (hk2 : k + d.count ≤ 1099511627776) :
    Calls Try.prog 46 #[.agg #[va, vb], .int .i64 (k : Int)] w fun e w' => e = .returned (.int .i64 ((k + d.count : Nat) : Int)) ∧ LOwn strE B T w' va (marksD k d).sec ∧ LOwn wrE B T w' vb (marksD k d).cache ∧ Kept B T w w' ∧ ∀ q, q < w.heap.size → va.ownBlock ≠ some q → vb.ownBlock ≠ some q → w'.heap[q]? = w.heap[q]? := by
  unfold Dk.count at hk2
  have b0 : Below w.heap.size w (w.alloc (.cells #[va, vb] 60)) := (Below.refl _ _).alloc (Nat.le_refl _) _
  have k0 := Kept.of_below b0 B T
  have h1' := h1.later b0
  have hin : ∀ j, va.ownBlock = some j → B ≤ j ∧ j < T := fun j hj => ⟨(h1.1.own.lt j hj).1, h1.2.2 j hj⟩
  have hin2 : ∀ j, vb.ownBlock = some j → B ≤ j ∧ j < T := fun j hj => ⟨(h2.1.own.lt j hj).1, h2.2.2 j hj⟩
  have hT : T ≤ w.heap.size := h1.2.1
  have HB : Hid (∀ w', (w.alloc (.cells #[va, vb] 60)).grownBy w' va.ownBlock → SBuf B (w.alloc (.cells #[va, vb] 60)) w' va (marksOf k d.sec.length) →
      w'.cell? ⟨w.heap.size, 1, none⟩ = some vb ∧ LOwn wrE B T w' vb d.cache ∧ Kept B T w w') := by
    intro w' hg hb
    refine ⟨?_, (h2.later b0).grown hg ?_, k0.trans (Kept.of_grown hg hin)⟩
    · have : (w.alloc (.cells #[va, vb] 60)).cell? ⟨w.heap.size, 1, none⟩ = some vb := by
        rw [cell_of_row _ _ _ #[va, vb] _ (0, 0) (heap_alloc_new w _)]; rfl
      exact hg.cell this (fun e => by have := hin w.heap.size e.symm; omega)
    · rcases h3 with h3 | h3
      · cases hvb : vb.ownBlock with
        | none => exact .inl rfl
        | some j => exact .inr (by rw [h3]; simp)
      · exact .inr (Ne.symm h3)
  clear h2 k0
  go_enter Try.func46, Try.ntmps46
  go_wp2_with fail
  refine (markStringS_row d.sec va k B _ _ h1'.1.toS hk (by omega)).mono ?_
  rintro e w1 ⟨rfl, hs1, hg1⟩
  obtain ⟨c1, r1, k1⟩ := HB.out w1 hg1 hs1
  go_wp2_with fail
  refine (markWriteS_any d.cache vb (k + d.sec.length) B _ _ r1.1 (by omega) (by omega)).mono ?_
  rintro e w2 ⟨rfl, hs2, hg2⟩
  go_wp2
  go_ret
  have k2 := Kept.of_grown hg2 hin2
  refine ⟨congrArg (fun z : Int => Ending.returned (.int .i64 z)) (show (k : Int) + (d.sec.length : Int) + 2 * (d.cache.length : Int) = ((k + d.count : Nat) : Int) by unfold Dk.count; omega), ?_, ?_, k1.trans k2, fun q hq hqa hqb => ?_⟩
  · have l1 : LOwn strE B T w1 va (marksOf k d.sec.length) := ⟨hs1.toR.here, Nat.le_trans hT k1.size, fun j hj => (hin j hj).2⟩
    exact l1.grown hg2 h3
  · exact ⟨hs2.here, Nat.le_trans hT (k1.trans k2).size, fun j hj => (hin2 j hj).2⟩
  · have e1 := hg1.block q (Nat.lt_of_lt_of_le hq b0.size) (fun e => hqa e.symm)
    have e2 := hg2.block q (Nat.lt_of_lt_of_le hq (Nat.le_trans b0.size hg1.size)) (fun e => hqb e.symm)
    exact e2.trans (e1.trans (b0.block q hq))

set_option maxRecDepth 100000 in
set_option maxHeartbeats 2000000 in
theorem markLog_any (L : Lg) (v : Value) (k B T : Nat) (w : World) (h : LgO B T w v L) (hk : 1 ≤ k) (hk2 : L.kL k ≤ 1099511627776) (hl : L.used.length ≤ 1099511627776) :
    Calls Try.prog 22 #[v, .int .i64 (k : Int)] w fun e w' => e = .returned (.int .i64 (L.kL k : Int)) ∧ LgO B T w' v (marksLg k L) ∧ Kept B T w w' := by
  obtain ⟨va, vb, vu, hs, rfl, P⟩ := h
  have hT : T ≤ w.heap.size := P.use.le
  have hk3 : k + L.d.count ≤ 1099511627776 := Nat.le_trans (kF_le _ _) hk2
  have b0 := belNew w (.cells #[va, vb, .int .i64 L.segs, vu, .int .i64 L.ng, .int .i64 L.ns, .int .i64 L.st, .int .i64 L.nv] 63)
  have q0 := Box.new w #[va, vb, .int .i64 L.segs, vu, .int .i64 L.ng, .int .i64 L.ns, .int .i64 L.st, .int .i64 L.nv] 63
  have P1 := P.later b0
  have k0 := Kept.of_below b0 B T
  clear P
  have HMD := Lib.hid (markDisk_fine L.d va vb k B T _ P1.sec P1.cac P1.two hk hk3)
  have HP := Lib.hid P1
  have HK0 := Lib.hid k0
  have HMS := Lib.hid (fun x hx => markSegS_any L.used vu (k + L.d.count) B hs x hx (by omega) hk2 hl)
  have hcl : Hid (w.heap.size < (w.alloc (.cells #[va, vb, .int .i64 L.segs, vu, .int .i64 L.ng, .int .i64 L.ns, .int .i64 L.st, .int .i64 L.nv] 63)).heap.size) := by show _ < _; simp
  obtain ⟨K1, hK1⟩ : ∃ K1, k + L.d.count = K1 := ⟨_, rfl⟩
  have HK1 := Lib.hid hK1
  rw [hK1] at HMD HMS
  obtain ⟨K2, hK2⟩ : ∃ K2, L.kL k = K2 := ⟨_, rfl⟩
  have HK2 : Hid (kF K1 L.used = K2) := by show _ = _; rw [← hK1, ← hK2]; rfl
  rw [hK2]
  rw [HK2.out] at HMS
  clear P1 k0 b0 hK1 hK2 hk2 hk3
  go_enter Try.func22, Try.ntmps22
  go_wp2_with fail
  generalize w.alloc (.cells #[va, vb, .int .i64 L.segs, vu, .int .i64 L.ng, .int .i64 L.ns, .int .i64 L.st, .int .i64 L.nv] 63) = W at HMD HP HK0 q0 hcl ⊢
  refine HMD.out.mono ?_
  rintro e w1 ⟨rfl, s1, c1, k1, f1⟩
  have q1 : Box w1 w.heap.size #[va, vb, .int .i64 L.segs, vu, .int .i64 L.ng, .int .i64 L.ns, .int .i64 L.st, .int .i64 L.nv] 63 := q0.keptG k1 (by omega)
  have u1 : SgO B w1 vu L.used hs := HP.out.use.own.stay k1.size (fun q hq => f1 q (HP.out.use.own.where'.1 q hq).2 (fun e => (HP.out.far q (.inl e)).1 hq) (fun e => (HP.out.far q (.inr e)).1 hq)) (fun j x hj q hq => f1 q (HP.out.use.own.where'.2 j x hj q hq).2 (fun e => (HP.out.far q (.inl e)).2 j x hj hq) (fun e => (HP.out.far q (.inr e)).2 j x hj hq))
  have c3 := q1.cell 3 _ rfl
  have HS1 := Lib.hid s1
  have HC1 := Lib.hid c1
  have HKK1 := Lib.hid k1
  clear s1 c1 k1 f1 q0 q1 HMD
  go_wp2_with fail
  clear c3
  refine (HMS.out _ u1).mono ?_
  rintro e w2 ⟨rfl, ⟨hs', u2, mv2⟩, b2, f2⟩
  have HU2 := Lib.hid u2
  have HMV := Lib.hid mv2
  have HF2 := Lib.hid f2
  have HB2 := Lib.hid b2
  clear u1 u2 mv2 f2 b2 HMS
  go_wp2
  go_ret
  have hrow : ∀ q, vu.ownBlock = some q → q < T := HP.out.use.row
  have hits : ∀ (j : Nat) (x : SgH), hs[j]? = some x → ∀ q, x.mv.ownBlock = some q → q < T := HP.out.use.its
  have hz1 : W.heap.size ≤ w1.heap.size := HKK1.out.size
  have hz2 : w1.heap.size ≤ w2.heap.size := HB2.out.size
  have hTW : T ≤ W.heap.size := HP.out.use.le
  refine ⟨rfl, ⟨va, vb, vu, hs', rfl, ⟨?_, ?_, HP.out.two, ⟨?_, by omega, hrow, fun j y hj q hq => ?_⟩, fun q hq => ⟨(HP.out.far q hq).1, fun j y hj e => ?_⟩⟩⟩, HK0.out.trans (HKK1.out.trans ⟨HB2.out.os, HB2.out.tape, HB2.out.output, hz2, fun q hq ho => HF2.out q hq (fun e => ?_) (fun j x hj e => ?_)⟩)⟩
  · refine ⟨HS1.out.1.stayG hz2 (fun q hq => HF2.out q (HS1.out.1.own.lt q hq).2 (HP.out.far q (.inl hq)).1 (HP.out.far q (.inl hq)).2), by omega, HS1.out.2.2⟩
  · refine ⟨HC1.out.1.stayG hz2 (fun q hq => HF2.out q (HC1.out.1.own.lt q hq).2 (HP.out.far q (.inr hq)).1 (HP.out.far q (.inr hq)).2), by omega, HC1.out.2.2⟩
  · show SgO B w2 vu (marksG (k + L.d.count) L.used) hs'
    rw [HK1.out]
    exact HU2.out
  · obtain ⟨x, hx, ex⟩ := HMV.out j y hj
    rw [ex] at hq
    exact hits j x hx q hq
  · obtain ⟨x, hx, ex⟩ := HMV.out j y hj
    rw [ex] at e
    exact (HP.out.far q hq).2 j x hx e
  · have h1 := hrow q e
    have h2 := (HP.out.use.own.where'.1 q e).1
    omega
  · have h1 := hits j x hj q e
    have h2 := (HP.out.use.own.where'.2 j x hj q e).1
    omega


set_option maxRecDepth 100000 in
set_option maxHeartbeats 4000000 in
theorem toLog_any (L : Lg) (v : Value) (w : World) (h : LIn w v L) (hL : L.lean 1048576) :
    Calls Try.prog 18 #[v] w fun e w' => ∃ v', e = .returned v' ∧ LgO w.heap.size w'.heap.size w' v' L ∧ Below w.heap.size w w' := by
  obtain ⟨va, vb, vu, rfl, ha, hb, _, _⟩ := h
  obtain ⟨⟨hL1, hL2, _, _⟩, hL3, _⟩ := hL
  have hm : ∀ b ∈ L.used, b.items.length ≤ 1048576 := fun b hb => by have := gIts_mem hb; omega
  have bA := belNew w (.cells #[va, vb, .int .i64 L.segs, vu, .int .i64 L.ng, .int .i64 L.ns, .int .i64 L.st, .int .i64 L.nv] 52)
  have qA := Box.new w #[va, vb, .int .i64 L.segs, vu, .int .i64 L.ng, .int .i64 L.ns, .int .i64 L.st, .int .i64 L.nv] 52
  obtain ⟨wA, hwA⟩ : ∃ wA, wA = w.alloc (.cells #[va, vb, .int .i64 L.segs, vu, .int .i64 L.ng, .int .i64 L.ns, .int .i64 L.st, .int .i64 L.nv] 52) := ⟨_, rfl⟩
  have eA : wA.heap.size = w.heap.size + 1 := by rw [hwA]; simp
  rw [← hwA] at bA qA
  have hB := Box.new wA #[.slice none 0 0, .slice none 0 0, .int .i64 0, .slice none 0 0, .int .i64 0, .int .i64 0, .int .i64 0, .int .i64 0] 63
  have kB := belNew wA (.cells #[.slice none 0 0, .slice none 0 0, .int .i64 0, .slice none 0 0, .int .i64 0, .int .i64 0, .int .i64 0, .int .i64 0] 63)
  have bB := bA.trans (kB.mono bA.size)
  obtain ⟨wB, hwB⟩ : ∃ wB, wB = wA.alloc (.cells #[.slice none 0 0, .slice none 0 0, .int .i64 0, .slice none 0 0, .int .i64 0, .int .i64 0, .int .i64 0, .int .i64 0] 63) := ⟨_, rfl⟩
  have eB : wB.heap.size = w.heap.size + 1 + 1 := by rw [hwB]; simp; omega
  rw [← hwB] at hB kB bB
  rw [eA] at hB
  have hC := Box.new wB #[.slice none 0 0, .slice none 0 0, .int .i64 0, .slice none 0 0, .int .i64 0, .int .i64 0, .int .i64 0, .int .i64 0] 63
  have kC := belNew wB (.cells #[.slice none 0 0, .slice none 0 0, .int .i64 0, .slice none 0 0, .int .i64 0, .int .i64 0, .int .i64 0, .int .i64 0] 63)
  have bC := bB.trans (kC.mono bB.size)
  obtain ⟨wC, hwC⟩ : ∃ wC, wC = wB.alloc (.cells #[.slice none 0 0, .slice none 0 0, .int .i64 0, .slice none 0 0, .int .i64 0, .int .i64 0, .int .i64 0, .int .i64 0] 63) := ⟨_, rfl⟩
  have eC : wC.heap.size = w.heap.size + 1 + 1 + 1 := by rw [hwC]; simp; omega
  rw [← hwC] at hC kC bC
  rw [eB] at hC
  have x1 := hB.later kC
  have x0 := (qA.later kB).later kC
  have HT := Lib.hid (toDisk_any L.d _ wC (ha.later bC) (by omega) (by omega))
  have HU := Lib.hid (fun x p => toSegS_any L.used vu x p (by omega) hm)
  have HEC := Lib.hid eC
  have HWC : Hid (wC = ((w.alloc (.cells #[va, vb, .int .i64 L.segs, vu, .int .i64 L.ng, .int .i64 L.ns, .int .i64 L.st, .int .i64 L.nv] 52)).alloc (.cells #[.slice none 0 0, .slice none 0 0, .int .i64 0, .slice none 0 0, .int .i64 0, .int .i64 0, .int .i64 0, .int .i64 0] 63)).alloc (.cells #[.slice none 0 0, .slice none 0 0, .int .i64 0, .slice none 0 0, .int .i64 0, .int .i64 0, .int .i64 0, .int .i64 0] 63)) := by rw [← hwA, ← hwB, ← hwC]; exact rfl
  have HLB : Hid (∀ x, Below w.heap.size w x → LGRd x vu L.used) := fun x hx => hb.later hx
  clear ha hb qA hB kB bB bA kC eA eB eC hwA hwB hwC hm hL3
  go_enter Try.func18, Try.ntmps18
  go_wp2_with fail
  rw [← HWC.out]
  clear HWC
  refine HT.out.mono ?_
  rintro e w4 ⟨v1, rfl, o1, k4⟩
  obtain ⟨a1, a2, p1, p2, rfl⟩ := o1.form
  replace x0 := x0.later k4
  replace x1 := x1.later k4
  have x2 := hC.later k4
  have b4 := bC.trans (k4.mono bC.size)
  obtain ⟨c0, c1, c2, c3, c4, c5, c6, c7, _⟩ := x0.eightL
  obtain ⟨d0, d1, d2, d3, d4, d5, d6, d7, f0, f1, f2, f3, f4, f5, f6, f7⟩ := x2.eightL
  have y0 := ((x0.other (g := w.heap.size + 1 + 1) (by omega) 0 (.slice a1 L.d.sec.length p1)).other (g := w.heap.size + 1 + 1) (by omega) 1 (.slice a2 L.d.cache.length p2)).other (g := w.heap.size + 1 + 1) (by omega) 2 (.int .i64 L.segs)
  have y1 := ((x1.other (g := w.heap.size + 1 + 1) (by omega) 0 (.slice a1 L.d.sec.length p1)).other (g := w.heap.size + 1 + 1) (by omega) 1 (.slice a2 L.d.cache.length p2)).other (g := w.heap.size + 1 + 1) (by omega) 2 (.int .i64 L.segs)
  have y2a : Box (w4.setCell ⟨w.heap.size + 1 + 1, 0, none⟩ (.slice a1 L.d.sec.length p1)) (w.heap.size + 1 + 1) #[.slice a1 L.d.sec.length p1, .slice none 0 0, .int .i64 0, .slice none 0 0, .int .i64 0, .int .i64 0, .int .i64 0, .int .i64 0] 63 := x2.set 0 _
  have y2b : Box ((w4.setCell ⟨w.heap.size + 1 + 1, 0, none⟩ (.slice a1 L.d.sec.length p1)).setCell ⟨w.heap.size + 1 + 1, 1, none⟩ (.slice a2 L.d.cache.length p2)) (w.heap.size + 1 + 1) #[.slice a1 L.d.sec.length p1, .slice a2 L.d.cache.length p2, .int .i64 0, .slice none 0 0, .int .i64 0, .int .i64 0, .int .i64 0, .int .i64 0] 63 := y2a.set 1 _
  have y2 : Box (((w4.setCell ⟨w.heap.size + 1 + 1, 0, none⟩ (.slice a1 L.d.sec.length p1)).setCell ⟨w.heap.size + 1 + 1, 1, none⟩ (.slice a2 L.d.cache.length p2)).setCell ⟨w.heap.size + 1 + 1, 2, none⟩ (.int .i64 L.segs)) (w.heap.size + 1 + 1) #[.slice a1 L.d.sec.length p1, .slice a2 L.d.cache.length p2, .int .i64 L.segs, .slice none 0 0, .int .i64 0, .int .i64 0, .int .i64 0, .int .i64 0] 63 := y2b.set 2 _
  have b5 := ((b4.setCell (p := ⟨w.heap.size + 1 + 1, 0, none⟩) (by simp; omega) (.slice a1 L.d.sec.length p1)).setCell (p := ⟨w.heap.size + 1 + 1, 1, none⟩) (by simp; omega) (.slice a2 L.d.cache.length p2)).setCell (p := ⟨w.heap.size + 1 + 1, 2, none⟩) (by simp; omega) (.int .i64 L.segs)
  have g5 := ((stored_grown w4 (w.heap.size + 1 + 1) 0 (.slice a1 L.d.sec.length p1)).trans (stored_grown _ (w.heap.size + 1 + 1) 1 (.slice a2 L.d.cache.length p2))).trans (stored_grown _ (w.heap.size + 1 + 1) 2 (.int .i64 L.segs))
  have s5 : (((w4.setCell ⟨w.heap.size + 1 + 1, 0, none⟩ (.slice a1 L.d.sec.length p1)).setCell ⟨w.heap.size + 1 + 1, 1, none⟩ (.slice a2 L.d.cache.length p2)).setCell ⟨w.heap.size + 1 + 1, 2, none⟩ (.int .i64 L.segs)).heap.size = w4.heap.size := by simp
  have HO1 := Lib.hid o1
  have HK4 := Lib.hid k4
  clear x0 x1 x2 y2a y2b b4 hC o1 k4 bC HT
  have HB5 := Lib.hid b5
  have HG5 := Lib.hid g5
  have HS5 := Lib.hid s5
  clear b5 g5 s5
  go_wp2_with fail
  clear c0 c1 c2 c3 c4 c5 c6 c7 d0 d1 d2 d3 d4 d5 d6 d7 f0 f1 f2 f3 f4 f5 f6 f7
  generalize ((w4.setCell ⟨w.heap.size + 1 + 1, 0, none⟩ (.slice a1 L.d.sec.length p1)).setCell ⟨w.heap.size + 1 + 1, 1, none⟩ (.slice a2 L.d.cache.length p2)).setCell ⟨w.heap.size + 1 + 1, 2, none⟩ (.int .i64 L.segs) = w5 at y0 y1 y2 HB5 HG5 HS5 ⊢
  refine (HU.out _ (HLB.out _ HB5.out)).mono ?_
  rintro e w6 ⟨v2, hs, rfl, S, k6⟩
  obtain ⟨a3, p3, rfl⟩ := S.row.form
  have hlen := S.len
  rw [hlen] at S ⊢
  have HP : Hid (LgP wC.heap.size w6.heap.size w6 (.slice a1 L.d.sec.length p1) (.slice a2 L.d.cache.length p2) (.slice a3 L.used.length p3) L hs) := by
    have o5 : DOwn wC.heap.size w4.heap.size w5 (.agg #[.slice a1 L.d.sec.length p1, .slice a2 L.d.cache.length p2]) L.d := by
      refine HO1.out.kept (B' := w.heap.size + 1 + 1) (T' := w.heap.size + 1 + 1 + 1) (Kept.of_grown HG5.out (fun k hk => by have := Option.some.inj hk; omega)) (.inr ?_)
      have := HEC.out
      omega
    exact LgP.mk2 (o5.later k6) S.gown (by have := HS5.out; omega) (by have := HK4.out.size; have := HS5.out; omega) (by have := k6.size; have := HS5.out; omega)
  have b6 := HB5.out.trans (k6.mono HB5.out.size)
  replace y0 := y0.later k6
  replace y1 := y1.later k6
  replace y2 := y2.later k6
  obtain ⟨c0, c1, c2, c3, c4, c5, c6, c7, _⟩ := y0.eightL
  obtain ⟨d0, d1, d2, d3, d4, d5, d6, d7, f0, f1, f2, f3, f4, f5, f6, f7⟩ := y2.eightL
  obtain ⟨l0, l1, l2, l3, l4, l5, l6, l7, m0, m1, m2, m3, m4, m5, m6, m7⟩ := y1.eightL
  have HB6 := Lib.hid b6
  have L5 := (((((y1.other (g := w.heap.size + 1 + 1) (by omega) 3 (.slice a3 L.used.length p3)).other (g := w.heap.size + 1 + 1) (by omega) 4 (.int .i64 L.ng)).other (g := w.heap.size + 1 + 1) (by omega) 5 (.int .i64 L.ns)).other (g := w.heap.size + 1 + 1) (by omega) 6 (.int .i64 L.st)).other (g := w.heap.size + 1 + 1) (by omega) 7 (.int .i64 L.nv)).set8L (.slice a1 L.d.sec.length p1) (.slice a2 L.d.cache.length p2) (.int .i64 L.segs) (.slice a3 L.used.length p3) (.int .i64 L.ng) (.int .i64 L.ns) (.int .i64 L.st) (.int .i64 L.nv)
  have G5 : w6.grownBy (((((w6.setCell ⟨w.heap.size + 1 + 1, 3, none⟩ (.slice a3 L.used.length p3)).setCell ⟨w.heap.size + 1 + 1, 4, none⟩ (.int .i64 L.ng)).setCell ⟨w.heap.size + 1 + 1, 5, none⟩ (.int .i64 L.ns)).setCell ⟨w.heap.size + 1 + 1, 6, none⟩ (.int .i64 L.st)).setCell ⟨w.heap.size + 1 + 1, 7, none⟩ (.int .i64 L.nv)) (some (w.heap.size + 1 + 1)) := ((((stored_grown w6 (w.heap.size + 1 + 1) 3 (.slice a3 L.used.length p3)).trans (stored_grown _ (w.heap.size + 1 + 1) 4 (.int .i64 L.ng))).trans (stored_grown _ (w.heap.size + 1 + 1) 5 (.int .i64 L.ns))).trans (stored_grown _ (w.heap.size + 1 + 1) 6 (.int .i64 L.st))).trans (stored_grown _ (w.heap.size + 1 + 1) 7 (.int .i64 L.nv))
  have G6 := grown_set8L (((((w6.setCell ⟨w.heap.size + 1 + 1, 3, none⟩ (.slice a3 L.used.length p3)).setCell ⟨w.heap.size + 1 + 1, 4, none⟩ (.int .i64 L.ng)).setCell ⟨w.heap.size + 1 + 1, 5, none⟩ (.int .i64 L.ns)).setCell ⟨w.heap.size + 1 + 1, 6, none⟩ (.int .i64 L.st)).setCell ⟨w.heap.size + 1 + 1, 7, none⟩ (.int .i64 L.nv)) (w.heap.size + 1) (.slice a1 L.d.sec.length p1) (.slice a2 L.d.cache.length p2) (.int .i64 L.segs) (.slice a3 L.used.length p3) (.int .i64 L.ng) (.int .i64 L.ns) (.int .i64 L.st) (.int .i64 L.nv)
  have b5 : Below w.heap.size w (set8L (((((w6.setCell ⟨w.heap.size + 1 + 1, 3, none⟩ (.slice a3 L.used.length p3)).setCell ⟨w.heap.size + 1 + 1, 4, none⟩ (.int .i64 L.ng)).setCell ⟨w.heap.size + 1 + 1, 5, none⟩ (.int .i64 L.ns)).setCell ⟨w.heap.size + 1 + 1, 6, none⟩ (.int .i64 L.st)).setCell ⟨w.heap.size + 1 + 1, 7, none⟩ (.int .i64 L.nv)) (w.heap.size + 1) (.slice a1 L.d.sec.length p1) (.slice a2 L.d.cache.length p2) (.int .i64 L.segs) (.slice a3 L.used.length p3) (.int .i64 L.ng) (.int .i64 L.ns) (.int .i64 L.st) (.int .i64 L.nv)) := below_set8L (((((HB6.out.setCell (p := ⟨w.heap.size + 1 + 1, 3, none⟩) (by simp; omega) (.slice a3 L.used.length p3)).setCell (p := ⟨w.heap.size + 1 + 1, 4, none⟩) (by simp; omega) (.int .i64 L.ng)).setCell (p := ⟨w.heap.size + 1 + 1, 5, none⟩) (by simp; omega) (.int .i64 L.ns)).setCell (p := ⟨w.heap.size + 1 + 1, 6, none⟩) (by simp; omega) (.int .i64 L.st)).setCell (p := ⟨w.heap.size + 1 + 1, 7, none⟩) (by simp; omega) (.int .i64 L.nv)) (by omega) (.slice a1 L.d.sec.length p1) (.slice a2 L.d.cache.length p2) (.int .i64 L.segs) (.slice a3 L.used.length p3) (.int .i64 L.ng) (.int .i64 L.ns) (.int .i64 L.st) (.int .i64 L.nv)
  obtain ⟨z0, z1, z2, z3, z4, z5, z6, z7, _⟩ := L5.eightL
  have HG5 := Lib.hid G5
  have HG6 := Lib.hid G6
  have HB7 := Lib.hid b5
  unfold set8L at z0 z1 z2 z3 z4 z5 z6 z7 HG6 HB7
  clear L5 G5 G6 b5 S k6 hlen b6 y0 HB5 HS5 HO1 HK4 HLB HU
  clear y1 y2
  go_wp2
  refine bodyPost_ret (v := .agg #[.slice a1 L.d.sec.length p1, .slice a2 L.d.cache.length p2, .int .i64 L.segs, .slice a3 L.used.length p3, .int .i64 L.ng, .int .i64 L.ns, .int .i64 L.st, .int .i64 L.nv]) (by simp [results, Try.results18, go_sem, z0, z1, z2, z3, z4, z5, z6, z7]) rfl ⟨_, rfl, ⟨_, _, _, hs, rfl, ?_⟩, HB7.out⟩
  have hz := Nat.le_trans HG5.out.size HG6.out.size
  refine (HP.out.stay hz (fun q h1 h2 => ?_)).widen (by have := HEC.out; omega) hz (Nat.le_refl _)
  have h3 := HEC.out
  have e1 := HG5.out.block q h2 (fun e => by have := Option.some.inj e; omega)
  have e2 := HG6.out.block q (Nat.lt_of_lt_of_le h2 HG5.out.size) (fun e => by have := Option.some.inj e; omega)
  exact e2.trans e1

end Go.Proofs.Ytmahicpheimnjaa

/- Checks in memory: references, and what is fixed. -/
namespace Go.Proofs.Ytmahicpheimnjaa
open Go.RowKit

/-- A reference: the segment's number, and its Gen. -/
abbrev Rf := Int × Int
/-- What is fixed. -/
structure Ck where
  st : Int
  ng : Int
  ns : Int
  nv : Int
  refs : List Rf

def rfE : Enc Rf where
  ty := 92
  sty := 54
  sz := 2
  bytes := 16
  zero := .agg #[.int .i64 0, .int .i64 0]
  f := fun x => [.int .i64 x.1, .int .i64 x.2]
  len := fun _ => rfl
  pos := by decide
  one := fun _ u hu => by simp at hu; rcases hu with rfl | rfl <;> rfl
  und := Try.underlying54
  info := by kernel_rfl
  zc := rfl
  z0 := (0, 0)
  zf := rfl

/-- References as a loop reads them. -/
theorem Rows'.refs {w : World} {v : Value} {l : List Rf} (h : Rows' rfE w v l) : ∃ (ad : Option Addr) (cap : Nat), v = .slice ad l.length cap ∧ ∀ X, Below w.heap.size w X → ∀ (i : Nat) (x : Rf), l[i]? = some x → ∃ g off, ad = some ⟨g, off, none⟩ ∧ X.cell? ⟨g, off + i * 2, none⟩ = some (.int .i64 x.1) ∧ X.cell? ⟨g, off + i * 2 + 1, none⟩ = some (.int .i64 x.2) := by
  rcases h.ways with ⟨rfl, a, c, rfl⟩ | ⟨hne, g, off, c, rfl, hc, hg, hcl⟩
  · exact ⟨a, c, rfl, fun X _ i x hi => by cases hi⟩
  · exact ⟨_, c, rfl, fun X hb i x hi => ⟨g, off, rfl, (hb.cell (p := ⟨g, off + i * 2 + 0, none⟩) hg).trans (hcl i x hi 0 _ rfl), (hb.cell (p := ⟨g, off + i * 2 + 1, none⟩) hg).trans (hcl i x hi 1 _ rfl)⟩⟩

/-- The marks of references. -/
def markF2 (k : Nat) (j : Nat) : Rf := (((k + 2 * j : Nat) : Int), ((k + 2 * j + 1 : Nat) : Int))
def marksF2 (k n : Nat) : List Rf := (List.range n).map (markF2 k)
theorem marksF2_length (k n : Nat) : (marksF2 k n).length = n := by simp [marksF2]
theorem marksF2_at {k n i : Nat} (h : i < n) : (marksF2 k n)[i]? = some (markF2 k i) := by simp [marksF2, h]

set_option maxRecDepth 100000 in
theorem eqRef_same (a b : Int) (w : World) : Calls Try.prog 75 #[.agg #[.int .i64 a, .int .i64 b], .agg #[.int .i64 a, .int .i64 b]] w fun e w' => e = .returned (.bool true) ∧ Below w.heap.size w w' := by
  have bA := belNew w (.cells #[.int .i64 a, .int .i64 b] 92)
  have HB := Lib.hid (bA.trans ((belNew (w.alloc (.cells #[.int .i64 a, .int .i64 b] 92)) (.cells #[.int .i64 a, .int .i64 b] 92)).mono bA.size))
  clear bA
  go_enter Try.func75, Try.ntmps75
  go_wp2
  go_ret
  exact ⟨rfl, HB.out⟩

set_option maxRecDepth 100000 in
set_option maxHeartbeats 2000000 in
theorem eqRefS_same (l : List Rf) (va vb : Value) (w : World) (ha : Rows' rfE w va l) (hb : Rows' rfE w vb l) (hl : l.length ≤ 1099511627776) :
    Calls Try.prog 43 #[va, vb] w fun e w' => e = .returned (.bool true) ∧ Below w.heap.size w w' := by
  obtain ⟨ad, cap, rfl, hrowa⟩ := ha.refs
  obtain ⟨ad2, cap2, rfl, hrowb⟩ := hb.refs
  have HA := Lib.hid hrowa
  have HB := Lib.hid hrowb
  clear ha hb hrowa hrowb
  go_enter Try.func43, Try.ntmps43
  go_wp2
  go_loopw [5] (fun iv wr => ∃ i : Nat, i ≤ l.length ∧ iv = .int .i64 (i : Int) ∧ Below w.heap.size w wr) (fun iv _ => l.length - (intOf iv).toNat)
  case atStart => exact ⟨0, by omega, rfl, Below.refl _ _⟩
  case round =>
    obtain ⟨i, hi, rfl, hbel⟩ := hrel
    by_cases hlt : i < l.length
    · have hg : l[i]? = some l[i] := List.getElem?_eq_getElem hlt
      have hbd : Below w.heap.size w wr.drew := hbel.drew
      have HXA : Hid (∀ X, Below wr.drew.heap.size wr.drew X → ∃ ga oa gb ob, ad = some ⟨ga, oa, none⟩ ∧ ad2 = some ⟨gb, ob, none⟩ ∧ (X.cell? ⟨ga, oa + i * 2, none⟩ = some (.int .i64 l[i].1) ∧ X.cell? ⟨ga, oa + i * 2 + 1, none⟩ = some (.int .i64 l[i].2)) ∧ (X.cell? ⟨gb, ob + i * 2, none⟩ = some (.int .i64 l[i].1) ∧ X.cell? ⟨gb, ob + i * 2 + 1, none⟩ = some (.int .i64 l[i].2))) := fun X hX => by
        obtain ⟨ga, oa, e1, p⟩ := HA.out X (hbd.trans (hX.mono hbd.size)) i _ hg
        obtain ⟨gb, ob, e2, q⟩ := HB.out X (hbd.trans (hX.mono hbd.size)) i _ hg
        exact ⟨ga, oa, gb, ob, e1, e2, p, q⟩
      generalize l[i] = x at *
      obtain ⟨x1, x2⟩ := x
      simp only at HXA
      obtain ⟨ga, oa, gb, ob, rfl, rfl, p0, q0⟩ := HXA.out _ (Below.refl _ _)
      have HS : Hid (∀ X, Below wr.drew.heap.size wr.drew X → (X.cell? ⟨ga, oa + i * 2, none⟩ = some (.int .i64 x1) ∧ X.cell? ⟨ga, oa + i * 2 + 1, none⟩ = some (.int .i64 x2)) ∧ (X.cell? ⟨gb, ob + i * 2, none⟩ = some (.int .i64 x1) ∧ X.cell? ⟨gb, ob + i * 2 + 1, none⟩ = some (.int .i64 x2))) := fun X hX => by
        obtain ⟨ga2, oa2, gb2, ob2, e1, e2, p, q⟩ := HXA.out X hX
        cases e1
        cases e2
        exact ⟨p, q⟩
      have hi0 : (0 : Int) ≤ (i : Int) := by omega
      have hi1 : (i : Int) < (l.length : Int) := by omega
      clear hg HXA p0 q0
      go_wp2
      go_region_held3 (fun X => (X.cell? ⟨ga, oa + i * 2, none⟩ = some (.int .i64 x1) ∧ X.cell? ⟨ga, oa + i * 2 + 1, none⟩ = some (.int .i64 x2)) ∧ (X.cell? ⟨gb, ob + i * 2, none⟩ = some (.int .i64 x1) ∧ X.cell? ⟨gb, ob + i * 2 + 1, none⟩ = some (.int .i64 x2)))
        (first | exact HS.out _ (Below.refl _ _) | exact HS.out _ hb1)
        (first | (go_at_call 75; refine (eqRef_same x1 x2 _).mono ?_; rintro e w1 ⟨rfl, hb1⟩))
      all_goals
        go_wp2
        go_roundw
        case rel => exact ⟨i + 1, by omega, by go_num, hbd.trans (hb1.mono hbd.size)⟩
        case measure => simp [intOf]; omega
    · go_wp2
      go_ret
      exact ⟨rfl, hbel⟩

set_option maxRecDepth 100000 in
set_option maxHeartbeats 2000000 in
theorem markRefS_put (l : List Rf) (v : Value) (k B : Nat) (w0 w : World) (hb : RBuf rfE B w0 w v l) (hk2 : k + 2 * l.length ≤ 1099511627776) :
    Calls Try.prog 48 #[v, .int .i64 (k : Int)] w fun e w' => e = .returned (.int .i64 ((k + 2 * l.length : Nat) : Int)) ∧ RBuf rfE B w0 w' v (marksF2 k l.length) ∧ w.grownBy w' v.ownBlock := by
  rcases hb.own.2 with ⟨rfl, h0⟩ | ⟨g, cap, cur, rfl, hg, hh, hnc, hcp, hcs, htake⟩
  · obtain rfl := List.length_eq_zero_iff.1 h0
    go_enter Try.func48, Try.ntmps48
    go_wp2
    go_loop [1, 5] (fun kv iv => kv = .int .i64 (k : Int) ∧ iv = .int .i64 0) (fun _ _ => 0)
    case atStart => exact ⟨rfl, rfl⟩
    case round =>
      obtain ⟨rfl, rfl⟩ := hrel
      go_wp2
      go_ret
      exact ⟨rfl, hb, World.grownBy.refl _ _⟩
  · clear hh hcs htake hcp
    have hle : l.length ≤ 1099511627776 := by omega
    go_enter Try.func48, Try.ntmps48
    go_wp2
    go_loopw [1, 5] (fun kv iv wr => ∃ i : Nat, i ≤ l.length ∧ iv = .int .i64 (i : Int) ∧ kv = .int .i64 ((k + 2 * i : Nat) : Int) ∧ RBuf rfE B w0 wr (.slice (some ⟨g, 0, none⟩) l.length cap) (putTo (markF2 k) l i) ∧ w.grownBy wr (some g)) (fun _ iv _ => l.length - (intOf iv).toNat)
    case atStart => exact ⟨0, by omega, rfl, rfl, by rw [putTo_zero]; exact hb, World.grownBy.refl _ _⟩
    case round =>
      obtain ⟨i, hi, rfl, rfl, hbr, hgr⟩ := hrel
      by_cases hlt : i < l.length
      · have hi0 : (0 : Int) ≤ (i : Int) := by omega
        have hi1 : (i : Int) < (l.length : Int) := by omega
        have hml := putTo_length (m := markF2 k) hi
        have hat := putTo_at (m := markF2 k) hlt
        have hms := putTo_set (m := markF2 k) hlt
        rw [← hml] at hbr
        obtain ⟨K, hK⟩ : ∃ K : Nat, K = k + 2 * i := ⟨_, rfl⟩
        have HK := Lib.hid hK
        have hmk : markF2 k i = ((K : Int), (K : Int) + 1) := by rw [hK]; unfold markF2; congr 1
        rw [← hK]
        have hK1 : K + 2 ≤ 4611686018427387904 := by omega
        clear hK
        generalize l[i] = x at hat
        obtain ⟨x1, x2⟩ := x
        have cs : wr.cell? ⟨g, i * 2, none⟩ = some (.int .i64 x1) := hbr.cell rfl i _ hat 0 _ rfl
        have cs2 : wr.cell? ⟨g, i * 2 + 1, none⟩ = some (.int .i64 x2) := hbr.cell rfl i _ hat 1 _ rfl
        have fs := hbr.loose (i * 2)
        have fs2 := hbr.loose (i * 2 + 1)
        have st1 : RBuf rfE B w0 (wr.setCell ⟨g, i * 2, none⟩ (.int .i64 (K : Int))) _ _ := hbr.stored i _ ((K : Int), x2) hat 0 (by decide) (.int .i64 (K : Int)) rfl
        have hat2 : ((putTo (markF2 k) l i).set i ((K : Int), x2))[i]? = some ((K : Int), x2) := List.getElem?_set_self (by rw [hml]; exact hlt)
        have hl2 : ((putTo (markF2 k) l i).set i ((K : Int), x2)).length = (putTo (markF2 k) l i).length := List.length_set
        rw [← hl2] at st1
        have st2 : RBuf rfE B w0 ((wr.setCell ⟨g, i * 2, none⟩ (.int .i64 (K : Int))).setCell ⟨g, i * 2 + 1, none⟩ (.int .i64 ((K : Int) + 1))) _ _ := st1.stored i _ ((K : Int), (K : Int) + 1) hat2 1 (by decide) (.int .i64 ((K : Int) + 1)) rfl
        rw [List.set_set, ← hmk, hms, hl2, hml] at st2
        have hg2 := (hgr.trans (grownBy_store wr g (i * 2) (.int .i64 (K : Int)))).trans (grownBy_store _ g (i * 2 + 1) (.int .i64 ((K : Int) + 1)))
        have HST := Lib.hid (And.intro st2 hg2)
        clear hbr hat st1 st2 hat2 hl2 hg2 hgr hmk hms hml
        go_wp2
        go_roundw
        case rel => exact ⟨i + 1, by omega, by go_num, by rw [HK.out]; first | go_num | (congr 1; omega), HST.out.1, HST.out.2⟩
        case measure => simp [intOf]; omega
      · have hfin : Hid (i = l.length) := by show i = l.length; omega
        go_wp2
        go_ret
        refine ⟨?_, ?_, hgr⟩
        · rw [← hfin.out]; rfl
        · have := hbr
          rw [hfin.out, putTo_all] at this
          exact this

set_option maxRecDepth 100000 in
set_option maxHeartbeats 2000000 in
theorem heldRefS_any (n : Nat) (v : Value) (k : Nat) (w : World) (hb : Rows' rfE w v (marksF2 k n)) (hk2 : k + 2 * n ≤ 1099511627776) :
    Calls Try.prog 49 #[v, .int .i64 (k : Int)] w fun e w' => e = .returned (.int .i64 ((k + 2 * n : Nat) : Int)) ∧ Below w.heap.size w w' := by
  have hmn := marksF2_length k n
  obtain ⟨ad, cap, rfl, hrow⟩ := hb.refs
  rw [hmn]
  have HC := Lib.hid hrow
  clear hrow hb hmn
  go_enter Try.func49, Try.ntmps49
  go_wp2
  go_loopw [1, 5] (fun kv iv wr => ∃ i : Nat, i ≤ n ∧ iv = .int .i64 (i : Int) ∧ kv = .int .i64 ((k + 2 * i : Nat) : Int) ∧ Below w.heap.size w wr) (fun _ iv _ => n - (intOf iv).toNat)
  case atStart => exact ⟨0, by omega, rfl, rfl, Below.refl _ _⟩
  case round =>
    obtain ⟨i, hi, rfl, rfl, hbel⟩ := hrel
    by_cases hlt : i < n
    · have hi0 : (0 : Int) ≤ (i : Int) := by omega
      have hi1 : (i : Int) < (n : Int) := by omega
      obtain ⟨g, off, rfl, c0, c1⟩ := HC.out _ hbel i _ (marksF2_at hlt)
      obtain ⟨K, hK⟩ : ∃ K : Nat, K = k + 2 * i := ⟨_, rfl⟩
      have HK := Lib.hid hK
      have hmk : markF2 k i = ((K : Int), (K : Int) + 1) := by rw [hK]; unfold markF2; congr 1
      rw [hmk] at c0 c1
      simp only at c0 c1
      rw [← hK]
      have hK1 : K + 2 ≤ 4611686018427387904 := by omega
      clear hK hmk
      go_wp2
      go_roundw
      case rel => exact ⟨i + 1, by omega, by go_num, by rw [HK.out]; first | go_num | (congr 1; omega), hbel⟩
      case measure => simp [intOf]; omega
    · have hfin : Hid (i = n) := by show i = n; omega
      go_wp2
      go_ret
      exact ⟨by rw [← hfin.out]; rfl, hbel⟩

/-- A check's value, its references a slice. -/
def Ck.val (c : Ck) (a : Option Addr) (cap : Nat) : Value := .agg #[.int .i64 c.st, .int .i64 c.ng, .int .i64 c.ns, .int .i64 c.nv, .slice a c.refs.length cap]

theorem Box.fiveC {w : World} {b : Nat} {u0 u1 u2 u3 u4 : Value} {t : TypeId} (h : Box w b #[u0, u1, u2, u3, u4] t) :
    w.cell? ⟨b, 0, none⟩ = some u0 ∧ w.cell? ⟨b, 1, none⟩ = some u1 ∧ w.cell? ⟨b, 2, none⟩ = some u2 ∧ w.cell? ⟨b, 3, none⟩ = some u3 ∧ w.cell? ⟨b, 4, none⟩ = some u4 ∧
    w.frozen? ⟨b, 0, none⟩ = false ∧ w.frozen? ⟨b, 1, none⟩ = false ∧ w.frozen? ⟨b, 2, none⟩ = false ∧ w.frozen? ⟨b, 3, none⟩ = false ∧ w.frozen? ⟨b, 4, none⟩ = false :=
  ⟨h.cell 0 _ rfl, h.cell 1 _ rfl, h.cell 2 _ rfl, h.cell 3 _ rfl, h.cell 4 _ rfl, h.loose 0, h.loose 1, h.loose 2, h.loose 3, h.loose 4⟩

set_option maxRecDepth 100000 in
set_option maxHeartbeats 2000000 in
theorem eqCheck_same (c : Ck) (a b : Option Addr) (ca cb : Nat) (w : World) (ha : Rows' rfE w (.slice a c.refs.length ca) c.refs) (hb : Rows' rfE w (.slice b c.refs.length cb) c.refs) (hl : c.refs.length ≤ 1099511627776) :
    Calls Try.prog 20 #[.agg #[.int .i64 c.st, .int .i64 c.ng, .int .i64 c.ns, .int .i64 c.nv, .slice a c.refs.length ca], .agg #[.int .i64 c.st, .int .i64 c.ng, .int .i64 c.ns, .int .i64 c.nv, .slice b c.refs.length cb]] w fun e w' => e = .returned (.bool true) ∧ Below w.heap.size w w' := by
  obtain ⟨st, ng, ns, nv, rs⟩ := c
  simp only at *
  have XA := Box.new w #[.int .i64 st, .int .i64 ng, .int .i64 ns, .int .i64 nv, .slice a rs.length ca] 56
  have kA := belNew w (.cells #[.int .i64 st, .int .i64 ng, .int .i64 ns, .int .i64 nv, .slice a rs.length ca] 56)
  have XB := Box.new (w.alloc (.cells #[.int .i64 st, .int .i64 ng, .int .i64 ns, .int .i64 nv, .slice a rs.length ca] 56)) #[.int .i64 st, .int .i64 ng, .int .i64 ns, .int .i64 nv, .slice b rs.length cb] 56
  have kB := belNew (w.alloc (.cells #[.int .i64 st, .int .i64 ng, .int .i64 ns, .int .i64 nv, .slice a rs.length ca] 56)) (.cells #[.int .i64 st, .int .i64 ng, .int .i64 ns, .int .i64 nv, .slice b rs.length cb] 56)
  rw [show (w.alloc (.cells #[.int .i64 st, .int .i64 ng, .int .i64 ns, .int .i64 nv, .slice a rs.length ca] 56)).heap.size = w.heap.size + 1 by simp] at XB
  have k3 := kA.trans (kB.mono kA.size)
  have XA3 := XA.later kB
  have ha3 := ha.later k3
  have hb3 := hb.later k3
  obtain ⟨n, hn⟩ : ∃ n, rs.length = n := ⟨_, rfl⟩
  have HRA := Lib.hid ha3
  have HRB := Lib.hid hb3
  have hln : n ≤ 1099511627776 := by omega
  have HN := Lib.hid hn
  rw [hn] at XA3 XB k3 HRA HRB ⊢
  clear XA kA kB ha hb ha3 hb3 hn
  go_enter Try.func20, Try.ntmps20
  obtain ⟨x0, x1, x2, x3, x4, _⟩ := XA3.fiveC
  obtain ⟨y0, y1, y2, y3, y4, _⟩ := XB.fiveC
  clear XA3 XB
  go_wp2_with fail
  generalize (w.alloc (.cells #[.int .i64 st, .int .i64 ng, .int .i64 ns, .int .i64 nv, .slice a n ca] 56)).alloc (.cells #[.int .i64 st, .int .i64 ng, .int .i64 ns, .int .i64 nv, .slice b n cb] 56) = W at *
  refine (eqRefS_same rs _ _ _ HRA.out HRB.out (by rw [HN.out]; exact hln)).mono ?_
  rintro e w1 ⟨rfl, k1⟩
  have BB := Lib.hid (k3.trans (k1.mono k3.size))
  clear k3 k1 x0 x1 x2 x3 x4 y0 y1 y2 y3 y4
  go_wp2
  go_ret
  exact ⟨rfl, BB.out⟩

set_option maxRecDepth 100000 in
set_option maxHeartbeats 2000000 in
theorem markCheck_put (c : Ck) (a : Option Addr) (cap k B : Nat) (w0 w : World) (hb : RBuf rfE B w0 w (.slice a c.refs.length cap) c.refs) (hk2 : k + 2 * c.refs.length ≤ 1099511627776) :
    Calls Try.prog 23 #[.agg #[.int .i64 c.st, .int .i64 c.ng, .int .i64 c.ns, .int .i64 c.nv, .slice a c.refs.length cap], .int .i64 (k : Int)] w fun e w' => e = .returned (.int .i64 ((k + 2 * c.refs.length : Nat) : Int)) ∧ RBuf rfE B w0 w' (.slice a c.refs.length cap) (marksF2 k c.refs.length) ∧ w.grownBy w' (Value.slice a c.refs.length cap).ownBlock := by
  obtain ⟨st, ng, ns, nv, rs⟩ := c
  simp only at *
  have XA := Box.new w #[.int .i64 st, .int .i64 ng, .int .i64 ns, .int .i64 nv, .slice a rs.length cap] 56
  have kA := belNew w (.cells #[.int .i64 st, .int .i64 ng, .int .i64 ns, .int .i64 nv, .slice a rs.length cap] 56)
  have hb1 := hb.later kA
  have HM := Lib.hid (markRefS_put rs _ k B w0 _ hb1 hk2)
  have HG := Lib.hid (grownBy_of_below kA (Value.slice a rs.length cap).ownBlock)
  obtain ⟨n, hn⟩ : ∃ n, rs.length = n := ⟨_, rfl⟩
  rw [hn] at XA HM HG ⊢
  clear kA hb hb1 hk2 hn
  go_enter Try.func23, Try.ntmps23
  obtain ⟨x0, x1, x2, x3, x4, _⟩ := XA.fiveC
  clear XA
  go_wp2_with fail
  refine HM.out.mono ?_
  rintro e w1 ⟨rfl, R1, g1⟩
  have HR := Lib.hid R1
  have HG2 := Lib.hid (HG.out.trans g1)
  clear R1 g1 x0 x1 x2 x3 x4
  go_wp2
  go_ret
  exact ⟨rfl, HR.out, HG2.out⟩

set_option maxRecDepth 100000 in
set_option maxHeartbeats 2000000 in
theorem heldCheck_any (st ng ns nv : Int) (n : Nat) (a : Option Addr) (cap k : Nat) (w : World) (hb : Rows' rfE w (.slice a n cap) (marksF2 k n)) (hk2 : k + 2 * n ≤ 1099511627776) :
    Calls Try.prog 24 #[.agg #[.int .i64 st, .int .i64 ng, .int .i64 ns, .int .i64 nv, .slice a n cap], .int .i64 (k : Int)] w fun e w' => e = .returned (.int .i64 ((k + 2 * n : Nat) : Int)) ∧ Below w.heap.size w w' := by
  have XA := Box.new w #[.int .i64 st, .int .i64 ng, .int .i64 ns, .int .i64 nv, .slice a n cap] 56
  have kA := belNew w (.cells #[.int .i64 st, .int .i64 ng, .int .i64 ns, .int .i64 nv, .slice a n cap] 56)
  have HM := Lib.hid (heldRefS_any n _ k _ (hb.later kA) hk2)
  have HK := Lib.hid kA
  obtain ⟨K, hK⟩ : ∃ K : Nat, k + 2 * n = K := ⟨_, rfl⟩
  rw [hK] at HM ⊢
  have hK0 : ¬ ((K : Int) < 0) := by omega
  clear kA hb hK
  go_enter Try.func24, Try.ntmps24
  obtain ⟨x0, x1, x2, x3, x4, _⟩ := XA.fiveC
  clear XA
  go_wp2_with fail
  refine HM.out.mono ?_
  rintro e w1 ⟨rfl, k1⟩
  have HB := Lib.hid (HK.out.trans (k1.mono HK.out.size))
  clear k1 x0 x1 x2 x3 x4
  go_wp2
  go_ret
  exact ⟨rfl, HB.out⟩

end Go.Proofs.Ytmahicpheimnjaa

/- What is fixed of a log: while its references are gathered. -/
namespace Go.Proofs.Ytmahicpheimnjaa
open Go.RowKit

/-- What is fixed of a log. -/
def ckOf (L : Lg) : Ck := ⟨IntKind.i64.wrap (L.st + 1), L.ng, L.ns, L.nv, L.used.map (fun s => (s.no, s.gen))⟩

theorem refs_take {u : List Sg} {i : Nat} {s : Sg} (h : u[i]? = some s) : (u.take (i + 1)).map (fun s => (s.no, s.gen)) = (u.take i).map (fun s => (s.no, s.gen)) ++ [(s.no, s.gen)] := by
  rw [List.take_add_one, h]
  simp
theorem refs_len (u : List Sg) (i : Nat) : ((u.take i).map (fun s => (s.no, s.gen))).length ≤ u.length := by
  rw [List.length_map, List.length_take]; omega

theorem Box.butC {w X : World} {b : Nat} {cs : Array Value} {t : TypeId} {r : Option Nat} (h : Box w b cs t) (hg : w.grownBy X r) (hne : ∀ k, r = some k → k ≠ b) : Box X b cs t := (hg.block b h.lt (fun e => hne b e.symm rfl)).trans h
theorem Box.set5C {w : World} {b : Nat} {u0 u1 u2 u3 u4 : Value} {t : TypeId} (h : Box w b #[u0, u1, u2, u3, u4] t) (v0 v1 v2 v3 v4 : Value) : Box (((((w.setCell ⟨b, 0, none⟩ v0).setCell ⟨b, 1, none⟩ v1).setCell ⟨b, 2, none⟩ v2).setCell ⟨b, 3, none⟩ v3).setCell ⟨b, 4, none⟩ v4) b #[v0, v1, v2, v3, v4] t := ((((h.set 0 v0).set 1 v1).set 2 v2).set 3 v3).set 4 v4
theorem RBuf.set5C {α : Type} {E : Enc α} {B g : Nat} {w0 x : World} {v : Value} {l : List α} (h : RBuf E B x x v l) (hb : Below w0.heap.size w0 x) (hB : w0.heap.size ≤ B) (hg : g < B) (hw : w0.heap.size ≤ g) (v0 v1 v2 v3 v4 : Value) : RBuf E w0.heap.size w0 (((((x.setCell ⟨g, 0, none⟩ v0).setCell ⟨g, 1, none⟩ v1).setCell ⟨g, 2, none⟩ v2).setCell ⟨g, 3, none⟩ v3).setCell ⟨g, 4, none⟩ v4) v l := by
  have hne : v.ownBlock = none ∨ v.ownBlock ≠ some g := .inr (fun e => by have := (h.own.lt g e).1; omega)
  have h0 := h.shift (stored_grown _ g 0 v0) hne
  have h1 := h0.shift (stored_grown _ g 1 v1) hne
  have h2 := h1.shift (stored_grown _ g 2 v2) hne
  have h3 := h2.shift (stored_grown _ g 3 v3) hne
  have h4 := h3.shift (stored_grown _ g 4 v4) hne
  exact h4.down (((((hb.setCell (p := ⟨g, 0, none⟩) hw v0).setCell (p := ⟨g, 1, none⟩) hw v1).setCell (p := ⟨g, 2, none⟩) hw v2).setCell (p := ⟨g, 3, none⟩) hw v3).setCell (p := ⟨g, 4, none⟩) hw v4) hB

/-- While the references are gathered: the boxes, and the references so far. -/
structure CkL (w : World) (B gL gR gC : Nat) (tL tC : TypeId) (cl : Array Value) (st ng ns nv : Int) (x : World) (a : Option Addr) (n cap : Nat) (l : List Rf) : Prop where
  log : Box x gL cl tL
  res : Box x gR #[.int .i64 0, .int .i64 0, .int .i64 0, .int .i64 0, .slice none 0 0] tC
  chk : Box x gC #[.int .i64 st, .int .i64 ng, .int .i64 ns, .int .i64 nv, .slice a n cap] tC
  refs : RBuf rfE B x x (.slice a n cap) l
  bel : Below w.heap.size w x
  low : w.heap.size ≤ gC ∧ w.heap.size ≤ gR
  lt : gL < gC ∧ gR < gC ∧ gC < B
theorem CkL.later {w : World} {B gL gR gC : Nat} {tL tC : TypeId} {cl : Array Value} {st ng ns nv : Int} {x y : World} {a : Option Addr} {n cap : Nat} {l : List Rf} (h : CkL w B gL gR gC tL tC cl st ng ns nv x a n cap l) (hb : Below x.heap.size x y) : CkL w B gL gR gC tL tC cl st ng ns nv y a n cap l :=
  ⟨h.log.later hb, h.res.later hb, h.chk.later hb, (h.refs.later hb).here, h.bel.trans (hb.mono h.bel.size), h.low, h.lt⟩
theorem CkL.push {w : World} {B gL gR gC : Nat} {tL tC : TypeId} {cl : Array Value} {st ng ns nv : Int} {x y : World} {a : Option Addr} {n cap : Nat} {l m : List Rf} (h : CkL w B gL gR gC tL tC cl st ng ns nv x a n cap l)
    (a2 : Option Addr) (n2 c2 : Nat) (hr : RBuf rfE B y y (.slice a2 n2 c2) m) (hg : x.grownBy y (Value.slice a n cap).ownBlock) : CkL w B gL gR gC tL tC cl st ng ns nv (y.setCell ⟨gC, 4, none⟩ (.slice a2 n2 c2)) a2 n2 c2 m := by
  have hne : ∀ k, (Value.slice a n cap).ownBlock = some k → B ≤ k := fun k hk => (h.refs.own.lt k hk).1
  have hz : w.heap.size ≤ B := by have := h.low; have := h.lt; omega
  have b1 := h.log.butC hg (fun k hk => by have := hne k hk; have := h.lt; omega)
  have b2 := h.res.butC hg (fun k hk => by have := hne k hk; have := h.lt; omega)
  have b3 := h.chk.butC hg (fun k hk => by have := hne k hk; have := h.lt; omega)
  refine ⟨b1.other (by have := h.lt; omega) _ _, b2.other (by have := h.lt; omega) _ _, b3.set 4 _, hr.shift (stored_grown _ gC 4 _) ?_, (h.bel.grown hg h.bel.size (fun k hk => Nat.le_trans hz (hne k hk))).setCell (p := ⟨gC, 4, none⟩) h.low.1 _, h.low, h.lt⟩
  cases hb : (Value.slice a2 n2 c2).ownBlock with
  | none => exact .inl rfl
  | some k =>
    right
    intro e
    have e1 : k = gC := Option.some.inj e
    have := (hr.own.lt k hb).1
    have := h.lt
    omega
/-- The cells behind the append. -/
theorem CkL.cells {w : World} {B gL gR gC : Nat} {tL tC : TypeId} {cl : Array Value} {st ng ns nv : Int} {x y : World} {a : Option Addr} {n cap : Nat} {l : List Rf} (h : CkL w B gL gR gC tL tC cl st ng ns nv x a n cap l)
    (hg : x.grownBy y (Value.slice a n cap).ownBlock) : y.cell? ⟨gC, 4, none⟩ = some (.slice a n cap) ∧ y.frozen? ⟨gC, 4, none⟩ = false := by
  have hne : ∀ k, (Value.slice a n cap).ownBlock = some k → B ≤ k := fun k hk => (h.refs.own.lt k hk).1
  have b3 := h.chk.butC hg (fun k hk => by have := hne k hk; have := h.lt; omega)
  exact ⟨b3.cell 4 _ rfl, b3.loose 4⟩

end Go.Proofs.Ytmahicpheimnjaa

/- CheckOf of the program. -/
namespace Go.Proofs.Ytmahicpheimnjaa
open Go.RowKit

set_option maxRecDepth 100000 in
set_option maxHeartbeats 4000000 in
theorem implCheckOf_any (L : Lg) (v : Value) (w : World) (h : LRd w v L) (hl : L.used.length ≤ 1048576) :
    Calls Try.prog 19 #[v] w fun e w' => ∃ (a : Option Addr) (cap : Nat), e = .returned (.agg #[.int .i64 (ckOf L).st, .int .i64 (ckOf L).ng, .int .i64 (ckOf L).ns, .int .i64 (ckOf L).nv, .slice a (ckOf L).refs.length cap]) ∧ RBuf rfE w.heap.size w w' (.slice a (ckOf L).refs.length cap) (ckOf L).refs := by
  obtain ⟨va, vb, vu, rfl, _, hu⟩ := h
  obtain ⟨ad, cap, rfl, hrow⟩ := hu.segs
  have HR : Hid _ := hrow
  clear hu hrow
  have HF : Hid (ckOf L = ⟨IntKind.i64.wrap (L.st + 1), L.ng, L.ns, L.nv, (L.used.take L.used.length).map (fun s => (s.no, s.gen))⟩) := by show _ = _; rw [List.take_length]; rfl
  obtain ⟨d, segs, us, ng, ns, st, nv⟩ := L
  generalize ckOf ⟨d, segs, us, ng, ns, st, nv⟩ = C at HF ⊢
  simp only at HR HF hl ⊢
  obtain ⟨n, hn⟩ : ∃ n, us.length = n := ⟨_, rfl⟩
  rw [hn] at hl HF ⊢
  have HN := Lib.hid hn
  clear hn
  obtain ⟨S, hS⟩ : ∃ S, IntKind.i64.wrap (st + 1) = S := ⟨_, rfl⟩
  have hS2 := hS
  rw [hS] at HF
  have X1 := Box.new w #[va, vb, .int .i64 segs, .slice ad n cap, .int .i64 ng, .int .i64 ns, .int .i64 st, .int .i64 nv] 63
  have k1 := belNew w (.cells #[va, vb, .int .i64 segs, .slice ad n cap, .int .i64 ng, .int .i64 ns, .int .i64 st, .int .i64 nv] 63)
  obtain ⟨w1, hw1⟩ : ∃ y, w.alloc (.cells #[va, vb, .int .i64 segs, .slice ad n cap, .int .i64 ng, .int .i64 ns, .int .i64 st, .int .i64 nv] 63) = y := ⟨_, rfl⟩
  have z1 : w1.heap.size = w.heap.size + 1 := by rw [← hw1]; simp
  have X2 := Box.new w1 #[.int .i64 0, .int .i64 0, .int .i64 0, .int .i64 0, .slice none 0 0] 56
  have k2 := belNew w1 (.cells #[.int .i64 0, .int .i64 0, .int .i64 0, .int .i64 0, .slice none 0 0] 56)
  obtain ⟨w2, hw2⟩ : ∃ y, w1.alloc (.cells #[.int .i64 0, .int .i64 0, .int .i64 0, .int .i64 0, .slice none 0 0] 56) = y := ⟨_, rfl⟩
  have z2 : w2.heap.size = w.heap.size + 2 := by rw [← hw2]; simp; omega
  have X3 := Box.new w2 #[.int .i64 S, .int .i64 ng, .int .i64 ns, .int .i64 nv, .slice none 0 0] 56
  have k3 := belNew w2 (.cells #[.int .i64 S, .int .i64 ng, .int .i64 ns, .int .i64 nv, .slice none 0 0] 56)
  obtain ⟨w3, hw3⟩ : ∃ y, w2.alloc (.cells #[.int .i64 S, .int .i64 ng, .int .i64 ns, .int .i64 nv, .slice none 0 0] 56) = y := ⟨_, rfl⟩
  have z3 : w3.heap.size = w.heap.size + 3 := by rw [← hw3]; simp; omega
  rw [hw1] at k1 X1
  rw [hw2] at k2 X2
  rw [hw3] at k3 X3
  rw [z1] at X2
  rw [z2] at X3
  have I0 : CkL w w3.heap.size w.heap.size (w.heap.size + 1) (w.heap.size + 2) 63 56 #[va, vb, .int .i64 segs, .slice ad n cap, .int .i64 ng, .int .i64 ns, .int .i64 st, .int .i64 nv] S ng ns nv w3 none 0 0 [] :=
    ⟨(X1.later k2).later k3, X2.later k3, X3, RBuf.nil rfE w3, (k1.trans (k2.mono k1.size)).trans (k3.mono (k1.trans (k2.mono k1.size)).size), ⟨by omega, by omega⟩, ⟨by omega, by omega, by omega⟩⟩
  have HI0 := Lib.hid I0
  have HB : Hid (w.heap.size ≤ w3.heap.size) := by show _ ≤ _; omega
  obtain ⟨B, hB⟩ : ∃ B, w3.heap.size = B := ⟨_, rfl⟩
  rw [hB] at HI0 HB
  have HW : Hid (((w.alloc (.cells #[va, vb, .int .i64 segs, .slice ad n cap, .int .i64 ng, .int .i64 ns, .int .i64 st, .int .i64 nv] 63)).alloc (.cells #[.int .i64 0, .int .i64 0, .int .i64 0, .int .i64 0, .slice none 0 0] 56)).alloc (.cells #[.int .i64 S, .int .i64 ng, .int .i64 ns, .int .i64 nv, .slice none 0 0] 56) = w3) := by show _ = _; rw [hw1, hw2, hw3]
  clear X1 X2 X3 k1 k2 k3 z1 z2 z3 hw1 hw2 hw3 I0 hB hS
  go_enter Try.func19, Try.ntmps19
  go_wp2_with fail
  rw [HW.out]
  clear HW hS2
  go_loopw [19] (fun iv wr => ∃ (i : Nat) (a : Option Addr) (c : Nat), i ≤ n ∧ iv = .int .i64 (i : Int) ∧ CkL w B w.heap.size (w.heap.size + 1) (w.heap.size + 2) 63 56 #[va, vb, .int .i64 segs, .slice ad n cap, .int .i64 ng, .int .i64 ns, .int .i64 st, .int .i64 nv] S ng ns nv wr a i c ((us.take i).map (fun s => (s.no, s.gen)))) (fun iv _ => n - (intOf iv).toNat)
  case atStart => exact ⟨0, none, 0, by omega, rfl, HI0.out⟩
  case round =>
    clear HI0
    obtain ⟨i, a, c, hi, rfl, I⟩ := hrel
    by_cases hlt : i < n
    · obtain ⟨s, hgs⟩ : ∃ s, us[i]? = some s := ⟨_, List.getElem?_eq_getElem (by rw [HN.out]; exact hlt)⟩
      obtain ⟨gp, op, am, nm, cm, rfl, p0, p1, p2, p3, _⟩ := HR.out _ I.bel i _ hgs
      have HT : Hid ((us.take (i + 1)).map (fun s => (s.no, s.gen)) = (us.take i).map (fun s => (s.no, s.gen)) ++ [(s.no, s.gen)]) := refs_take hgs
      obtain ⟨rs, hrs⟩ : ∃ rs, (us.take i).map (fun s => (s.no, s.gen)) = rs := ⟨_, rfl⟩
      have hln : rs.length = i := by rw [← hrs, List.length_map, List.length_take, HN.out]; omega
      have HLN := Lib.hid hln
      rw [hrs] at I HT
      clear hrs hgs hln
      obtain ⟨no, gen, ende, its⟩ := s
      simp only at p0 p1 p2 p3 HT
      have hi0 : (0 : Int) ≤ (i : Int) := by omega
      have hi1 : (i : Int) < (n : Int) := by omega
      have XS := Box.new wr #[.int .i64 no, .int .i64 gen, .int .i64 ende, .slice am nm cm] 90
      have kS := belNew wr (.cells #[.int .i64 no, .int .i64 gen, .int .i64 ende, .slice am nm cm] 90)
      have I1 := I.later kS
      clear I kS
      go_upto_region 5 with fail
      clear p0 p1 p2 p3
      generalize wr.alloc (.cells #[.int .i64 no, .int .i64 gen, .int .i64 ende, .slice am nm cm] 90) = wS at XS I1 ⊢
      obtain ⟨gS, hgS⟩ : ∃ gS, wr.heap.size = gS := ⟨_, rfl⟩
      rw [hgS] at XS ⊢
      clear hgS
      have s0 := XS.cell 0 _ rfl
      have s1 := XS.cell 1 _ rfl
      have c4 := I1.chk.cell 4 _ rfl
      have kL := belNew wS (.cells #[.int .i64 no, .int .i64 gen] 92)
      have I2 := Lib.hid (I1.later kL)
      have HL := Lib.hid (RBuf.lit1 rfE wS (no, gen))
      clear XS I1 kL
      go_wp2_with (at_builtin; refine wpList_append_rows rfl _ _ rfE rfl B _ rs rfl I2.out.refs wS.heap.size _ [(no, gen)] rfl HL.out (by show _ * 17 ≤ _; simp only [List.length_cons, List.length_nil]; have := HLN.out; omega) ?_; intro v8 w8 r8 g8 at8; obtain ⟨a8, c8, e8⟩ := r8.form; simp only [List.length_append, List.length_cons, List.length_nil, Nat.zero_add] at e8; rw [HLN.out] at e8; subst e8; obtain ⟨d4, f4⟩ := I2.out.cells g8; have I9 := Lib.hid (I2.out.push a8 _ c8 r8 g8))
      exact ⟨⟨i + 1, a8, c8, by omega, by simp, by rw [HT.out]; exact I9.out⟩, by first | omega | (simp [intOf]; omega)⟩
    · have hin : i = n := by omega
      have HE : Hid ((us.take n).map (fun s => (s.no, s.gen)) = (us.take i).map (fun s => (s.no, s.gen))) := by show _ = _; rw [hin]
      have HLN : Hid (((us.take i).map (fun s => (s.no, s.gen))).length = i) := by show _ = _; rw [List.length_map, List.length_take, HN.out]; omega
      obtain ⟨rs, hrs⟩ : ∃ rs, (us.take i).map (fun s => (s.no, s.gen)) = rs := ⟨_, rfl⟩
      rw [hrs] at I HE HLN
      clear hrs hin
      rw [HE.out] at HF
      obtain ⟨x0, x1, x2, x3, x4, _⟩ := I.chk.fiveC
      obtain ⟨y0, y1, y2, y3, y4, f0, f1, f2, f3, f4⟩ := I.res.fiveC
      have R5 := I.res.set5C (.int .i64 S) (.int .i64 ng) (.int .i64 ns) (.int .i64 nv) (.slice a i c)
      obtain ⟨u0, u1, u2, u3, u4, _⟩ := R5.fiveC
      have HD := Lib.hid (I.refs.set5C (g := w.heap.size + 1) I.bel HB.out (by have := I.lt; omega) (by omega) (.int .i64 S) (.int .i64 ng) (.int .i64 ns) (.int .i64 nv) (.slice a i c))
      have hge : ¬ (i : Int) < (n : Int) := by omega
      clear I R5 HE
      go_wp2
      refine bodyPost_ret (v := .agg #[.int .i64 S, .int .i64 ng, .int .i64 ns, .int .i64 nv, .slice a i c]) (by simp [results, Try.results19, go_sem, u0, u1, u2, u3, u4]) rfl ?_
      refine ⟨a, c, by rw [HF.out]; simp only; rw [HLN.out], ?_⟩
      rw [HF.out]
      simp only
      rw [HLN.out]
      exact HD.out

end Go.Proofs.Ytmahicpheimnjaa
