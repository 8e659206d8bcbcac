/- Texts of our own, joined. -/
import Derived.Test.YtleaahdnpjnmlaaGreatDoorJqx
/- GainOf of the program. -/
namespace Go.Proofs.YtleaahdnpjnmlaaGreatDoor
open Go.RowKit

def giG (g : Nat → Int) (n : Nat) : List Int := (List.range n).map g
theorem giG_len (g : Nat → Int) (n : Nat) : (giG g n).length = n := by unfold giG; simp
theorem giG_at (g : Nat → Int) {n i : Nat} (h : i < n) : (giG g n)[i]? = some (g i) := by unfold giG; simp [h]
theorem giG_same {g g' : Nat → Int} {n : Nat} (h : ∀ j, j < n → g j = g' j) : giG g n = giG g' n := by
  apply List.ext_getElem?
  intro j
  by_cases hj : j < n
  · rw [giG_at _ hj, giG_at _ hj, h j hj]
  · rw [List.getElem?_eq_none (by rw [giG_len]; omega), List.getElem?_eq_none (by rw [giG_len]; omega)]
theorem giG_set (g : Nat → Int) (n i : Nat) (v : Int) : (giG g n).set i v = giG (fun j => if j = i then v else g j) n := by
  apply List.ext_getElem?
  intro j
  by_cases hj : j < n
  · rw [giG_at _ hj]
    by_cases c : j = i
    · subst c
      rw [List.getElem?_set_self (by rw [giG_len]; exact hj), if_pos rfl]
    · rw [List.getElem?_set_ne (fun e => c e.symm), giG_at _ hj, if_neg c]
  · rw [List.getElem?_eq_none (by rw [List.length_set, giG_len]; omega), List.getElem?_eq_none (by rw [giG_len]; omega)]
theorem giG_zero (n : Nat) : List.replicate n (0 : Int) = giG (fun _ => 0) n := by
  apply List.ext_getElem?
  intro j
  by_cases hj : j < n
  · rw [giG_at _ hj, List.getElem?_replicate, if_pos hj]
  · rw [List.getElem?_eq_none (by rw [List.length_replicate]; omega), List.getElem?_eq_none (by rw [giG_len]; omega)]
theorem gns_G (S : So) (n : Nat) : gns S n = giG (gnI S) n := rfl

set_option maxRecDepth 100000 in
set_option maxHeartbeats 8000000 in
theorem mayBe_any (S : So) (v : Value) (k : Nat) (s : Sg) (w : World) (h : SoRd w v S) (hL : S.lean) (hs : S.g.used[k]? = some s) :
    Calls Tryz.prog 44 #[v, .int .i64 (k : Int)] w fun e w' => e = .returned (.bool (decide (k + 1 < S.g.used.length) && !(frI S.fr s.no))) ∧ Below w.heap.size w w' := by
  have hlk : k < S.g.used.length := (List.getElem?_eq_some_iff.1 hs).1
  obtain ⟨va, vb, au, af, cu, cf, rfl, _, hu, _⟩ := h.opened
  obtain ⟨ad, cap, ev, hrow⟩ := hu.segs
  injection ev with e1 e2 e3
  subst e1 e3
  have b0 := belNew w (.cells #[va, vb, .int .i64 S.g.segs, .slice au S.g.used.length cu, .int .i64 S.g.ng, .int .i64 S.g.ns, .int .i64 S.g.st, .int .i64 S.g.nv, .slice af S.fr.length cf] 41)
  have q0 := Box.new w #[va, vb, .int .i64 S.g.segs, .slice au S.g.used.length cu, .int .i64 S.g.ng, .int .i64 S.g.ns, .int .i64 S.g.st, .int .i64 S.g.nv, .slice af S.fr.length cf] 41
  have hun : S.g.used.length ≤ 1048576 := (S.g.lean_small hL.1).2.1
  have HFC : Hid (∀ (no : Int) X, Below w.heap.size w X → Calls Tryz.prog 61 #[.agg #[va, vb, .int .i64 S.g.segs, .slice au S.g.used.length cu, .int .i64 S.g.ng, .int .i64 S.g.ns, .int .i64 S.g.st, .int .i64 S.g.nv, .slice af S.fr.length cf], .int .i64 no] X fun e w' => e = .returned (.bool (frI S.fr no)) ∧ Below X.heap.size X w') := fun no X hX => isFreed_any S _ no X (h.later hX) hL.2
  obtain ⟨R, hRR⟩ : ∃ R, (decide (k + 1 < S.g.used.length) && !(frI S.fr s.no)) = R := ⟨_, rfl⟩
  have HRR := Lib.hid hRR
  rw [hRR]
  clear hRR
  have HR : Hid _ := hrow
  clear hu hrow h hL e2
  obtain ⟨W, hW⟩ : ∃ W, w.alloc (.cells #[va, vb, .int .i64 S.g.segs, .slice au S.g.used.length cu, .int .i64 S.g.ng, .int .i64 S.g.ns, .int .i64 S.g.st, .int .i64 S.g.nv, .slice af S.fr.length cf] 41) = W := ⟨_, rfl⟩
  rw [hW] at b0 q0
  have HW := Lib.hid hW
  clear hW
  obtain ⟨n, hn⟩ : ∃ n, S.g.used.length = n := ⟨_, rfl⟩
  have HN := Lib.hid hn
  obtain ⟨m, hm⟩ : ∃ m, S.fr.length = m := ⟨_, rfl⟩
  simp only [hn, hm] at q0 HW HFC hlk HRR ⊢
  rw [hn] at hun
  clear hm hn
  obtain ⟨g0, hg0⟩ : ∃ g0, w.heap.size = g0 := ⟨_, rfl⟩
  rw [hg0] at q0
  have HG0 := Lib.hid hg0
  clear hg0
  have hws : IntKind.i64.wrap ((n : Int) - 1) = (n : Int) - 1 := IntWalk.i64_in _ ⟨by omega, by omega⟩
  have hw2 : IntKind.i64.wrap ((n : Int) - 2) = (n : Int) - 2 := IntWalk.i64_in _ ⟨by omega, by omega⟩
  go_enter Tryz.func44, Tryz.ntmps44
  go_upto_region 1 with fail
  rw [HW.out, HG0.out]
  have HX : Hid (∀ X, Below W.heap.size W X → (X.cell? ⟨g0, 0, none⟩ = some (va) ∧ X.cell? ⟨g0, 1, none⟩ = some (vb) ∧ X.cell? ⟨g0, 2, none⟩ = some (.int .i64 S.g.segs) ∧ X.cell? ⟨g0, 3, none⟩ = some (.slice au n cu) ∧ X.cell? ⟨g0, 4, none⟩ = some (.int .i64 S.g.ng) ∧ X.cell? ⟨g0, 5, none⟩ = some (.int .i64 S.g.ns) ∧ X.cell? ⟨g0, 6, none⟩ = some (.int .i64 S.g.st) ∧ X.cell? ⟨g0, 7, none⟩ = some (.int .i64 S.g.nv) ∧ X.cell? ⟨g0, 8, none⟩ = some (.slice af m cf)) ∧ Below w.heap.size w X) := fun X hX => by
    obtain ⟨c, _⟩ := (q0.later hX).nineL
    exact ⟨c, b0.trans (hX.mono b0.size)⟩
  obtain ⟨ga, oa, am, nm, cm, rfl, a0, _⟩ := HR.out _ b0 k s hs
  have hgl : ga < W.heap.size := World.block_lt_of_cell? _ _ a0
  have HX : Hid (∀ X, Below W.heap.size W X → ((X.cell? ⟨g0, 0, none⟩ = some (va) ∧ X.cell? ⟨g0, 1, none⟩ = some (vb) ∧ X.cell? ⟨g0, 2, none⟩ = some (.int .i64 S.g.segs) ∧ X.cell? ⟨g0, 3, none⟩ = some (.slice (some ⟨ga, oa, none⟩) n cu) ∧ X.cell? ⟨g0, 4, none⟩ = some (.int .i64 S.g.ng) ∧ X.cell? ⟨g0, 5, none⟩ = some (.int .i64 S.g.ns) ∧ X.cell? ⟨g0, 6, none⟩ = some (.int .i64 S.g.st) ∧ X.cell? ⟨g0, 7, none⟩ = some (.int .i64 S.g.nv) ∧ X.cell? ⟨g0, 8, none⟩ = some (.slice af m cf)) ∧ X.cell? ⟨ga, oa + k * 4, none⟩ = some (.int .i64 s.no)) ∧ Below w.heap.size w X) := fun X hX => ⟨⟨(HX.out X hX).1, (hX.cell (p := ⟨ga, oa + k * 4, none⟩) hgl).trans a0⟩, (HX.out X hX).2⟩
  have HFS := Lib.hid (HFC.out s.no)
  obtain ⟨D, hD⟩ : ∃ D, frI S.fr s.no = D := ⟨_, rfl⟩
  rw [hD] at HFS HRR
  have hi0 : (0 : Int) ≤ (k : Int) := by omega
  have hi1 : (k : Int) < (n : Int) := by omega
  clear q0 b0 HR hD a0 hgl hs HFC
  by_cases hk : k + 1 < n
  · have hlt : (k : Int) < (n : Int) - 1 := by omega
    have hND := HRR.out
    rw [show decide (k + 1 < n) = true from decide_eq_true hk, Bool.true_and] at hND
    have HND := Lib.hid hND
    clear hND HRR
    go_cut [4] (fun c wx => c = .bool R ∧ Below W.heap.size W wx)
    case first =>
      have kk : Below W.heap.size W W.drew := (Below.refl _ _).drew
      obtain ⟨⟨⟨x0, x1, x2, x3, x4, x5, x6, x7, x8⟩, y0⟩, _⟩ := HX.out _ kk
      go_region_held3 (fun X => (X.cell? ⟨g0, 0, none⟩ = some (va) ∧ X.cell? ⟨g0, 1, none⟩ = some (vb) ∧ X.cell? ⟨g0, 2, none⟩ = some (.int .i64 S.g.segs) ∧ X.cell? ⟨g0, 3, none⟩ = some (.slice (some ⟨ga, oa, none⟩) n cu) ∧ X.cell? ⟨g0, 4, none⟩ = some (.int .i64 S.g.ng) ∧ X.cell? ⟨g0, 5, none⟩ = some (.int .i64 S.g.ns) ∧ X.cell? ⟨g0, 6, none⟩ = some (.int .i64 S.g.st) ∧ X.cell? ⟨g0, 7, none⟩ = some (.int .i64 S.g.nv) ∧ X.cell? ⟨g0, 8, none⟩ = some (.slice af m cf)) ∧ X.cell? ⟨ga, oa + k * 4, none⟩ = some (.int .i64 s.no))
        (first | exact (HX.out _ kk).1)
        (first
          | (go_at_call 61; refine (HFS.out _ (HX.out _ kk).2).mono ?_; rintro e wX ⟨rfl, kX⟩; have kk := kk.trans (kX.mono kk.size)))
      all_goals
        go_wp2_with fail
        go_meet
        exact ⟨by rw [← HND.out]; first | done | rfl | simp, kk⟩
    case rest =>
      obtain ⟨rfl, k5⟩ := hcut
      have bZ := Lib.hid (HX.out _ k5).2
      clear HX HFS
      go_wp2
      go_ret
      exact ⟨rfl, bZ.out⟩
  · have hlt : ¬ ((k : Int) < (n : Int) - 1) := by omega
    have hlt2 : decide ((k : Int) < (n : Int) - 1) = false := decide_eq_false hlt
    have hND := HRR.out
    rw [show decide (k + 1 < n) = false from decide_eq_false hk, Bool.false_and] at hND
    have HND := Lib.hid hND
    clear hND HRR
    have bZ := Lib.hid (fun q => (HX.out _ (belDrewN W q)).2)
    obtain ⟨⟨⟨x0, x1, x2, x3, x4, x5, x6, x7, x8⟩, y0⟩, _⟩ := HX.out _ (Below.refl _ _)
    clear HX HFS
    go_quiet (fail)
    go_wp2
    go_ret
    exact ⟨by rw [← HND.out]; first | done | rfl | simp, bZ.out _⟩

set_option maxRecDepth 100000 in
set_option maxHeartbeats 8000000 in
theorem gains_any (S : So) (v : Value) (w : World) (h : SoRd w v S) (hL : S.lean) (ht : SumTab w) :
    Calls Tryz.prog 26 #[v] w fun e w' => ∃ v', e = .returned v' ∧ RBuf intE w.heap.size w w' v' (gns S S.g.used.length) := by
  obtain ⟨va, vb, au, af, cu, cf, rfl, _, hu, _⟩ := h.opened
  obtain ⟨ad, cap, ev, hrow⟩ := hu.segs
  injection ev with e1 e2 e3
  subst e1 e3
  have b0 := belNew w (.cells #[va, vb, .int .i64 S.g.segs, .slice au S.g.used.length cu, .int .i64 S.g.ng, .int .i64 S.g.ns, .int .i64 S.g.st, .int .i64 S.g.nv, .slice af S.fr.length cf] 41)
  have q0 := Box.new w #[va, vb, .int .i64 S.g.segs, .slice au S.g.used.length cu, .int .i64 S.g.ng, .int .i64 S.g.ns, .int .i64 S.g.st, .int .i64 S.g.nv, .slice af S.fr.length cf] 41
  have hun : S.g.used.length ≤ 1048576 := (S.g.lean_small hL.1).2.1
  have HSZ : Hid (∀ X, Below w.heap.size w X → Calls Tryz.prog 22 #[.agg #[va, vb, .int .i64 S.g.segs, .slice au S.g.used.length cu, .int .i64 S.g.ng, .int .i64 S.g.ns, .int .i64 S.g.st, .int .i64 S.g.nv, .slice af S.fr.length cf]] X fun e w' => ∃ v', e = .returned v' ∧ RBuf intE X.heap.size X w' v' (szs S S.g.used.length)) := fun X hX => liveSizes_any S _ X (h.later hX) hL (ht.later hX)
  have HMB : Hid (∀ (k : Nat) (s : Sg), S.g.used[k]? = some s → ∀ X, Below w.heap.size w X → Calls Tryz.prog 44 #[.agg #[va, vb, .int .i64 S.g.segs, .slice au S.g.used.length cu, .int .i64 S.g.ng, .int .i64 S.g.ns, .int .i64 S.g.st, .int .i64 S.g.nv, .slice af S.fr.length cf], .int .i64 (k : Int)] X fun e w' => e = .returned (.bool (decide (k + 1 < S.g.used.length) && !(frI S.fr s.no))) ∧ Below X.heap.size X w') := fun k s hs X hX => mayBe_any S _ k s X (h.later hX) hL hs
  have HSL : Hid (∀ k, szI S k ≤ 205520896) := fun k => szI_le S hL k
  have HGY : Hid (∀ (k : Nat) (s t : Sg), S.g.used[k]? = some s → S.g.used[S.g.used.length - 1]? = some t → (decide (k + 1 < S.g.used.length) && !(frI S.fr s.no)) = true → gnI S k = gnF (szI S k) t.gen s.gen) := fun k s t hs ht h => by
    simp only [Bool.and_eq_true, decide_eq_true_eq, Bool.not_eq_true'] at h
    exact gnI_yes hs ht h.1 h.2
  have HGN : Hid (∀ (k : Nat) (s : Sg), S.g.used[k]? = some s → (decide (k + 1 < S.g.used.length) && !(frI S.fr s.no)) = false → gnI S k = 0) := fun k s hs h => by
    by_cases c : k + 1 < S.g.used.length
    · rw [decide_eq_true c, Bool.true_and] at h
      exact gnI_freed hs (by simpa using h)
    · exact gnI_head c
  clear ht
  have HR : Hid _ := hrow
  clear hu hrow h hL e2
  obtain ⟨W, hW⟩ : ∃ W, w.alloc (.cells #[va, vb, .int .i64 S.g.segs, .slice au S.g.used.length cu, .int .i64 S.g.ng, .int .i64 S.g.ns, .int .i64 S.g.st, .int .i64 S.g.nv, .slice af S.fr.length cf] 41) = W := ⟨_, rfl⟩
  rw [hW] at b0 q0
  have HW := Lib.hid hW
  clear hW
  obtain ⟨n, hn⟩ : ∃ n, S.g.used.length = n := ⟨_, rfl⟩
  have HN := Lib.hid hn
  obtain ⟨m, hm⟩ : ∃ m, S.fr.length = m := ⟨_, rfl⟩
  simp only [hn, hm] at q0 HW HSZ HMB HGY HGN ⊢
  rw [hn] at hun
  clear hm hn
  obtain ⟨g0, hg0⟩ : ∃ g0, w.heap.size = g0 := ⟨_, rfl⟩
  rw [hg0] at q0
  have HG0 := Lib.hid hg0
  clear hg0
  have hws : IntKind.i64.wrap ((n : Int) - 1) = (n : Int) - 1 := IntWalk.i64_in _ ⟨by omega, by omega⟩
  have hw2 : IntKind.i64.wrap ((n : Int) - 2) = (n : Int) - 2 := IntWalk.i64_in _ ⟨by omega, by omega⟩
  go_enter Tryz.func26, Tryz.ntmps26
  go_upto_region 1 with fail
  rw [HW.out, HG0.out]
  have x3 := q0.cell 3 (.slice au n cu) rfl
  have HQ0 := Lib.hid q0
  have HB0 := Lib.hid b0
  clear q0 b0 HW
  go_upto_region 3 with (at_make; refine wpList_make_rows rfl _ _ intE rfl .i64 .i64 _ _ n rfl rfl rfl rfl (by show 9 * n ≤ _; omega) ?_; intro w1 hr1 hs1)
  clear x3
  have q1 := HQ0.out.later hr1.bel
  have b1 := HB0.out.trans (hr1.bel.mono HB0.out.size)
  obtain ⟨x0, x1, x2, x3, x4, x5, x6, x7, x8⟩ := q1.nineG
  rw [show intE.z0 = (0 : Int) from rfl, giG_zero] at hr1
  go_wp2_with fail
  clear x0 x1 x2 x3 x4 x5 x6 x7 x8
  refine (HSZ.out _ b1).mono ?_
  rintro e w2 ⟨v2, rfl, R2⟩
  obtain ⟨a2, p2, rfl⟩ := R2.form
  have hzl : (szs S n).length = n := szs_len S n
  rw [hzl] at R2 ⊢
  clear hzl
  have HR2 := Lib.hid R2.here
  have k2 := R2.bel
  have HQ := Lib.hid (q1.later k2)
  have HB2 := Lib.hid (b1.trans (k2.mono b1.size))
  have HI1 := Lib.hid (hr1.later k2)
  have HS1 : Hid (W.heap.size < w1.heap.size) := hs1
  have HGW : Hid (g0 < W.heap.size) := HQ0.out.lt
  have HBW := Lib.hid HB0.out
  have HLT : Hid (∀ k, (Value.slice a2 n p2).ownBlock = some k → w1.heap.size ≤ k) := fun k hk => (R2.own.lt k hk).1
  clear R2 k2 q1 b1 hr1 hs1 HSZ HQ0 HB0
  go_wp2_with fail
  go_loopw [17] (fun iv wr => ∃ k : Nat, k ≤ n ∧ iv = .int .i64 (k : Int) ∧ RBuf intE W.heap.size W wr (.slice (some ⟨W.heap.size, 0, none⟩) n n) (giG (fun j => if j < k then gnI S j else 0) n) ∧ Hid (w2.grownBy wr (some W.heap.size))) (fun iv _ => n - (intOf iv).toNat)
  case atStart => exact ⟨0, by omega, rfl, by rw [giG_same (g' := fun _ => 0) (fun j _ => by simp)]; exact HI1.out, grownOfB (Below.refl _ _) _⟩
  case round =>
    clear HI1
    obtain ⟨k, hk, rfl, I, HG⟩ := hrel
    by_cases hlt : k < n
    · obtain ⟨s, hgs⟩ : ∃ s, S.g.used[k]? = some s := ⟨_, List.getElem?_eq_getElem (by rw [HN.out]; exact hlt)⟩
      obtain ⟨t, hgt⟩ : ∃ t, S.g.used[n - 1]? = some t := ⟨_, List.getElem?_eq_getElem (by rw [HN.out]; omega)⟩
      have bX : Below w.heap.size w wr := HBW.out.trans (I.bel.mono HBW.out.size)
      have hsz := HSL.out k
      have hR3 : Rows' intE wr (.slice a2 n p2) (szs S n) := by
        have h8 := HR2.out.shift HG.out (by
          cases hb : (Value.slice a2 n p2).ownBlock with
          | none => exact .inl rfl
          | some q => exact .inr (fun e => by have h7 : q = W.heap.size := Option.some.inj e; have := HLT.out q hb; have := HS1.out; omega))
        exact h8.rows
      obtain ⟨gz, oz, rfl, hcz⟩ := hR3.intAt (szs_len S n) (szs_at S hlt)
      have z0 := hcz wr (Below.refl _ _)
      obtain ⟨ga, oa, am, nm, cm, rfl, a0, a1, a2', a4, rm⟩ := HR.out _ bX k s hgs
      obtain ⟨gb, ob, bm, bn, bc, eb, c0, c1, c2, c4, rb⟩ := HR.out _ bX (n - 1) t hgt
      injection eb with eb
      injection eb with e3 e4
      subst e3 e4
      obtain ⟨x0, x1, x2, x3, x4, x5, x6, x7, x8⟩ := (HQ.out.butG HG.out (fun q hq e => by have h8 : W.heap.size = q := Option.some.inj hq; have := HGW.out; omega)).nineG
      have HMS := Lib.hid (HMB.out k s hgs wr bX)
      have HY := Lib.hid (HGY.out k s t hgs hgt)
      have HNN := Lib.hid (HGN.out k s hgs)
      obtain ⟨M, hM⟩ : ∃ M, (decide (k + 1 < n) && !(frI S.fr s.no)) = M := ⟨_, rfl⟩
      rw [hM] at HMS HY HNN
      have hgl : ga < wr.heap.size := World.block_lt_of_cell? _ _ a0
      have HA1 : Hid (∀ X, Below wr.heap.size wr X → X.cell? ⟨ga, oa + k * 4 + 1, none⟩ = some (.int .i64 s.gen) ∧ X.cell? ⟨ga, oa + (n - 1) * 4 + 1, none⟩ = some (.int .i64 t.gen)) := fun X hX => ⟨(hX.cell (p := ⟨ga, oa + k * 4 + 1, none⟩) hgl).trans a1, (hX.cell (p := ⟨ga, oa + (n - 1) * 4 + 1, none⟩) hgl).trans c1⟩
      obtain ⟨Z, hZ⟩ : ∃ Z, szI S k = Z := ⟨_, rfl⟩
      rw [hZ] at z0 HY hsz
      have HI := Lib.hid I
      have hi0 : (0 : Int) ≤ (k : Int) := by omega
      have hi1 : (k : Int) < (n : Int) := by omega
      clear hgs hgt bX hR3 hcz a0 a1 a2' a4 rm c0 c1 c2 c4 rb hM hgl hZ I
      go_wp2_with fail
      clear x0 x1 x2 x3 x4 x5 x6 x7 x8 z0
      refine HMS.out.mono ?_
      rintro e w3 ⟨rfl, k3⟩
      clear HMS
      have I3 := HI.out.later k3
      have HG3 : Hid (w2.grownBy w3 (some W.heap.size)) := HG.out.trans (grownOfB k3 _)
      cases M with
      | true =>
        have HY2 := Lib.hid (HY.out rfl)
        obtain ⟨y0, y1⟩ := HA1.out w3 k3
        obtain ⟨nl, hnl⟩ : ∃ nl, n - 1 = nl := ⟨_, rfl⟩
        have hwl : IntKind.i64.wrap ((n : Int) - 1) = (nl : Int) := hws.trans (by omega)
        have hl0 : (0 : Int) ≤ (nl : Int) := by omega
        have hl1 : (nl : Int) < (n : Int) := by omega
        obtain ⟨L0, hL0⟩ : ∃ L0, giG (fun j => if j < k then gnI S j else 0) n = L0 := ⟨_, rfl⟩
        have hfl : L0.length = n := by rw [← hL0]; exact giG_len _ _
        have hold : L0[k]? = some 0 := by rw [← hL0, giG_at _ hlt, if_neg (by omega)]
        rw [hL0] at I3
        have HST : Hid (∀ (q : Nat), (w3.drewN q).cell? ⟨W.heap.size, k, none⟩ = some (.int .i64 0) ∧ (w3.drewN q).frozen? ⟨W.heap.size, k, none⟩ = false ∧ RBuf intE W.heap.size W ((w3.drewN q).setCell ⟨W.heap.size, k, none⟩ (.int .i64 (gnF Z t.gen s.gen))) (.slice (some ⟨W.heap.size, 0, none⟩) n n) (giG (fun j => if j < k + 1 then gnI S j else 0) n) ∧ w2.grownBy ((w3.drewN q).setCell ⟨W.heap.size, k, none⟩ (.int .i64 (gnF Z t.gen s.gen))) (some W.heap.size)) := fun q => by
          have I4 := I3.later (belDrewN w3 q)
          rw [← hfl] at I4
          have hc := I4.cell rfl k 0 hold 0 _ rfl
          rw [show intE.sz = 1 from rfl, Nat.mul_one, Nat.add_zero] at hc
          have hst := RBuf.stored I4 k 0 (gnF Z t.gen s.gen) hold 0 (by decide) (.int .i64 (gnF Z t.gen s.gen)) rfl
          rw [show intE.sz = 1 from rfl, Nat.mul_one, Nat.add_zero, hfl, ← hL0, giG_set] at hst
          refine ⟨hc, I4.loose k, ?_, (HG3.out.trans (grownOfB (belDrewN w3 q) _)).trans (stored_grown _ _ _ _)⟩
          rw [giG_same (g' := fun j => if j = k then gnF Z t.gen s.gen else if j < k then gnI S j else 0) (fun j _ => by
            by_cases c1 : j = k
            · subst c1; rw [if_pos (by omega), if_pos rfl, HY2.out]
            · by_cases c2 : j < k
              · rw [if_pos (by omega), if_neg c1, if_pos c2]
              · rw [if_neg (by omega), if_neg c1, if_neg c2])]
          exact hst
        have HST2 := Lib.hid HST.out
        have HGF : Hid (gnF Z t.gen s.gen = gnF Z t.gen s.gen) := rfl
        rw [hnl] at y1
        clear I3 HA1 HY HNN HI hold hfl hnl hL0 hws hw2
        go_upto_region 7 with fail
        go_quiet (fail)
        obtain ⟨h1, h2, _⟩ := HST.out nq
        clear y0 y1
        unfold gnF at HST2
        go_wp2
        exact ⟨⟨k + 1, by omega, by simp, (HST2.out _).2.2.1, (HST2.out _).2.2.2⟩, by first | omega | (simp [intOf]; omega)⟩
      | false =>
        have HNN2 := Lib.hid (HNN.out rfl)
        have I5 : RBuf intE W.heap.size W w3 (.slice (some ⟨W.heap.size, 0, none⟩) n n) (giG (fun j => if j < k + 1 then gnI S j else 0) n) := by
          rw [giG_same (g' := fun j => if j < k then gnI S j else 0) (fun j _ => by
            by_cases c1 : j = k
            · subst c1; rw [if_pos (by omega), if_neg (by omega), HNN2.out]
            · by_cases c2 : j < k
              · rw [if_pos (by omega), if_pos c2]
              · rw [if_neg (by omega), if_neg c2])]
          exact I3
        have HI5 := Lib.hid I5
        clear I3 I5 HA1 HY HNN HI
        go_wp2
        exact ⟨⟨k + 1, by omega, by simp, HI5.out, HG3⟩, by first | omega | (simp [intOf]; omega)⟩
    · have HE : Hid (gns S n = giG (fun j => if j < k then gnI S j else 0) n) := by show _ = _; rw [gns_G]; exact giG_same (fun j hj => by rw [if_pos (by omega)])
      have HI := Lib.hid I
      clear I
      go_wp2_with fail
      go_ret
      exact ⟨_, rfl, by rw [HE.out]; exact HI.out.down (HBW.out.trans (HI.out.bel.mono HBW.out.size)) HBW.out.size⟩

end Go.Proofs.YtleaahdnpjnmlaaGreatDoor
