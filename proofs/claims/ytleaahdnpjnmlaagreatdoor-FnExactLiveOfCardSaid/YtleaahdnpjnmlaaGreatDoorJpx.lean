/- Texts of our own, joined. -/
import Derived.Test.YtleaahdnpjnmlaaGreatDoorJp
import Derived.Test.YtleaahdnpjnmlaaGreatDoorJs
import Derived.Test.YtleaahdnpjnmlaaGreatDoorJox
/- LiveOf, GainOf and VictimOf of the model; LiveOf and GainOf of the program. -/
namespace Go.Proofs.YtleaahdnpjnmlaaGreatDoor
open Go.RowKit

theorem Rows'.intAt {w : World} {a : Option Addr} {n c : Nat} {l : List Int} (h : Rows' intE w (.slice a n c) l) (hn : l.length = n) {i : Nat} {x : Int} (hx : l[i]? = some x) :
    ∃ g off : Nat, a = some ⟨g, off, none⟩ ∧ ∀ X, Below w.heap.size w X → X.cell? ⟨g, off + i, none⟩ = some (.int .i64 x) := by
  subst hn
  have hi : i < l.length := (List.getElem?_eq_some_iff.1 hx).1
  obtain ⟨g, off, rfl, hcl⟩ := h.at i hi
  refine ⟨g, off, rfl, fun X hX => ?_⟩
  have hcs := hcl X hX 0 _ rfl
  rw [show intE.sz = 1 from rfl, Nat.mul_one, Nat.add_zero, show l[i] = x from Option.some.inj ((List.getElem?_eq_getElem hi).symm.trans hx)] at hcs
  exact hcs

set_option maxRecDepth 100000 in
set_option maxHeartbeats 8000000 in
theorem specLiveOf_any (S : So) (v : Value) (i : Int) (w : World) (h : SoRd w v S) (hL : S.lean) :
    Calls Tryz.prog 7 #[v, .int .i64 i] w fun e w' => e = .returned (.int .i64 (lvO S i)) ∧ Below w.heap.size w w' := by
  obtain ⟨va, vb, au, af, cu, cf, rfl, _, hu, _⟩ := h.opened
  obtain ⟨ad, cap, ev, hrow⟩ := hu.segs
  injection ev with e1 e2 e3
  subst e1 e3
  have b0 := belNew w (.cells #[va, vb, .int .i64 S.g.segs, .slice au S.g.used.length cu, .int .i64 S.g.ng, .int .i64 S.g.ns, .int .i64 S.g.st, .int .i64 S.g.nv, .slice af S.fr.length cf] 41)
  have q0 := Box.new w #[va, vb, .int .i64 S.g.segs, .slice au S.g.used.length cu, .int .i64 S.g.ng, .int .i64 S.g.ns, .int .i64 S.g.st, .int .i64 S.g.nv, .slice af S.fr.length cf] 41
  have hun : S.g.used.length ≤ 1048576 := (S.g.lean_small hL.1).2.1
  have HSZ : Hid (∀ X, Below w.heap.size w X → Calls Tryz.prog 18 #[.agg #[va, vb, .int .i64 S.g.segs, .slice au S.g.used.length cu, .int .i64 S.g.ng, .int .i64 S.g.ns, .int .i64 S.g.st, .int .i64 S.g.nv, .slice af S.fr.length cf]] X fun e w' => ∃ v', e = .returned v' ∧ RBuf intE X.heap.size X w' v' (szs S S.g.used.length)) := fun X hX => specSizes_any S _ X (h.later hX) hL
  obtain ⟨N, hN⟩ : ∃ N, lvO S i = N := ⟨_, rfl⟩
  have HY : Hid (0 ≤ i → i < (S.g.used.length : Int) → N = (szI S i.toNat : Int)) := fun h1 h2 => by rw [← hN]; exact if_pos ⟨h1, h2⟩
  have HNO : Hid (¬ (0 ≤ i ∧ i < (S.g.used.length : Int)) → N = 0) := fun h1 => by rw [← hN]; exact if_neg h1
  rw [hN]
  clear hN
  have HR : Hid _ := hrow
  clear hu hrow h hL e2
  obtain ⟨W, hW⟩ : ∃ W, w.alloc (.cells #[va, vb, .int .i64 S.g.segs, .slice au S.g.used.length cu, .int .i64 S.g.ng, .int .i64 S.g.ns, .int .i64 S.g.st, .int .i64 S.g.nv, .slice af S.fr.length cf] 41) = W := ⟨_, rfl⟩
  rw [hW] at b0 q0
  have HW := Lib.hid hW
  clear hW
  obtain ⟨n, hn⟩ : ∃ n, S.g.used.length = n := ⟨_, rfl⟩
  have HN := Lib.hid hn
  obtain ⟨m, hm⟩ : ∃ m, S.fr.length = m := ⟨_, rfl⟩
  simp only [hn, hm] at q0 HW HSZ HY HNO ⊢
  rw [hn] at hun
  clear hm hn
  obtain ⟨g0, hg0⟩ : ∃ g0, w.heap.size = g0 := ⟨_, rfl⟩
  rw [hg0] at q0
  have HG0 := Lib.hid hg0
  clear hg0
  have hws : IntKind.i64.wrap ((n : Int) - 1) = (n : Int) - 1 := IntWalk.i64_in _ ⟨by omega, by omega⟩
  have hw2 : IntKind.i64.wrap ((n : Int) - 2) = (n : Int) - 2 := IntWalk.i64_in _ ⟨by omega, by omega⟩
  go_enter Tryz.func7, Tryz.ntmps7
  go_upto_region 1 with fail
  rw [HW.out, HG0.out]
  obtain ⟨⟨x0, x1, x2, x3, x4, x5, x6, x7, x8⟩, _⟩ := q0.nineL
  by_cases hin : 0 ≤ i ∧ i ≤ (n : Int) - 1
  · have HV := Lib.hid (HY.out hin.1 (by omega))
    obtain ⟨k, rfl⟩ : ∃ k : Nat, i = (k : Int) := ⟨i.toNat, by omega⟩
    rw [Int.toNat_natCast] at HV
    have hi0 : (0 : Int) ≤ (k : Int) := by omega
    have hi1 : (k : Int) < (n : Int) := by omega
    clear HY HNO
    go_wp2_with fail
    refine (in_yes _ _ _ _ (by omega) (by omega)).mono ?_
    rintro e wx ⟨rfl, rfl⟩
    go_wp2_with fail
    clear x0 x1 x2 x3 x4 x5 x6 x7 x8
    refine (HSZ.out _ b0).mono ?_
    rintro e w1 ⟨v1, rfl, R1⟩
    obtain ⟨a1, p1, rfl⟩ := R1.form
    have hsl : (szs S n).length = n := szs_len S n
    rw [hsl] at R1 ⊢
    obtain ⟨g1, o1, rfl, hc⟩ := R1.rows.intAt hsl (szs_at S (i := k) (by omega))
    have hc1 := hc w1 (Below.refl _ _)
    have bZ := Lib.hid (b0.trans (R1.bel.mono b0.size))
    clear hc R1 HSZ b0 hsl
    go_wp2_with fail
    go_ret
    exact ⟨by rw [HV.out]; first | done | rfl | simp, bZ.out⟩
  · have HV := Lib.hid (HNO.out (by omega))
    clear HY HNO
    go_wp2_with fail
    refine (in_no _ _ _ _ (by omega)).mono ?_
    rintro e wx ⟨rfl, rfl⟩
    go_wp2_with fail
    go_ret
    exact ⟨by rw [HV.out]; first | done | rfl | simp, b0⟩

def nmA (l : List Int) (i : Int) : Int := if 0 ≤ i ∧ i < (l.length : Int) then l.getD i.toNat 0 else 0
set_option maxRecDepth 100000 in
set_option maxHeartbeats 2000000 in
theorem numberAt_any (l : List Int) (v : Value) (i : Int) (w : World) (h : Rows' intE w v l) :
    Calls Tryz.prog 21 #[v, .int .i64 i] w fun e w' => e = .returned (.int .i64 (nmA l i)) ∧ w' = w := by
  obtain ⟨a, cap, rfl⟩ : ∃ (a : Option Addr) (cap : Nat), v = .slice a l.length cap := by
    rcases h with ⟨e, a, c, rfl⟩ | ⟨g, off, c, rfl, _⟩
    · exact ⟨a, c, by rw [e]; rfl⟩
    · exact ⟨_, c, rfl⟩
  obtain ⟨N, hN⟩ : ∃ N, nmA l i = N := ⟨_, rfl⟩
  rw [hN]
  have HV := Lib.hid hN
  clear hN
  obtain ⟨m, hm⟩ : ∃ m, l.length = m := ⟨_, rfl⟩
  rw [hm] at h ⊢
  have HM := Lib.hid hm
  clear hm
  by_cases h0 : i < 0
  · go_enter Tryz.func21, Tryz.ntmps21
    go_wp2
    go_ret
    exact ⟨by rw [← HV.out]; unfold nmA; rw [if_neg (by omega)]; first | done | rfl | simp, rfl⟩
  · by_cases h1 : (m : Int) ≤ i
    · go_enter Tryz.func21, Tryz.ntmps21
      go_wp2
      go_ret
      exact ⟨by rw [← HV.out]; unfold nmA; rw [if_neg (by rw [HM.out]; omega)]; first | done | rfl | simp, rfl⟩
    · obtain ⟨k, rfl⟩ : ∃ k : Nat, i = (k : Int) := ⟨i.toNat, by omega⟩
      obtain ⟨x, hx⟩ : ∃ x, l[k]? = some x := ⟨_, List.getElem?_eq_getElem (by rw [HM.out]; omega)⟩
      obtain ⟨g, off, rfl, hc⟩ := h.intAt HM.out hx
      have hc1 := hc w (Below.refl _ _)
      have HX : Hid (N = x) := by
        show _ = _
        rw [← HV.out]; unfold nmA; rw [if_pos (by rw [HM.out]; omega), Int.toNat_natCast, List.getD_eq_getElem?_getD, hx]; rfl
      have hi0 : (0 : Int) ≤ (k : Int) := by omega
      have hi1 : (k : Int) < (m : Int) := by omega
      clear hx hc HV h
      go_enter Tryz.func21, Tryz.ntmps21
      go_wp2
      go_ret
      exact ⟨by rw [HX.out]; first | done | rfl | simp, rfl⟩

set_option maxRecDepth 100000 in
set_option maxHeartbeats 8000000 in
theorem implLiveOf_any (S : So) (v : Value) (i : Int) (w : World) (h : SoRd w v S) (hL : S.lean) (ht : SumTab w) :
    Calls Tryz.prog 9 #[v, .int .i64 i] w fun e w' => e = .returned (.int .i64 (lvO S i)) ∧ Below w.heap.size w w' := by
  obtain ⟨va, vb, au, af, cu, cf, rfl, _, hu, _⟩ := h.opened
  obtain ⟨ad, cap, ev, hrow⟩ := hu.segs
  injection ev with e1 e2 e3
  subst e1 e3
  have b0 := belNew w (.cells #[va, vb, .int .i64 S.g.segs, .slice au S.g.used.length cu, .int .i64 S.g.ng, .int .i64 S.g.ns, .int .i64 S.g.st, .int .i64 S.g.nv, .slice af S.fr.length cf] 41)
  have q0 := Box.new w #[va, vb, .int .i64 S.g.segs, .slice au S.g.used.length cu, .int .i64 S.g.ng, .int .i64 S.g.ns, .int .i64 S.g.st, .int .i64 S.g.nv, .slice af S.fr.length cf] 41
  have hun : S.g.used.length ≤ 1048576 := (S.g.lean_small hL.1).2.1
  have HSZ : Hid (∀ X, Below w.heap.size w X → Calls Tryz.prog 22 #[.agg #[va, vb, .int .i64 S.g.segs, .slice au S.g.used.length cu, .int .i64 S.g.ng, .int .i64 S.g.ns, .int .i64 S.g.st, .int .i64 S.g.nv, .slice af S.fr.length cf]] X fun e w' => ∃ v', e = .returned v' ∧ RBuf intE X.heap.size X w' v' (szs S S.g.used.length)) := fun X hX => liveSizes_any S _ X (h.later hX) hL (ht.later hX)
  obtain ⟨N, hN⟩ : ∃ N, lvO S i = N := ⟨_, rfl⟩
  have HV : Hid (nmA (szs S S.g.used.length) i = N) := by
    show _ = _
    rw [← hN]; unfold nmA lvO; rw [szs_len]
    by_cases c : 0 ≤ i ∧ i < (S.g.used.length : Int)
    · rw [if_pos c, if_pos c, List.getD_eq_getElem?_getD, szs_at S (by omega)]; rfl
    · rw [if_neg c, if_neg c]
  rw [hN]
  clear hN ht
  have HR : Hid _ := hrow
  clear hu hrow h hL e2
  obtain ⟨W, hW⟩ : ∃ W, w.alloc (.cells #[va, vb, .int .i64 S.g.segs, .slice au S.g.used.length cu, .int .i64 S.g.ng, .int .i64 S.g.ns, .int .i64 S.g.st, .int .i64 S.g.nv, .slice af S.fr.length cf] 41) = W := ⟨_, rfl⟩
  rw [hW] at b0 q0
  have HW := Lib.hid hW
  clear hW
  obtain ⟨n, hn⟩ : ∃ n, S.g.used.length = n := ⟨_, rfl⟩
  have HN := Lib.hid hn
  obtain ⟨m, hm⟩ : ∃ m, S.fr.length = m := ⟨_, rfl⟩
  simp only [hn, hm] at q0 HW HSZ HV ⊢
  rw [hn] at hun
  clear hm hn
  obtain ⟨g0, hg0⟩ : ∃ g0, w.heap.size = g0 := ⟨_, rfl⟩
  rw [hg0] at q0
  have HG0 := Lib.hid hg0
  clear hg0
  have hws : IntKind.i64.wrap ((n : Int) - 1) = (n : Int) - 1 := IntWalk.i64_in _ ⟨by omega, by omega⟩
  have hw2 : IntKind.i64.wrap ((n : Int) - 2) = (n : Int) - 2 := IntWalk.i64_in _ ⟨by omega, by omega⟩
  go_enter Tryz.func9, Tryz.ntmps9
  go_upto_region 1 with fail
  rw [HW.out, HG0.out]
  obtain ⟨⟨x0, x1, x2, x3, x4, x5, x6, x7, x8⟩, _⟩ := q0.nineL
  go_wp2_with fail
  clear x0 x1 x2 x3 x4 x5 x6 x7 x8
  refine (HSZ.out _ b0).mono ?_
  rintro e w1 ⟨v1, rfl, R1⟩
  have HA := Lib.hid (numberAt_any _ _ i _ R1.rows)
  have bZ := Lib.hid (b0.trans (R1.bel.mono b0.size))
  rw [HV.out] at HA
  obtain ⟨a1, p1, rfl⟩ := R1.form
  clear R1 HSZ b0
  go_wp2_with fail
  refine HA.out.mono ?_
  rintro e wx ⟨rfl, rfl⟩
  go_wp2_with fail
  go_ret
  exact ⟨rfl, bZ.out⟩

end Go.Proofs.YtleaahdnpjnmlaaGreatDoor
