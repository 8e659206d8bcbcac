/- Texts of our own, joined. -/
import Derived.Test.YtlifgcgoehkinaaGreatDoorJp
import Derived.Test.YtlifgcgoehkinaaGreatDoorJi
import Derived.Test.YtlifgcgoehkinaaGreatDoorJd
import Derived.Test.YtlifgcgoehkinaaGreatDoorJq
/- What is kept of a store and how much of each segment is needed: the model's l12Freed, l12Kept, l13Sizes. -/
namespace Go.Proofs.YtlifgcgoehkinaaGreatDoor
open Go.RowKit

theorem SoRd.opened {w : World} {v : Value} {S : So} (h : SoRd w v S) : ∃ (va vb : Value) (au af : Option Addr) (cu cf : Nat), v = .agg #[va, vb, .int .i64 S.g.segs, .slice au S.g.used.length cu, .int .i64 S.g.ng, .int .i64 S.g.ns, .int .i64 S.g.st, .int .i64 S.g.nv, .slice af S.fr.length cf] ∧ LRd w (.agg #[va, vb, .int .i64 S.g.segs, .slice au S.g.used.length cu, .int .i64 S.g.ng, .int .i64 S.g.ns, .int .i64 S.g.st, .int .i64 S.g.nv]) S.g ∧ GRd w (.slice au S.g.used.length cu) S.g.used ∧ Rows' intE w (.slice af S.fr.length cf) S.fr := by
  obtain ⟨va, vb, vu, vf, rfl, hl, hf⟩ := h
  obtain ⟨va', vb', vu', e, hd, hu⟩ := id hl
  have e3 : vu = vu' := by
    have h3 := congrArg (fun x : Value => match x with | .agg a => a.toList[3]? | _ => none) e
    exact Option.some.inj h3
  subst e3
  obtain ⟨au, cu, rfl, _⟩ := hu.segs
  obtain ⟨af, cf, rfl⟩ : ∃ (a : Option Addr) (cap : Nat), vf = .slice a S.fr.length cap := by
    rcases hf with ⟨e, a, c, rfl⟩ | ⟨g, off, c, rfl, _⟩
    · exact ⟨a, c, by rw [e]; rfl⟩
    · exact ⟨_, c, rfl⟩
  exact ⟨va, vb, au, af, cu, cf, rfl, hl, hu, hf⟩

set_option maxRecDepth 100000 in
set_option maxHeartbeats 2000000 in
theorem specFreed_any (S : So) (v : Value) (no : Int) (w : World) (h : SoRd w v S) (hl : S.fr.length ≤ 1048576) :
    Calls Tryz.prog 21 #[v, .int .i64 no] w fun e w' => e = .returned (.bool (frI S.fr no)) ∧ Below w.heap.size w w' := by
  obtain ⟨va, vb, au, af, cu, cf, rfl, _, _, hf⟩ := h.opened
  have b0 := belNew w (.cells #[va, vb, .int .i64 S.g.segs, .slice au S.g.used.length cu, .int .i64 S.g.ng, .int .i64 S.g.ns, .int .i64 S.g.st, .int .i64 S.g.nv, .slice af S.fr.length cf] 41)
  have c8 := (Box.new w #[va, vb, .int .i64 S.g.segs, .slice au S.g.used.length cu, .int .i64 S.g.ng, .int .i64 S.g.ns, .int .i64 S.g.st, .int .i64 S.g.nv, .slice af S.fr.length cf] 41).cell 8 (.slice af S.fr.length cf) rfl
  have HF := Lib.hid hf
  have HQ : Hid (∀ x ∈ S.fr, eqN no x = true → frI S.fr no = true) := fun x hx h => List.any_eq_true.2 ⟨x, hx, h⟩
  clear hf h
  obtain ⟨n, hn⟩ : ∃ n, S.g.used.length = n := ⟨_, rfl⟩
  rw [hn] at b0 c8 ⊢
  obtain ⟨m, hm⟩ : ∃ m, S.fr.length = m := ⟨_, rfl⟩
  have HM := Lib.hid hm
  rw [hm] at b0 c8 hl ⊢
  clear hm hn
  obtain ⟨W, hW⟩ : ∃ W, w.alloc (.cells #[va, vb, .int .i64 S.g.segs, .slice au n cu, .int .i64 S.g.ng, .int .i64 S.g.ns, .int .i64 S.g.st, .int .i64 S.g.nv, .slice af m cf] 41) = W := ⟨_, rfl⟩
  rw [hW] at b0 c8
  have HW := Lib.hid hW
  clear hW
  obtain ⟨Q, hQ⟩ : ∃ Q, frI S.fr no = Q := ⟨_, rfl⟩
  rw [hQ] at HQ ⊢
  have HE := Lib.hid hQ
  clear hQ
  have HB := Lib.hid b0
  clear b0
  go_enter Tryz.func21, Tryz.ntmps21
  go_upto_region 1 with fail
  rw [HW.out]
  clear HW
  go_wp2
  go_loop [5] (fun iv => ∃ i : Nat, i ≤ m ∧ iv = .int .i64 (i : Int) ∧ Hid (frI (S.fr.take i) no = false)) (fun iv => m - (intOf iv).toNat)
  case atStart => exact ⟨0, by omega, rfl, show _ = _ by simp [frI]⟩
  case round =>
    obtain ⟨i, hi, rfl, HNO⟩ := hrel
    by_cases hlt : i < m
    · obtain ⟨x, hgx⟩ : ∃ x, S.fr[i]? = some x := ⟨_, List.getElem?_eq_getElem (by rw [HM.out]; exact hlt)⟩
      have hxl : i < S.fr.length := by rw [HM.out]; exact hlt
      obtain ⟨g, off, rfl, hcl⟩ := HF.out.at i hxl
      have hcs := hcl W HB.out 0 _ rfl
      rw [show intE.sz = 1 from rfl, Nat.mul_one, Nat.add_zero, show S.fr[i] = x from Option.some.inj ((List.getElem?_eq_getElem hxl).symm.trans hgx)] at hcs
      have HT := Lib.hid (frI_take hgx no)
      rw [HNO.out, Bool.false_or] at HT
      have HFA := Lib.hid (HQ.out x (List.mem_of_getElem? hgx))
      clear hgx hcl hxl HNO
      have hi0 : (0 : Int) ≤ (i : Int) := by omega
      have hi1 : (i : Int) < (m : Int) := by omega
      by_cases hs : x = no
      · have HF2 := Lib.hid (HFA.out (decide_eq_true hs))
        have hs' : (x == no) = true := by rw [hs]; exact beq_self_eq_true _
        clear HFA HT
        go_wp2
        go_ret
        exact ⟨by rw [HF2.out]; first | rfl | simp, HB.out⟩
      · have HF2 : Hid (frI (S.fr.take (i + 1)) no = false) := by show _ = _; rw [HT.out]; exact decide_eq_false hs
        have hs' : (x == no) = false := beq_eq_false_iff_ne.2 hs
        clear HFA HT
        go_wp2
        exact ⟨⟨i + 1, by omega, by simp, HF2⟩, by first | omega | (simp [intOf]; omega)⟩
    · have HF2 : Hid (Q = false) := by
        have h1 := HNO.out
        rw [List.take_of_length_le (by rw [HM.out]; omega)] at h1
        rw [← HE.out]
        exact h1
      clear HNO
      go_wp2
      go_ret
      exact ⟨by rw [HF2.out]; first | rfl | simp, HB.out⟩

set_option maxRecDepth 100000 in
set_option maxHeartbeats 4000000 in
theorem specKept_any (S : So) (v : Value) (w : World) (h : SoRd w v S) (hL : S.lean) :
    Calls Tryz.prog 20 #[v] w fun e w' => ∃ v', e = .returned v' ∧ RBuf itE w.heap.size w w' v' (its (kU S.fr S.g.used)) := by
  obtain ⟨va, vb, au, af, cu, cf, rfl, _, hu, _⟩ := h.opened
  obtain ⟨ad, cap, ev, hrow⟩ := hu.segs
  injection ev with e1 e2 e3
  subst e1 e3
  have b0 := belNew w (.cells #[va, vb, .int .i64 S.g.segs, .slice au S.g.used.length cu, .int .i64 S.g.ng, .int .i64 S.g.ns, .int .i64 S.g.st, .int .i64 S.g.nv, .slice af S.fr.length cf] 41)
  have q0 := Box.new w #[va, vb, .int .i64 S.g.segs, .slice au S.g.used.length cu, .int .i64 S.g.ng, .int .i64 S.g.ns, .int .i64 S.g.st, .int .i64 S.g.nv, .slice af S.fr.length cf] 41
  have hl := S.lean_its hL
  have HFC : Hid (∀ (no : Int) X, Below w.heap.size w X → Calls Tryz.prog 21 #[.agg #[va, vb, .int .i64 S.g.segs, .slice au S.g.used.length cu, .int .i64 S.g.ng, .int .i64 S.g.ns, .int .i64 S.g.st, .int .i64 S.g.nv, .slice af S.fr.length cf], .int .i64 no] X fun e w' => e = .returned (.bool (frI S.fr no)) ∧ Below X.heap.size X w') := fun no X hX => specFreed_any S _ no X (h.later hX) hL.2
  have HR : Hid _ := hrow
  have HIL : Hid (∀ i, (its (kU S.fr (S.g.used.take i))).length ≤ 1048576) := fun i => by
    have h1 := gIts_kU S.fr (S.g.used.take i)
    have h2 := gIts_take_le S.g.used i
    rw [its_len]
    omega
  clear hu hrow h hL e2
  obtain ⟨W, hW⟩ : ∃ W, w.alloc (.cells #[va, vb, .int .i64 S.g.segs, .slice au S.g.used.length cu, .int .i64 S.g.ng, .int .i64 S.g.ns, .int .i64 S.g.st, .int .i64 S.g.nv, .slice af S.fr.length cf] 41) = W := ⟨_, rfl⟩
  rw [hW] at b0 q0
  have HW := Lib.hid hW
  clear hW
  obtain ⟨n, hn⟩ : ∃ n, S.g.used.length = n := ⟨_, rfl⟩
  have HN := Lib.hid hn
  obtain ⟨m, hm⟩ : ∃ m, S.fr.length = m := ⟨_, rfl⟩
  rw [hn, hm] at q0 HW HFC ⊢
  rw [hn] at hl
  clear hm hn
  have I0 := RBuf.fresh itE W
  obtain ⟨g0, hg0⟩ : ∃ g0, w.heap.size = g0 := ⟨_, rfl⟩
  rw [hg0] at q0
  have HG0 := Lib.hid hg0
  clear hg0
  go_enter Tryz.func20, Tryz.ntmps20
  go_upto_region 1 with fail
  rw [HW.out, HG0.out]
  have HQ := Lib.hid q0
  have HB0 := Lib.hid b0
  clear q0 b0 HW
  go_wp2
  go_loopw [3, 4] (fun v iv wr => ∃ k : Nat, k ≤ n ∧ iv = .int .i64 (k : Int) ∧ RBuf itE W.heap.size W wr v (its (kU S.fr (S.g.used.take k)))) (fun _ iv _ => n - (intOf iv).toNat)
  case atStart => exact ⟨0, by omega, rfl, I0⟩
  case round =>
    clear I0
    obtain ⟨k, hk, rfl, I⟩ := hrel
    by_cases hlt : k < n
    · obtain ⟨s, hgs⟩ : ∃ s, S.g.used[k]? = some s := ⟨_, List.getElem?_eq_getElem (by rw [HN.out]; exact hlt)⟩
      have bW := HB0.out.trans (I.bel.mono HB0.out.size)
      obtain ⟨ga, oa, am, nm, cm, rfl, a0, a1, a2, a4, rm⟩ := HR.out _ bW k s hgs
      have hgl : ga < wr.heap.size := World.block_lt_of_cell? _ _ a0
      have HX : Hid (∀ X, Below wr.heap.size wr X → ((X.cell? ⟨g0, 0, none⟩ = some (va) ∧ X.cell? ⟨g0, 1, none⟩ = some (vb) ∧ X.cell? ⟨g0, 2, none⟩ = some (.int .i64 S.g.segs) ∧ X.cell? ⟨g0, 3, none⟩ = some (.slice (some ⟨ga, oa, none⟩) n cu) ∧ X.cell? ⟨g0, 4, none⟩ = some (.int .i64 S.g.ng) ∧ X.cell? ⟨g0, 5, none⟩ = some (.int .i64 S.g.ns) ∧ X.cell? ⟨g0, 6, none⟩ = some (.int .i64 S.g.st) ∧ X.cell? ⟨g0, 7, none⟩ = some (.int .i64 S.g.nv) ∧ X.cell? ⟨g0, 8, none⟩ = some (.slice af m cf)) ∧ X.cell? ⟨ga, oa + k * 4, none⟩ = some (.int .i64 s.no)) ∧ X.cell? ⟨ga, oa + k * 4 + 3, none⟩ = some (.slice am nm cm) ∧ Below w.heap.size w X) := fun X hX => by
        obtain ⟨c, _⟩ := (HQ.out.later (I.bel.trans (hX.mono I.bel.size))).nineL
        exact ⟨⟨c, (hX.cell (p := ⟨ga, oa + k * 4, none⟩) hgl).trans a0⟩, (hX.cell (p := ⟨ga, oa + k * 4 + 3, none⟩) hgl).trans a4, bW.trans (hX.mono bW.size)⟩
      have HM := Lib.hid rm
      obtain ⟨us, hus⟩ : ∃ us, its (kU S.fr (S.g.used.take k)) = us := ⟨_, rfl⟩
      have HKN : Hid (frI S.fr s.no = true → its (kU S.fr (S.g.used.take (k + 1))) = us) := fun c => by rw [← hus, kU_take_no hgs c]
      have HTY : Hid (frI S.fr s.no = false → its (kU S.fr (S.g.used.take (k + 1))) = us ++ s.items) := fun c => by rw [← hus]; exact its_take_kept hgs c
      rw [hus] at I
      have HFS := Lib.hid (HFC.out s.no)
      have hlen0 := HIL.out (k + 1)
      have hi0 : (0 : Int) ≤ (k : Int) := by omega
      have hi1 : (k : Int) < (n : Int) := by omega
      obtain ⟨D, hD⟩ : ∃ D, frI S.fr s.no = D := ⟨_, rfl⟩
      rw [hD] at HFS HKN HTY
      obtain ⟨ND, hND⟩ : ∃ ND, (!D) = ND := ⟨_, rfl⟩
      clear hgs rm a0 a1 a2 a4 bW hD hus
      have HI := Lib.hid I
      clear I
      obtain ⟨a3, p3, rfl⟩ := HI.out.form
      obtain ⟨c3, _⟩ : wr.cell? ⟨g0, 3, none⟩ = some (.slice (some ⟨ga, oa, none⟩) n cu) ∧ True := ⟨(HX.out wr (Below.refl _ _)).1.1.2.2.2.1, trivial⟩
      go_upto_region 5 with fail
      go_cut [23] (fun c wx => c = .bool ND ∧ Below wr.heap.size wr wx)
      case first =>
        have kk : Below wr.heap.size wr wr.drew := (Below.refl _ _).drew
        obtain ⟨⟨⟨x0, x1, x2, x3, x4, x5, x6, x7, x8⟩, y0⟩, _, _⟩ := HX.out _ kk
        clear c3 HM HKN HTY HI
        go_region_held3 (fun X => (X.cell? ⟨g0, 0, none⟩ = some (va) ∧ X.cell? ⟨g0, 1, none⟩ = some (vb) ∧ X.cell? ⟨g0, 2, none⟩ = some (.int .i64 S.g.segs) ∧ X.cell? ⟨g0, 3, none⟩ = some (.slice (some ⟨ga, oa, none⟩) n cu) ∧ X.cell? ⟨g0, 4, none⟩ = some (.int .i64 S.g.ng) ∧ X.cell? ⟨g0, 5, none⟩ = some (.int .i64 S.g.ns) ∧ X.cell? ⟨g0, 6, none⟩ = some (.int .i64 S.g.st) ∧ X.cell? ⟨g0, 7, none⟩ = some (.int .i64 S.g.nv) ∧ X.cell? ⟨g0, 8, none⟩ = some (.slice af m cf)) ∧ X.cell? ⟨ga, oa + k * 4, none⟩ = some (.int .i64 s.no))
          (first | exact (HX.out _ kk).1)
          (first | (go_at_call 21; refine (HFS.out _ (HX.out _ kk).2.2).mono ?_; rintro e wX ⟨rfl, kX⟩; have kk := kk.trans (kX.mono kk.size)))
        all_goals
          go_wp2_with fail
          go_meet
          exact ⟨by first | rfl | rw [hND] | simp [hND], kk⟩
      case rest =>
        obtain ⟨rfl, k5⟩ := hcut
        cases D with
        | true =>
          obtain rfl : ND = false := hND.symm
          have HK2 := Lib.hid (HKN.out rfl)
          clear c3
          go_wp2
          exact ⟨⟨k + 1, by omega, by simp, by rw [HK2.out]; exact HI.out.later k5⟩, by first | omega | (simp [intOf]; omega)⟩
        | false =>
          obtain rfl : ND = true := hND.symm
          have HK2 := Lib.hid (HTY.out rfl)
          rw [HK2.out, List.length_append] at hlen0
          obtain ⟨⟨⟨x0, x1, x2, x3, x4, x5, x6, x7, x8⟩, y0⟩, y3, bX⟩ := HX.out _ k5
          have HM2 := Lib.hid (HM.out.later bX)
          have HI2 := Lib.hid (HI.out.later k5)
          clear HKN HTY HM HI x0 x1 x2 x4 x5 x6 x7 x8 c3 HX HFS bX
          go_wp2_with (at_builtin; refine wpList_append_rd rfl _ _ itE rfl W.heap.size _ us rfl HI2.out.here _ s.items rfl HM2.out (by show _ * 97 ≤ _; omega) ?_; intro v6 w6 r6 g6 at6)
          exact ⟨⟨k + 1, by omega, by simp, by rw [HK2.out]; exact ⟨r6.own, HI2.out.bel.grown g6 HI2.out.le (fun q hq => (HI2.out.own.lt q hq).1), r6.le⟩⟩, by first | omega | (simp [intOf]; omega)⟩
    · have HE : Hid (its (kU S.fr S.g.used) = its (kU S.fr (S.g.used.take k))) := by show _ = _; rw [List.take_of_length_le (by rw [HN.out]; omega)]
      have c3 := ((HQ.out.later I.bel).nineL).1.2.2.2.1
      have HI := Lib.hid I
      clear I
      go_wp2
      go_ret
      exact ⟨_, rfl, by rw [HE.out]; exact HI.out.down (HB0.out.trans (HI.out.bel.mono HB0.out.size)) HB0.out.size⟩

end Go.Proofs.YtlifgcgoehkinaaGreatDoor
