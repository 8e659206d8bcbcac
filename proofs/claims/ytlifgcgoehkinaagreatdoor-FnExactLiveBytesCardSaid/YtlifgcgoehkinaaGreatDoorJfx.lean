/- Texts of our own, joined. -/
import Derived.Test.YtlifgcgoehkinaaGreatDoorJcx
import Derived.Test.YtlifgcgoehkinaaGreatDoorJex
import Derived.Deep.RegionHeld3
import Derived.Deep.QuietTactic
import Derived.BigQuiet
import Derived.WalkSmall
/- The program's tellers: the place of who tells each subject; and the list of closures. -/
namespace Go.Proofs.YtlifgcgoehkinaaGreatDoor
open Go.RowKit

set_option maxRecDepth 100000 in
set_option maxHeartbeats 1000000 in
theorem subjectOf_any (r : Rc) (w : World) : Calls Tryz.prog 68 #[r.v] w fun e w' => e = .returned (.agg #[.int .i64 r.kind, .int .i64 r.valid, .int .i64 r.uid]) ∧ Below w.heap.size w w' := by
  have X1 := (Box.new w r.cs 66).later (belNew _ (.cells #[.int .i64 0, .int .i64 0, .int .i64 0] 118))
  have X2 : Box ((w.alloc (.cells r.cs 66)).alloc (.cells #[.int .i64 0, .int .i64 0, .int .i64 0] 118)) (w.heap.size + 1) #[.int .i64 0, .int .i64 0, .int .i64 0] 118 := by
    have := Box.new (w.alloc (.cells r.cs 66)) #[.int .i64 0, .int .i64 0, .int .i64 0] 118
    rwa [show (w.alloc (.cells r.cs 66)).heap.size = w.heap.size + 1 from by simp] at this
  have b1 : Below w.heap.size w ((w.alloc (.cells r.cs 66)).alloc (.cells #[.int .i64 0, .int .i64 0, .int .i64 0] 118)) := ((Below.refl _ _).alloc (Nat.le_refl _) _).alloc (by simp) _
  obtain ⟨x0, x1, x2, _⟩ := X1.rec
  obtain ⟨K, V, U, N, FL, US, NM, TX⟩ := r
  unfold Rc.v
  unfold Rc.cs at *
  simp only at *
  clear X1
  go_enter Tryz.func68, Tryz.ntmps68
  go_upto_region 1 with fail
  generalize (w.alloc (.cells #[.int .i64 K, .int .i64 V, .int .i64 U, .int .i64 N, .int .i64 FL, .string US, .string NM, .string TX] 66)).alloc (.cells #[.int .i64 0, .int .i64 0, .int .i64 0] 118) = w1 at x0 x1 x2 X2 b1 ⊢
  obtain ⟨y0, y1, y2, f0, f1, f2⟩ := X2.three
  have X3 : Box (((w1.setCell ⟨w.heap.size + 1, 0, none⟩ (.int .i64 K)).setCell ⟨w.heap.size + 1, 1, none⟩ (.int .i64 V)).setCell ⟨w.heap.size + 1, 2, none⟩ (.int .i64 U)) (w.heap.size + 1) #[.int .i64 K, .int .i64 V, .int .i64 U] 118 := X2.set3 (.int .i64 K) (.int .i64 V) (.int .i64 U)
  obtain ⟨z0, z1, z2, _⟩ := X3.three
  have bE := Lib.hid (below_set3 b1 (show w.heap.size ≤ w.heap.size + 1 by omega) (.int .i64 K) (.int .i64 V) (.int .i64 U))
  clear X2 X3
  go_wp2
  refine bodyPost_ret (v := .agg #[.int .i64 K, .int .i64 V, .int .i64 U]) (by simp [results, Tryz.results68, go_sem, z0, z1, z2]) rfl ⟨rfl, bE.out⟩

set_option maxRecDepth 100000 in
set_option maxHeartbeats 8000000 in
theorem tellerPlaces_any (l : List Itm) (v : Value) (w : World) (h : Rows' itE w v l) (hok : itemsOk l) :
    Calls Tryz.prog 66 #[v] w fun e w' => ∃ gM, e = .returned (.map (some gM)) ∧ w.heap.size ≤ gM ∧ MapIs sjK inN w' gM l.length (telP l l.length) ∧ Below w.heap.size w w' := by
  obtain ⟨ad, cap, rfl, hrow⟩ := h.items
  have HR := Lib.hid hrow
  have HOK := Lib.hid hok
  have HTI := Lib.hid (fun i hi => telI l i hi)
  have hl : l.length ≤ 200 := hok.2.2
  clear h hrow hok
  obtain ⟨n, hn⟩ : ∃ n, l.length = n := ⟨_, rfl⟩
  rw [hn] at hl HTI ⊢
  have HN := Lib.hid hn
  clear hn
  have M0 := MapIs.made sjK inN w
  have b1 : Below w.heap.size w (w.alloc (.map #[] 0)) := (Below.refl _ _).alloc (Nat.le_refl _) _
  have hmm := @run_makeMap Tryz.prog
  go_enter Tryz.func66, Tryz.ntmps66
  go_wp2
  clear hmm
  generalize w.alloc (.map #[] 0) = w1 at M0 b1 ⊢
  obtain ⟨gM, hgM⟩ : ∃ gM, w.heap.size = gM := ⟨_, rfl⟩
  rw [hgM] at M0
  rw [hgM]
  have HGM : Hid (w.heap.size ≤ gM) := by show _ ≤ _; omega
  clear hgM
  go_loopw [12] (fun iv wr => ∃ i : Nat, i ≤ n ∧ iv = .int .i64 (i : Int) ∧ MapIs sjK inN wr gM i (telP l i) ∧ Below w.heap.size w wr) (fun iv _ => n - (intOf iv).toNat)
  case atStart => exact ⟨0, by omega, rfl, M0, b1⟩
  case round =>
    clear M0 b1
    obtain ⟨i, hi, rfl, MM, bW⟩ := hrel
    by_cases hlt : i < n
    · obtain ⟨x, hgx⟩ : ∃ x, l[i]? = some x := ⟨_, List.getElem?_eq_getElem (by rw [HN.out]; exact hlt)⟩
      obtain ⟨gp, op, rfl, p0, p1, p2, p3, p4, p5, p6, p7, p8⟩ := HR.out _ bW i _ hgx
      have HRW : Hid (∀ X, Below w.heap.size w X → ∀ (j : Nat) (y : Itm), l[j]? = some y → X.cell? ⟨gp, op + j * 9, none⟩ = some (.int .i64 y.1) ∧ X.cell? ⟨gp, op + j * 9 + 1, none⟩ = some (.int .i64 y.2.kind) ∧ X.cell? ⟨gp, op + j * 9 + 2, none⟩ = some (.int .i64 y.2.valid) ∧ X.cell? ⟨gp, op + j * 9 + 3, none⟩ = some (.int .i64 y.2.uid) ∧ X.cell? ⟨gp, op + j * 9 + 4, none⟩ = some (.int .i64 y.2.next) ∧ X.cell? ⟨gp, op + j * 9 + 5, none⟩ = some (.int .i64 y.2.flags) ∧ X.cell? ⟨gp, op + j * 9 + 6, none⟩ = some (.string y.2.user) ∧ X.cell? ⟨gp, op + j * 9 + 7, none⟩ = some (.string y.2.name) ∧ X.cell? ⟨gp, op + j * 9 + 8, none⟩ = some (.string y.2.text)) := fun X hX j y hy => by
        obtain ⟨g', o', e, q⟩ := HR.out X hX j y hy
        cases e
        exact q
      have hxo := (HOK.out.1 x (List.mem_of_getElem? hgx)).2
      have HKO : Hid (sjK.ok (sjOf x)) := sj_ok (by have := hxo.1; omega) (by have := hxo.2.1; omega) (by
        have h4 := hxo.2.2.2.1
        by_cases c : 3 ≤ x.2.kind
        · rw [if_pos c] at h4; omega
        · rw [if_neg c] at h4; omega)
      have HPU := Lib.hid (fun h => telP_put hgx h)
      have HKE := Lib.hid (fun h => telP_keep hgx h)
      have HTS := Lib.hid (HTI.out i hi (sjOf x))
      have HBN := Lib.hid (fun y X => byNextAndSeq_any x y X)
      have HNP := Lib.hid (fun y => nsC_pos x y)
      have HSO := Lib.hid (fun X => subjectOf_any x.2 X)
      clear hgx hxo
      generalize telP l i = f at *
      obtain ⟨sq, K, V, U, N, FL, US, NM, TX⟩ := x
      unfold sjOf at HKO HPU HKE HTS
      unfold Rc.v at HSO
      simp only at p0 p1 p2 p3 p4 p5 p6 p7 p8 HKO HPU HKE HTS HSO
      have hi0 : (0 : Int) ≤ (i : Int) := by omega
      have hi1 : (i : Int) < (n : Int) := by omega
      have X5 := Box.new wr #[.int .i64 sq, .int .i64 K, .int .i64 V, .int .i64 U, .int .i64 N, .int .i64 FL, .string US, .string NM, .string TX] 68
      have k5 := belNew wr (.cells #[.int .i64 sq, .int .i64 K, .int .i64 V, .int .i64 U, .int .i64 N, .int .i64 FL, .string US, .string NM, .string TX] 68)
      have b5 := bW.trans (k5.mono bW.size)
      replace MM := MM.later k5
      clear k5 bW
      go_upto_region 5 with fail
      clear p0 p1 p2 p3 p4 p5 p6 p7 p8
      generalize wr.alloc (.cells #[.int .i64 sq, .int .i64 K, .int .i64 V, .int .i64 U, .int .i64 N, .int .i64 FL, .string US, .string NM, .string TX] 68) = w5 at X5 b5 MM ⊢
      generalize wr.heap.size = g5 at X5 ⊢
      obtain ⟨q0, q1, q2, q3, q4, q5, q6, q7, q8, _⟩ := X5.nine
      go_wp2_with fail
      clear q0 q1 q2 q3 q4 q5 q6 q7 q8
      refine (HSO.out _).mono ?_
      rintro e w6 ⟨rfl, k6⟩
      have b6 := b5.trans (k6.mono b5.size)
      have X7 := Box.new w6 #[.int .i64 K, .int .i64 V, .int .i64 U] 118
      have k7 := belNew w6 (.cells #[.int .i64 K, .int .i64 V, .int .i64 U] 118)
      have b7 := b6.trans (k7.mono b6.size)
      replace MM := (MM.later k6).later k7
      replace X5 := (X5.later k6).later k7
      clear k6 k7 b5 b6
      go_upto_region 6 with fail
      generalize w6.alloc (.cells #[.int .i64 K, .int .i64 V, .int .i64 U] 118) = w7 at X5 X7 MM b7 ⊢
      generalize w6.heap.size = g6 at X7 ⊢
      have H7 : Hid (∀ X, Below w7.heap.size w7 X → (X.cell? ⟨g5, 0, none⟩ = some (.int .i64 sq) ∧ X.cell? ⟨g5, 1, none⟩ = some (.int .i64 K) ∧ X.cell? ⟨g5, 2, none⟩ = some (.int .i64 V) ∧ X.cell? ⟨g5, 3, none⟩ = some (.int .i64 U) ∧ X.cell? ⟨g5, 4, none⟩ = some (.int .i64 N) ∧ X.cell? ⟨g5, 5, none⟩ = some (.int .i64 FL) ∧ X.cell? ⟨g5, 6, none⟩ = some (.string US) ∧ X.cell? ⟨g5, 7, none⟩ = some (.string NM) ∧ X.cell? ⟨g5, 8, none⟩ = some (.string TX)) ∧ (X.cell? ⟨g6, 0, none⟩ = some (.int .i64 K) ∧ X.cell? ⟨g6, 1, none⟩ = some (.int .i64 V) ∧ X.cell? ⟨g6, 2, none⟩ = some (.int .i64 U)) ∧ MapIs sjK inN X gM i f ∧ Below w.heap.size w X) := fun X hX => by
        obtain ⟨a0, a1, a2, a3, a4, a5, a6, a7, a8, _⟩ := (X5.later hX).nine
        obtain ⟨s0, s1, s2, _⟩ := (X7.later hX).three
        exact ⟨⟨a0, a1, a2, a3, a4, a5, a6, a7, a8⟩, ⟨s0, s1, s2⟩, MM.later hX, b7.trans (hX.mono b7.size)⟩
      obtain ⟨_, ⟨s0, s1, s2⟩, _, bW⟩ := H7.out _ (Below.refl _ _)
      clear X5 X7
      cases hf : f (K, V, U) with
      | none =>
        have hlk : (Instr.lookup 113 (.map (some gM)) (.agg #[.int .i64 K, .int .i64 V, .int .i64 U]) true).run Tryz.prog w7 = .ok (.tuple #[.int .i64 0, .bool false]) w7 := MM.look_gone (t := 113) Tryz.underlying113 (zero_intN w7) HKO.out hf true
        have HST := Lib.hid (HPU.out (by rw [hf]; rfl))
        clear HPU HKE hf MM
        go_upto_region 7 with fail
        clear hlk
        go_quiet (fail)
        obtain ⟨_, ⟨s0, s1, s2⟩, MM, bW⟩ := H7.out _ (below_drewN (Below.refl w7.heap.size w7) nq)
        have HMM := Lib.hid MM
        clear MM
        go_wp2_with (at_mapUpdate; refine wpList_put rfl _ _ _ _ rfl sjK inN inN_inj _ Tryz.underlying113 gM i f rfl HMM.out (by unfold maxLen; omega) (K, V, U) i rfl rfl HKO.out ?_; intro w8 hM hg8 hs8)
        exact ⟨⟨i + 1, by omega, by simp, by rw [HST.out]; exact hM, bW.grown hg8 bW.size (fun q hq => by cases hq; exact HGM.out)⟩, by first | omega | (simp [intOf]; omega)⟩
      | some j =>
        have hlk : (Instr.lookup 113 (.map (some gM)) (.agg #[.int .i64 K, .int .i64 V, .int .i64 U]) true).run Tryz.prog w7 = .ok (.tuple #[.int .i64 (j : Int), .bool true]) w7 := MM.look_there (t := 113) Tryz.underlying113 (zero_intN w7) HKO.out hf true
        obtain ⟨y, hjl, hgy⟩ : ∃ y, j < i ∧ l[j]? = some y := by
          rcases HTS.out with ⟨h1, _⟩ | ⟨j', y, h1, h2, h3, _⟩
          · rw [hf] at h1; cases h1
          · rw [hf] at h1; cases h1; exact ⟨y, h2, h3⟩
        have HTA : Hid (telA l (f (K, V, U)) (sq, ⟨K, V, U, N, FL, US, NM, TX⟩) = bigB (sq, ⟨K, V, U, N, FL, US, NM, TX⟩) y) := by
          show _ = _
          rw [hf]
          unfold telA
          simp only [hgy]
        have HNY := Lib.hid (HNP.out y)
        have HBY := Lib.hid (HBN.out y)
        have HYC := Lib.hid (fun X hX => HRW.out X hX j y hgy)
        have hj0 : (0 : Int) ≤ (j : Int) := by omega
        have hj1 : (j : Int) < (n : Int) := by omega
        clear hgy hf MM HTS HBN HNP HRW
        rw [HTA.out] at HPU HKE
        have hbg : bigB (sq, ⟨K, V, U, N, FL, US, NM, TX⟩) y = decide (0 < nsC (sq, ⟨K, V, U, N, FL, US, NM, TX⟩) y) := by
          have := HNY.out
          unfold bigB
          by_cases c : 0 < nsC (sq, ⟨K, V, U, N, FL, US, NM, TX⟩) y
          · rw [decide_eq_true c]; exact this.1 c
          · rw [decide_eq_false c]; exact Bool.eq_false_iff.2 (fun e => c (this.2 e))
        rw [hbg] at HPU HKE
        clear hbg HTA HNY
        generalize nsC (sq, ⟨K, V, U, N, FL, US, NM, TX⟩) y = D at HPU HKE HBY
        obtain ⟨ys, yK, yV, yU, yN, yF, yUS, yNM, yTX⟩ := y
        unfold itmV itV at HBY
        simp only at HBY HYC
        have HS : Hid (∀ X, Below w7.drew.heap.size w7.drew X → ((X.cell? ⟨gp, op + j * 9, none⟩ = some (.int .i64 ys) ∧ X.cell? ⟨gp, op + j * 9 + 1, none⟩ = some (.int .i64 yK) ∧ X.cell? ⟨gp, op + j * 9 + 2, none⟩ = some (.int .i64 yV) ∧ X.cell? ⟨gp, op + j * 9 + 3, none⟩ = some (.int .i64 yU) ∧ X.cell? ⟨gp, op + j * 9 + 4, none⟩ = some (.int .i64 yN) ∧ X.cell? ⟨gp, op + j * 9 + 5, none⟩ = some (.int .i64 yF) ∧ X.cell? ⟨gp, op + j * 9 + 6, none⟩ = some (.string yUS) ∧ X.cell? ⟨gp, op + j * 9 + 7, none⟩ = some (.string yNM) ∧ X.cell? ⟨gp, op + j * 9 + 8, none⟩ = some (.string yTX)) ∧ (X.cell? ⟨g5, 0, none⟩ = some (.int .i64 sq) ∧ X.cell? ⟨g5, 1, none⟩ = some (.int .i64 K) ∧ X.cell? ⟨g5, 2, none⟩ = some (.int .i64 V) ∧ X.cell? ⟨g5, 3, none⟩ = some (.int .i64 U) ∧ X.cell? ⟨g5, 4, none⟩ = some (.int .i64 N) ∧ X.cell? ⟨g5, 5, none⟩ = some (.int .i64 FL) ∧ X.cell? ⟨g5, 6, none⟩ = some (.string US) ∧ X.cell? ⟨g5, 7, none⟩ = some (.string NM) ∧ X.cell? ⟨g5, 8, none⟩ = some (.string TX))) ∧ Below w7.heap.size w7 X) := fun X hX => by
          have hX2 : Below w7.heap.size w7 X := (Below.refl _ _).drew.trans hX
          obtain ⟨hq, _, _, hw⟩ := H7.out _ hX2
          exact ⟨⟨HYC.out _ hw, hq⟩, hX2⟩
        go_upto_region 7 with fail
        clear hlk s0 s1 s2 bW
        by_cases hD : 0 < D
        · have HST := Lib.hid (HPU.out (decide_eq_true hD))
          clear HPU HKE
          go_region_held3 (fun X => (X.cell? ⟨gp, op + j * 9, none⟩ = some (.int .i64 ys) ∧ X.cell? ⟨gp, op + j * 9 + 1, none⟩ = some (.int .i64 yK) ∧ X.cell? ⟨gp, op + j * 9 + 2, none⟩ = some (.int .i64 yV) ∧ X.cell? ⟨gp, op + j * 9 + 3, none⟩ = some (.int .i64 yU) ∧ X.cell? ⟨gp, op + j * 9 + 4, none⟩ = some (.int .i64 yN) ∧ X.cell? ⟨gp, op + j * 9 + 5, none⟩ = some (.int .i64 yF) ∧ X.cell? ⟨gp, op + j * 9 + 6, none⟩ = some (.string yUS) ∧ X.cell? ⟨gp, op + j * 9 + 7, none⟩ = some (.string yNM) ∧ X.cell? ⟨gp, op + j * 9 + 8, none⟩ = some (.string yTX)) ∧ (X.cell? ⟨g5, 0, none⟩ = some (.int .i64 sq) ∧ X.cell? ⟨g5, 1, none⟩ = some (.int .i64 K) ∧ X.cell? ⟨g5, 2, none⟩ = some (.int .i64 V) ∧ X.cell? ⟨g5, 3, none⟩ = some (.int .i64 U) ∧ X.cell? ⟨g5, 4, none⟩ = some (.int .i64 N) ∧ X.cell? ⟨g5, 5, none⟩ = some (.int .i64 FL) ∧ X.cell? ⟨g5, 6, none⟩ = some (.string US) ∧ X.cell? ⟨g5, 7, none⟩ = some (.string NM) ∧ X.cell? ⟨g5, 8, none⟩ = some (.string TX)))
            (first | exact (HS.out _ (Below.refl _ _)).1 | exact (HS.out _ kX).1)
            (first | (go_at_call 83; refine (HBY.out _).mono ?_; rintro e wX ⟨rfl, kX⟩))
          all_goals
            obtain ⟨_, ⟨s0, s1, s2⟩, MM, bW⟩ := H7.out _ (HS.out _ kX).2
            have HMM := Lib.hid MM
            clear MM
            go_wp2_with (at_mapUpdate; refine wpList_put rfl _ _ _ _ rfl sjK inN inN_inj _ Tryz.underlying113 gM i f rfl HMM.out (by unfold maxLen; omega) (K, V, U) i rfl rfl HKO.out ?_; intro w8 hM hg8 hs8)
            exact ⟨⟨i + 1, by omega, by simp, by rw [HST.out]; exact hM, bW.grown hg8 bW.size (fun q hq => by cases hq; exact HGM.out)⟩, by first | omega | (simp [intOf]; omega)⟩
        · have HST := Lib.hid (HKE.out (by rw [decide_eq_false hD]; exact Bool.false_ne_true))
          clear HPU HKE
          go_region_held3 (fun X => (X.cell? ⟨gp, op + j * 9, none⟩ = some (.int .i64 ys) ∧ X.cell? ⟨gp, op + j * 9 + 1, none⟩ = some (.int .i64 yK) ∧ X.cell? ⟨gp, op + j * 9 + 2, none⟩ = some (.int .i64 yV) ∧ X.cell? ⟨gp, op + j * 9 + 3, none⟩ = some (.int .i64 yU) ∧ X.cell? ⟨gp, op + j * 9 + 4, none⟩ = some (.int .i64 yN) ∧ X.cell? ⟨gp, op + j * 9 + 5, none⟩ = some (.int .i64 yF) ∧ X.cell? ⟨gp, op + j * 9 + 6, none⟩ = some (.string yUS) ∧ X.cell? ⟨gp, op + j * 9 + 7, none⟩ = some (.string yNM) ∧ X.cell? ⟨gp, op + j * 9 + 8, none⟩ = some (.string yTX)) ∧ (X.cell? ⟨g5, 0, none⟩ = some (.int .i64 sq) ∧ X.cell? ⟨g5, 1, none⟩ = some (.int .i64 K) ∧ X.cell? ⟨g5, 2, none⟩ = some (.int .i64 V) ∧ X.cell? ⟨g5, 3, none⟩ = some (.int .i64 U) ∧ X.cell? ⟨g5, 4, none⟩ = some (.int .i64 N) ∧ X.cell? ⟨g5, 5, none⟩ = some (.int .i64 FL) ∧ X.cell? ⟨g5, 6, none⟩ = some (.string US) ∧ X.cell? ⟨g5, 7, none⟩ = some (.string NM) ∧ X.cell? ⟨g5, 8, none⟩ = some (.string TX)))
            (first | exact (HS.out _ (Below.refl _ _)).1 | exact (HS.out _ kX).1)
            (first | (go_at_call 83; refine (HBY.out _).mono ?_; rintro e wX ⟨rfl, kX⟩))
          all_goals
            obtain ⟨_, _, MM, bW⟩ := H7.out _ (HS.out _ kX).2
            have HMM := Lib.hid (MM.mono (show i ≤ i + 1 by omega))
            clear MM
            go_wp2
            exact ⟨⟨i + 1, by omega, by simp, by rw [HST.out]; exact HMM.out, bW⟩, by first | omega | (simp [intOf]; omega)⟩
    · have hin : i = n := by omega
      subst hin
      go_wp2
      go_ret
      exact ⟨gM, rfl, HGM.out, MM, bW⟩

end Go.Proofs.YtlifgcgoehkinaaGreatDoor
