/- Texts of our own, joined. -/
import Derived.Test.YtlifgcgoehkinaaGreatDoorJi
import Derived.Test.YtlifgcgoehkinaaGreatDoorJe
import Derived.Test.YtlifgcgoehkinaaGreatDoorJh
import Derived.WalkSmall
import Derived.Deep.QuietTactic
import Derived.BigQuiet
import Derived.Deep.RegionHeld3
/- Needed and NeededAll of the model. -/
namespace Go.Proofs.YtlifgcgoehkinaaGreatDoor
open Go.RowKit

set_option maxRecDepth 100000 in
theorem specHas_any (l : List Itm) (v : Value) (kind valid uid : Int) (w : World) (h : Rows' itE w v l) (hl : l.length ≤ 1099511627776) :
    Calls Tryz.prog 59 #[v, .int .i64 kind, .int .i64 valid, .int .i64 uid] w fun e w' => e = .returned (.bool (hasO l kind valid uid)) ∧ Below w.heap.size w w' := by
  have HB := specBest_any l v kind valid uid w h hl
  rw [bestT_eq] at HB
  unfold itV at HB
  have HB' := Lib.hid HB
  have HE : Hid ((bestR kind valid uid l).isSome = hasO l kind valid uid) := by show _ = _; rfl
  clear h HB
  generalize (bestR kind valid uid l).isSome = D at HB' HE
  go_enter Tryz.func59, Tryz.ntmps59
  go_wp2_with (go_at_call 58; refine HB'.out.mono ?_; rintro e w1 ⟨rfl, k1⟩)
  go_ret
  exact ⟨by rw [HE.out]; rfl, k1.trans ((belNew _ _).mono k1.size)⟩

set_option maxRecDepth 100000 in
theorem specThere_any (l : List Itm) (v : Value) (valid : Int) (w : World) (h : Rows' itE w v l) (hl : l.length ≤ 1099511627776) :
    Calls Tryz.prog 57 #[v, .int .i64 valid] w fun e w' => e = .returned (.bool (thereO l valid)) ∧ Below w.heap.size w w' := by
  have H1 := Lib.hid (specHas_any l v 1 valid 0 w h hl)
  have H2 := Lib.hid (fun x (hx : Below w.heap.size w x) => specHas_any l v 2 valid 0 x (h.later hx) hl)
  have HE : Hid (thereO l valid = (hasO l 1 valid 0 && !hasO l 2 valid 0)) := by show _ = _; rfl
  clear h
  generalize hasO l 1 valid 0 = A at H1 HE
  generalize hasO l 2 valid 0 = B at H2 HE
  cases A with
  | false =>
    go_enter Tryz.func57, Tryz.ntmps57
    go_wp2_with (go_at_call 59; refine H1.out.mono ?_; rintro e w1 ⟨rfl, k1⟩)
    go_ret
    exact ⟨by rw [HE.out]; rfl, k1⟩
  | true =>
    go_enter Tryz.func57, Tryz.ntmps57
    go_wp2_with (first | (go_at_call 59; with_reducible refine H1.out.mono ?_; rintro e w1 ⟨rfl, k1⟩) | (go_at_call 59; with_reducible refine (H2.out _ k1).mono ?_; rintro e w2 ⟨rfl, k2⟩))
    go_ret
    exact ⟨by rw [HE.out]; first | rfl | (cases B <;> rfl), k1.trans (k2.mono k1.size)⟩

set_option maxRecDepth 100000 in
set_option maxHeartbeats 1000000 in
theorem specBigger_any (a b : Itm) (w : World) :
    Calls Tryz.prog 56 #[itV a.1 a.2, itV b.1 b.2] w fun e w' => e = .returned (.bool (bigB a b)) ∧ Below w.heap.size w w' := by
  have HE : Hid (bigB a b = decide (b.2.next < a.2.next ∨ (a.2.next = b.2.next ∧ b.1 < a.1))) := by show _ = _; rfl
  generalize bigB a b = D at HE
  obtain ⟨s1, K1, V1, U1, N1, F1, US1, NM1, TX1⟩ := a
  obtain ⟨s2, K2, V2, U2, N2, F2, US2, NM2, TX2⟩ := b
  simp only at HE
  unfold itV
  have bE : Below w.heap.size w ((w.alloc (.cells #[.int .i64 s1, .int .i64 K1, .int .i64 V1, .int .i64 U1, .int .i64 N1, .int .i64 F1, .string US1, .string NM1, .string TX1] 68)).alloc (.cells #[.int .i64 s2, .int .i64 K2, .int .i64 V2, .int .i64 U2, .int .i64 N2, .int .i64 F2, .string US2, .string NM2, .string TX2] 68)) := ((Below.refl _ _).alloc (Nat.le_refl _) _).alloc (by simp) _
  by_cases h1 : N2 < N1
  · have HD : Hid (D = true) := by rw [HE.out]; exact decide_eq_true (.inl h1)
    clear HE
    go_enter Tryz.func56, Tryz.ntmps56
    go_wp2
    go_ret
    exact ⟨by rw [HD.out]; rfl, bE⟩
  · by_cases h2 : N1 = N2
    · have h2 := h2.symm
      subst h2
      by_cases h3 : s2 < s1
      · have HD : Hid (D = true) := by rw [HE.out]; exact decide_eq_true (.inr ⟨rfl, h3⟩)
        clear HE
        go_enter Tryz.func56, Tryz.ntmps56
        go_wp2
        go_ret
        exact ⟨by rw [HD.out]; rfl, bE⟩
      · have HD : Hid (D = false) := by rw [HE.out]; exact decide_eq_false (fun c => by rcases c with c | c; exact h1 c; exact h3 c.2)
        clear HE
        go_enter Tryz.func56, Tryz.ntmps56
        go_wp2
        go_ret
        exact ⟨by rw [HD.out]; rfl, bE⟩
    · have HD : Hid (D = false) := by rw [HE.out]; exact decide_eq_false (fun c => by rcases c with c | c; exact h1 c; exact h2 c.1)
      have h2' : (N1 == N2) = false := beq_eq_false_iff_ne.2 h2
      clear HE
      go_enter Tryz.func56, Tryz.ntmps56
      go_wp2
      go_ret
      exact ⟨by rw [HD.out]; rfl, bE⟩

set_option maxRecDepth 100000 in
set_option maxHeartbeats 8000000 in
theorem specNeed_any (l : List Itm) (v : Value) (k : Nat) (x : Itm) (w : World) (h : Rows' itE w v l) (hl : l.length ≤ 1048576) (hx : l[k]? = some x) (hok : 1 ≤ x.2.kind ∧ x.2.kind ≤ 5) :
    Calls Tryz.prog 35 #[v, .int .i64 (k : Int)] w fun e w' => e = .returned (.bool (needB l k x)) ∧ Below w.heap.size w w' := by
  have HB := Lib.hid (fun (kk vv uu : Int) x' (hx' : Below w.heap.size w x') => specBest_any l v kk vv uu x' (h.later hx') (by omega))
  have HH := Lib.hid (fun (kk vv uu : Int) x' (hx' : Below w.heap.size w x') => specHas_any l v kk vv uu x' (h.later hx') (by omega))
  have HT := Lib.hid (fun (vv : Int) x' (hx' : Below w.heap.size w x') => specThere_any l v vv x' (h.later hx') (by omega))
  obtain ⟨ad, cap, rfl, hrow⟩ := h.items
  have HR := Lib.hid hrow
  clear h hrow
  obtain ⟨n, hn⟩ : ∃ n, l.length = n := ⟨_, rfl⟩
  have hkn : k < n := by have := (List.getElem?_eq_some_iff.1 hx).1; omega
  rw [hn] at hl
  rw [hn] at HB HH HT
  rw [hn]
  have HN := Lib.hid hn
  clear hn
  obtain ⟨gp, op, rfl, p0, p1, p2, p3, p4, p5, p6, p7, p8⟩ := HR.out _ (Below.refl _ _) k _ hx
  have HX := Lib.hid hx
  clear hx
  have HRW : Hid (∀ X, Below w.heap.size w X → ∀ (i : Nat) (y : Itm), l[i]? = some y → X.cell? ⟨gp, op + i * 9, none⟩ = some (.int .i64 y.1) ∧ X.cell? ⟨gp, op + i * 9 + 1, none⟩ = some (.int .i64 y.2.kind) ∧ X.cell? ⟨gp, op + i * 9 + 2, none⟩ = some (.int .i64 y.2.valid) ∧ X.cell? ⟨gp, op + i * 9 + 3, none⟩ = some (.int .i64 y.2.uid) ∧ X.cell? ⟨gp, op + i * 9 + 4, none⟩ = some (.int .i64 y.2.next) ∧ X.cell? ⟨gp, op + i * 9 + 5, none⟩ = some (.int .i64 y.2.flags) ∧ X.cell? ⟨gp, op + i * 9 + 6, none⟩ = some (.string y.2.user) ∧ X.cell? ⟨gp, op + i * 9 + 7, none⟩ = some (.string y.2.name) ∧ X.cell? ⟨gp, op + i * 9 + 8, none⟩ = some (.string y.2.text)) := fun X hX i y hy => by
    obtain ⟨g', o', e, q⟩ := HR.out X hX i y hy
    cases e
    exact q
  have HNB : Hid (needB l k x = (firstB l k x && needO l x)) := by show _ = _; rfl
  have HNO : Hid (needO l x = if x.2.kind = 1 then !anyBig l x && thereO l x.2.valid else if x.2.kind = 2 then anyOther l x && seqB (bestR 2 x.2.valid 0 l) x else if x.2.kind = 5 then (thereO l x.2.valid && hasO l 3 x.2.valid x.2.uid) && seqB (bestR 5 x.2.valid x.2.uid l) x else ((thereO l x.2.valid && hasO l 3 x.2.valid x.2.uid) && !hasO l 5 x.2.valid x.2.uid) && seqB (bestR x.2.kind x.2.valid x.2.uid l) x) := by show _ = _; rfl
  generalize needB l k x = ANS at HNB ⊢
  obtain ⟨sq, K, V, U, N, FL, US, NM, TX⟩ := x
  simp only at p0 p1 p2 p3 p4 p5 p6 p7 p8 HNO hok
  have hk0 : (0 : Int) ≤ (k : Int) := by omega
  have hk1 : (k : Int) < (n : Int) := by omega
  have X5 := Box.new w #[.int .i64 sq, .int .i64 K, .int .i64 V, .int .i64 U, .int .i64 N, .int .i64 FL, .string US, .string NM, .string TX] 68
  have b5 := belNew w (.cells #[.int .i64 sq, .int .i64 K, .int .i64 V, .int .i64 U, .int .i64 N, .int .i64 FL, .string US, .string NM, .string TX] 68)
  go_enter Tryz.func35, Tryz.ntmps35
  go_upto_region 2 with fail
  clear p0 p1 p2 p3 p4 p5 p6 p7 p8
  generalize w.alloc (.cells #[.int .i64 sq, .int .i64 K, .int .i64 V, .int .i64 U, .int .i64 N, .int .i64 FL, .string US, .string NM, .string TX] 68) = w5 at X5 b5 ⊢
  obtain ⟨g5, hg5⟩ : ∃ g5, w.heap.size = g5 := ⟨_, rfl⟩
  rw [hg5] at X5
  have HG5 := Lib.hid hg5
  obtain ⟨q0, q1, q2, q3, q4, q5, q6, q7, q8, _⟩ := X5.nine
  have X6 := Box.new w5 #[.int .i64 K, .int .i64 V, .int .i64 U, .int .i64 N, .int .i64 FL, .string US, .string NM, .string TX] 66
  have k6 := belNew w5 (.cells #[.int .i64 K, .int .i64 V, .int .i64 U, .int .i64 N, .int .i64 FL, .string US, .string NM, .string TX] 66)
  have b6 := b5.trans (k6.mono b5.size)
  replace X5 := X5.later k6
  rw [hg5]
  clear k6 b5 hg5
  go_upto_region 3 with fail
  clear q0 q1 q2 q3 q4 q5 q6 q7 q8
  generalize w5.alloc (.cells #[.int .i64 K, .int .i64 V, .int .i64 U, .int .i64 N, .int .i64 FL, .string US, .string NM, .string TX] 66) = w6 at X5 X6 b6 ⊢
  generalize w5.heap.size = g6 at X6 ⊢
  have H6 : Hid (∀ x, Below w6.heap.size w6 x → (x.cell? ⟨g5, 0, none⟩ = some (.int .i64 sq) ∧ x.cell? ⟨g5, 1, none⟩ = some (.int .i64 K) ∧ x.cell? ⟨g5, 2, none⟩ = some (.int .i64 V) ∧ x.cell? ⟨g5, 3, none⟩ = some (.int .i64 U) ∧ x.cell? ⟨g5, 4, none⟩ = some (.int .i64 N) ∧ x.cell? ⟨g5, 5, none⟩ = some (.int .i64 FL) ∧ x.cell? ⟨g5, 6, none⟩ = some (.string US) ∧ x.cell? ⟨g5, 7, none⟩ = some (.string NM) ∧ x.cell? ⟨g5, 8, none⟩ = some (.string TX)) ∧ (x.cell? ⟨g6, 0, none⟩ = some (.int .i64 K) ∧ x.cell? ⟨g6, 1, none⟩ = some (.int .i64 V) ∧ x.cell? ⟨g6, 2, none⟩ = some (.int .i64 U)) ∧ Below w.heap.size w x) := fun x hx => by
    obtain ⟨a0, a1, a2, a3, a4, a5, a6, a7, a8, _⟩ := (X5.later hx).nine
    exact ⟨⟨a0, a1, a2, a3, a4, a5, a6, a7, a8⟩, ⟨(X6.later hx).cell 0 _ rfl, (X6.later hx).cell 1 _ rfl, (X6.later hx).cell 2 _ rfl⟩, b6.trans (hx.mono b6.size)⟩
  clear X5 X6 b6
  have F0 : Hid (∀ y ∈ l.take 0, y.1 ≠ sq) := fun y hy => by simp at hy
  go_wp2
  go_loopw [7] (fun iv wr => ∃ i : Nat, i ≤ k ∧ iv = .int .i64 (i : Int) ∧ (∀ y ∈ l.take i, y.1 ≠ sq) ∧ Below w6.heap.size w6 wr) (fun iv _ => k - (intOf iv).toNat)
  case atStart => exact ⟨0, by omega, rfl, F0.out, Below.refl _ _⟩
  case round =>
    clear F0
    obtain ⟨i, hi, rfl, hno, bq⟩ := hrel
    have HNF := Lib.hid hno
    clear hno
    obtain ⟨⟨q0, _, _, _, _, _, _, _, _⟩, ⟨r0, r1, r2⟩, bW⟩ := H6.out _ bq
    by_cases hlt : i < k
    · obtain ⟨y, hgy⟩ : ∃ y, l[i]? = some y := ⟨_, List.getElem?_eq_getElem (by rw [HN.out]; omega)⟩
      obtain ⟨t0, _⟩ := HRW.out _ bW i y hgy
      have HGY := Lib.hid hgy
      clear hgy
      have hi0 : (0 : Int) ≤ (i : Int) := by omega
      have hi1 : (i : Int) < (n : Int) := by omega
      have hi2 : (i : Int) < (k : Int) := by omega
      by_cases hs : y.1 = sq
      · have HE : Hid (ANS = false) := by
          rw [HNB.out]
          have : firstB l k (sq, ⟨K, V, U, N, FL, US, NM, TX⟩) = false := by
            unfold firstB
            rw [List.any_eq_true.2 ⟨y, List.mem_of_getElem? (i := i) (by rw [List.getElem?_take_of_lt hlt]; exact HGY.out), by simp [hs]⟩]
            rfl
          rw [this]; rfl
        rw [hs] at t0
        clear HNO HNB HGY hs
        go_wp2
        go_quiet (fail)
        go_wp2
        go_ret
        exact ⟨by rw [HE.out]; rfl, below_drewN bW _⟩
      · have hs' : (y.1 == sq) = false := beq_eq_false_iff_ne.2 hs
        have HS : Hid (∀ z ∈ l.take (i + 1), z.1 ≠ sq) := fun z hz => by
          rw [List.take_add_one, HGY.out] at hz
          rcases List.mem_append.1 hz with h | h
          · exact HNF.out z h
          · simp at h; rw [h]; exact hs
        clear HGY HNF hs
        generalize y.1 = yq at *
        go_wp2
        go_quiet (fail)
        go_wp2
        go_roundw
        case rel => exact ⟨i + 1, by omega, by go_num, HS.out, below_drewN bq _⟩
        case measure => simp [intOf]; omega
    · have hik : i = k := by omega
      have HF : Hid (firstB l k (sq, ⟨K, V, U, N, FL, US, NM, TX⟩) = true) := by
        unfold firstB
        have : (l.take k).any (fun y => decide (y.1 = sq)) = false := by
          rw [List.any_eq_false]
          intro y hy
          simp only [decide_eq_true_eq]
          exact HNF.out y (by rw [hik]; exact hy)
        rw [this]; rfl
      have HA : Hid (ANS = needO l (sq, ⟨K, V, U, N, FL, US, NM, TX⟩)) := by show _ = _; rw [HNB.out, HF.out, Bool.true_and]
      have hi2 : ¬ (i : Int) < (k : Int) := by omega
      clear HNB HF HNF hik
      rcases (show K = 1 ∨ K = 2 ∨ K = 5 ∨ (K = 3 ∨ K = 4) by omega) with rfl | rfl | rfl | hK34
      · rw [HNO.out, if_pos rfl] at HA
        have HBG := Lib.hid (fun (y : Itm) X => specBigger_any y (sq, ⟨1, V, U, N, FL, US, NM, TX⟩) X)
        have G0 : Hid (∀ y ∈ l.take 0, ¬ (y.2.kind = 1 ∧ y.2.valid = V ∧ bigB y (sq, ⟨1, V, U, N, FL, US, NM, TX⟩) = true)) := fun y hy => by simp at hy
        clear HNO
        go_wp2
        go_loopw [8] (fun iv wq => ∃ i : Nat, i ≤ n ∧ iv = .int .i64 (i : Int) ∧ (∀ y ∈ l.take i, ¬ (y.2.kind = 1 ∧ y.2.valid = V ∧ bigB y (sq, ⟨1, V, U, N, FL, US, NM, TX⟩) = true)) ∧ Below w6.heap.size w6 wq) (fun iv _ => n - (intOf iv).toNat)
        case atStart => exact ⟨0, by omega, rfl, G0.out, bq⟩
        case round =>
          clear G0 bq q0 r0 r1 r2 bW
          obtain ⟨i, hi3, rfl, hno, bq⟩ := hrel
          have HNG := Lib.hid hno
          clear hno
          obtain ⟨⟨q0, q1, q2, q3, q4, q5, q6, q7, q8⟩, ⟨r0, r1, r2⟩, bW⟩ := H6.out _ bq
          by_cases hlt : i < n
          · obtain ⟨y, hgy⟩ : ∃ y, l[i]? = some y := ⟨_, List.getElem?_eq_getElem (by rw [HN.out]; omega)⟩
            obtain ⟨t0, t1, t2, t3, t4, t5, t6, t7, t8⟩ := HRW.out _ bW i y hgy
            have HGY := Lib.hid hgy
            clear hgy
            have hi0 : (0 : Int) ≤ (i : Int) := by omega
            have hi1 : (i : Int) < (n : Int) := by omega
            have HNX : Hid (¬ (y.2.kind = 1 ∧ y.2.valid = V ∧ bigB y (sq, ⟨1, V, U, N, FL, US, NM, TX⟩) = true) → ∀ z ∈ l.take (i + 1), ¬ (z.2.kind = 1 ∧ z.2.valid = V ∧ bigB z (sq, ⟨1, V, U, N, FL, US, NM, TX⟩) = true)) := fun hy z hz => by
              rw [List.take_add_one, HGY.out] at hz
              rcases List.mem_append.1 hz with h | h
              · exact HNG.out z h
              · simp at h; rw [h]; exact hy
            have HFA : Hid ((y.2.kind = 1 ∧ y.2.valid = V ∧ bigB y (sq, ⟨1, V, U, N, FL, US, NM, TX⟩) = true) → ANS = false) := fun hy => by
              rw [HA.out]
              have : anyBig l (sq, ⟨1, V, U, N, FL, US, NM, TX⟩) = true := List.any_eq_true.2 ⟨y, List.mem_of_getElem? HGY.out, by rw [hy.2.2, Bool.and_true]; exact decide_eq_true ⟨hy.1, hy.2.1⟩⟩
              rw [this]; rfl
            have HBY := Lib.hid (HBG.out y)
            clear HNG HGY
            generalize hD : bigB y (sq, ⟨1, V, U, N, FL, US, NM, TX⟩) = D at *
            obtain ⟨ys, yK, yV, yU, yN, yF, yUS, yNM, yTX⟩ := y
            unfold itV at HBY
            simp only at t0 t1 t2 t3 t4 t5 t6 t7 t8 HNX HFA HBY
            clear hD
            by_cases h1 : yK = 1
            · subst h1
              by_cases h2 : yV = V
              · have h2 := h2.symm
                subst h2
                have HS : Hid (∀ X, Below wr.drew.heap.size wr.drew X → ((X.cell? ⟨gp, op + i * 9, none⟩ = some (.int .i64 ys) ∧ X.cell? ⟨gp, op + i * 9 + 1, none⟩ = some (.int .i64 1) ∧ X.cell? ⟨gp, op + i * 9 + 2, none⟩ = some (.int .i64 V) ∧ X.cell? ⟨gp, op + i * 9 + 3, none⟩ = some (.int .i64 yU) ∧ X.cell? ⟨gp, op + i * 9 + 4, none⟩ = some (.int .i64 yN) ∧ X.cell? ⟨gp, op + i * 9 + 5, none⟩ = some (.int .i64 yF) ∧ X.cell? ⟨gp, op + i * 9 + 6, none⟩ = some (.string yUS) ∧ X.cell? ⟨gp, op + i * 9 + 7, none⟩ = some (.string yNM) ∧ X.cell? ⟨gp, op + i * 9 + 8, none⟩ = some (.string yTX)) ∧ (X.cell? ⟨g5, 0, none⟩ = some (.int .i64 sq) ∧ X.cell? ⟨g5, 1, none⟩ = some (.int .i64 1) ∧ X.cell? ⟨g5, 2, none⟩ = some (.int .i64 V) ∧ X.cell? ⟨g5, 3, none⟩ = some (.int .i64 U) ∧ X.cell? ⟨g5, 4, none⟩ = some (.int .i64 N) ∧ X.cell? ⟨g5, 5, none⟩ = some (.int .i64 FL) ∧ X.cell? ⟨g5, 6, none⟩ = some (.string US) ∧ X.cell? ⟨g5, 7, none⟩ = some (.string NM) ∧ X.cell? ⟨g5, 8, none⟩ = some (.string TX)) ∧ X.cell? ⟨g6, 1, none⟩ = some (.int .i64 V)) ∧ Below w6.heap.size w6 X) := fun X hX => by
                  have hX2 : Below w6.heap.size w6 X := bq.drew.trans (hX.mono bq.size)
                  obtain ⟨hq, ⟨_, hr1, _⟩, hw⟩ := H6.out _ hX2
                  refine ⟨⟨?_, hq, hr1⟩, hX2⟩
                  have hX3 : Below wr.heap.size wr X := (Below.refl _ _).drew.trans hX
                  have hc : ∀ (j : Nat) (u : Value), wr.cell? ⟨gp, j, none⟩ = some u → X.cell? ⟨gp, j, none⟩ = some u := fun j u hu => (hX3.cell (p := ⟨gp, j, none⟩) (World.block_lt_of_cell? _ _ hu)).trans hu
                  exact ⟨hc _ _ t0, hc _ _ t1, hc _ _ t2, hc _ _ t3, hc _ _ t4, hc _ _ t5, hc _ _ t6, hc _ _ t7, hc _ _ t8⟩
                cases D with
                | true =>
                  have HE : Hid (ANS = false) := HFA.out ⟨rfl, rfl, rfl⟩
                  clear HFA HNX
                  go_wp2
                  go_region_held3 (fun X => (X.cell? ⟨gp, op + i * 9, none⟩ = some (.int .i64 ys) ∧ X.cell? ⟨gp, op + i * 9 + 1, none⟩ = some (.int .i64 1) ∧ X.cell? ⟨gp, op + i * 9 + 2, none⟩ = some (.int .i64 V) ∧ X.cell? ⟨gp, op + i * 9 + 3, none⟩ = some (.int .i64 yU) ∧ X.cell? ⟨gp, op + i * 9 + 4, none⟩ = some (.int .i64 yN) ∧ X.cell? ⟨gp, op + i * 9 + 5, none⟩ = some (.int .i64 yF) ∧ X.cell? ⟨gp, op + i * 9 + 6, none⟩ = some (.string yUS) ∧ X.cell? ⟨gp, op + i * 9 + 7, none⟩ = some (.string yNM) ∧ X.cell? ⟨gp, op + i * 9 + 8, none⟩ = some (.string yTX)) ∧ (X.cell? ⟨g5, 0, none⟩ = some (.int .i64 sq) ∧ X.cell? ⟨g5, 1, none⟩ = some (.int .i64 1) ∧ X.cell? ⟨g5, 2, none⟩ = some (.int .i64 V) ∧ X.cell? ⟨g5, 3, none⟩ = some (.int .i64 U) ∧ X.cell? ⟨g5, 4, none⟩ = some (.int .i64 N) ∧ X.cell? ⟨g5, 5, none⟩ = some (.int .i64 FL) ∧ X.cell? ⟨g5, 6, none⟩ = some (.string US) ∧ X.cell? ⟨g5, 7, none⟩ = some (.string NM) ∧ X.cell? ⟨g5, 8, none⟩ = some (.string TX)) ∧ X.cell? ⟨g6, 1, none⟩ = some (.int .i64 V))
                    (first | exact (HS.out _ (Below.refl _ _)).1 | exact (HS.out _ kX).1)
                    (first | (go_at_call 56; refine (HBY.out _).mono ?_; rintro e wX ⟨rfl, kX⟩))
                  all_goals
                    have bE := (H6.out _ (HS.out _ kX).2).2.2
                    go_wp2
                    go_ret
                    exact ⟨by rw [HE.out]; rfl, bE⟩
                | false =>
                  have HN2 := Lib.hid (HNX.out (fun c => by cases c.2.2))
                  clear HFA HNX
                  go_wp2
                  go_region_held3 (fun X => (X.cell? ⟨gp, op + i * 9, none⟩ = some (.int .i64 ys) ∧ X.cell? ⟨gp, op + i * 9 + 1, none⟩ = some (.int .i64 1) ∧ X.cell? ⟨gp, op + i * 9 + 2, none⟩ = some (.int .i64 V) ∧ X.cell? ⟨gp, op + i * 9 + 3, none⟩ = some (.int .i64 yU) ∧ X.cell? ⟨gp, op + i * 9 + 4, none⟩ = some (.int .i64 yN) ∧ X.cell? ⟨gp, op + i * 9 + 5, none⟩ = some (.int .i64 yF) ∧ X.cell? ⟨gp, op + i * 9 + 6, none⟩ = some (.string yUS) ∧ X.cell? ⟨gp, op + i * 9 + 7, none⟩ = some (.string yNM) ∧ X.cell? ⟨gp, op + i * 9 + 8, none⟩ = some (.string yTX)) ∧ (X.cell? ⟨g5, 0, none⟩ = some (.int .i64 sq) ∧ X.cell? ⟨g5, 1, none⟩ = some (.int .i64 1) ∧ X.cell? ⟨g5, 2, none⟩ = some (.int .i64 V) ∧ X.cell? ⟨g5, 3, none⟩ = some (.int .i64 U) ∧ X.cell? ⟨g5, 4, none⟩ = some (.int .i64 N) ∧ X.cell? ⟨g5, 5, none⟩ = some (.int .i64 FL) ∧ X.cell? ⟨g5, 6, none⟩ = some (.string US) ∧ X.cell? ⟨g5, 7, none⟩ = some (.string NM) ∧ X.cell? ⟨g5, 8, none⟩ = some (.string TX)) ∧ X.cell? ⟨g6, 1, none⟩ = some (.int .i64 V))
                    (first | exact (HS.out _ (Below.refl _ _)).1 | exact (HS.out _ kX).1)
                    (first | (go_at_call 56; refine (HBY.out _).mono ?_; rintro e wX ⟨rfl, kX⟩))
                  all_goals
                    have bE := (HS.out _ kX).2
                    go_wp2
                    go_roundw
                    case rel => exact ⟨i + 1, by omega, by go_num, HN2.out, bE⟩
                    case measure => simp [intOf]; omega
              · have h2' : (yV == V) = false := beq_eq_false_iff_ne.2 h2
                have HN2 := Lib.hid (HNX.out (fun c => h2 c.2.1))
                clear HFA HNX h2
                go_wp2
                go_quiet (fail)
                go_wp2
                go_roundw
                case rel => exact ⟨i + 1, by omega, by go_num, HN2.out, below_drewN bq _⟩
                case measure => simp [intOf]; omega
            · have h1' : (yK == 1) = false := beq_eq_false_iff_ne.2 h1
              have HN2 := Lib.hid (HNX.out (fun c => h1 c.1))
              clear HFA HNX h1
              go_wp2
              go_quiet (fail)
              go_wp2
              go_roundw
              case rel => exact ⟨i + 1, by omega, by go_num, HN2.out, below_drewN bq _⟩
              case measure => simp [intOf]; omega
          · have HG : Hid (anyBig l (sq, ⟨1, V, U, N, FL, US, NM, TX⟩) = false) := by
              show _ = false
              unfold anyBig
              rw [List.any_eq_false]
              intro y hy
              have h3 := HNG.out y (by rw [List.take_of_length_le (by rw [HN.out]; omega)]; exact hy)
              simp only [Bool.and_eq_true, decide_eq_true_eq]
              exact fun c => h3 ⟨c.1.1, c.1.2, c.2⟩
            rw [HG.out] at HA
            have HTV := Lib.hid (HT.out V _ bW)
            generalize thereO l V = T at HA HTV
            have HE : Hid (ANS = T) := by show _ = _; rw [HA.out]; simp
            clear HA HG HNG q0 q1 q2 q3 q4 q5 q6 q7 q8
            go_wp2_with fail
            refine HTV.out.mono ?_
            rintro e w9 ⟨rfl, k9⟩
            have bE := bW.trans (k9.mono bW.size)
            clear HTV
            go_wp2
            go_ret
            exact ⟨by rw [HE.out]; rfl, bE⟩
      · rw [HNO.out, if_neg (by decide), if_pos rfl] at HA
        have HBB := HB.out 2 V 0 _ bW
        rw [bestT_eq] at HBB
        unfold itV at HBB
        have HBB' := Lib.hid HBB
        clear HBB
        obtain ⟨o, ho⟩ : ∃ o, bestR 2 V 0 l = o := ⟨_, rfl⟩
        rw [ho] at HBB' HA
        clear ho HNO
        go_wp2_with fail
        refine HBB'.out.mono ?_
        rintro e w7 ⟨rfl, k7⟩
        have j7 := bq.trans (k7.mono bq.size)
        have X9 := Box.new w7 #[.int .i64 (bestX o).1, .int .i64 (bestX o).2.kind, .int .i64 (bestX o).2.valid, .int .i64 (bestX o).2.uid, .int .i64 (bestX o).2.next, .int .i64 (bestX o).2.flags, .string (bestX o).2.user, .string (bestX o).2.name, .string (bestX o).2.text] 68
        have k8 := belNew w7 (.cells #[.int .i64 (bestX o).1, .int .i64 (bestX o).2.kind, .int .i64 (bestX o).2.valid, .int .i64 (bestX o).2.uid, .int .i64 (bestX o).2.next, .int .i64 (bestX o).2.flags, .string (bestX o).2.user, .string (bestX o).2.name, .string (bestX o).2.text] 68)
        have j8 := j7.trans (k8.mono j7.size)
        clear r0 r1 r2 q0 k7 k8 j7 bq bW HBB'
        go_upto_region 18 with fail
        generalize w7.alloc (.cells #[.int .i64 (bestX o).1, .int .i64 (bestX o).2.kind, .int .i64 (bestX o).2.valid, .int .i64 (bestX o).2.uid, .int .i64 (bestX o).2.next, .int .i64 (bestX o).2.flags, .string (bestX o).2.user, .string (bestX o).2.name, .string (bestX o).2.text] 68) = w8 at X9 j8 ⊢
        generalize w7.heap.size = g9 at X9 ⊢
        obtain ⟨bs, hbs⟩ : ∃ bs, (bestX o).1 = bs := ⟨_, rfl⟩
        have H9 : Hid (∀ x, Below w8.heap.size w8 x → x.cell? ⟨g9, 0, none⟩ = some (.int .i64 bs) ∧ Below w6.heap.size w6 x) := fun x hx => ⟨by rw [← hbs]; exact (X9.later hx).cell 0 _ rfl, j8.trans (hx.mono j8.size)⟩
        have HSQ : Hid (seqB o (sq, ⟨2, V, U, N, FL, US, NM, TX⟩) = decide (bs = sq)) := by show _ = _; rw [← hbs]; rfl
        rw [HSQ.out] at HA
        clear hbs X9 j8 HSQ
        have G0 : Hid (∀ y ∈ l.take 0, ¬ (y.2.kind ≠ 2 ∧ y.2.valid = V)) := fun y hy => by simp at hy
        have hbq : (bs == sq) = decide (bs = sq) := by by_cases h : bs = sq <;> simp [h]
        have HBQ := Lib.hid hbq
        clear hbq
        go_wp2
        go_loopw [11] (fun iv wq => ∃ i : Nat, i ≤ n ∧ iv = .int .i64 (i : Int) ∧ (∀ y ∈ l.take i, ¬ (y.2.kind ≠ 2 ∧ y.2.valid = V)) ∧ Below w8.heap.size w8 wq) (fun iv _ => n - (intOf iv).toNat)
        case atStart => exact ⟨0, by omega, rfl, G0.out, Below.refl _ _⟩
        case round =>
          clear G0
          obtain ⟨i, hi3, rfl, hno, b8⟩ := hrel
          have HNG := Lib.hid hno
          clear hno
          obtain ⟨z0, bq⟩ := H9.out _ b8
          obtain ⟨⟨q0, _⟩, ⟨r0, r1, r2⟩, bW⟩ := H6.out _ bq
          by_cases hlt : i < n
          · obtain ⟨y, hgy⟩ : ∃ y, l[i]? = some y := ⟨_, List.getElem?_eq_getElem (by rw [HN.out]; omega)⟩
            obtain ⟨_, t1, t2, _⟩ := HRW.out _ bW i y hgy
            have HGY := Lib.hid hgy
            clear hgy
            have hi0 : (0 : Int) ≤ (i : Int) := by omega
            have hi1 : (i : Int) < (n : Int) := by omega
            have HNX : Hid (¬ (y.2.kind ≠ 2 ∧ y.2.valid = V) → ∀ z ∈ l.take (i + 1), ¬ (z.2.kind ≠ 2 ∧ z.2.valid = V)) := fun hy z hz => by
              rw [List.take_add_one, HGY.out] at hz
              rcases List.mem_append.1 hz with h | h
              · exact HNG.out z h
              · simp at h; rw [h]; exact hy
            have HFA : Hid ((y.2.kind ≠ 2 ∧ y.2.valid = V) → ANS = decide (bs = sq)) := fun hy => by
              rw [HA.out]
              have : anyOther l (sq, ⟨2, V, U, N, FL, US, NM, TX⟩) = true := List.any_eq_true.2 ⟨y, List.mem_of_getElem? HGY.out, decide_eq_true hy⟩
              rw [this]; rfl
            clear HNG HGY
            generalize y.2.kind = yK at t1 HNX HFA
            generalize y.2.valid = yV at t2 HNX HFA
            by_cases h1 : yK = 2
            · subst h1
              have HN2 := Lib.hid (HNX.out (fun c => c.1 rfl))
              clear HFA HNX
              go_wp2
              go_quiet (fail)
              go_wp2
              go_roundw
              case rel => exact ⟨i + 1, by omega, by go_num, HN2.out, below_drewN b8 _⟩
              case measure => simp [intOf]; omega
            · have h1' : (yK == 2) = false := beq_eq_false_iff_ne.2 h1
              have h1'' : (yK != 2) = true := bne_iff_ne.2 h1
              by_cases h2 : yV = V
              · have h2 := h2.symm
                subst h2
                have HE : Hid (ANS = decide (bs = sq)) := HFA.out ⟨h1, rfl⟩
                clear HFA HNX
                go_wp2
                go_quiet (fail)
                go_wp2
                go_ret
                exact ⟨by rw [HE.out, ← HBQ.out]; rfl, below_drewN bW _⟩
              · have h2' : (yV == V) = false := beq_eq_false_iff_ne.2 h2
                have HN2 := Lib.hid (HNX.out (fun c => h2 c.2))
                clear HFA HNX h2
                go_wp2
                go_quiet (fail)
                go_wp2
                go_roundw
                case rel => exact ⟨i + 1, by omega, by go_num, HN2.out, below_drewN b8 _⟩
                case measure => simp [intOf]; omega
          · have HE : Hid (ANS = false) := by
              rw [HA.out]
              have : anyOther l (sq, ⟨2, V, U, N, FL, US, NM, TX⟩) = false := by
                unfold anyOther
                rw [List.any_eq_false]
                intro y hy
                have h3 := HNG.out y (by rw [List.take_of_length_le (by rw [HN.out]; omega)]; exact hy)
                simp only [decide_eq_true_eq]
                exact h3
              rw [this]; rfl
            clear HA HNG
            go_wp2
            go_ret
            exact ⟨by rw [HE.out]; rfl, bW⟩
      · rw [HNO.out, if_neg (by decide), if_neg (by decide), if_pos rfl] at HA
        have HBB := HB.out 5 V U _ bW
        rw [bestT_eq] at HBB
        unfold itV at HBB
        have HBB' := Lib.hid HBB
        clear HBB
        obtain ⟨o, ho⟩ : ∃ o, bestR 5 V U l = o := ⟨_, rfl⟩
        rw [ho] at HBB' HA
        clear ho HNO
        go_wp2_with fail
        refine HBB'.out.mono ?_
        rintro e w7 ⟨rfl, k7⟩
        have j7 := bq.trans (k7.mono bq.size)
        have X9 := Box.new w7 #[.int .i64 (bestX o).1, .int .i64 (bestX o).2.kind, .int .i64 (bestX o).2.valid, .int .i64 (bestX o).2.uid, .int .i64 (bestX o).2.next, .int .i64 (bestX o).2.flags, .string (bestX o).2.user, .string (bestX o).2.name, .string (bestX o).2.text] 68
        have k8 := belNew w7 (.cells #[.int .i64 (bestX o).1, .int .i64 (bestX o).2.kind, .int .i64 (bestX o).2.valid, .int .i64 (bestX o).2.uid, .int .i64 (bestX o).2.next, .int .i64 (bestX o).2.flags, .string (bestX o).2.user, .string (bestX o).2.name, .string (bestX o).2.text] 68)
        have j8 := j7.trans (k8.mono j7.size)
        clear r0 r1 r2 q0 k7 k8 j7 bq bW HBB'
        go_upto_region 26 with fail
        generalize w7.alloc (.cells #[.int .i64 (bestX o).1, .int .i64 (bestX o).2.kind, .int .i64 (bestX o).2.valid, .int .i64 (bestX o).2.uid, .int .i64 (bestX o).2.next, .int .i64 (bestX o).2.flags, .string (bestX o).2.user, .string (bestX o).2.name, .string (bestX o).2.text] 68) = w8 at X9 j8 ⊢
        generalize w7.heap.size = g9 at X9 ⊢
        obtain ⟨bs, hbs⟩ : ∃ bs, (bestX o).1 = bs := ⟨_, rfl⟩
        have H9 : Hid (∀ x, Below w8.heap.size w8 x → x.cell? ⟨g9, 0, none⟩ = some (.int .i64 bs) ∧ Below w6.heap.size w6 x) := fun x hx => ⟨by rw [← hbs]; exact (X9.later hx).cell 0 _ rfl, j8.trans (hx.mono j8.size)⟩
        have HSQ : Hid (seqB o (sq, ⟨5, V, U, N, FL, US, NM, TX⟩) = decide (bs = sq)) := by show _ = _; rw [← hbs]; rfl
        rw [HSQ.out] at HA
        clear hbs X9 j8 HSQ
        obtain ⟨_, bq⟩ := H9.out _ (Below.refl _ _)
        obtain ⟨_, ⟨_, r1, r2⟩, bW⟩ := H6.out _ bq
        have HTV := Lib.hid (HT.out V _ bW)
        have HH3 := Lib.hid (fun X hX => HH.out 3 V U X hX)
        generalize thereO l V = T at HA HTV
        generalize hasO l 3 V U = T3 at HA HH3
        have hbq : (bs == sq) = decide (bs = sq) := by by_cases h : bs = sq <;> simp [h]
        have HBQ := Lib.hid hbq
        clear hbq bq
        go_wp2_with fail
        clear r1 r2
        refine HTV.out.mono ?_
        rintro e w9 ⟨rfl, k9⟩
        clear HTV bW
        obtain ⟨z0, bq⟩ := H9.out _ k9
        obtain ⟨⟨q0, _⟩, ⟨_, r1, r2⟩, bW⟩ := H6.out _ bq
        cases T with
        | false =>
          have HE : Hid (ANS = false) := by show _ = _; rw [HA.out]; rfl
          clear HA
          go_wp2
          go_ret
          exact ⟨by rw [HE.out]; rfl, bW⟩
        | true =>
          go_wp2_with fail
          refine (HH3.out _ bW).mono ?_
          rintro e w10 ⟨rfl, k10⟩
          have j10 := k9.trans (k10.mono k9.size)
          clear z0 bq q0 r1 r2 bW HH3
          obtain ⟨z0, bq⟩ := H9.out _ j10
          obtain ⟨⟨q0, _⟩, ⟨_, r1, r2⟩, bW⟩ := H6.out _ bq
          cases T3 with
          | false =>
            have HE : Hid (ANS = false) := by show _ = _; rw [HA.out]; rfl
            clear HA
            go_wp2
            go_ret
            exact ⟨by rw [HE.out]; rfl, bW⟩
          | true =>
            have HE : Hid (ANS = decide (bs = sq)) := by show _ = _; rw [HA.out]; rfl
            clear HA
            go_wp2
            go_ret
            exact ⟨by rw [HE.out, ← HBQ.out]; rfl, bW⟩
      · have h1 : ¬ K = 1 := by omega
        have h2 : ¬ K = 2 := by omega
        have h5 : ¬ K = 5 := by omega
        have h1' : (K == 1) = false := beq_eq_false_iff_ne.2 h1
        have h2' : (K == 2) = false := beq_eq_false_iff_ne.2 h2
        have h5' : (K == 5) = false := beq_eq_false_iff_ne.2 h5
        rw [HNO.out, if_neg h1, if_neg h2, if_neg h5] at HA
        clear h1 h2 h5
        have HBB := HB.out K V U _ bW
        rw [bestT_eq] at HBB
        unfold itV at HBB
        have HBB' := Lib.hid HBB
        clear HBB
        obtain ⟨o, ho⟩ : ∃ o, bestR K V U l = o := ⟨_, rfl⟩
        rw [ho] at HBB' HA
        clear ho HNO
        go_wp2_with fail
        refine HBB'.out.mono ?_
        rintro e w7 ⟨rfl, k7⟩
        have j7 := bq.trans (k7.mono bq.size)
        have X9 := Box.new w7 #[.int .i64 (bestX o).1, .int .i64 (bestX o).2.kind, .int .i64 (bestX o).2.valid, .int .i64 (bestX o).2.uid, .int .i64 (bestX o).2.next, .int .i64 (bestX o).2.flags, .string (bestX o).2.user, .string (bestX o).2.name, .string (bestX o).2.text] 68
        have k8 := belNew w7 (.cells #[.int .i64 (bestX o).1, .int .i64 (bestX o).2.kind, .int .i64 (bestX o).2.valid, .int .i64 (bestX o).2.uid, .int .i64 (bestX o).2.next, .int .i64 (bestX o).2.flags, .string (bestX o).2.user, .string (bestX o).2.name, .string (bestX o).2.text] 68)
        have j8 := j7.trans (k8.mono j7.size)
        clear r0 r1 r2 q0 k7 k8 j7 bq bW HBB'
        go_upto_region 28 with fail
        generalize w7.alloc (.cells #[.int .i64 (bestX o).1, .int .i64 (bestX o).2.kind, .int .i64 (bestX o).2.valid, .int .i64 (bestX o).2.uid, .int .i64 (bestX o).2.next, .int .i64 (bestX o).2.flags, .string (bestX o).2.user, .string (bestX o).2.name, .string (bestX o).2.text] 68) = w8 at X9 j8 ⊢
        generalize w7.heap.size = g9 at X9 ⊢
        obtain ⟨bs, hbs⟩ : ∃ bs, (bestX o).1 = bs := ⟨_, rfl⟩
        have H9 : Hid (∀ x, Below w8.heap.size w8 x → x.cell? ⟨g9, 0, none⟩ = some (.int .i64 bs) ∧ Below w6.heap.size w6 x) := fun x hx => ⟨by rw [← hbs]; exact (X9.later hx).cell 0 _ rfl, j8.trans (hx.mono j8.size)⟩
        have HSQ : Hid (seqB o (sq, ⟨K, V, U, N, FL, US, NM, TX⟩) = decide (bs = sq)) := by show _ = _; rw [← hbs]; rfl
        rw [HSQ.out] at HA
        clear hbs X9 j8 HSQ
        obtain ⟨_, bq⟩ := H9.out _ (Below.refl _ _)
        obtain ⟨_, ⟨_, r1, r2⟩, bW⟩ := H6.out _ bq
        have HTV := Lib.hid (HT.out V _ bW)
        have HH3 := Lib.hid (fun X hX => HH.out 3 V U X hX)
        generalize thereO l V = T at HA HTV
        have HH5 := Lib.hid (fun X hX => HH.out 5 V U X hX)
        generalize hasO l 3 V U = T3 at HA HH3
        generalize hasO l 5 V U = T5 at HA HH5
        have hbq : (bs == sq) = decide (bs = sq) := by by_cases h : bs = sq <;> simp [h]
        have HBQ := Lib.hid hbq
        clear hbq bq
        go_wp2_with fail
        clear r1 r2
        refine HTV.out.mono ?_
        rintro e w9 ⟨rfl, k9⟩
        clear HTV bW
        obtain ⟨z0, bq⟩ := H9.out _ k9
        obtain ⟨⟨q0, _⟩, ⟨_, r1, r2⟩, bW⟩ := H6.out _ bq
        cases T with
        | false =>
          have HE : Hid (ANS = false) := by show _ = _; rw [HA.out]; rfl
          clear HA
          go_wp2
          go_ret
          exact ⟨by rw [HE.out]; rfl, bW⟩
        | true =>
          go_wp2_with fail
          refine (HH3.out _ bW).mono ?_
          rintro e w10 ⟨rfl, k10⟩
          have j10 := k9.trans (k10.mono k9.size)
          clear z0 bq q0 r1 r2 bW HH3
          obtain ⟨z0, bq⟩ := H9.out _ j10
          obtain ⟨⟨q0, _⟩, ⟨_, r1, r2⟩, bW⟩ := H6.out _ bq
          cases T3 with
          | false =>
            have HE : Hid (ANS = false) := by show _ = _; rw [HA.out]; rfl
            clear HA
            go_wp2
            go_ret
            exact ⟨by rw [HE.out]; rfl, bW⟩
          | true =>
            go_wp2_with fail
            refine (HH5.out _ bW).mono ?_
            rintro e w11 ⟨rfl, k11⟩
            have j11 := j10.trans (k11.mono j10.size)
            clear z0 bq q0 r1 r2 bW HH5
            obtain ⟨z0, bq⟩ := H9.out _ j11
            obtain ⟨⟨q0, _⟩, ⟨_, r1, r2⟩, bW⟩ := H6.out _ bq
            cases T5 with
            | true =>
              have HE : Hid (ANS = false) := by show _ = _; rw [HA.out]; rfl
              clear HA
              go_wp2
              go_ret
              exact ⟨by rw [HE.out]; rfl, bW⟩
            | false =>
              have HE : Hid (ANS = decide (bs = sq)) := by show _ = _; rw [HA.out]; rfl
              clear HA
              go_wp2
              go_ret
              exact ⟨by rw [HE.out, ← HBQ.out]; rfl, bW⟩

end Go.Proofs.YtlifgcgoehkinaaGreatDoor
