/- Texts of our own, joined. -/
import Derived.Test.YtahebgceoidebaaGreatJe
import Derived.Test.YtahebgceoidebaaGreatJd
import Derived.Test.YtahebgceoidebaaGreatJh
import Derived.WalkSmall
import Derived.Deep.QuietTactic
import Derived.BigQuiet
import Derived.Deep.RegionHeld3
import Derived.Test.YtahebgceoidebaaGreatJc
import Derived.Lib.Hide
/- Needed and NeededAll of the model. -/
namespace Go.Proofs.YtahebgceoidebaaGreat
open Go.RowKit

set_option maxRecDepth 100000 in
theorem specHas_any (l : List Itm) (v : Value) (kind valid uid : Int) (w : World) (h : Rows' itE w v l) (hl : l.length ≤ 1099511627776) :
    Calls Tryz.prog 69 #[v, .int .i64 kind, .int .i64 valid, .int .i64 uid] w fun e w' => e = .returned (.bool (hasO l kind valid uid)) ∧ Below w.heap.size w w' := by
  have HB := specBest_any l v kind valid uid w h hl
  rw [bestT_eq] at HB
  unfold itV at HB
  have HB' := Lib.hid HB
  have HE : Hid ((bestR kind valid uid l).isSome = hasO l kind valid uid) := by show _ = _; rfl
  clear h HB
  generalize (bestR kind valid uid l).isSome = D at HB' HE
  go_enter Tryz.func69, Tryz.ntmps69
  go_wp2_with (go_at_call 33; refine HB'.out.mono ?_; rintro e w1 ⟨rfl, k1⟩)
  go_ret
  exact ⟨by rw [HE.out]; rfl, k1.trans ((belNew _ _).mono k1.size)⟩

set_option maxRecDepth 100000 in
theorem specThere_any (l : List Itm) (v : Value) (valid : Int) (w : World) (h : Rows' itE w v l) (hl : l.length ≤ 1099511627776) :
    Calls Tryz.prog 68 #[v, .int .i64 valid] w fun e w' => e = .returned (.bool (thereO l valid)) ∧ Below w.heap.size w w' := by
  have H1 := Lib.hid (specHas_any l v 1 valid 0 w h hl)
  have H2 := Lib.hid (fun x (hx : Below w.heap.size w x) => specHas_any l v 2 valid 0 x (h.later hx) hl)
  have HE : Hid (thereO l valid = (hasO l 1 valid 0 && !hasO l 2 valid 0)) := by show _ = _; rfl
  clear h
  generalize hasO l 1 valid 0 = A at H1 HE
  generalize hasO l 2 valid 0 = B at H2 HE
  cases A with
  | false =>
    go_enter Tryz.func68, Tryz.ntmps68
    go_wp2_with (go_at_call 69; refine H1.out.mono ?_; rintro e w1 ⟨rfl, k1⟩)
    go_ret
    exact ⟨by rw [HE.out]; rfl, k1⟩
  | true =>
    go_enter Tryz.func68, Tryz.ntmps68
    go_wp2_with (first | (go_at_call 69; with_reducible refine H1.out.mono ?_; rintro e w1 ⟨rfl, k1⟩) | (go_at_call 69; with_reducible refine (H2.out _ k1).mono ?_; rintro e w2 ⟨rfl, k2⟩))
    go_ret
    exact ⟨by rw [HE.out]; first | rfl | (cases B <;> rfl), k1.trans (k2.mono k1.size)⟩

set_option maxRecDepth 100000 in
set_option maxHeartbeats 1000000 in
theorem specBigger_any (a b : Itm) (w : World) :
    Calls Tryz.prog 67 #[itV a.1 a.2, itV b.1 b.2] w fun e w' => e = .returned (.bool (bigB a b)) ∧ Below w.heap.size w w' := by
  have HE : Hid (bigB a b = decide (b.2.next < a.2.next ∨ (a.2.next = b.2.next ∧ b.1 < a.1))) := by show _ = _; rfl
  generalize bigB a b = D at HE
  obtain ⟨s1, K1, V1, U1, N1, F1, US1, NM1, TX1⟩ := a
  obtain ⟨s2, K2, V2, U2, N2, F2, US2, NM2, TX2⟩ := b
  simp only at HE
  unfold itV
  have bE : Below w.heap.size w ((w.alloc (.cells #[.int .i64 s1, .int .i64 K1, .int .i64 V1, .int .i64 U1, .int .i64 N1, .int .i64 F1, .string US1, .string NM1, .string TX1] 49)).alloc (.cells #[.int .i64 s2, .int .i64 K2, .int .i64 V2, .int .i64 U2, .int .i64 N2, .int .i64 F2, .string US2, .string NM2, .string TX2] 49)) := ((Below.refl _ _).alloc (Nat.le_refl _) _).alloc (by simp) _
  by_cases h1 : N2 < N1
  · have HD : Hid (D = true) := by rw [HE.out]; exact decide_eq_true (.inl h1)
    clear HE
    go_enter Tryz.func67, Tryz.ntmps67
    go_wp2
    go_ret
    exact ⟨by rw [HD.out]; rfl, bE⟩
  · by_cases h2 : N1 = N2
    · have h2 := h2.symm
      subst h2
      by_cases h3 : s2 < s1
      · have HD : Hid (D = true) := by rw [HE.out]; exact decide_eq_true (.inr ⟨rfl, h3⟩)
        clear HE
        go_enter Tryz.func67, Tryz.ntmps67
        go_wp2
        go_ret
        exact ⟨by rw [HD.out]; rfl, bE⟩
      · have HD : Hid (D = false) := by rw [HE.out]; exact decide_eq_false (fun c => by rcases c with c | c; exact h1 c; exact h3 c.2)
        clear HE
        go_enter Tryz.func67, Tryz.ntmps67
        go_wp2
        go_ret
        exact ⟨by rw [HD.out]; rfl, bE⟩
    · have HD : Hid (D = false) := by rw [HE.out]; exact decide_eq_false (fun c => by rcases c with c | c; exact h1 c; exact h2 c.1)
      have h2' : (N1 == N2) = false := beq_eq_false_iff_ne.2 h2
      clear HE
      go_enter Tryz.func67, Tryz.ntmps67
      go_wp2
      go_ret
      exact ⟨by rw [HD.out]; rfl, bE⟩

set_option maxRecDepth 100000 in
set_option maxHeartbeats 8000000 in
theorem specNeed_any (l : List Itm) (v : Value) (k : Nat) (x : Itm) (w : World) (h : Rows' itE w v l) (hl : l.length ≤ 1048576) (hx : l[k]? = some x) (hok : 1 ≤ x.2.kind ∧ x.2.kind ≤ 5) :
    Calls Tryz.prog 48 #[v, .int .i64 (k : Int)] w fun e w' => e = .returned (.bool (needB l k x)) ∧ Below w.heap.size w w' := by
  have HB := Lib.hid (fun (kk vv uu : Int) x' (hx' : Below w.heap.size w x') => specBest_any l v kk vv uu x' (h.later hx') (by omega))
  have HH := Lib.hid (fun (kk vv uu : Int) x' (hx' : Below w.heap.size w x') => specHas_any l v kk vv uu x' (h.later hx') (by omega))
  have HT := Lib.hid (fun (vv : Int) x' (hx' : Below w.heap.size w x') => specThere_any l v vv x' (h.later hx') (by omega))
  obtain ⟨ad, cap, rfl, hrow⟩ := h.items
  have HR := Lib.hid hrow
  clear h hrow
  obtain ⟨n, hn⟩ : ∃ n, l.length = n := ⟨_, rfl⟩
  have hkn : k < n := by have := (List.getElem?_eq_some_iff.1 hx).1; omega
  rw [hn] at hl
  rw [hn] at HB HH HT
  rw [hn]
  have HN := Lib.hid hn
  clear hn
  obtain ⟨gp, op, rfl, p0, p1, p2, p3, p4, p5, p6, p7, p8⟩ := HR.out _ (Below.refl _ _) k _ hx
  have HX := Lib.hid hx
  clear hx
  have HRW : Hid (∀ X, Below w.heap.size w X → ∀ (i : Nat) (y : Itm), l[i]? = some y → X.cell? ⟨gp, op + i * 9, none⟩ = some (.int .i64 y.1) ∧ X.cell? ⟨gp, op + i * 9 + 1, none⟩ = some (.int .i64 y.2.kind) ∧ X.cell? ⟨gp, op + i * 9 + 2, none⟩ = some (.int .i64 y.2.valid) ∧ X.cell? ⟨gp, op + i * 9 + 3, none⟩ = some (.int .i64 y.2.uid) ∧ X.cell? ⟨gp, op + i * 9 + 4, none⟩ = some (.int .i64 y.2.next) ∧ X.cell? ⟨gp, op + i * 9 + 5, none⟩ = some (.int .i64 y.2.flags) ∧ X.cell? ⟨gp, op + i * 9 + 6, none⟩ = some (.string y.2.user) ∧ X.cell? ⟨gp, op + i * 9 + 7, none⟩ = some (.string y.2.name) ∧ X.cell? ⟨gp, op + i * 9 + 8, none⟩ = some (.string y.2.text)) := fun X hX i y hy => by
    obtain ⟨g', o', e, q⟩ := HR.out X hX i y hy
    cases e
    exact q
  have HNB : Hid (needB l k x = (firstB l k x && needO l x)) := by show _ = _; rfl
  have HNO : Hid (needO l x = if x.2.kind = 1 then !anyBig l x && thereO l x.2.valid else if x.2.kind = 2 then anyOther l x && seqB (bestR 2 x.2.valid 0 l) x else if x.2.kind = 5 then (thereO l x.2.valid && hasO l 3 x.2.valid x.2.uid) && seqB (bestR 5 x.2.valid x.2.uid l) x else ((thereO l x.2.valid && hasO l 3 x.2.valid x.2.uid) && !hasO l 5 x.2.valid x.2.uid) && seqB (bestR x.2.kind x.2.valid x.2.uid l) x) := by show _ = _; rfl
  generalize needB l k x = ANS at HNB ⊢
  obtain ⟨sq, K, V, U, N, FL, US, NM, TX⟩ := x
  simp only at p0 p1 p2 p3 p4 p5 p6 p7 p8 HNO hok
  have hk0 : (0 : Int) ≤ (k : Int) := by omega
  have hk1 : (k : Int) < (n : Int) := by omega
  have X5 := Box.new w #[.int .i64 sq, .int .i64 K, .int .i64 V, .int .i64 U, .int .i64 N, .int .i64 FL, .string US, .string NM, .string TX] 49
  have b5 := belNew w (.cells #[.int .i64 sq, .int .i64 K, .int .i64 V, .int .i64 U, .int .i64 N, .int .i64 FL, .string US, .string NM, .string TX] 49)
  go_enter Tryz.func48, Tryz.ntmps48
  go_upto_region 2 with fail
  clear p0 p1 p2 p3 p4 p5 p6 p7 p8
  generalize w.alloc (.cells #[.int .i64 sq, .int .i64 K, .int .i64 V, .int .i64 U, .int .i64 N, .int .i64 FL, .string US, .string NM, .string TX] 49) = w5 at X5 b5 ⊢
  obtain ⟨g5, hg5⟩ : ∃ g5, w.heap.size = g5 := ⟨_, rfl⟩
  rw [hg5] at X5
  have HG5 := Lib.hid hg5
  obtain ⟨q0, q1, q2, q3, q4, q5, q6, q7, q8, _⟩ := X5.nine
  have X6 := Box.new w5 #[.int .i64 K, .int .i64 V, .int .i64 U, .int .i64 N, .int .i64 FL, .string US, .string NM, .string TX] 47
  have k6 := belNew w5 (.cells #[.int .i64 K, .int .i64 V, .int .i64 U, .int .i64 N, .int .i64 FL, .string US, .string NM, .string TX] 47)
  have b6 := b5.trans (k6.mono b5.size)
  replace X5 := X5.later k6
  rw [hg5]
  clear k6 b5 hg5
  go_upto_region 3 with fail
  clear q0 q1 q2 q3 q4 q5 q6 q7 q8
  generalize w5.alloc (.cells #[.int .i64 K, .int .i64 V, .int .i64 U, .int .i64 N, .int .i64 FL, .string US, .string NM, .string TX] 47) = w6 at X5 X6 b6 ⊢
  generalize w5.heap.size = g6 at X6 ⊢
  have H6 : Hid (∀ x, Below w6.heap.size w6 x → (x.cell? ⟨g5, 0, none⟩ = some (.int .i64 sq) ∧ x.cell? ⟨g5, 1, none⟩ = some (.int .i64 K) ∧ x.cell? ⟨g5, 2, none⟩ = some (.int .i64 V) ∧ x.cell? ⟨g5, 3, none⟩ = some (.int .i64 U) ∧ x.cell? ⟨g5, 4, none⟩ = some (.int .i64 N) ∧ x.cell? ⟨g5, 5, none⟩ = some (.int .i64 FL) ∧ x.cell? ⟨g5, 6, none⟩ = some (.string US) ∧ x.cell? ⟨g5, 7, none⟩ = some (.string NM) ∧ x.cell? ⟨g5, 8, none⟩ = some (.string TX)) ∧ (x.cell? ⟨g6, 0, none⟩ = some (.int .i64 K) ∧ x.cell? ⟨g6, 1, none⟩ = some (.int .i64 V) ∧ x.cell? ⟨g6, 2, none⟩ = some (.int .i64 U)) ∧ Below w.heap.size w x) := fun x hx => by
    obtain ⟨a0, a1, a2, a3, a4, a5, a6, a7, a8, _⟩ := (X5.later hx).nine
    exact ⟨⟨a0, a1, a2, a3, a4, a5, a6, a7, a8⟩, ⟨(X6.later hx).cell 0 _ rfl, (X6.later hx).cell 1 _ rfl, (X6.later hx).cell 2 _ rfl⟩, b6.trans (hx.mono b6.size)⟩
  clear X5 X6 b6
  have F0 : Hid (∀ y ∈ l.take 0, y.1 ≠ sq) := fun y hy => by simp at hy
  go_wp2
  go_loopw [7] (fun iv wr => ∃ i : Nat, i ≤ k ∧ iv = .int .i64 (i : Int) ∧ (∀ y ∈ l.take i, y.1 ≠ sq) ∧ Below w6.heap.size w6 wr) (fun iv _ => k - (intOf iv).toNat)
  case atStart => exact ⟨0, by omega, rfl, F0.out, Below.refl _ _⟩
  case round =>
    clear F0
    obtain ⟨i, hi, rfl, hno, bq⟩ := hrel
    have HNF := Lib.hid hno
    clear hno
    obtain ⟨⟨q0, _, _, _, _, _, _, _, _⟩, ⟨r0, r1, r2⟩, bW⟩ := H6.out _ bq
    by_cases hlt : i < k
    · obtain ⟨y, hgy⟩ : ∃ y, l[i]? = some y := ⟨_, List.getElem?_eq_getElem (by rw [HN.out]; omega)⟩
      obtain ⟨t0, _⟩ := HRW.out _ bW i y hgy
      have HGY := Lib.hid hgy
      clear hgy
      have hi0 : (0 : Int) ≤ (i : Int) := by omega
      have hi1 : (i : Int) < (n : Int) := by omega
      have hi2 : (i : Int) < (k : Int) := by omega
      by_cases hs : y.1 = sq
      · have HE : Hid (ANS = false) := by
          rw [HNB.out]
          have : firstB l k (sq, ⟨K, V, U, N, FL, US, NM, TX⟩) = false := by
            unfold firstB
            rw [List.any_eq_true.2 ⟨y, List.mem_of_getElem? (i := i) (by rw [List.getElem?_take_of_lt hlt]; exact HGY.out), by simp [hs]⟩]
            rfl
          rw [this]; rfl
        rw [hs] at t0
        clear HNO HNB HGY hs
        go_wp2
        go_quiet (fail)
        go_wp2
        go_ret
        exact ⟨by rw [HE.out]; rfl, below_drewN bW _⟩
      · have hs' : (y.1 == sq) = false := beq_eq_false_iff_ne.2 hs
        have HS : Hid (∀ z ∈ l.take (i + 1), z.1 ≠ sq) := fun z hz => by
          rw [List.take_add_one, HGY.out] at hz
          rcases List.mem_append.1 hz with h | h
          · exact HNF.out z h
          · simp at h; rw [h]; exact hs
        clear HGY HNF hs
        generalize y.1 = yq at *
        go_wp2
        go_quiet (fail)
        go_wp2
        go_roundw
        case rel => exact ⟨i + 1, by omega, by go_num, HS.out, below_drewN bq _⟩
        case measure => simp [intOf]; omega
    · have hik : i = k := by omega
      have HF : Hid (firstB l k (sq, ⟨K, V, U, N, FL, US, NM, TX⟩) = true) := by
        unfold firstB
        have : (l.take k).any (fun y => decide (y.1 = sq)) = false := by
          rw [List.any_eq_false]
          intro y hy
          simp only [decide_eq_true_eq]
          exact HNF.out y (by rw [hik]; exact hy)
        rw [this]; rfl
      have HA : Hid (ANS = needO l (sq, ⟨K, V, U, N, FL, US, NM, TX⟩)) := by show _ = _; rw [HNB.out, HF.out, Bool.true_and]
      have hi2 : ¬ (i : Int) < (k : Int) := by omega
      clear HNB HF HNF hik
      rcases (show K = 1 ∨ K = 2 ∨ K = 5 ∨ (K = 3 ∨ K = 4) by omega) with rfl | rfl | rfl | hK34
      · rw [HNO.out, if_pos rfl] at HA
        have HBG := Lib.hid (fun (y : Itm) X => specBigger_any y (sq, ⟨1, V, U, N, FL, US, NM, TX⟩) X)
        have G0 : Hid (∀ y ∈ l.take 0, ¬ (y.2.kind = 1 ∧ y.2.valid = V ∧ bigB y (sq, ⟨1, V, U, N, FL, US, NM, TX⟩) = true)) := fun y hy => by simp at hy
        clear HNO
        go_wp2
        go_loopw [8] (fun iv wq => ∃ i : Nat, i ≤ n ∧ iv = .int .i64 (i : Int) ∧ (∀ y ∈ l.take i, ¬ (y.2.kind = 1 ∧ y.2.valid = V ∧ bigB y (sq, ⟨1, V, U, N, FL, US, NM, TX⟩) = true)) ∧ Below w6.heap.size w6 wq) (fun iv _ => n - (intOf iv).toNat)
        case atStart => exact ⟨0, by omega, rfl, G0.out, bq⟩
        case round =>
          clear G0 bq q0 r0 r1 r2 bW
          obtain ⟨i, hi3, rfl, hno, bq⟩ := hrel
          have HNG := Lib.hid hno
          clear hno
          obtain ⟨⟨q0, q1, q2, q3, q4, q5, q6, q7, q8⟩, ⟨r0, r1, r2⟩, bW⟩ := H6.out _ bq
          by_cases hlt : i < n
          · obtain ⟨y, hgy⟩ : ∃ y, l[i]? = some y := ⟨_, List.getElem?_eq_getElem (by rw [HN.out]; omega)⟩
            obtain ⟨t0, t1, t2, t3, t4, t5, t6, t7, t8⟩ := HRW.out _ bW i y hgy
            have HGY := Lib.hid hgy
            clear hgy
            have hi0 : (0 : Int) ≤ (i : Int) := by omega
            have hi1 : (i : Int) < (n : Int) := by omega
            have HNX : Hid (¬ (y.2.kind = 1 ∧ y.2.valid = V ∧ bigB y (sq, ⟨1, V, U, N, FL, US, NM, TX⟩) = true) → ∀ z ∈ l.take (i + 1), ¬ (z.2.kind = 1 ∧ z.2.valid = V ∧ bigB z (sq, ⟨1, V, U, N, FL, US, NM, TX⟩) = true)) := fun hy z hz => by
              rw [List.take_add_one, HGY.out] at hz
              rcases List.mem_append.1 hz with h | h
              · exact HNG.out z h
              · simp at h; rw [h]; exact hy
            have HFA : Hid ((y.2.kind = 1 ∧ y.2.valid = V ∧ bigB y (sq, ⟨1, V, U, N, FL, US, NM, TX⟩) = true) → ANS = false) := fun hy => by
              rw [HA.out]
              have : anyBig l (sq, ⟨1, V, U, N, FL, US, NM, TX⟩) = true := List.any_eq_true.2 ⟨y, List.mem_of_getElem? HGY.out, by rw [hy.2.2, Bool.and_true]; exact decide_eq_true ⟨hy.1, hy.2.1⟩⟩
              rw [this]; rfl
            have HBY := Lib.hid (HBG.out y)
            clear HNG HGY
            generalize hD : bigB y (sq, ⟨1, V, U, N, FL, US, NM, TX⟩) = D at *
            obtain ⟨ys, yK, yV, yU, yN, yF, yUS, yNM, yTX⟩ := y
            unfold itV at HBY
            simp only at t0 t1 t2 t3 t4 t5 t6 t7 t8 HNX HFA HBY
            clear hD
            by_cases h1 : yK = 1
            · subst h1
              by_cases h2 : yV = V
              · have h2 := h2.symm
                subst h2
                have HS : Hid (∀ X, Below wr.drew.heap.size wr.drew X → ((X.cell? ⟨gp, op + i * 9, none⟩ = some (.int .i64 ys) ∧ X.cell? ⟨gp, op + i * 9 + 1, none⟩ = some (.int .i64 1) ∧ X.cell? ⟨gp, op + i * 9 + 2, none⟩ = some (.int .i64 V) ∧ X.cell? ⟨gp, op + i * 9 + 3, none⟩ = some (.int .i64 yU) ∧ X.cell? ⟨gp, op + i * 9 + 4, none⟩ = some (.int .i64 yN) ∧ X.cell? ⟨gp, op + i * 9 + 5, none⟩ = some (.int .i64 yF) ∧ X.cell? ⟨gp, op + i * 9 + 6, none⟩ = some (.string yUS) ∧ X.cell? ⟨gp, op + i * 9 + 7, none⟩ = some (.string yNM) ∧ X.cell? ⟨gp, op + i * 9 + 8, none⟩ = some (.string yTX)) ∧ (X.cell? ⟨g5, 0, none⟩ = some (.int .i64 sq) ∧ X.cell? ⟨g5, 1, none⟩ = some (.int .i64 1) ∧ X.cell? ⟨g5, 2, none⟩ = some (.int .i64 V) ∧ X.cell? ⟨g5, 3, none⟩ = some (.int .i64 U) ∧ X.cell? ⟨g5, 4, none⟩ = some (.int .i64 N) ∧ X.cell? ⟨g5, 5, none⟩ = some (.int .i64 FL) ∧ X.cell? ⟨g5, 6, none⟩ = some (.string US) ∧ X.cell? ⟨g5, 7, none⟩ = some (.string NM) ∧ X.cell? ⟨g5, 8, none⟩ = some (.string TX)) ∧ X.cell? ⟨g6, 1, none⟩ = some (.int .i64 V)) ∧ Below w6.heap.size w6 X) := fun X hX => by
                  have hX2 : Below w6.heap.size w6 X := bq.drew.trans (hX.mono bq.size)
                  obtain ⟨hq, ⟨_, hr1, _⟩, hw⟩ := H6.out _ hX2
                  refine ⟨⟨?_, hq, hr1⟩, hX2⟩
                  have hX3 : Below wr.heap.size wr X := (Below.refl _ _).drew.trans hX
                  have hc : ∀ (j : Nat) (u : Value), wr.cell? ⟨gp, j, none⟩ = some u → X.cell? ⟨gp, j, none⟩ = some u := fun j u hu => (hX3.cell (p := ⟨gp, j, none⟩) (World.block_lt_of_cell? _ _ hu)).trans hu
                  exact ⟨hc _ _ t0, hc _ _ t1, hc _ _ t2, hc _ _ t3, hc _ _ t4, hc _ _ t5, hc _ _ t6, hc _ _ t7, hc _ _ t8⟩
                cases D with
                | true =>
                  have HE : Hid (ANS = false) := HFA.out ⟨rfl, rfl, rfl⟩
                  clear HFA HNX
                  go_wp2
                  go_region_held3 (fun X => (X.cell? ⟨gp, op + i * 9, none⟩ = some (.int .i64 ys) ∧ X.cell? ⟨gp, op + i * 9 + 1, none⟩ = some (.int .i64 1) ∧ X.cell? ⟨gp, op + i * 9 + 2, none⟩ = some (.int .i64 V) ∧ X.cell? ⟨gp, op + i * 9 + 3, none⟩ = some (.int .i64 yU) ∧ X.cell? ⟨gp, op + i * 9 + 4, none⟩ = some (.int .i64 yN) ∧ X.cell? ⟨gp, op + i * 9 + 5, none⟩ = some (.int .i64 yF) ∧ X.cell? ⟨gp, op + i * 9 + 6, none⟩ = some (.string yUS) ∧ X.cell? ⟨gp, op + i * 9 + 7, none⟩ = some (.string yNM) ∧ X.cell? ⟨gp, op + i * 9 + 8, none⟩ = some (.string yTX)) ∧ (X.cell? ⟨g5, 0, none⟩ = some (.int .i64 sq) ∧ X.cell? ⟨g5, 1, none⟩ = some (.int .i64 1) ∧ X.cell? ⟨g5, 2, none⟩ = some (.int .i64 V) ∧ X.cell? ⟨g5, 3, none⟩ = some (.int .i64 U) ∧ X.cell? ⟨g5, 4, none⟩ = some (.int .i64 N) ∧ X.cell? ⟨g5, 5, none⟩ = some (.int .i64 FL) ∧ X.cell? ⟨g5, 6, none⟩ = some (.string US) ∧ X.cell? ⟨g5, 7, none⟩ = some (.string NM) ∧ X.cell? ⟨g5, 8, none⟩ = some (.string TX)) ∧ X.cell? ⟨g6, 1, none⟩ = some (.int .i64 V))
                    (first | exact (HS.out _ (Below.refl _ _)).1 | exact (HS.out _ kX).1)
                    (first | (go_at_call 67; refine (HBY.out _).mono ?_; rintro e wX ⟨rfl, kX⟩))
                  all_goals
                    have bE := (H6.out _ (HS.out _ kX).2).2.2
                    go_wp2
                    go_ret
                    exact ⟨by rw [HE.out]; rfl, bE⟩
                | false =>
                  have HN2 := Lib.hid (HNX.out (fun c => by cases c.2.2))
                  clear HFA HNX
                  go_wp2
                  go_region_held3 (fun X => (X.cell? ⟨gp, op + i * 9, none⟩ = some (.int .i64 ys) ∧ X.cell? ⟨gp, op + i * 9 + 1, none⟩ = some (.int .i64 1) ∧ X.cell? ⟨gp, op + i * 9 + 2, none⟩ = some (.int .i64 V) ∧ X.cell? ⟨gp, op + i * 9 + 3, none⟩ = some (.int .i64 yU) ∧ X.cell? ⟨gp, op + i * 9 + 4, none⟩ = some (.int .i64 yN) ∧ X.cell? ⟨gp, op + i * 9 + 5, none⟩ = some (.int .i64 yF) ∧ X.cell? ⟨gp, op + i * 9 + 6, none⟩ = some (.string yUS) ∧ X.cell? ⟨gp, op + i * 9 + 7, none⟩ = some (.string yNM) ∧ X.cell? ⟨gp, op + i * 9 + 8, none⟩ = some (.string yTX)) ∧ (X.cell? ⟨g5, 0, none⟩ = some (.int .i64 sq) ∧ X.cell? ⟨g5, 1, none⟩ = some (.int .i64 1) ∧ X.cell? ⟨g5, 2, none⟩ = some (.int .i64 V) ∧ X.cell? ⟨g5, 3, none⟩ = some (.int .i64 U) ∧ X.cell? ⟨g5, 4, none⟩ = some (.int .i64 N) ∧ X.cell? ⟨g5, 5, none⟩ = some (.int .i64 FL) ∧ X.cell? ⟨g5, 6, none⟩ = some (.string US) ∧ X.cell? ⟨g5, 7, none⟩ = some (.string NM) ∧ X.cell? ⟨g5, 8, none⟩ = some (.string TX)) ∧ X.cell? ⟨g6, 1, none⟩ = some (.int .i64 V))
                    (first | exact (HS.out _ (Below.refl _ _)).1 | exact (HS.out _ kX).1)
                    (first | (go_at_call 67; refine (HBY.out _).mono ?_; rintro e wX ⟨rfl, kX⟩))
                  all_goals
                    have bE := (HS.out _ kX).2
                    go_wp2
                    go_roundw
                    case rel => exact ⟨i + 1, by omega, by go_num, HN2.out, bE⟩
                    case measure => simp [intOf]; omega
              · have h2' : (yV == V) = false := beq_eq_false_iff_ne.2 h2
                have HN2 := Lib.hid (HNX.out (fun c => h2 c.2.1))
                clear HFA HNX h2
                go_wp2
                go_quiet (fail)
                go_wp2
                go_roundw
                case rel => exact ⟨i + 1, by omega, by go_num, HN2.out, below_drewN bq _⟩
                case measure => simp [intOf]; omega
            · have h1' : (yK == 1) = false := beq_eq_false_iff_ne.2 h1
              have HN2 := Lib.hid (HNX.out (fun c => h1 c.1))
              clear HFA HNX h1
              go_wp2
              go_quiet (fail)
              go_wp2
              go_roundw
              case rel => exact ⟨i + 1, by omega, by go_num, HN2.out, below_drewN bq _⟩
              case measure => simp [intOf]; omega
          · have HG : Hid (anyBig l (sq, ⟨1, V, U, N, FL, US, NM, TX⟩) = false) := by
              show _ = false
              unfold anyBig
              rw [List.any_eq_false]
              intro y hy
              have h3 := HNG.out y (by rw [List.take_of_length_le (by rw [HN.out]; omega)]; exact hy)
              simp only [Bool.and_eq_true, decide_eq_true_eq]
              exact fun c => h3 ⟨c.1.1, c.1.2, c.2⟩
            rw [HG.out] at HA
            have HTV := Lib.hid (HT.out V _ bW)
            generalize thereO l V = T at HA HTV
            have HE : Hid (ANS = T) := by show _ = _; rw [HA.out]; simp
            clear HA HG HNG q0 q1 q2 q3 q4 q5 q6 q7 q8
            go_wp2_with fail
            refine HTV.out.mono ?_
            rintro e w9 ⟨rfl, k9⟩
            have bE := bW.trans (k9.mono bW.size)
            clear HTV
            go_wp2
            go_ret
            exact ⟨by rw [HE.out]; rfl, bE⟩
      · rw [HNO.out, if_neg (by decide), if_pos rfl] at HA
        have HBB := HB.out 2 V 0 _ bW
        rw [bestT_eq] at HBB
        unfold itV at HBB
        have HBB' := Lib.hid HBB
        clear HBB
        obtain ⟨o, ho⟩ : ∃ o, bestR 2 V 0 l = o := ⟨_, rfl⟩
        rw [ho] at HBB' HA
        clear ho HNO
        go_wp2_with fail
        refine HBB'.out.mono ?_
        rintro e w7 ⟨rfl, k7⟩
        have j7 := bq.trans (k7.mono bq.size)
        have X9 := Box.new w7 #[.int .i64 (bestX o).1, .int .i64 (bestX o).2.kind, .int .i64 (bestX o).2.valid, .int .i64 (bestX o).2.uid, .int .i64 (bestX o).2.next, .int .i64 (bestX o).2.flags, .string (bestX o).2.user, .string (bestX o).2.name, .string (bestX o).2.text] 49
        have k8 := belNew w7 (.cells #[.int .i64 (bestX o).1, .int .i64 (bestX o).2.kind, .int .i64 (bestX o).2.valid, .int .i64 (bestX o).2.uid, .int .i64 (bestX o).2.next, .int .i64 (bestX o).2.flags, .string (bestX o).2.user, .string (bestX o).2.name, .string (bestX o).2.text] 49)
        have j8 := j7.trans (k8.mono j7.size)
        clear r0 r1 r2 q0 k7 k8 j7 bq bW HBB'
        go_upto_region 18 with fail
        generalize w7.alloc (.cells #[.int .i64 (bestX o).1, .int .i64 (bestX o).2.kind, .int .i64 (bestX o).2.valid, .int .i64 (bestX o).2.uid, .int .i64 (bestX o).2.next, .int .i64 (bestX o).2.flags, .string (bestX o).2.user, .string (bestX o).2.name, .string (bestX o).2.text] 49) = w8 at X9 j8 ⊢
        generalize w7.heap.size = g9 at X9 ⊢
        obtain ⟨bs, hbs⟩ : ∃ bs, (bestX o).1 = bs := ⟨_, rfl⟩
        have H9 : Hid (∀ x, Below w8.heap.size w8 x → x.cell? ⟨g9, 0, none⟩ = some (.int .i64 bs) ∧ Below w6.heap.size w6 x) := fun x hx => ⟨by rw [← hbs]; exact (X9.later hx).cell 0 _ rfl, j8.trans (hx.mono j8.size)⟩
        have HSQ : Hid (seqB o (sq, ⟨2, V, U, N, FL, US, NM, TX⟩) = decide (bs = sq)) := by show _ = _; rw [← hbs]; rfl
        rw [HSQ.out] at HA
        clear hbs X9 j8 HSQ
        have G0 : Hid (∀ y ∈ l.take 0, ¬ (y.2.kind ≠ 2 ∧ y.2.valid = V)) := fun y hy => by simp at hy
        have hbq : (bs == sq) = decide (bs = sq) := by by_cases h : bs = sq <;> simp [h]
        have HBQ := Lib.hid hbq
        clear hbq
        go_wp2
        go_loopw [11] (fun iv wq => ∃ i : Nat, i ≤ n ∧ iv = .int .i64 (i : Int) ∧ (∀ y ∈ l.take i, ¬ (y.2.kind ≠ 2 ∧ y.2.valid = V)) ∧ Below w8.heap.size w8 wq) (fun iv _ => n - (intOf iv).toNat)
        case atStart => exact ⟨0, by omega, rfl, G0.out, Below.refl _ _⟩
        case round =>
          clear G0
          obtain ⟨i, hi3, rfl, hno, b8⟩ := hrel
          have HNG := Lib.hid hno
          clear hno
          obtain ⟨z0, bq⟩ := H9.out _ b8
          obtain ⟨⟨q0, _⟩, ⟨r0, r1, r2⟩, bW⟩ := H6.out _ bq
          by_cases hlt : i < n
          · obtain ⟨y, hgy⟩ : ∃ y, l[i]? = some y := ⟨_, List.getElem?_eq_getElem (by rw [HN.out]; omega)⟩
            obtain ⟨_, t1, t2, _⟩ := HRW.out _ bW i y hgy
            have HGY := Lib.hid hgy
            clear hgy
            have hi0 : (0 : Int) ≤ (i : Int) := by omega
            have hi1 : (i : Int) < (n : Int) := by omega
            have HNX : Hid (¬ (y.2.kind ≠ 2 ∧ y.2.valid = V) → ∀ z ∈ l.take (i + 1), ¬ (z.2.kind ≠ 2 ∧ z.2.valid = V)) := fun hy z hz => by
              rw [List.take_add_one, HGY.out] at hz
              rcases List.mem_append.1 hz with h | h
              · exact HNG.out z h
              · simp at h; rw [h]; exact hy
            have HFA : Hid ((y.2.kind ≠ 2 ∧ y.2.valid = V) → ANS = decide (bs = sq)) := fun hy => by
              rw [HA.out]
              have : anyOther l (sq, ⟨2, V, U, N, FL, US, NM, TX⟩) = true := List.any_eq_true.2 ⟨y, List.mem_of_getElem? HGY.out, decide_eq_true hy⟩
              rw [this]; rfl
            clear HNG HGY
            generalize y.2.kind = yK at t1 HNX HFA
            generalize y.2.valid = yV at t2 HNX HFA
            by_cases h1 : yK = 2
            · subst h1
              have HN2 := Lib.hid (HNX.out (fun c => c.1 rfl))
              clear HFA HNX
              go_wp2
              go_quiet (fail)
              go_wp2
              go_roundw
              case rel => exact ⟨i + 1, by omega, by go_num, HN2.out, below_drewN b8 _⟩
              case measure => simp [intOf]; omega
            · have h1' : (yK == 2) = false := beq_eq_false_iff_ne.2 h1
              have h1'' : (yK != 2) = true := bne_iff_ne.2 h1
              by_cases h2 : yV = V
              · have h2 := h2.symm
                subst h2
                have HE : Hid (ANS = decide (bs = sq)) := HFA.out ⟨h1, rfl⟩
                clear HFA HNX
                go_wp2
                go_quiet (fail)
                go_wp2
                go_ret
                exact ⟨by rw [HE.out, ← HBQ.out]; rfl, below_drewN bW _⟩
              · have h2' : (yV == V) = false := beq_eq_false_iff_ne.2 h2
                have HN2 := Lib.hid (HNX.out (fun c => h2 c.2))
                clear HFA HNX h2
                go_wp2
                go_quiet (fail)
                go_wp2
                go_roundw
                case rel => exact ⟨i + 1, by omega, by go_num, HN2.out, below_drewN b8 _⟩
                case measure => simp [intOf]; omega
          · have HE : Hid (ANS = false) := by
              rw [HA.out]
              have : anyOther l (sq, ⟨2, V, U, N, FL, US, NM, TX⟩) = false := by
                unfold anyOther
                rw [List.any_eq_false]
                intro y hy
                have h3 := HNG.out y (by rw [List.take_of_length_le (by rw [HN.out]; omega)]; exact hy)
                simp only [decide_eq_true_eq]
                exact h3
              rw [this]; rfl
            clear HA HNG
            go_wp2
            go_ret
            exact ⟨by rw [HE.out]; rfl, bW⟩
      · rw [HNO.out, if_neg (by decide), if_neg (by decide), if_pos rfl] at HA
        have HBB := HB.out 5 V U _ bW
        rw [bestT_eq] at HBB
        unfold itV at HBB
        have HBB' := Lib.hid HBB
        clear HBB
        obtain ⟨o, ho⟩ : ∃ o, bestR 5 V U l = o := ⟨_, rfl⟩
        rw [ho] at HBB' HA
        clear ho HNO
        go_wp2_with fail
        refine HBB'.out.mono ?_
        rintro e w7 ⟨rfl, k7⟩
        have j7 := bq.trans (k7.mono bq.size)
        have X9 := Box.new w7 #[.int .i64 (bestX o).1, .int .i64 (bestX o).2.kind, .int .i64 (bestX o).2.valid, .int .i64 (bestX o).2.uid, .int .i64 (bestX o).2.next, .int .i64 (bestX o).2.flags, .string (bestX o).2.user, .string (bestX o).2.name, .string (bestX o).2.text] 49
        have k8 := belNew w7 (.cells #[.int .i64 (bestX o).1, .int .i64 (bestX o).2.kind, .int .i64 (bestX o).2.valid, .int .i64 (bestX o).2.uid, .int .i64 (bestX o).2.next, .int .i64 (bestX o).2.flags, .string (bestX o).2.user, .string (bestX o).2.name, .string (bestX o).2.text] 49)
        have j8 := j7.trans (k8.mono j7.size)
        clear r0 r1 r2 q0 k7 k8 j7 bq bW HBB'
        go_upto_region 26 with fail
        generalize w7.alloc (.cells #[.int .i64 (bestX o).1, .int .i64 (bestX o).2.kind, .int .i64 (bestX o).2.valid, .int .i64 (bestX o).2.uid, .int .i64 (bestX o).2.next, .int .i64 (bestX o).2.flags, .string (bestX o).2.user, .string (bestX o).2.name, .string (bestX o).2.text] 49) = w8 at X9 j8 ⊢
        generalize w7.heap.size = g9 at X9 ⊢
        obtain ⟨bs, hbs⟩ : ∃ bs, (bestX o).1 = bs := ⟨_, rfl⟩
        have H9 : Hid (∀ x, Below w8.heap.size w8 x → x.cell? ⟨g9, 0, none⟩ = some (.int .i64 bs) ∧ Below w6.heap.size w6 x) := fun x hx => ⟨by rw [← hbs]; exact (X9.later hx).cell 0 _ rfl, j8.trans (hx.mono j8.size)⟩
        have HSQ : Hid (seqB o (sq, ⟨5, V, U, N, FL, US, NM, TX⟩) = decide (bs = sq)) := by show _ = _; rw [← hbs]; rfl
        rw [HSQ.out] at HA
        clear hbs X9 j8 HSQ
        obtain ⟨_, bq⟩ := H9.out _ (Below.refl _ _)
        obtain ⟨_, ⟨_, r1, r2⟩, bW⟩ := H6.out _ bq
        have HTV := Lib.hid (HT.out V _ bW)
        have HH3 := Lib.hid (fun X hX => HH.out 3 V U X hX)
        generalize thereO l V = T at HA HTV
        generalize hasO l 3 V U = T3 at HA HH3
        have hbq : (bs == sq) = decide (bs = sq) := by by_cases h : bs = sq <;> simp [h]
        have HBQ := Lib.hid hbq
        clear hbq bq
        go_wp2_with fail
        clear r1 r2
        refine HTV.out.mono ?_
        rintro e w9 ⟨rfl, k9⟩
        clear HTV bW
        obtain ⟨z0, bq⟩ := H9.out _ k9
        obtain ⟨⟨q0, _⟩, ⟨_, r1, r2⟩, bW⟩ := H6.out _ bq
        cases T with
        | false =>
          have HE : Hid (ANS = false) := by show _ = _; rw [HA.out]; rfl
          clear HA
          go_wp2
          go_ret
          exact ⟨by rw [HE.out]; rfl, bW⟩
        | true =>
          go_wp2_with fail
          refine (HH3.out _ bW).mono ?_
          rintro e w10 ⟨rfl, k10⟩
          have j10 := k9.trans (k10.mono k9.size)
          clear z0 bq q0 r1 r2 bW HH3
          obtain ⟨z0, bq⟩ := H9.out _ j10
          obtain ⟨⟨q0, _⟩, ⟨_, r1, r2⟩, bW⟩ := H6.out _ bq
          cases T3 with
          | false =>
            have HE : Hid (ANS = false) := by show _ = _; rw [HA.out]; rfl
            clear HA
            go_wp2
            go_ret
            exact ⟨by rw [HE.out]; rfl, bW⟩
          | true =>
            have HE : Hid (ANS = decide (bs = sq)) := by show _ = _; rw [HA.out]; rfl
            clear HA
            go_wp2
            go_ret
            exact ⟨by rw [HE.out, ← HBQ.out]; rfl, bW⟩
      · have h1 : ¬ K = 1 := by omega
        have h2 : ¬ K = 2 := by omega
        have h5 : ¬ K = 5 := by omega
        have h1' : (K == 1) = false := beq_eq_false_iff_ne.2 h1
        have h2' : (K == 2) = false := beq_eq_false_iff_ne.2 h2
        have h5' : (K == 5) = false := beq_eq_false_iff_ne.2 h5
        rw [HNO.out, if_neg h1, if_neg h2, if_neg h5] at HA
        clear h1 h2 h5
        have HBB := HB.out K V U _ bW
        rw [bestT_eq] at HBB
        unfold itV at HBB
        have HBB' := Lib.hid HBB
        clear HBB
        obtain ⟨o, ho⟩ : ∃ o, bestR K V U l = o := ⟨_, rfl⟩
        rw [ho] at HBB' HA
        clear ho HNO
        go_wp2_with fail
        refine HBB'.out.mono ?_
        rintro e w7 ⟨rfl, k7⟩
        have j7 := bq.trans (k7.mono bq.size)
        have X9 := Box.new w7 #[.int .i64 (bestX o).1, .int .i64 (bestX o).2.kind, .int .i64 (bestX o).2.valid, .int .i64 (bestX o).2.uid, .int .i64 (bestX o).2.next, .int .i64 (bestX o).2.flags, .string (bestX o).2.user, .string (bestX o).2.name, .string (bestX o).2.text] 49
        have k8 := belNew w7 (.cells #[.int .i64 (bestX o).1, .int .i64 (bestX o).2.kind, .int .i64 (bestX o).2.valid, .int .i64 (bestX o).2.uid, .int .i64 (bestX o).2.next, .int .i64 (bestX o).2.flags, .string (bestX o).2.user, .string (bestX o).2.name, .string (bestX o).2.text] 49)
        have j8 := j7.trans (k8.mono j7.size)
        clear r0 r1 r2 q0 k7 k8 j7 bq bW HBB'
        go_upto_region 28 with fail
        generalize w7.alloc (.cells #[.int .i64 (bestX o).1, .int .i64 (bestX o).2.kind, .int .i64 (bestX o).2.valid, .int .i64 (bestX o).2.uid, .int .i64 (bestX o).2.next, .int .i64 (bestX o).2.flags, .string (bestX o).2.user, .string (bestX o).2.name, .string (bestX o).2.text] 49) = w8 at X9 j8 ⊢
        generalize w7.heap.size = g9 at X9 ⊢
        obtain ⟨bs, hbs⟩ : ∃ bs, (bestX o).1 = bs := ⟨_, rfl⟩
        have H9 : Hid (∀ x, Below w8.heap.size w8 x → x.cell? ⟨g9, 0, none⟩ = some (.int .i64 bs) ∧ Below w6.heap.size w6 x) := fun x hx => ⟨by rw [← hbs]; exact (X9.later hx).cell 0 _ rfl, j8.trans (hx.mono j8.size)⟩
        have HSQ : Hid (seqB o (sq, ⟨K, V, U, N, FL, US, NM, TX⟩) = decide (bs = sq)) := by show _ = _; rw [← hbs]; rfl
        rw [HSQ.out] at HA
        clear hbs X9 j8 HSQ
        obtain ⟨_, bq⟩ := H9.out _ (Below.refl _ _)
        obtain ⟨_, ⟨_, r1, r2⟩, bW⟩ := H6.out _ bq
        have HTV := Lib.hid (HT.out V _ bW)
        have HH3 := Lib.hid (fun X hX => HH.out 3 V U X hX)
        generalize thereO l V = T at HA HTV
        have HH5 := Lib.hid (fun X hX => HH.out 5 V U X hX)
        generalize hasO l 3 V U = T3 at HA HH3
        generalize hasO l 5 V U = T5 at HA HH5
        have hbq : (bs == sq) = decide (bs = sq) := by by_cases h : bs = sq <;> simp [h]
        have HBQ := Lib.hid hbq
        clear hbq bq
        go_wp2_with fail
        clear r1 r2
        refine HTV.out.mono ?_
        rintro e w9 ⟨rfl, k9⟩
        clear HTV bW
        obtain ⟨z0, bq⟩ := H9.out _ k9
        obtain ⟨⟨q0, _⟩, ⟨_, r1, r2⟩, bW⟩ := H6.out _ bq
        cases T with
        | false =>
          have HE : Hid (ANS = false) := by show _ = _; rw [HA.out]; rfl
          clear HA
          go_wp2
          go_ret
          exact ⟨by rw [HE.out]; rfl, bW⟩
        | true =>
          go_wp2_with fail
          refine (HH3.out _ bW).mono ?_
          rintro e w10 ⟨rfl, k10⟩
          have j10 := k9.trans (k10.mono k9.size)
          clear z0 bq q0 r1 r2 bW HH3
          obtain ⟨z0, bq⟩ := H9.out _ j10
          obtain ⟨⟨q0, _⟩, ⟨_, r1, r2⟩, bW⟩ := H6.out _ bq
          cases T3 with
          | false =>
            have HE : Hid (ANS = false) := by show _ = _; rw [HA.out]; rfl
            clear HA
            go_wp2
            go_ret
            exact ⟨by rw [HE.out]; rfl, bW⟩
          | true =>
            go_wp2_with fail
            refine (HH5.out _ bW).mono ?_
            rintro e w11 ⟨rfl, k11⟩
            have j11 := j10.trans (k11.mono j10.size)
            clear z0 bq q0 r1 r2 bW HH5
            obtain ⟨z0, bq⟩ := H9.out _ j11
            obtain ⟨⟨q0, _⟩, ⟨_, r1, r2⟩, bW⟩ := H6.out _ bq
            cases T5 with
            | true =>
              have HE : Hid (ANS = false) := by show _ = _; rw [HA.out]; rfl
              clear HA
              go_wp2
              go_ret
              exact ⟨by rw [HE.out]; rfl, bW⟩
            | false =>
              have HE : Hid (ANS = decide (bs = sq)) := by show _ = _; rw [HA.out]; rfl
              clear HA
              go_wp2
              go_ret
              exact ⟨by rw [HE.out, ← HBQ.out]; rfl, bW⟩

end Go.Proofs.YtahebgceoidebaaGreat

/- Without of either side: the items of which drop is not so, in order. -/
namespace Go.Proofs.YtahebgceoidebaaGreat
open Go.RowKit

/-- What is left of the first i. -/
def woT (l : List Itm) (d : List Bool) : Nat → List Itm
  | 0 => []
  | i + 1 => woT l d i ++ (if d[i]? = some true then [] else (l[i]?).toList)
def wo (l : List Itm) (d : List Bool) : List Itm := woT l d l.length
theorem woT_go {l : List Itm} {d : List Bool} {i : Nat} (h : d[i]? = some true) : woT l d (i + 1) = woT l d i := by
  show _ ++ _ = _
  rw [if_pos h, List.append_nil]
theorem woT_stay {l : List Itm} {d : List Bool} {i : Nat} {x : Itm} (h : d[i]? ≠ some true) (hx : l[i]? = some x) : woT l d (i + 1) = woT l d i ++ [x] := by
  show _ ++ _ = _
  rw [if_neg h, hx]; rfl
theorem woT_len (l : List Itm) (d : List Bool) : ∀ i, (woT l d i).length ≤ i
  | 0 => Nat.le_refl _
  | i + 1 => by
    have h := woT_len l d i
    show (woT l d i ++ _).length ≤ _
    rw [List.length_append]
    by_cases hd : d[i]? = some true
    · rw [if_pos hd]; simp; omega
    · rw [if_neg hd]; cases l[i]? <;> simp <;> omega
theorem wo_len (l : List Itm) (d : List Bool) : (wo l d).length ≤ l.length := woT_len l d _
theorem woT_mem {l : List Itm} {d : List Bool} : ∀ {i : Nat} {x : Itm}, x ∈ woT l d i → x ∈ l
  | i + 1, x, h => by
    rcases List.mem_append.1 h with h | h
    · exact woT_mem h
    · by_cases hd : d[i]? = some true
      · rw [if_pos hd] at h; cases h
      · rw [if_neg hd] at h
        cases hx : l[i]? with
        | none => rw [hx] at h; cases h
        | some y => rw [hx] at h; simp at h; subst h; exact List.mem_of_getElem? hx

/-- Whether a list of bools is so at a place. -/
def soB (d : List Bool) (k : Int) : Bool := decide (0 ≤ k ∧ d[k.toNat]? = some true)
theorem soB_nat (d : List Bool) (i : Nat) : soB d (i : Int) = decide (d[i]? = some true) := by
  unfold soB
  congr 1
  apply propext
  constructor
  · exact fun h => h.2
  · exact fun h => ⟨by omega, h⟩

/-- As a loop reads it. -/
def BoRow (w : World) (ad : Option Addr) (l : List Bool) : Prop := ∀ X, Below w.heap.size w X → ∀ (i : Nat) (x : Bool), l[i]? = some x → ∃ (g off : Nat), ad = some ⟨g, off, none⟩ ∧ X.cell? ⟨g, off + i, none⟩ = some (.bool x)
theorem Rows'.bools {w : World} {v : Value} {l : List Bool} (h : Rows' boE w v l) : ∃ (ad : Option Addr) (cap : Nat), v = .slice ad l.length cap ∧ BoRow w ad l := by
  rcases h.ways with ⟨rfl, a, c, rfl⟩ | ⟨hne, g, off, c, rfl, hc, hg, hcl⟩
  · exact ⟨a, c, rfl, fun X _ i x hi => by cases hi⟩
  · refine ⟨_, c, rfl, fun X hb i x hi => ⟨g, off, rfl, ?_⟩⟩
    have := hcl i x hi 0 _ rfl
    rw [show boE.sz = 1 from rfl, Nat.mul_one, Nat.add_zero] at this
    exact (hb.cell (p := ⟨g, off + i, none⟩) hg).trans this

set_option maxRecDepth 100000 in
set_option maxHeartbeats 4000000 in
theorem specWithout_any (l : List Itm) (d : List Bool) (v vd : Value) (w : World) (h : Rows' itE w v l) (hd : Rows' boE w vd d) (hl : l.length ≤ 1048576) :
    Calls Tryz.prog 27 #[v, vd] w fun e w' => ∃ v', e = .returned v' ∧ RBuf itE w.heap.size w w' v' (wo l d) := by
  obtain ⟨ad, cap, rfl, hrow⟩ := h.items
  obtain ⟨ab, cab, rfl, hbo⟩ := hd.bools
  have HR := Lib.hid hrow
  have HB := Lib.hid hbo
  clear h hd hrow hbo
  obtain ⟨n, hn⟩ : ∃ n, l.length = n := ⟨_, rfl⟩
  obtain ⟨m, hm⟩ : ∃ m, d.length = m := ⟨_, rfl⟩
  rw [hn, hm]
  have HN := Lib.hid hn
  have HM := Lib.hid hm
  rw [hn] at hl
  clear hn hm
  have I0 := RBuf.fresh itE w
  go_enter Tryz.func27, Tryz.ntmps27
  go_wp2
  go_loopw [5, 6] (fun v iv wr => ∃ i : Nat, i ≤ n ∧ iv = .int .i64 (i : Int) ∧ RBuf itE w.heap.size w wr v (woT l d i)) (fun _ iv _ => n - (intOf iv).toNat)
  case atStart => exact ⟨0, by omega, rfl, I0⟩
  case round =>
    clear I0
    obtain ⟨i, hi, rfl, I⟩ := hrel
    by_cases hlt : i < n
    · obtain ⟨x, hgx⟩ : ∃ x, l[i]? = some x := ⟨_, List.getElem?_eq_getElem (by rw [HN.out]; exact hlt)⟩
      obtain ⟨gp, op, rfl, p0, p1, p2, p3, p4, p5, p6, p7, p8⟩ := HR.out _ I.bel i _ hgx
      have hlu := woT_len l d i
      have HG := Lib.hid (fun h => woT_go (l := l) (d := d) (i := i) h)
      have HS := Lib.hid (fun h => woT_stay (l := l) (d := d) (i := i) h hgx)
      obtain ⟨us, hus⟩ : ∃ us, woT l d i = us := ⟨_, rfl⟩
      rw [hus] at I hlu HG HS
      have hi0 : (0 : Int) ≤ (i : Int) := by omega
      have hi1 : (i : Int) < (n : Int) := by omega
      have L6 := RBuf.lit1 itE wr x
      have HR6 := Lib.hid (I.alloc (.cells #[.int .i64 x.1, .int .i64 x.2.kind, .int .i64 x.2.valid, .int .i64 x.2.uid, .int .i64 x.2.next, .int .i64 x.2.flags, .string x.2.user, .string x.2.name, .string x.2.text] 49))
      have HL6 := Lib.hid L6
      have HI := Lib.hid I
      clear hgx hus L6 I
      by_cases hge : (m : Int) ≤ (i : Int)
      · have HS' : Hid (woT l d (i + 1) = us ++ [x]) := HS.out (fun e => by have := (List.getElem?_eq_some_iff.1 e).1; have := HM.out; omega)
        clear HG HS
        go_wp2_with (at_builtin; refine wpList_append_rows rfl _ _ itE rfl w.heap.size _ _ rfl HR6.out.here wr.heap.size _ [x] rfl HL6.out (by show _ * 97 ≤ _; simp only [List.length_cons, List.length_nil]; omega) ?_; intro v6 w6 r6 g6 at6)
        exact ⟨⟨i + 1, by omega, by simp, by rw [HS'.out]; exact ⟨r6.own, HR6.out.bel.grown g6 HR6.out.le (fun k hk => (HR6.out.own.lt k hk).1), r6.le⟩⟩, by first | omega | (simp [intOf]; omega)⟩
      · obtain ⟨b, hgb⟩ : ∃ b, d[i]? = some b := ⟨_, List.getElem?_eq_getElem (by rw [HM.out]; omega)⟩
        obtain ⟨gb, ob, rfl, pb⟩ := HB.out _ HI.out.bel i _ hgb
        have hi2 : (i : Int) < (m : Int) := by omega
        cases b with
        | true =>
          have HG' := Lib.hid (HG.out hgb)
          clear HG HS hgb p0 p1 p2 p3 p4 p5 p6 p7 p8
          go_wp2
          exact ⟨⟨i + 1, by omega, by simp, by rw [HG'.out]; exact HI.out⟩, by first | omega | (simp [intOf]; omega)⟩
        | false =>
          have HS' := Lib.hid (HS.out (by rw [hgb]; exact fun e => by cases e))
          clear HG HS hgb
          go_wp2_with (at_builtin; refine wpList_append_rows rfl _ _ itE rfl w.heap.size _ _ rfl HR6.out.here wr.heap.size _ [x] rfl HL6.out (by show _ * 97 ≤ _; simp only [List.length_cons, List.length_nil]; omega) ?_; intro v6 w6 r6 g6 at6)
          exact ⟨⟨i + 1, by omega, by simp, by rw [HS'.out]; exact ⟨r6.own, HR6.out.bel.grown g6 HR6.out.le (fun k hk => (HR6.out.own.lt k hk).1), r6.le⟩⟩, by first | omega | (simp [intOf]; omega)⟩
    · go_wp2
      go_ret
      refine ⟨_, rfl, ?_⟩
      have hil : i = l.length := by rw [HN.out]; omega
      rw [hil] at I
      exact I

set_option maxRecDepth 100000 in
theorem soAt_any (d : List Bool) (vd : Value) (k : Int) (w : World) (hd : Rows' boE w vd d) (hk : -9223372036854775808 ≤ k ∧ k ≤ 9223372036854775807) :
    Calls Tryz.prog 32 #[vd, .int .i64 k] w fun e w' => e = .returned (.bool (soB d k)) ∧ w = w' := by
  obtain ⟨ab, cab, rfl, hbo⟩ := hd.bools
  clear hd
  by_cases h0 : 0 ≤ k
  · obtain ⟨i, rfl⟩ : ∃ i : Nat, k = (i : Int) := ⟨k.toNat, by omega⟩
    rw [soB_nat]
    by_cases h1 : i < d.length
    · have hgb : d[i]? = some d[i] := List.getElem?_eq_getElem h1
      generalize d[i] = b at hgb
      obtain ⟨gb, ob, rfl, pb⟩ := hbo _ (Below.refl _ _) i _ hgb
      have hr : decide (d[i]? = some true) = b := by rw [hgb]; cases b <;> rfl
      have h2 : (i : Int) < (d.length : Int) := by omega
      rw [hr]
      clear hbo hgb hr
      go_enter Tryz.func32, Tryz.ntmps32
      go_wp2
      go_ret
      exact ⟨rfl, rfl⟩
    · have h2 : ¬ (i : Int) < (d.length : Int) := by omega
      have hr : decide (d[i]? = some true) = false := by rw [List.getElem?_eq_none (by omega)]; rfl
      rw [hr]
      clear hbo hr
      go_enter Tryz.func32, Tryz.ntmps32
      go_wp2
      go_ret
      exact ⟨rfl, rfl⟩
  · have hr : soB d k = false := by unfold soB; exact decide_eq_false (fun h => h0 h.1)
    rw [hr]
    clear hbo hr
    go_enter Tryz.func32, Tryz.ntmps32
    go_wp2
    go_ret
    exact ⟨rfl, rfl⟩

theorem setCell_same {w : World} {g i : Nat} {v : Value} (h : w.cell? ⟨g, i, none⟩ = some v) : w.setCell ⟨g, i, none⟩ v = w := by
  have : w.heap.modify g (fun
      | .cells c elem frozen => .cells (if (none : Option Nat).isSome then c else c.setIfInBounds i v) elem frozen
      | o => o) = w.heap := by
    apply Array.ext_getElem?
    intro k
    rw [Array.getElem?_modify]
    by_cases hk : g = k
    · subst hk
      rw [if_pos rfl]
      unfold World.cell? at h
      cases ho : w.heap[g]? with
      | none => rfl
      | some o =>
        rw [ho] at h
        cases o <;> simp_all
        rename_i c _ _
        apply Array.ext_getElem?
        intro j
        rw [Array.getElem?_setIfInBounds]
        by_cases hj : i = j
        · subst hj; simp_all; exact (Array.getElem?_eq_some_iff.1 h).1
        · simp [hj]
    · rw [if_neg hk]
  show { w with heap := _ } = w
  exact congrArg (fun hp => { w with heap := hp }) this

theorem Box.set9n {w : World} {b : Nat} {u0 u1 u2 u3 u4 u5 u6 u7 u8 : Value} {t : TypeId} (h : Box w b #[u0, u1, u2, u3, u4, u5, u6, u7, u8] t) (v0 v1 v2 v3 v4 v5 v6 v7 v8 : Value) : Box (((((((((w.setCell ⟨b, 0, none⟩ v0).setCell ⟨b, 1, none⟩ v1).setCell ⟨b, 2, none⟩ v2).setCell ⟨b, 3, none⟩ v3).setCell ⟨b, 4, none⟩ v4).setCell ⟨b, 5, none⟩ v5).setCell ⟨b, 6, none⟩ v6).setCell ⟨b, 7, none⟩ v7).setCell ⟨b, 8, none⟩ v8) b #[v0, v1, v2, v3, v4, v5, v6, v7, v8] t := by
  have h0 : Box (w.setCell ⟨b, 0, none⟩ v0) b #[v0, u1, u2, u3, u4, u5, u6, u7, u8] t := h.set 0 v0
  have h1 : Box ((w.setCell ⟨b, 0, none⟩ v0).setCell ⟨b, 1, none⟩ v1) b #[v0, v1, u2, u3, u4, u5, u6, u7, u8] t := h0.set 1 v1
  have h2 : Box (((w.setCell ⟨b, 0, none⟩ v0).setCell ⟨b, 1, none⟩ v1).setCell ⟨b, 2, none⟩ v2) b #[v0, v1, v2, u3, u4, u5, u6, u7, u8] t := h1.set 2 v2
  have h3 : Box ((((w.setCell ⟨b, 0, none⟩ v0).setCell ⟨b, 1, none⟩ v1).setCell ⟨b, 2, none⟩ v2).setCell ⟨b, 3, none⟩ v3) b #[v0, v1, v2, v3, u4, u5, u6, u7, u8] t := h2.set 3 v3
  have h4 : Box (((((w.setCell ⟨b, 0, none⟩ v0).setCell ⟨b, 1, none⟩ v1).setCell ⟨b, 2, none⟩ v2).setCell ⟨b, 3, none⟩ v3).setCell ⟨b, 4, none⟩ v4) b #[v0, v1, v2, v3, v4, u5, u6, u7, u8] t := h3.set 4 v4
  have h5 : Box ((((((w.setCell ⟨b, 0, none⟩ v0).setCell ⟨b, 1, none⟩ v1).setCell ⟨b, 2, none⟩ v2).setCell ⟨b, 3, none⟩ v3).setCell ⟨b, 4, none⟩ v4).setCell ⟨b, 5, none⟩ v5) b #[v0, v1, v2, v3, v4, v5, u6, u7, u8] t := h4.set 5 v5
  have h6 : Box (((((((w.setCell ⟨b, 0, none⟩ v0).setCell ⟨b, 1, none⟩ v1).setCell ⟨b, 2, none⟩ v2).setCell ⟨b, 3, none⟩ v3).setCell ⟨b, 4, none⟩ v4).setCell ⟨b, 5, none⟩ v5).setCell ⟨b, 6, none⟩ v6) b #[v0, v1, v2, v3, v4, v5, v6, u7, u8] t := h5.set 6 v6
  have h7 : Box ((((((((w.setCell ⟨b, 0, none⟩ v0).setCell ⟨b, 1, none⟩ v1).setCell ⟨b, 2, none⟩ v2).setCell ⟨b, 3, none⟩ v3).setCell ⟨b, 4, none⟩ v4).setCell ⟨b, 5, none⟩ v5).setCell ⟨b, 6, none⟩ v6).setCell ⟨b, 7, none⟩ v7) b #[v0, v1, v2, v3, v4, v5, v6, v7, u8] t := h6.set 7 v7
  have h8 : Box (((((((((w.setCell ⟨b, 0, none⟩ v0).setCell ⟨b, 1, none⟩ v1).setCell ⟨b, 2, none⟩ v2).setCell ⟨b, 3, none⟩ v3).setCell ⟨b, 4, none⟩ v4).setCell ⟨b, 5, none⟩ v5).setCell ⟨b, 6, none⟩ v6).setCell ⟨b, 7, none⟩ v7).setCell ⟨b, 8, none⟩ v8) b #[v0, v1, v2, v3, v4, v5, v6, v7, v8] t := h7.set 8 v8
  exact h8

set_option maxRecDepth 100000 in
set_option maxHeartbeats 4000000 in
theorem copyItem_any (sq : Int) (r : Rc) (w : World) (hu : r.user.size ≤ 281474976710656) (hn : r.name.size ≤ 281474976710656) (ht : r.text.size ≤ 281474976710656) :
    Calls Tryz.prog 44 #[itV sq r] w fun e w' => e = .returned (itV sq r) ∧ Below w.heap.size w w' := by
  unfold itV
  have X1 := (Box.new w #[.int .i64 sq, .int .i64 r.kind, .int .i64 r.valid, .int .i64 r.uid, .int .i64 r.next, .int .i64 r.flags, .string r.user, .string r.name, .string r.text] 49).later (belNew _ (.cells #[.int .i64 0, .int .i64 0, .int .i64 0, .int .i64 0, .int .i64 0, .int .i64 0, .string ⟨#[]⟩, .string ⟨#[]⟩, .string ⟨#[]⟩] 49))
  have X2 : Box ((w.alloc (.cells #[.int .i64 sq, .int .i64 r.kind, .int .i64 r.valid, .int .i64 r.uid, .int .i64 r.next, .int .i64 r.flags, .string r.user, .string r.name, .string r.text] 49)).alloc (.cells #[.int .i64 0, .int .i64 0, .int .i64 0, .int .i64 0, .int .i64 0, .int .i64 0, .string ⟨#[]⟩, .string ⟨#[]⟩, .string ⟨#[]⟩] 49)) (w.heap.size + 1) #[.int .i64 0, .int .i64 0, .int .i64 0, .int .i64 0, .int .i64 0, .int .i64 0, .string ⟨#[]⟩, .string ⟨#[]⟩, .string ⟨#[]⟩] 49 := by
    have := Box.new (w.alloc (.cells #[.int .i64 sq, .int .i64 r.kind, .int .i64 r.valid, .int .i64 r.uid, .int .i64 r.next, .int .i64 r.flags, .string r.user, .string r.name, .string r.text] 49)) #[.int .i64 0, .int .i64 0, .int .i64 0, .int .i64 0, .int .i64 0, .int .i64 0, .string ⟨#[]⟩, .string ⟨#[]⟩, .string ⟨#[]⟩] 49
    rwa [show (w.alloc (.cells #[.int .i64 sq, .int .i64 r.kind, .int .i64 r.valid, .int .i64 r.uid, .int .i64 r.next, .int .i64 r.flags, .string r.user, .string r.name, .string r.text] 49)).heap.size = w.heap.size + 1 from by simp] at this
  have b1 : Below w.heap.size w ((w.alloc (.cells #[.int .i64 sq, .int .i64 r.kind, .int .i64 r.valid, .int .i64 r.uid, .int .i64 r.next, .int .i64 r.flags, .string r.user, .string r.name, .string r.text] 49)).alloc (.cells #[.int .i64 0, .int .i64 0, .int .i64 0, .int .i64 0, .int .i64 0, .int .i64 0, .string ⟨#[]⟩, .string ⟨#[]⟩, .string ⟨#[]⟩] 49)) := ((Below.refl _ _).alloc (Nat.le_refl _) _).alloc (by simp) _
  go_enter Tryz.func44, Tryz.ntmps44
  go_upto_region 1 with fail
  generalize (w.alloc (.cells #[.int .i64 sq, .int .i64 r.kind, .int .i64 r.valid, .int .i64 r.uid, .int .i64 r.next, .int .i64 r.flags, .string r.user, .string r.name, .string r.text] 49)).alloc (.cells #[.int .i64 0, .int .i64 0, .int .i64 0, .int .i64 0, .int .i64 0, .int .i64 0, .string ⟨#[]⟩, .string ⟨#[]⟩, .string ⟨#[]⟩] 49) = w1 at X1 X2 b1 ⊢
  have H1 : Hid (∀ x, Below w1.heap.size w1 x → Box x w.heap.size #[.int .i64 sq, .int .i64 r.kind, .int .i64 r.valid, .int .i64 r.uid, .int .i64 r.next, .int .i64 r.flags, .string r.user, .string r.name, .string r.text] 49 ∧ Box x (w.heap.size + 1) #[.int .i64 0, .int .i64 0, .int .i64 0, .int .i64 0, .int .i64 0, .int .i64 0, .string ⟨#[]⟩, .string ⟨#[]⟩, .string ⟨#[]⟩] 49 ∧ Below w.heap.size w x) := fun x hx => ⟨X1.later hx, X2.later hx, b1.trans (hx.mono b1.size)⟩
  clear X1 X2 b1
  have c6 := (H1.out _ (Below.refl _ _)).1.cell 6 (.string r.user) rfl
  go_wp2_with fail
  clear c6
  refine (clone_any _ _ hu).mono ?_
  rintro e w2 ⟨rfl, k2⟩
  have c6 := (H1.out _ k2).1.cell 6 (.string r.user) rfl
  have f6 := (H1.out _ k2).1.loose 6
  go_upto_region 2 with fail
  rw [setCell_same c6]
  clear c6 f6
  have c7 := (H1.out _ k2).1.cell 7 (.string r.name) rfl
  go_wp2_with fail
  clear c7
  refine (clone_any _ _ hn).mono ?_
  rintro e w3 ⟨rfl, k3⟩
  have j3 := k2.trans (k3.mono k2.size)
  have c7 := (H1.out _ j3).1.cell 7 (.string r.name) rfl
  have f7 := (H1.out _ j3).1.loose 7
  go_upto_region 3 with fail
  rw [setCell_same c7]
  clear c7 f7 k2 k3
  have c8 := (H1.out _ j3).1.cell 8 (.string r.text) rfl
  go_wp2_with fail
  clear c8
  refine (clone_any _ _ ht).mono ?_
  rintro e w4 ⟨rfl, k4⟩
  have j4 := j3.trans (k4.mono j3.size)
  have c8 := (H1.out _ j4).1.cell 8 (.string r.text) rfl
  have f8 := (H1.out _ j4).1.loose 8
  go_upto_region 4 with fail
  rw [setCell_same c8]
  clear c8 f8 j3 k4
  obtain ⟨X1, X2, bE⟩ := H1.out _ j4
  obtain ⟨q0, q1, q2, q3, q4, q5, q6, q7, q8, _⟩ := X1.nine
  obtain ⟨z0, z1, z2, z3, z4, z5, z6, z7, z8, f0, f1, f2, f3, f4, f5, f6, f7, f8⟩ := X2.nine
  have X9 : Box (((((((((w4.setCell ⟨w.heap.size + 1, 0, none⟩ (.int .i64 sq)).setCell ⟨w.heap.size + 1, 1, none⟩ (.int .i64 r.kind)).setCell ⟨w.heap.size + 1, 2, none⟩ (.int .i64 r.valid)).setCell ⟨w.heap.size + 1, 3, none⟩ (.int .i64 r.uid)).setCell ⟨w.heap.size + 1, 4, none⟩ (.int .i64 r.next)).setCell ⟨w.heap.size + 1, 5, none⟩ (.int .i64 r.flags)).setCell ⟨w.heap.size + 1, 6, none⟩ (.string r.user)).setCell ⟨w.heap.size + 1, 7, none⟩ (.string r.name)).setCell ⟨w.heap.size + 1, 8, none⟩ (.string r.text)) (w.heap.size + 1) #[.int .i64 sq, .int .i64 r.kind, .int .i64 r.valid, .int .i64 r.uid, .int .i64 r.next, .int .i64 r.flags, .string r.user, .string r.name, .string r.text] 49 := X2.set9n _ _ _ _ _ _ _ _ _
  have B9 := Lib.hid (below_set9 bE (show w.heap.size ≤ w.heap.size + 1 by omega) (.int .i64 sq) (.int .i64 r.kind) (.int .i64 r.valid) (.int .i64 r.uid) (.int .i64 r.next) (.int .i64 r.flags) (.string r.user) (.string r.name) (.string r.text))
  obtain ⟨y0, y1, y2, y3, y4, y5, y6, y7, y8, _⟩ := X9.nine
  clear X1 X2 X9 bE j4 H1
  go_wp2
  refine bodyPost_ret (v := .agg #[.int .i64 sq, .int .i64 r.kind, .int .i64 r.valid, .int .i64 r.uid, .int .i64 r.next, .int .i64 r.flags, .string r.user, .string r.name, .string r.text]) (by simp [results, Tryz.results44, go_sem, y0, y1, y2, y3, y4, y5, y6, y7, y8]) rfl ⟨rfl, B9.out⟩

set_option maxRecDepth 100000 in
set_option maxHeartbeats 4000000 in
theorem implWithout_any (l : List Itm) (d : List Bool) (v vd : Value) (w : World) (h : Rows' itE w v l) (hd : Rows' boE w vd d) (hl : l.length ≤ 1048576) (hz : ∀ x ∈ l, x.2.user.size ≤ 281474976710656 ∧ x.2.name.size ≤ 281474976710656 ∧ x.2.text.size ≤ 281474976710656) :
    Calls Tryz.prog 18 #[v, vd] w fun e w' => ∃ v', e = .returned v' ∧ RBuf itE w.heap.size w w' v' (wo l d) := by
  obtain ⟨ad, cap, rfl, hrow⟩ := h.items
  have HR := Lib.hid hrow
  have HB : Hid (∀ x, Below w.heap.size w x → Rows' boE x vd d) := fun x hx => hd.later hx
  have HZ := Lib.hid hz
  obtain ⟨ab, cab, rfl, _⟩ := hd.bools
  clear h hd hrow hz
  obtain ⟨n, hn⟩ : ∃ n, l.length = n := ⟨_, rfl⟩
  obtain ⟨m, hm⟩ : ∃ m, d.length = m := ⟨_, rfl⟩
  rw [hm] at HB
  rw [hn, hm]
  have HN := Lib.hid hn
  rw [hn] at hl
  clear hn hm
  have I0 := RBuf.fresh itE w
  go_enter Tryz.func18, Tryz.ntmps18
  go_wp2
  go_loopw [5, 11] (fun v iv wr => ∃ i : Nat, i ≤ n ∧ iv = .int .i64 (i : Int) ∧ RBuf itE w.heap.size w wr v (woT l d i)) (fun _ iv _ => n - (intOf iv).toNat)
  case atStart => exact ⟨0, by omega, rfl, I0⟩
  case round =>
    clear I0
    obtain ⟨i, hi, rfl, I⟩ := hrel
    by_cases hlt : i < n
    · obtain ⟨x, hgx⟩ : ∃ x, l[i]? = some x := ⟨_, List.getElem?_eq_getElem (by rw [HN.out]; exact hlt)⟩
      obtain ⟨gp, op, rfl, p0, p1, p2, p3, p4, p5, p6, p7, p8⟩ := HR.out _ I.bel i _ hgx
      have hlu := woT_len l d i
      have HG := Lib.hid (fun h => woT_go (l := l) (d := d) (i := i) h)
      have HS := Lib.hid (fun h => woT_stay (l := l) (d := d) (i := i) h hgx)
      obtain ⟨us, hus⟩ : ∃ us, woT l d i = us := ⟨_, rfl⟩
      rw [hus] at I hlu HG HS
      obtain ⟨zu, zn, zt⟩ := HZ.out _ (List.mem_of_getElem? hgx)
      have hi0 : (0 : Int) ≤ (i : Int) := by omega
      have hi1 : (i : Int) < (n : Int) := by omega
      obtain ⟨sq, r⟩ := x
      simp only at p0 p1 p2 p3 p4 p5 p6 p7 p8 zu zn zt
      have X4 := Box.new wr #[.int .i64 sq, .int .i64 r.kind, .int .i64 r.valid, .int .i64 r.uid, .int .i64 r.next, .int .i64 r.flags, .string r.user, .string r.name, .string r.text] 49
      have I4 := I.alloc (.cells #[.int .i64 sq, .int .i64 r.kind, .int .i64 r.valid, .int .i64 r.uid, .int .i64 r.next, .int .i64 r.flags, .string r.user, .string r.name, .string r.text] 49)
      clear hgx hus I
      go_upto_region 5 with fail
      clear p0 p1 p2 p3 p4 p5 p6 p7 p8
      generalize wr.alloc (.cells #[.int .i64 sq, .int .i64 r.kind, .int .i64 r.valid, .int .i64 r.uid, .int .i64 r.next, .int .i64 r.flags, .string r.user, .string r.name, .string r.text] 49) = w4 at X4 I4 ⊢
      generalize wr.heap.size = g4 at X4 ⊢
      have HSO := Lib.hid (soAt_any d _ (i : Int) w4 (HB.out _ I4.bel) (by omega))
      rw [soB_nat] at HSO
      by_cases hdt : d[i]? = some true
      · have HG' := Lib.hid (HG.out hdt)
        rw [decide_eq_true hdt] at HSO
        clear HG HS hdt X4
        go_wp2_with fail
        refine HSO.out.mono ?_
        rintro e w5 ⟨rfl, rfl⟩
        go_wp2
        exact ⟨⟨i + 1, by omega, by simp, by rw [HG'.out]; exact I4⟩, by first | omega | (simp [intOf]; omega)⟩
      · have HS' := Lib.hid (HS.out hdt)
        rw [decide_eq_false hdt] at HSO
        clear HG HS hdt
        go_wp2_with fail
        refine HSO.out.mono ?_
        rintro e w5 ⟨rfl, rfl⟩
        obtain ⟨q0, q1, q2, q3, q4, q5, q6, q7, q8, _⟩ := X4.nine
        have HCI := Lib.hid (copyItem_any sq r w4 zu zn zt)
        unfold itV at HCI
        clear X4
        go_wp2_with fail
        clear q0 q1 q2 q3 q4 q5 q6 q7 q8
        refine HCI.out.mono ?_
        rintro e w6 ⟨rfl, k6⟩
        have I6 := I4.later k6
        have HR6 := Lib.hid (I6.alloc (.cells #[.int .i64 sq, .int .i64 r.kind, .int .i64 r.valid, .int .i64 r.uid, .int .i64 r.next, .int .i64 r.flags, .string r.user, .string r.name, .string r.text] 49))
        have L6 := RBuf.lit1 itE w6 (sq, r)
        have HL6 := Lib.hid L6
        clear I4 I6 k6 L6 HCI HSO
        go_wp2_with (at_builtin; refine wpList_append_rows rfl _ _ itE rfl w.heap.size _ _ rfl HR6.out.here w6.heap.size _ [(sq, r)] rfl HL6.out (by show _ * 97 ≤ _; simp only [List.length_cons, List.length_nil]; omega) ?_; intro v6 w7 r6 g6 at6)
        exact ⟨⟨i + 1, by omega, by simp, by rw [HS'.out]; exact ⟨r6.own, HR6.out.bel.grown g6 HR6.out.le (fun k hk => (HR6.out.own.lt k hk).1), r6.le⟩⟩, by first | omega | (simp [intOf]; omega)⟩
    · go_wp2
      go_ret
      refine ⟨_, rfl, ?_⟩
      have hil : i = l.length := by rw [HN.out]; omega
      rw [hil] at I
      exact I

end Go.Proofs.YtahebgceoidebaaGreat
