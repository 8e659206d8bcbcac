/- Texts of our own, joined. -/
import Derived.Test.YtodldamjleehlaaJb
/- CallOk of the model. -/
namespace Go.Proofs.Ytodldamjleehlaa
open Go.RowKit
set_option linter.unusedVariables false

theorem noTx_emp : noTx = emp := rfl
theorem tx_no {s : ByteArray} {e : Bool} (h : (s.toList == []) = e) (he : e = true) : s = noTx := by
  rw [emp_beq, he] at h
  exact (of_decide_eq_true h).trans noTx_emp.symm
theorem tx_some {s : ByteArray} {e : Bool} (h : (s.toList == []) = e) (he : e = false) : ¬ s = noTx := by
  rw [emp_beq, he] at h
  exact fun e => of_decide_eq_false h (e.trans noTx_emp)

set_option maxRecDepth 100000 in
set_option maxHeartbeats 8000000 in
theorem specCall1 (us bo tob tx : ByteArray) (ui fl : Int) (l : List Int) (ad : Option Addr) (n cap : Nat) (w : World) (hu : Rows' intE w (.slice ad n cap) l) (hn : l.length = n) (hl : n ≤ 1048576) (h1 : us.size ≤ 1099511627776) (h2 : bo.size ≤ 1099511627776) (h3 : tob.size ≤ 1099511627776) (h4 : tx.size ≤ 1048576) :
    Calls Try.prog 5 #[.agg #[.int .i64 1, .string us, .string bo, .string tob, .int .i64 ui, .slice ad n cap, .int .i64 fl, .string tx]] w fun e w' => e = .returned (.bool (sameP (⟨1, us, bo, tob, ui, l, fl, tx⟩ : Cal).ok)) ∧ Below w.heap.size w w' := by
  obtain ⟨D, hD⟩ : ∃ D, sameP (⟨1, us, bo, tob, ui, l, fl, tx⟩ : Cal).ok = D := ⟨_, rfl⟩
  have HD := Lib.hid hD
  rw [hD]
  clear hD
  have HNO : Hid (¬ (⟨1, us, bo, tob, ui, l, fl, tx⟩ : Cal).ok → D = false) := fun h => by rw [← HD.out]; exact sameP_no h
  obtain ⟨QU, hQU⟩ : ∃ QU, decide (wdOk us) = QU := ⟨_, rfl⟩
  obtain ⟨QB, hQB⟩ : ∃ QB, decide (wdOk bo) = QB := ⟨_, rfl⟩
  obtain ⟨QT, hQT⟩ : ∃ QT, decide (wdOk tob) = QT := ⟨_, rfl⟩
  have HQU := Lib.hid hQU
  have HQB := Lib.hid hQB
  have HQT := Lib.hid hQT
  clear hQU hQB hQT
  obtain ⟨et, qt⟩ : ∃ et, (tob.toList == []) = et := ⟨_, rfl⟩
  obtain ⟨ex, qx⟩ : ∃ ex, (tx.toList == []) = ex := ⟨_, rfl⟩
  have HET := Lib.hid qt
  have HEX := Lib.hid qx
  have HN := Lib.hid hn
  obtain ⟨ad', cap', ee, hrow⟩ := hu.intsD
  have HRW : Hid (∀ X, Below w.heap.size w X → ∀ (i : Nat) (x : Int), l[i]? = some x → ∃ g off, ad = some ⟨g, off, none⟩ ∧ X.cell? ⟨g, off + i, none⟩ = some (.int .i64 x)) := by
    cases ee
    exact hrow
  clear hu ee hrow ad' cap' hn
  have b0 := belNew w (.cells #[.int .i64 1, .string us, .string bo, .string tob, .int .i64 ui, .slice ad n cap, .int .i64 fl, .string tx] 27)
  have q0 := Box.new w #[.int .i64 1, .string us, .string bo, .string tob, .int .i64 ui, .slice ad n cap, .int .i64 fl, .string tx] 27
  go_enter Try.func5, Try.ntmps5
  go_upto_region 1 with fail
  obtain ⟨W, hW⟩ : ∃ W, w.alloc (.cells #[.int .i64 1, .string us, .string bo, .string tob, .int .i64 ui, .slice ad n cap, .int .i64 fl, .string tx] 27) = W := ⟨_, rfl⟩
  rw [hW] at b0 q0 ⊢
  clear hW
  have Q0 := Lib.hid q0
  obtain ⟨a0, a1, a2, a3, a4, a5, a6, a7, _⟩ := q0.eightL
  clear q0
  cases QU with
  | false =>
    have HE : Hid (D = false) := HNO.out (fun h => by obtain ⟨p0, p1, p2, p3, p4, p5, p6, p7, p8, p9, p10, p11, p12⟩ := h; exact absurd p1 (of_decide_eq_false HQU.out))
    go_wp2_with (first | (go_at_call 10; first | (refine (l01In_yes _ _ _ _ (by omega) (by omega)).mono ?_; rintro e w5 ⟨rfl, rfl⟩) | (refine (l01In_no _ _ _ _ (by omega)).mono ?_; rintro e w5 ⟨rfl, rfl⟩)) | (go_at_call 11; refine (specWordOk_any _ _ (by first | exact h1 | exact h2 | exact h3)).mono ?_; rintro e w5 ⟨rfl, rfl⟩; first | rw [HQU.out] | rw [HQB.out] | rw [HQT.out]))
    go_ret
    exact ⟨by rw [HE.out]; rfl, b0⟩
  | true =>
  cases QB with
  | false =>
    have HE : Hid (D = false) := HNO.out (fun h => by obtain ⟨p0, p1, p2, p3, p4, p5, p6, p7, p8, p9, p10, p11, p12⟩ := h; exact absurd p2 (of_decide_eq_false HQB.out))
    go_wp2_with (first | (go_at_call 10; first | (refine (l01In_yes _ _ _ _ (by omega) (by omega)).mono ?_; rintro e w5 ⟨rfl, rfl⟩) | (refine (l01In_no _ _ _ _ (by omega)).mono ?_; rintro e w5 ⟨rfl, rfl⟩)) | (go_at_call 11; refine (specWordOk_any _ _ (by first | exact h1 | exact h2 | exact h3)).mono ?_; rintro e w5 ⟨rfl, rfl⟩; first | rw [HQU.out] | rw [HQB.out] | rw [HQT.out]))
    go_ret
    exact ⟨by rw [HE.out]; rfl, b0⟩
  | true =>
  cases et with
  | false =>
    have HE : Hid (D = false) := HNO.out (fun h => by obtain ⟨p0, p1, p2, p3, p4, p5, p6, p7, p8, p9, p10, p11, p12⟩ := h; exact absurd (p4 (show (1 : Int) ≠ 6 by decide)) (tx_some HET.out rfl))
    go_wp2_with (first | (go_at_call 10; first | (refine (l01In_yes _ _ _ _ (by omega) (by omega)).mono ?_; rintro e w5 ⟨rfl, rfl⟩) | (refine (l01In_no _ _ _ _ (by omega)).mono ?_; rintro e w5 ⟨rfl, rfl⟩)) | (go_at_call 11; refine (specWordOk_any _ _ (by first | exact h1 | exact h2 | exact h3)).mono ?_; rintro e w5 ⟨rfl, rfl⟩; first | rw [HQU.out] | rw [HQB.out] | rw [HQT.out]))
    go_ret
    exact ⟨by rw [HE.out]; rfl, b0⟩
  | true =>
  by_cases hI : ui = 0
  case neg =>
    have hI1 : (ui == 0) = false := beq_eq_false_iff_ne.2 hI
    have HE : Hid (D = false) := HNO.out (fun h => by obtain ⟨p0, p1, p2, p3, p4, p5, p6, p7, p8, p9, p10, p11, p12⟩ := h; exact hI (p6 (show (1 : Int) ≠ 4 by decide) (show (1 : Int) ≠ 6 by decide)))
    go_wp2_with (first | (go_at_call 10; first | (refine (l01In_yes _ _ _ _ (by omega) (by omega)).mono ?_; rintro e w5 ⟨rfl, rfl⟩) | (refine (l01In_no _ _ _ _ (by omega)).mono ?_; rintro e w5 ⟨rfl, rfl⟩)) | (go_at_call 11; refine (specWordOk_any _ _ (by first | exact h1 | exact h2 | exact h3)).mono ?_; rintro e w5 ⟨rfl, rfl⟩; first | rw [HQU.out] | rw [HQB.out] | rw [HQT.out]))
    go_ret
    exact ⟨by rw [HE.out]; rfl, b0⟩
  subst hI
  by_cases hF : fl = 0
  case neg =>
    have hF1 : (fl == 0) = false := beq_eq_false_iff_ne.2 hF
    have HE : Hid (D = false) := HNO.out (fun h => by obtain ⟨p0, p1, p2, p3, p4, p5, p6, p7, p8, p9, p10, p11, p12⟩ := h; exact hF (p10 (show (1 : Int) ≠ 3 by decide) (show (1 : Int) ≠ 4 by decide)))
    go_wp2_with (first | (go_at_call 10; first | (refine (l01In_yes _ _ _ _ (by omega) (by omega)).mono ?_; rintro e w5 ⟨rfl, rfl⟩) | (refine (l01In_no _ _ _ _ (by omega)).mono ?_; rintro e w5 ⟨rfl, rfl⟩)) | (go_at_call 11; refine (specWordOk_any _ _ (by first | exact h1 | exact h2 | exact h3)).mono ?_; rintro e w5 ⟨rfl, rfl⟩; first | rw [HQU.out] | rw [HQB.out] | rw [HQT.out]))
    go_ret
    exact ⟨by rw [HE.out]; rfl, b0⟩
  subst hF
  cases ex with
  | false =>
    have HE : Hid (D = false) := HNO.out (fun h => by obtain ⟨p0, p1, p2, p3, p4, p5, p6, p7, p8, p9, p10, p11, p12⟩ := h; exact absurd (p12 (show (1 : Int) ≠ 3 by decide)) (tx_some HEX.out rfl))
    go_wp2_with (first | (go_at_call 10; first | (refine (l01In_yes _ _ _ _ (by omega) (by omega)).mono ?_; rintro e w5 ⟨rfl, rfl⟩) | (refine (l01In_no _ _ _ _ (by omega)).mono ?_; rintro e w5 ⟨rfl, rfl⟩)) | (go_at_call 11; refine (specWordOk_any _ _ (by first | exact h1 | exact h2 | exact h3)).mono ?_; rintro e w5 ⟨rfl, rfl⟩; first | rw [HQU.out] | rw [HQB.out] | rw [HQT.out]))
    go_ret
    exact ⟨by rw [HE.out]; rfl, b0⟩
  | true =>
  by_cases hn0 : (0 : Int) < (n : Int)
  case pos =>
    have HE : Hid (D = false) := HNO.out (fun h => by obtain ⟨p0, p1, p2, p3, p4, p5, p6, p7, p8, p9, p10, p11, p12⟩ := h; have := p7 (show (1 : Int) ≠ 5 by decide); simp only at this; have h9 := HN.out; rw [this] at h9; simp at h9; omega)
    go_wp2_with (first | (go_at_call 10; first | (refine (l01In_yes _ _ _ _ (by omega) (by omega)).mono ?_; rintro e w5 ⟨rfl, rfl⟩) | (refine (l01In_no _ _ _ _ (by omega)).mono ?_; rintro e w5 ⟨rfl, rfl⟩)) | (go_at_call 11; refine (specWordOk_any _ _ (by first | exact h1 | exact h2 | exact h3)).mono ?_; rintro e w5 ⟨rfl, rfl⟩; first | rw [HQU.out] | rw [HQB.out] | rw [HQT.out]))
    go_ret
    exact ⟨by rw [HE.out]; rfl, b0⟩
  go_upto_region 10 with (first | (go_at_call 10; first | (refine (l01In_yes _ _ _ _ (by omega) (by omega)).mono ?_; rintro e w5 ⟨rfl, rfl⟩) | (refine (l01In_no _ _ _ _ (by omega)).mono ?_; rintro e w5 ⟨rfl, rfl⟩)) | (go_at_call 11; refine (specWordOk_any _ _ (by first | exact h1 | exact h2 | exact h3)).mono ?_; rintro e w5 ⟨rfl, rfl⟩; first | rw [HQU.out] | rw [HQB.out] | rw [HQT.out]))
  clear a0 a1 a2 a3 a4 a6 a7
  go_wp2
  go_loopw [6] (fun iv wr => ∃ i : Nat, i ≤ n ∧ iv = .int .i64 (i : Int) ∧ (∀ j, j < i → UidAt l j) ∧ Below W.heap.size W wr) (fun iv _ => n - (intOf iv).toNat)
  case atStart => exact ⟨0, by omega, rfl, fun j hj => by omega, Below.refl _ _⟩
  case round =>
    obtain ⟨i, hi, rfl, hU, hb⟩ := hrel
    have HU := Lib.hid hU
    clear hU a5
    obtain ⟨a0, a1, a2, a3, a4, a5, a6, a7, _⟩ := (Q0.out.later hb).eightL
    have bw := b0.trans (hb.mono b0.size)
    by_cases hlt : i < n
    · exact absurd hlt (by omega)
    · have HALL : Hid (∀ j, UidAt l j) := fun j => by
        by_cases hj : j < i
        · exact HU.out j hj
        · intro x hx
          have := (List.getElem?_eq_some_iff.1 hx).1
          have := HN.out
          omega
      have HBW := Lib.hid bw
      clear hb bw
      have hfl : (0 : Int) ≤ 0 ∧ (0 : Int) ≤ 7 := by decide
      by_cases htx : (tx.size : Int) ≤ 100
      case neg =>
        have HE : Hid (D = false) := HNO.out (fun h => by obtain ⟨p0, p1, p2, p3, p4, p5, p6, p7, p8, p9, p10, p11, p12⟩ := h; exact htx (by have := p11; simp only at this; omega))
        go_wp2_with (first | (go_at_call 10; first | (refine (l01In_yes _ _ _ _ (by omega) (by omega)).mono ?_; rintro e w5 ⟨rfl, rfl⟩) | (refine (l01In_no _ _ _ _ (by omega)).mono ?_; rintro e w5 ⟨rfl, rfl⟩)) | (go_at_call 11; refine (specWordOk_any _ _ (by first | exact h1 | exact h2 | exact h3)).mono ?_; rintro e w5 ⟨rfl, rfl⟩; first | rw [HQU.out] | rw [HQB.out] | rw [HQT.out]))
        go_ret
        exact ⟨by rw [HE.out]; rfl, HBW.out⟩
      have h8 : (n : Int) ≤ 8 := by omega
      have HE : Hid (D = true) := by
        show D = true
        rw [← HD.out]
        exact sameP_yes ⟨(show (1 : Int) ≤ 1 ∧ (1 : Int) ≤ 6 by decide), of_decide_eq_true HQU.out, of_decide_eq_true HQB.out, fun h => absurd h (show ¬ ((1 : Int) = 6) by decide), fun _ => tx_no HET.out rfl, fun h => absurd h (show ¬ ((1 : Int) = 4 ∨ (1 : Int) = 6) by decide), fun _ _ => rfl, fun _ => List.length_eq_zero_iff.1 (by rw [HN.out]; omega), ⟨HALL.out, by rw [HN.out]; omega⟩, hfl, fun _ _ => rfl, by show tx.size ≤ 100; omega, fun _ => tx_no HEX.out rfl⟩
      have e8 : decide ((n : Int) ≤ 8) = true := decide_eq_true h8
      have E8 := Lib.hid e8
      clear e8
      go_wp2_with (first | (go_at_call 10; first | (refine (l01In_yes _ _ _ _ (by omega) (by omega)).mono ?_; rintro e w5 ⟨rfl, rfl⟩) | (refine (l01In_no _ _ _ _ (by omega)).mono ?_; rintro e w5 ⟨rfl, rfl⟩)) | (go_at_call 11; refine (specWordOk_any _ _ (by first | exact h1 | exact h2 | exact h3)).mono ?_; rintro e w5 ⟨rfl, rfl⟩; first | rw [HQU.out] | rw [HQB.out] | rw [HQT.out]))
      go_ret
      exact ⟨by rw [HE.out]; first | rfl | exact congrArg (fun b => Ending.returned (.bool b)) E8.out, HBW.out⟩

set_option maxRecDepth 100000 in
set_option maxHeartbeats 8000000 in
theorem specCall2 (us bo tob tx : ByteArray) (ui fl : Int) (l : List Int) (ad : Option Addr) (n cap : Nat) (w : World) (hu : Rows' intE w (.slice ad n cap) l) (hn : l.length = n) (hl : n ≤ 1048576) (h1 : us.size ≤ 1099511627776) (h2 : bo.size ≤ 1099511627776) (h3 : tob.size ≤ 1099511627776) (h4 : tx.size ≤ 1048576) :
    Calls Try.prog 5 #[.agg #[.int .i64 2, .string us, .string bo, .string tob, .int .i64 ui, .slice ad n cap, .int .i64 fl, .string tx]] w fun e w' => e = .returned (.bool (sameP (⟨2, us, bo, tob, ui, l, fl, tx⟩ : Cal).ok)) ∧ Below w.heap.size w w' := by
  obtain ⟨D, hD⟩ : ∃ D, sameP (⟨2, us, bo, tob, ui, l, fl, tx⟩ : Cal).ok = D := ⟨_, rfl⟩
  have HD := Lib.hid hD
  rw [hD]
  clear hD
  have HNO : Hid (¬ (⟨2, us, bo, tob, ui, l, fl, tx⟩ : Cal).ok → D = false) := fun h => by rw [← HD.out]; exact sameP_no h
  obtain ⟨QU, hQU⟩ : ∃ QU, decide (wdOk us) = QU := ⟨_, rfl⟩
  obtain ⟨QB, hQB⟩ : ∃ QB, decide (wdOk bo) = QB := ⟨_, rfl⟩
  obtain ⟨QT, hQT⟩ : ∃ QT, decide (wdOk tob) = QT := ⟨_, rfl⟩
  have HQU := Lib.hid hQU
  have HQB := Lib.hid hQB
  have HQT := Lib.hid hQT
  clear hQU hQB hQT
  obtain ⟨et, qt⟩ : ∃ et, (tob.toList == []) = et := ⟨_, rfl⟩
  obtain ⟨ex, qx⟩ : ∃ ex, (tx.toList == []) = ex := ⟨_, rfl⟩
  have HET := Lib.hid qt
  have HEX := Lib.hid qx
  have HN := Lib.hid hn
  obtain ⟨ad', cap', ee, hrow⟩ := hu.intsD
  have HRW : Hid (∀ X, Below w.heap.size w X → ∀ (i : Nat) (x : Int), l[i]? = some x → ∃ g off, ad = some ⟨g, off, none⟩ ∧ X.cell? ⟨g, off + i, none⟩ = some (.int .i64 x)) := by
    cases ee
    exact hrow
  clear hu ee hrow ad' cap' hn
  have b0 := belNew w (.cells #[.int .i64 2, .string us, .string bo, .string tob, .int .i64 ui, .slice ad n cap, .int .i64 fl, .string tx] 27)
  have q0 := Box.new w #[.int .i64 2, .string us, .string bo, .string tob, .int .i64 ui, .slice ad n cap, .int .i64 fl, .string tx] 27
  go_enter Try.func5, Try.ntmps5
  go_upto_region 1 with fail
  obtain ⟨W, hW⟩ : ∃ W, w.alloc (.cells #[.int .i64 2, .string us, .string bo, .string tob, .int .i64 ui, .slice ad n cap, .int .i64 fl, .string tx] 27) = W := ⟨_, rfl⟩
  rw [hW] at b0 q0 ⊢
  clear hW
  have Q0 := Lib.hid q0
  obtain ⟨a0, a1, a2, a3, a4, a5, a6, a7, _⟩ := q0.eightL
  clear q0
  cases QU with
  | false =>
    have HE : Hid (D = false) := HNO.out (fun h => by obtain ⟨p0, p1, p2, p3, p4, p5, p6, p7, p8, p9, p10, p11, p12⟩ := h; exact absurd p1 (of_decide_eq_false HQU.out))
    go_wp2_with (first | (go_at_call 10; first | (refine (l01In_yes _ _ _ _ (by omega) (by omega)).mono ?_; rintro e w5 ⟨rfl, rfl⟩) | (refine (l01In_no _ _ _ _ (by omega)).mono ?_; rintro e w5 ⟨rfl, rfl⟩)) | (go_at_call 11; refine (specWordOk_any _ _ (by first | exact h1 | exact h2 | exact h3)).mono ?_; rintro e w5 ⟨rfl, rfl⟩; first | rw [HQU.out] | rw [HQB.out] | rw [HQT.out]))
    go_ret
    exact ⟨by rw [HE.out]; rfl, b0⟩
  | true =>
  cases QB with
  | false =>
    have HE : Hid (D = false) := HNO.out (fun h => by obtain ⟨p0, p1, p2, p3, p4, p5, p6, p7, p8, p9, p10, p11, p12⟩ := h; exact absurd p2 (of_decide_eq_false HQB.out))
    go_wp2_with (first | (go_at_call 10; first | (refine (l01In_yes _ _ _ _ (by omega) (by omega)).mono ?_; rintro e w5 ⟨rfl, rfl⟩) | (refine (l01In_no _ _ _ _ (by omega)).mono ?_; rintro e w5 ⟨rfl, rfl⟩)) | (go_at_call 11; refine (specWordOk_any _ _ (by first | exact h1 | exact h2 | exact h3)).mono ?_; rintro e w5 ⟨rfl, rfl⟩; first | rw [HQU.out] | rw [HQB.out] | rw [HQT.out]))
    go_ret
    exact ⟨by rw [HE.out]; rfl, b0⟩
  | true =>
  cases et with
  | false =>
    have HE : Hid (D = false) := HNO.out (fun h => by obtain ⟨p0, p1, p2, p3, p4, p5, p6, p7, p8, p9, p10, p11, p12⟩ := h; exact absurd (p4 (show (2 : Int) ≠ 6 by decide)) (tx_some HET.out rfl))
    go_wp2_with (first | (go_at_call 10; first | (refine (l01In_yes _ _ _ _ (by omega) (by omega)).mono ?_; rintro e w5 ⟨rfl, rfl⟩) | (refine (l01In_no _ _ _ _ (by omega)).mono ?_; rintro e w5 ⟨rfl, rfl⟩)) | (go_at_call 11; refine (specWordOk_any _ _ (by first | exact h1 | exact h2 | exact h3)).mono ?_; rintro e w5 ⟨rfl, rfl⟩; first | rw [HQU.out] | rw [HQB.out] | rw [HQT.out]))
    go_ret
    exact ⟨by rw [HE.out]; rfl, b0⟩
  | true =>
  by_cases hI : ui = 0
  case neg =>
    have hI1 : (ui == 0) = false := beq_eq_false_iff_ne.2 hI
    have HE : Hid (D = false) := HNO.out (fun h => by obtain ⟨p0, p1, p2, p3, p4, p5, p6, p7, p8, p9, p10, p11, p12⟩ := h; exact hI (p6 (show (2 : Int) ≠ 4 by decide) (show (2 : Int) ≠ 6 by decide)))
    go_wp2_with (first | (go_at_call 10; first | (refine (l01In_yes _ _ _ _ (by omega) (by omega)).mono ?_; rintro e w5 ⟨rfl, rfl⟩) | (refine (l01In_no _ _ _ _ (by omega)).mono ?_; rintro e w5 ⟨rfl, rfl⟩)) | (go_at_call 11; refine (specWordOk_any _ _ (by first | exact h1 | exact h2 | exact h3)).mono ?_; rintro e w5 ⟨rfl, rfl⟩; first | rw [HQU.out] | rw [HQB.out] | rw [HQT.out]))
    go_ret
    exact ⟨by rw [HE.out]; rfl, b0⟩
  subst hI
  by_cases hF : fl = 0
  case neg =>
    have hF1 : (fl == 0) = false := beq_eq_false_iff_ne.2 hF
    have HE : Hid (D = false) := HNO.out (fun h => by obtain ⟨p0, p1, p2, p3, p4, p5, p6, p7, p8, p9, p10, p11, p12⟩ := h; exact hF (p10 (show (2 : Int) ≠ 3 by decide) (show (2 : Int) ≠ 4 by decide)))
    go_wp2_with (first | (go_at_call 10; first | (refine (l01In_yes _ _ _ _ (by omega) (by omega)).mono ?_; rintro e w5 ⟨rfl, rfl⟩) | (refine (l01In_no _ _ _ _ (by omega)).mono ?_; rintro e w5 ⟨rfl, rfl⟩)) | (go_at_call 11; refine (specWordOk_any _ _ (by first | exact h1 | exact h2 | exact h3)).mono ?_; rintro e w5 ⟨rfl, rfl⟩; first | rw [HQU.out] | rw [HQB.out] | rw [HQT.out]))
    go_ret
    exact ⟨by rw [HE.out]; rfl, b0⟩
  subst hF
  cases ex with
  | false =>
    have HE : Hid (D = false) := HNO.out (fun h => by obtain ⟨p0, p1, p2, p3, p4, p5, p6, p7, p8, p9, p10, p11, p12⟩ := h; exact absurd (p12 (show (2 : Int) ≠ 3 by decide)) (tx_some HEX.out rfl))
    go_wp2_with (first | (go_at_call 10; first | (refine (l01In_yes _ _ _ _ (by omega) (by omega)).mono ?_; rintro e w5 ⟨rfl, rfl⟩) | (refine (l01In_no _ _ _ _ (by omega)).mono ?_; rintro e w5 ⟨rfl, rfl⟩)) | (go_at_call 11; refine (specWordOk_any _ _ (by first | exact h1 | exact h2 | exact h3)).mono ?_; rintro e w5 ⟨rfl, rfl⟩; first | rw [HQU.out] | rw [HQB.out] | rw [HQT.out]))
    go_ret
    exact ⟨by rw [HE.out]; rfl, b0⟩
  | true =>
  by_cases hn0 : (0 : Int) < (n : Int)
  case pos =>
    have HE : Hid (D = false) := HNO.out (fun h => by obtain ⟨p0, p1, p2, p3, p4, p5, p6, p7, p8, p9, p10, p11, p12⟩ := h; have := p7 (show (2 : Int) ≠ 5 by decide); simp only at this; have h9 := HN.out; rw [this] at h9; simp at h9; omega)
    go_wp2_with (first | (go_at_call 10; first | (refine (l01In_yes _ _ _ _ (by omega) (by omega)).mono ?_; rintro e w5 ⟨rfl, rfl⟩) | (refine (l01In_no _ _ _ _ (by omega)).mono ?_; rintro e w5 ⟨rfl, rfl⟩)) | (go_at_call 11; refine (specWordOk_any _ _ (by first | exact h1 | exact h2 | exact h3)).mono ?_; rintro e w5 ⟨rfl, rfl⟩; first | rw [HQU.out] | rw [HQB.out] | rw [HQT.out]))
    go_ret
    exact ⟨by rw [HE.out]; rfl, b0⟩
  go_upto_region 10 with (first | (go_at_call 10; first | (refine (l01In_yes _ _ _ _ (by omega) (by omega)).mono ?_; rintro e w5 ⟨rfl, rfl⟩) | (refine (l01In_no _ _ _ _ (by omega)).mono ?_; rintro e w5 ⟨rfl, rfl⟩)) | (go_at_call 11; refine (specWordOk_any _ _ (by first | exact h1 | exact h2 | exact h3)).mono ?_; rintro e w5 ⟨rfl, rfl⟩; first | rw [HQU.out] | rw [HQB.out] | rw [HQT.out]))
  clear a0 a1 a2 a3 a4 a6 a7
  go_wp2
  go_loopw [6] (fun iv wr => ∃ i : Nat, i ≤ n ∧ iv = .int .i64 (i : Int) ∧ (∀ j, j < i → UidAt l j) ∧ Below W.heap.size W wr) (fun iv _ => n - (intOf iv).toNat)
  case atStart => exact ⟨0, by omega, rfl, fun j hj => by omega, Below.refl _ _⟩
  case round =>
    obtain ⟨i, hi, rfl, hU, hb⟩ := hrel
    have HU := Lib.hid hU
    clear hU a5
    obtain ⟨a0, a1, a2, a3, a4, a5, a6, a7, _⟩ := (Q0.out.later hb).eightL
    have bw := b0.trans (hb.mono b0.size)
    by_cases hlt : i < n
    · exact absurd hlt (by omega)
    · have HALL : Hid (∀ j, UidAt l j) := fun j => by
        by_cases hj : j < i
        · exact HU.out j hj
        · intro x hx
          have := (List.getElem?_eq_some_iff.1 hx).1
          have := HN.out
          omega
      have HBW := Lib.hid bw
      clear hb bw
      have hfl : (0 : Int) ≤ 0 ∧ (0 : Int) ≤ 7 := by decide
      by_cases htx : (tx.size : Int) ≤ 100
      case neg =>
        have HE : Hid (D = false) := HNO.out (fun h => by obtain ⟨p0, p1, p2, p3, p4, p5, p6, p7, p8, p9, p10, p11, p12⟩ := h; exact htx (by have := p11; simp only at this; omega))
        go_wp2_with (first | (go_at_call 10; first | (refine (l01In_yes _ _ _ _ (by omega) (by omega)).mono ?_; rintro e w5 ⟨rfl, rfl⟩) | (refine (l01In_no _ _ _ _ (by omega)).mono ?_; rintro e w5 ⟨rfl, rfl⟩)) | (go_at_call 11; refine (specWordOk_any _ _ (by first | exact h1 | exact h2 | exact h3)).mono ?_; rintro e w5 ⟨rfl, rfl⟩; first | rw [HQU.out] | rw [HQB.out] | rw [HQT.out]))
        go_ret
        exact ⟨by rw [HE.out]; rfl, HBW.out⟩
      have h8 : (n : Int) ≤ 8 := by omega
      have HE : Hid (D = true) := by
        show D = true
        rw [← HD.out]
        exact sameP_yes ⟨(show (1 : Int) ≤ 2 ∧ (2 : Int) ≤ 6 by decide), of_decide_eq_true HQU.out, of_decide_eq_true HQB.out, fun h => absurd h (show ¬ ((2 : Int) = 6) by decide), fun _ => tx_no HET.out rfl, fun h => absurd h (show ¬ ((2 : Int) = 4 ∨ (2 : Int) = 6) by decide), fun _ _ => rfl, fun _ => List.length_eq_zero_iff.1 (by rw [HN.out]; omega), ⟨HALL.out, by rw [HN.out]; omega⟩, hfl, fun _ _ => rfl, by show tx.size ≤ 100; omega, fun _ => tx_no HEX.out rfl⟩
      have e8 : decide ((n : Int) ≤ 8) = true := decide_eq_true h8
      have E8 := Lib.hid e8
      clear e8
      go_wp2_with (first | (go_at_call 10; first | (refine (l01In_yes _ _ _ _ (by omega) (by omega)).mono ?_; rintro e w5 ⟨rfl, rfl⟩) | (refine (l01In_no _ _ _ _ (by omega)).mono ?_; rintro e w5 ⟨rfl, rfl⟩)) | (go_at_call 11; refine (specWordOk_any _ _ (by first | exact h1 | exact h2 | exact h3)).mono ?_; rintro e w5 ⟨rfl, rfl⟩; first | rw [HQU.out] | rw [HQB.out] | rw [HQT.out]))
      go_ret
      exact ⟨by rw [HE.out]; first | rfl | exact congrArg (fun b => Ending.returned (.bool b)) E8.out, HBW.out⟩

set_option maxRecDepth 100000 in
set_option maxHeartbeats 8000000 in
theorem specCall3 (us bo tob tx : ByteArray) (ui fl : Int) (l : List Int) (ad : Option Addr) (n cap : Nat) (w : World) (hu : Rows' intE w (.slice ad n cap) l) (hn : l.length = n) (hl : n ≤ 1048576) (h1 : us.size ≤ 1099511627776) (h2 : bo.size ≤ 1099511627776) (h3 : tob.size ≤ 1099511627776) (h4 : tx.size ≤ 1048576) :
    Calls Try.prog 5 #[.agg #[.int .i64 3, .string us, .string bo, .string tob, .int .i64 ui, .slice ad n cap, .int .i64 fl, .string tx]] w fun e w' => e = .returned (.bool (sameP (⟨3, us, bo, tob, ui, l, fl, tx⟩ : Cal).ok)) ∧ Below w.heap.size w w' := by
  obtain ⟨D, hD⟩ : ∃ D, sameP (⟨3, us, bo, tob, ui, l, fl, tx⟩ : Cal).ok = D := ⟨_, rfl⟩
  have HD := Lib.hid hD
  rw [hD]
  clear hD
  have HNO : Hid (¬ (⟨3, us, bo, tob, ui, l, fl, tx⟩ : Cal).ok → D = false) := fun h => by rw [← HD.out]; exact sameP_no h
  obtain ⟨QU, hQU⟩ : ∃ QU, decide (wdOk us) = QU := ⟨_, rfl⟩
  obtain ⟨QB, hQB⟩ : ∃ QB, decide (wdOk bo) = QB := ⟨_, rfl⟩
  obtain ⟨QT, hQT⟩ : ∃ QT, decide (wdOk tob) = QT := ⟨_, rfl⟩
  have HQU := Lib.hid hQU
  have HQB := Lib.hid hQB
  have HQT := Lib.hid hQT
  clear hQU hQB hQT
  obtain ⟨et, qt⟩ : ∃ et, (tob.toList == []) = et := ⟨_, rfl⟩
  obtain ⟨ex, qx⟩ : ∃ ex, (tx.toList == []) = ex := ⟨_, rfl⟩
  have HET := Lib.hid qt
  have HEX := Lib.hid qx
  have HN := Lib.hid hn
  obtain ⟨ad', cap', ee, hrow⟩ := hu.intsD
  have HRW : Hid (∀ X, Below w.heap.size w X → ∀ (i : Nat) (x : Int), l[i]? = some x → ∃ g off, ad = some ⟨g, off, none⟩ ∧ X.cell? ⟨g, off + i, none⟩ = some (.int .i64 x)) := by
    cases ee
    exact hrow
  clear hu ee hrow ad' cap' hn
  have b0 := belNew w (.cells #[.int .i64 3, .string us, .string bo, .string tob, .int .i64 ui, .slice ad n cap, .int .i64 fl, .string tx] 27)
  have q0 := Box.new w #[.int .i64 3, .string us, .string bo, .string tob, .int .i64 ui, .slice ad n cap, .int .i64 fl, .string tx] 27
  go_enter Try.func5, Try.ntmps5
  go_upto_region 1 with fail
  obtain ⟨W, hW⟩ : ∃ W, w.alloc (.cells #[.int .i64 3, .string us, .string bo, .string tob, .int .i64 ui, .slice ad n cap, .int .i64 fl, .string tx] 27) = W := ⟨_, rfl⟩
  rw [hW] at b0 q0 ⊢
  clear hW
  have Q0 := Lib.hid q0
  obtain ⟨a0, a1, a2, a3, a4, a5, a6, a7, _⟩ := q0.eightL
  clear q0
  cases QU with
  | false =>
    have HE : Hid (D = false) := HNO.out (fun h => by obtain ⟨p0, p1, p2, p3, p4, p5, p6, p7, p8, p9, p10, p11, p12⟩ := h; exact absurd p1 (of_decide_eq_false HQU.out))
    go_wp2_with (first | (go_at_call 10; first | (refine (l01In_yes _ _ _ _ (by omega) (by omega)).mono ?_; rintro e w5 ⟨rfl, rfl⟩) | (refine (l01In_no _ _ _ _ (by omega)).mono ?_; rintro e w5 ⟨rfl, rfl⟩)) | (go_at_call 11; refine (specWordOk_any _ _ (by first | exact h1 | exact h2 | exact h3)).mono ?_; rintro e w5 ⟨rfl, rfl⟩; first | rw [HQU.out] | rw [HQB.out] | rw [HQT.out]))
    go_ret
    exact ⟨by rw [HE.out]; rfl, b0⟩
  | true =>
  cases QB with
  | false =>
    have HE : Hid (D = false) := HNO.out (fun h => by obtain ⟨p0, p1, p2, p3, p4, p5, p6, p7, p8, p9, p10, p11, p12⟩ := h; exact absurd p2 (of_decide_eq_false HQB.out))
    go_wp2_with (first | (go_at_call 10; first | (refine (l01In_yes _ _ _ _ (by omega) (by omega)).mono ?_; rintro e w5 ⟨rfl, rfl⟩) | (refine (l01In_no _ _ _ _ (by omega)).mono ?_; rintro e w5 ⟨rfl, rfl⟩)) | (go_at_call 11; refine (specWordOk_any _ _ (by first | exact h1 | exact h2 | exact h3)).mono ?_; rintro e w5 ⟨rfl, rfl⟩; first | rw [HQU.out] | rw [HQB.out] | rw [HQT.out]))
    go_ret
    exact ⟨by rw [HE.out]; rfl, b0⟩
  | true =>
  cases et with
  | false =>
    have HE : Hid (D = false) := HNO.out (fun h => by obtain ⟨p0, p1, p2, p3, p4, p5, p6, p7, p8, p9, p10, p11, p12⟩ := h; exact absurd (p4 (show (3 : Int) ≠ 6 by decide)) (tx_some HET.out rfl))
    go_wp2_with (first | (go_at_call 10; first | (refine (l01In_yes _ _ _ _ (by omega) (by omega)).mono ?_; rintro e w5 ⟨rfl, rfl⟩) | (refine (l01In_no _ _ _ _ (by omega)).mono ?_; rintro e w5 ⟨rfl, rfl⟩)) | (go_at_call 11; refine (specWordOk_any _ _ (by first | exact h1 | exact h2 | exact h3)).mono ?_; rintro e w5 ⟨rfl, rfl⟩; first | rw [HQU.out] | rw [HQB.out] | rw [HQT.out]))
    go_ret
    exact ⟨by rw [HE.out]; rfl, b0⟩
  | true =>
  by_cases hI : ui = 0
  case neg =>
    have hI1 : (ui == 0) = false := beq_eq_false_iff_ne.2 hI
    have HE : Hid (D = false) := HNO.out (fun h => by obtain ⟨p0, p1, p2, p3, p4, p5, p6, p7, p8, p9, p10, p11, p12⟩ := h; exact hI (p6 (show (3 : Int) ≠ 4 by decide) (show (3 : Int) ≠ 6 by decide)))
    go_wp2_with (first | (go_at_call 10; first | (refine (l01In_yes _ _ _ _ (by omega) (by omega)).mono ?_; rintro e w5 ⟨rfl, rfl⟩) | (refine (l01In_no _ _ _ _ (by omega)).mono ?_; rintro e w5 ⟨rfl, rfl⟩)) | (go_at_call 11; refine (specWordOk_any _ _ (by first | exact h1 | exact h2 | exact h3)).mono ?_; rintro e w5 ⟨rfl, rfl⟩; first | rw [HQU.out] | rw [HQB.out] | rw [HQT.out]))
    go_ret
    exact ⟨by rw [HE.out]; rfl, b0⟩
  subst hI
  by_cases hn0 : (0 : Int) < (n : Int)
  case pos =>
    have HE : Hid (D = false) := HNO.out (fun h => by obtain ⟨p0, p1, p2, p3, p4, p5, p6, p7, p8, p9, p10, p11, p12⟩ := h; have := p7 (show (3 : Int) ≠ 5 by decide); simp only at this; have h9 := HN.out; rw [this] at h9; simp at h9; omega)
    go_wp2_with (first | (go_at_call 10; first | (refine (l01In_yes _ _ _ _ (by omega) (by omega)).mono ?_; rintro e w5 ⟨rfl, rfl⟩) | (refine (l01In_no _ _ _ _ (by omega)).mono ?_; rintro e w5 ⟨rfl, rfl⟩)) | (go_at_call 11; refine (specWordOk_any _ _ (by first | exact h1 | exact h2 | exact h3)).mono ?_; rintro e w5 ⟨rfl, rfl⟩; first | rw [HQU.out] | rw [HQB.out] | rw [HQT.out]))
    go_ret
    exact ⟨by rw [HE.out]; rfl, b0⟩
  go_upto_region 10 with (first | (go_at_call 10; first | (refine (l01In_yes _ _ _ _ (by omega) (by omega)).mono ?_; rintro e w5 ⟨rfl, rfl⟩) | (refine (l01In_no _ _ _ _ (by omega)).mono ?_; rintro e w5 ⟨rfl, rfl⟩)) | (go_at_call 11; refine (specWordOk_any _ _ (by first | exact h1 | exact h2 | exact h3)).mono ?_; rintro e w5 ⟨rfl, rfl⟩; first | rw [HQU.out] | rw [HQB.out] | rw [HQT.out]))
  clear a0 a1 a2 a3 a4 a6 a7
  go_wp2
  go_loopw [6] (fun iv wr => ∃ i : Nat, i ≤ n ∧ iv = .int .i64 (i : Int) ∧ (∀ j, j < i → UidAt l j) ∧ Below W.heap.size W wr) (fun iv _ => n - (intOf iv).toNat)
  case atStart => exact ⟨0, by omega, rfl, fun j hj => by omega, Below.refl _ _⟩
  case round =>
    obtain ⟨i, hi, rfl, hU, hb⟩ := hrel
    have HU := Lib.hid hU
    clear hU a5
    obtain ⟨a0, a1, a2, a3, a4, a5, a6, a7, _⟩ := (Q0.out.later hb).eightL
    have bw := b0.trans (hb.mono b0.size)
    by_cases hlt : i < n
    · exact absurd hlt (by omega)
    · have HALL : Hid (∀ j, UidAt l j) := fun j => by
        by_cases hj : j < i
        · exact HU.out j hj
        · intro x hx
          have := (List.getElem?_eq_some_iff.1 hx).1
          have := HN.out
          omega
      have HBW := Lib.hid bw
      clear hb bw
      by_cases hfl : 0 ≤ fl ∧ fl ≤ 7
      case neg =>
        have HE : Hid (D = false) := HNO.out (fun h => by obtain ⟨p0, p1, p2, p3, p4, p5, p6, p7, p8, p9, p10, p11, p12⟩ := h; exact hfl p9)
        go_wp2_with (first | (go_at_call 10; first | (refine (l01In_yes _ _ _ _ (by omega) (by omega)).mono ?_; rintro e w5 ⟨rfl, rfl⟩) | (refine (l01In_no _ _ _ _ (by omega)).mono ?_; rintro e w5 ⟨rfl, rfl⟩)) | (go_at_call 11; refine (specWordOk_any _ _ (by first | exact h1 | exact h2 | exact h3)).mono ?_; rintro e w5 ⟨rfl, rfl⟩; first | rw [HQU.out] | rw [HQB.out] | rw [HQT.out]))
        go_ret
        exact ⟨by rw [HE.out]; rfl, HBW.out⟩
      by_cases htx : (tx.size : Int) ≤ 100
      case neg =>
        have HE : Hid (D = false) := HNO.out (fun h => by obtain ⟨p0, p1, p2, p3, p4, p5, p6, p7, p8, p9, p10, p11, p12⟩ := h; exact htx (by have := p11; simp only at this; omega))
        go_wp2_with (first | (go_at_call 10; first | (refine (l01In_yes _ _ _ _ (by omega) (by omega)).mono ?_; rintro e w5 ⟨rfl, rfl⟩) | (refine (l01In_no _ _ _ _ (by omega)).mono ?_; rintro e w5 ⟨rfl, rfl⟩)) | (go_at_call 11; refine (specWordOk_any _ _ (by first | exact h1 | exact h2 | exact h3)).mono ?_; rintro e w5 ⟨rfl, rfl⟩; first | rw [HQU.out] | rw [HQB.out] | rw [HQT.out]))
        go_ret
        exact ⟨by rw [HE.out]; rfl, HBW.out⟩
      have h8 : (n : Int) ≤ 8 := by omega
      have HE : Hid (D = true) := by
        show D = true
        rw [← HD.out]
        exact sameP_yes ⟨(show (1 : Int) ≤ 3 ∧ (3 : Int) ≤ 6 by decide), of_decide_eq_true HQU.out, of_decide_eq_true HQB.out, fun h => absurd h (show ¬ ((3 : Int) = 6) by decide), fun _ => tx_no HET.out rfl, fun h => absurd h (show ¬ ((3 : Int) = 4 ∨ (3 : Int) = 6) by decide), fun _ _ => rfl, fun _ => List.length_eq_zero_iff.1 (by rw [HN.out]; omega), ⟨HALL.out, by rw [HN.out]; omega⟩, hfl, fun h => absurd rfl h, by show tx.size ≤ 100; omega, fun h => absurd rfl h⟩
      have e8 : decide ((n : Int) ≤ 8) = true := decide_eq_true h8
      have E8 := Lib.hid e8
      clear e8
      go_wp2_with (first | (go_at_call 10; first | (refine (l01In_yes _ _ _ _ (by omega) (by omega)).mono ?_; rintro e w5 ⟨rfl, rfl⟩) | (refine (l01In_no _ _ _ _ (by omega)).mono ?_; rintro e w5 ⟨rfl, rfl⟩)) | (go_at_call 11; refine (specWordOk_any _ _ (by first | exact h1 | exact h2 | exact h3)).mono ?_; rintro e w5 ⟨rfl, rfl⟩; first | rw [HQU.out] | rw [HQB.out] | rw [HQT.out]))
      go_ret
      exact ⟨by rw [HE.out]; first | rfl | exact congrArg (fun b => Ending.returned (.bool b)) E8.out, HBW.out⟩

set_option maxRecDepth 100000 in
set_option maxHeartbeats 8000000 in
theorem specCall4 (us bo tob tx : ByteArray) (ui fl : Int) (l : List Int) (ad : Option Addr) (n cap : Nat) (w : World) (hu : Rows' intE w (.slice ad n cap) l) (hn : l.length = n) (hl : n ≤ 1048576) (h1 : us.size ≤ 1099511627776) (h2 : bo.size ≤ 1099511627776) (h3 : tob.size ≤ 1099511627776) (h4 : tx.size ≤ 1048576) :
    Calls Try.prog 5 #[.agg #[.int .i64 4, .string us, .string bo, .string tob, .int .i64 ui, .slice ad n cap, .int .i64 fl, .string tx]] w fun e w' => e = .returned (.bool (sameP (⟨4, us, bo, tob, ui, l, fl, tx⟩ : Cal).ok)) ∧ Below w.heap.size w w' := by
  obtain ⟨D, hD⟩ : ∃ D, sameP (⟨4, us, bo, tob, ui, l, fl, tx⟩ : Cal).ok = D := ⟨_, rfl⟩
  have HD := Lib.hid hD
  rw [hD]
  clear hD
  have HNO : Hid (¬ (⟨4, us, bo, tob, ui, l, fl, tx⟩ : Cal).ok → D = false) := fun h => by rw [← HD.out]; exact sameP_no h
  obtain ⟨QU, hQU⟩ : ∃ QU, decide (wdOk us) = QU := ⟨_, rfl⟩
  obtain ⟨QB, hQB⟩ : ∃ QB, decide (wdOk bo) = QB := ⟨_, rfl⟩
  obtain ⟨QT, hQT⟩ : ∃ QT, decide (wdOk tob) = QT := ⟨_, rfl⟩
  have HQU := Lib.hid hQU
  have HQB := Lib.hid hQB
  have HQT := Lib.hid hQT
  clear hQU hQB hQT
  obtain ⟨et, qt⟩ : ∃ et, (tob.toList == []) = et := ⟨_, rfl⟩
  obtain ⟨ex, qx⟩ : ∃ ex, (tx.toList == []) = ex := ⟨_, rfl⟩
  have HET := Lib.hid qt
  have HEX := Lib.hid qx
  have HN := Lib.hid hn
  obtain ⟨ad', cap', ee, hrow⟩ := hu.intsD
  have HRW : Hid (∀ X, Below w.heap.size w X → ∀ (i : Nat) (x : Int), l[i]? = some x → ∃ g off, ad = some ⟨g, off, none⟩ ∧ X.cell? ⟨g, off + i, none⟩ = some (.int .i64 x)) := by
    cases ee
    exact hrow
  clear hu ee hrow ad' cap' hn
  have b0 := belNew w (.cells #[.int .i64 4, .string us, .string bo, .string tob, .int .i64 ui, .slice ad n cap, .int .i64 fl, .string tx] 27)
  have q0 := Box.new w #[.int .i64 4, .string us, .string bo, .string tob, .int .i64 ui, .slice ad n cap, .int .i64 fl, .string tx] 27
  go_enter Try.func5, Try.ntmps5
  go_upto_region 1 with fail
  obtain ⟨W, hW⟩ : ∃ W, w.alloc (.cells #[.int .i64 4, .string us, .string bo, .string tob, .int .i64 ui, .slice ad n cap, .int .i64 fl, .string tx] 27) = W := ⟨_, rfl⟩
  rw [hW] at b0 q0 ⊢
  clear hW
  have Q0 := Lib.hid q0
  obtain ⟨a0, a1, a2, a3, a4, a5, a6, a7, _⟩ := q0.eightL
  clear q0
  cases QU with
  | false =>
    have HE : Hid (D = false) := HNO.out (fun h => by obtain ⟨p0, p1, p2, p3, p4, p5, p6, p7, p8, p9, p10, p11, p12⟩ := h; exact absurd p1 (of_decide_eq_false HQU.out))
    go_wp2_with (first | (go_at_call 10; first | (refine (l01In_yes _ _ _ _ (by omega) (by omega)).mono ?_; rintro e w5 ⟨rfl, rfl⟩) | (refine (l01In_no _ _ _ _ (by omega)).mono ?_; rintro e w5 ⟨rfl, rfl⟩)) | (go_at_call 11; refine (specWordOk_any _ _ (by first | exact h1 | exact h2 | exact h3)).mono ?_; rintro e w5 ⟨rfl, rfl⟩; first | rw [HQU.out] | rw [HQB.out] | rw [HQT.out]))
    go_ret
    exact ⟨by rw [HE.out]; rfl, b0⟩
  | true =>
  cases QB with
  | false =>
    have HE : Hid (D = false) := HNO.out (fun h => by obtain ⟨p0, p1, p2, p3, p4, p5, p6, p7, p8, p9, p10, p11, p12⟩ := h; exact absurd p2 (of_decide_eq_false HQB.out))
    go_wp2_with (first | (go_at_call 10; first | (refine (l01In_yes _ _ _ _ (by omega) (by omega)).mono ?_; rintro e w5 ⟨rfl, rfl⟩) | (refine (l01In_no _ _ _ _ (by omega)).mono ?_; rintro e w5 ⟨rfl, rfl⟩)) | (go_at_call 11; refine (specWordOk_any _ _ (by first | exact h1 | exact h2 | exact h3)).mono ?_; rintro e w5 ⟨rfl, rfl⟩; first | rw [HQU.out] | rw [HQB.out] | rw [HQT.out]))
    go_ret
    exact ⟨by rw [HE.out]; rfl, b0⟩
  | true =>
  cases et with
  | false =>
    have HE : Hid (D = false) := HNO.out (fun h => by obtain ⟨p0, p1, p2, p3, p4, p5, p6, p7, p8, p9, p10, p11, p12⟩ := h; exact absurd (p4 (show (4 : Int) ≠ 6 by decide)) (tx_some HET.out rfl))
    go_wp2_with (first | (go_at_call 10; first | (refine (l01In_yes _ _ _ _ (by omega) (by omega)).mono ?_; rintro e w5 ⟨rfl, rfl⟩) | (refine (l01In_no _ _ _ _ (by omega)).mono ?_; rintro e w5 ⟨rfl, rfl⟩)) | (go_at_call 11; refine (specWordOk_any _ _ (by first | exact h1 | exact h2 | exact h3)).mono ?_; rintro e w5 ⟨rfl, rfl⟩; first | rw [HQU.out] | rw [HQB.out] | rw [HQT.out]))
    go_ret
    exact ⟨by rw [HE.out]; rfl, b0⟩
  | true =>
  cases ex with
  | false =>
    have HE : Hid (D = false) := HNO.out (fun h => by obtain ⟨p0, p1, p2, p3, p4, p5, p6, p7, p8, p9, p10, p11, p12⟩ := h; exact absurd (p12 (show (4 : Int) ≠ 3 by decide)) (tx_some HEX.out rfl))
    go_wp2_with (first | (go_at_call 10; first | (refine (l01In_yes _ _ _ _ (by omega) (by omega)).mono ?_; rintro e w5 ⟨rfl, rfl⟩) | (refine (l01In_no _ _ _ _ (by omega)).mono ?_; rintro e w5 ⟨rfl, rfl⟩)) | (go_at_call 11; refine (specWordOk_any _ _ (by first | exact h1 | exact h2 | exact h3)).mono ?_; rintro e w5 ⟨rfl, rfl⟩; first | rw [HQU.out] | rw [HQB.out] | rw [HQT.out]))
    go_ret
    exact ⟨by rw [HE.out]; rfl, b0⟩
  | true =>
  by_cases hn0 : (0 : Int) < (n : Int)
  case pos =>
    have HE : Hid (D = false) := HNO.out (fun h => by obtain ⟨p0, p1, p2, p3, p4, p5, p6, p7, p8, p9, p10, p11, p12⟩ := h; have := p7 (show (4 : Int) ≠ 5 by decide); simp only at this; have h9 := HN.out; rw [this] at h9; simp at h9; omega)
    go_wp2_with (first | (go_at_call 10; first | (refine (l01In_yes _ _ _ _ (by omega) (by omega)).mono ?_; rintro e w5 ⟨rfl, rfl⟩) | (refine (l01In_no _ _ _ _ (by omega)).mono ?_; rintro e w5 ⟨rfl, rfl⟩)) | (go_at_call 11; refine (specWordOk_any _ _ (by first | exact h1 | exact h2 | exact h3)).mono ?_; rintro e w5 ⟨rfl, rfl⟩; first | rw [HQU.out] | rw [HQB.out] | rw [HQT.out]))
    go_ret
    exact ⟨by rw [HE.out]; rfl, b0⟩
  by_cases hr : 1 ≤ ui ∧ ui ≤ 9999
  case neg =>
    have HE : Hid (D = false) := HNO.out (fun h => by obtain ⟨p0, p1, p2, p3, p4, p5, p6, p7, p8, p9, p10, p11, p12⟩ := h; exact hr (p5 (show (4 : Int) = 4 ∨ (4 : Int) = 6 by decide)))
    go_wp2_with (first | (go_at_call 10; first | (refine (l01In_yes _ _ _ _ (by omega) (by omega)).mono ?_; rintro e w5 ⟨rfl, rfl⟩) | (refine (l01In_no _ _ _ _ (by omega)).mono ?_; rintro e w5 ⟨rfl, rfl⟩)) | (go_at_call 11; refine (specWordOk_any _ _ (by first | exact h1 | exact h2 | exact h3)).mono ?_; rintro e w5 ⟨rfl, rfl⟩; first | rw [HQU.out] | rw [HQB.out] | rw [HQT.out]))
    go_ret
    exact ⟨by rw [HE.out]; rfl, b0⟩
  go_upto_region 10 with (first | (go_at_call 10; first | (refine (l01In_yes _ _ _ _ (by omega) (by omega)).mono ?_; rintro e w5 ⟨rfl, rfl⟩) | (refine (l01In_no _ _ _ _ (by omega)).mono ?_; rintro e w5 ⟨rfl, rfl⟩)) | (go_at_call 11; refine (specWordOk_any _ _ (by first | exact h1 | exact h2 | exact h3)).mono ?_; rintro e w5 ⟨rfl, rfl⟩; first | rw [HQU.out] | rw [HQB.out] | rw [HQT.out]))
  clear a0 a1 a2 a3 a4 a6 a7
  go_wp2
  go_loopw [6] (fun iv wr => ∃ i : Nat, i ≤ n ∧ iv = .int .i64 (i : Int) ∧ (∀ j, j < i → UidAt l j) ∧ Below W.heap.size W wr) (fun iv _ => n - (intOf iv).toNat)
  case atStart => exact ⟨0, by omega, rfl, fun j hj => by omega, Below.refl _ _⟩
  case round =>
    obtain ⟨i, hi, rfl, hU, hb⟩ := hrel
    have HU := Lib.hid hU
    clear hU a5
    obtain ⟨a0, a1, a2, a3, a4, a5, a6, a7, _⟩ := (Q0.out.later hb).eightL
    have bw := b0.trans (hb.mono b0.size)
    by_cases hlt : i < n
    · exact absurd hlt (by omega)
    · have HALL : Hid (∀ j, UidAt l j) := fun j => by
        by_cases hj : j < i
        · exact HU.out j hj
        · intro x hx
          have := (List.getElem?_eq_some_iff.1 hx).1
          have := HN.out
          omega
      have HBW := Lib.hid bw
      clear hb bw
      by_cases hfl : 0 ≤ fl ∧ fl ≤ 7
      case neg =>
        have HE : Hid (D = false) := HNO.out (fun h => by obtain ⟨p0, p1, p2, p3, p4, p5, p6, p7, p8, p9, p10, p11, p12⟩ := h; exact hfl p9)
        go_wp2_with (first | (go_at_call 10; first | (refine (l01In_yes _ _ _ _ (by omega) (by omega)).mono ?_; rintro e w5 ⟨rfl, rfl⟩) | (refine (l01In_no _ _ _ _ (by omega)).mono ?_; rintro e w5 ⟨rfl, rfl⟩)) | (go_at_call 11; refine (specWordOk_any _ _ (by first | exact h1 | exact h2 | exact h3)).mono ?_; rintro e w5 ⟨rfl, rfl⟩; first | rw [HQU.out] | rw [HQB.out] | rw [HQT.out]))
        go_ret
        exact ⟨by rw [HE.out]; rfl, HBW.out⟩
      by_cases htx : (tx.size : Int) ≤ 100
      case neg =>
        have HE : Hid (D = false) := HNO.out (fun h => by obtain ⟨p0, p1, p2, p3, p4, p5, p6, p7, p8, p9, p10, p11, p12⟩ := h; exact htx (by have := p11; simp only at this; omega))
        go_wp2_with (first | (go_at_call 10; first | (refine (l01In_yes _ _ _ _ (by omega) (by omega)).mono ?_; rintro e w5 ⟨rfl, rfl⟩) | (refine (l01In_no _ _ _ _ (by omega)).mono ?_; rintro e w5 ⟨rfl, rfl⟩)) | (go_at_call 11; refine (specWordOk_any _ _ (by first | exact h1 | exact h2 | exact h3)).mono ?_; rintro e w5 ⟨rfl, rfl⟩; first | rw [HQU.out] | rw [HQB.out] | rw [HQT.out]))
        go_ret
        exact ⟨by rw [HE.out]; rfl, HBW.out⟩
      have h8 : (n : Int) ≤ 8 := by omega
      have HE : Hid (D = true) := by
        show D = true
        rw [← HD.out]
        exact sameP_yes ⟨(show (1 : Int) ≤ 4 ∧ (4 : Int) ≤ 6 by decide), of_decide_eq_true HQU.out, of_decide_eq_true HQB.out, fun h => absurd h (show ¬ ((4 : Int) = 6) by decide), fun _ => tx_no HET.out rfl, fun _ => hr, fun h => absurd rfl h, fun _ => List.length_eq_zero_iff.1 (by rw [HN.out]; omega), ⟨HALL.out, by rw [HN.out]; omega⟩, hfl, fun _ h => absurd rfl h, by show tx.size ≤ 100; omega, fun _ => tx_no HEX.out rfl⟩
      have e8 : decide ((n : Int) ≤ 8) = true := decide_eq_true h8
      have E8 := Lib.hid e8
      clear e8
      go_wp2_with (first | (go_at_call 10; first | (refine (l01In_yes _ _ _ _ (by omega) (by omega)).mono ?_; rintro e w5 ⟨rfl, rfl⟩) | (refine (l01In_no _ _ _ _ (by omega)).mono ?_; rintro e w5 ⟨rfl, rfl⟩)) | (go_at_call 11; refine (specWordOk_any _ _ (by first | exact h1 | exact h2 | exact h3)).mono ?_; rintro e w5 ⟨rfl, rfl⟩; first | rw [HQU.out] | rw [HQB.out] | rw [HQT.out]))
      go_ret
      exact ⟨by rw [HE.out]; first | rfl | exact congrArg (fun b => Ending.returned (.bool b)) E8.out, HBW.out⟩

set_option maxRecDepth 100000 in
set_option maxHeartbeats 8000000 in
theorem specCall5 (us bo tob tx : ByteArray) (ui fl : Int) (l : List Int) (ad : Option Addr) (n cap : Nat) (w : World) (hu : Rows' intE w (.slice ad n cap) l) (hn : l.length = n) (hl : n ≤ 1048576) (h1 : us.size ≤ 1099511627776) (h2 : bo.size ≤ 1099511627776) (h3 : tob.size ≤ 1099511627776) (h4 : tx.size ≤ 1048576) :
    Calls Try.prog 5 #[.agg #[.int .i64 5, .string us, .string bo, .string tob, .int .i64 ui, .slice ad n cap, .int .i64 fl, .string tx]] w fun e w' => e = .returned (.bool (sameP (⟨5, us, bo, tob, ui, l, fl, tx⟩ : Cal).ok)) ∧ Below w.heap.size w w' := by
  obtain ⟨D, hD⟩ : ∃ D, sameP (⟨5, us, bo, tob, ui, l, fl, tx⟩ : Cal).ok = D := ⟨_, rfl⟩
  have HD := Lib.hid hD
  rw [hD]
  clear hD
  have HNO : Hid (¬ (⟨5, us, bo, tob, ui, l, fl, tx⟩ : Cal).ok → D = false) := fun h => by rw [← HD.out]; exact sameP_no h
  obtain ⟨QU, hQU⟩ : ∃ QU, decide (wdOk us) = QU := ⟨_, rfl⟩
  obtain ⟨QB, hQB⟩ : ∃ QB, decide (wdOk bo) = QB := ⟨_, rfl⟩
  obtain ⟨QT, hQT⟩ : ∃ QT, decide (wdOk tob) = QT := ⟨_, rfl⟩
  have HQU := Lib.hid hQU
  have HQB := Lib.hid hQB
  have HQT := Lib.hid hQT
  clear hQU hQB hQT
  obtain ⟨et, qt⟩ : ∃ et, (tob.toList == []) = et := ⟨_, rfl⟩
  obtain ⟨ex, qx⟩ : ∃ ex, (tx.toList == []) = ex := ⟨_, rfl⟩
  have HET := Lib.hid qt
  have HEX := Lib.hid qx
  have HN := Lib.hid hn
  obtain ⟨ad', cap', ee, hrow⟩ := hu.intsD
  have HRW : Hid (∀ X, Below w.heap.size w X → ∀ (i : Nat) (x : Int), l[i]? = some x → ∃ g off, ad = some ⟨g, off, none⟩ ∧ X.cell? ⟨g, off + i, none⟩ = some (.int .i64 x)) := by
    cases ee
    exact hrow
  clear hu ee hrow ad' cap' hn
  have b0 := belNew w (.cells #[.int .i64 5, .string us, .string bo, .string tob, .int .i64 ui, .slice ad n cap, .int .i64 fl, .string tx] 27)
  have q0 := Box.new w #[.int .i64 5, .string us, .string bo, .string tob, .int .i64 ui, .slice ad n cap, .int .i64 fl, .string tx] 27
  go_enter Try.func5, Try.ntmps5
  go_upto_region 1 with fail
  obtain ⟨W, hW⟩ : ∃ W, w.alloc (.cells #[.int .i64 5, .string us, .string bo, .string tob, .int .i64 ui, .slice ad n cap, .int .i64 fl, .string tx] 27) = W := ⟨_, rfl⟩
  rw [hW] at b0 q0 ⊢
  clear hW
  have Q0 := Lib.hid q0
  obtain ⟨a0, a1, a2, a3, a4, a5, a6, a7, _⟩ := q0.eightL
  clear q0
  cases QU with
  | false =>
    have HE : Hid (D = false) := HNO.out (fun h => by obtain ⟨p0, p1, p2, p3, p4, p5, p6, p7, p8, p9, p10, p11, p12⟩ := h; exact absurd p1 (of_decide_eq_false HQU.out))
    go_wp2_with (first | (go_at_call 10; first | (refine (l01In_yes _ _ _ _ (by omega) (by omega)).mono ?_; rintro e w5 ⟨rfl, rfl⟩) | (refine (l01In_no _ _ _ _ (by omega)).mono ?_; rintro e w5 ⟨rfl, rfl⟩)) | (go_at_call 11; refine (specWordOk_any _ _ (by first | exact h1 | exact h2 | exact h3)).mono ?_; rintro e w5 ⟨rfl, rfl⟩; first | rw [HQU.out] | rw [HQB.out] | rw [HQT.out]))
    go_ret
    exact ⟨by rw [HE.out]; rfl, b0⟩
  | true =>
  cases QB with
  | false =>
    have HE : Hid (D = false) := HNO.out (fun h => by obtain ⟨p0, p1, p2, p3, p4, p5, p6, p7, p8, p9, p10, p11, p12⟩ := h; exact absurd p2 (of_decide_eq_false HQB.out))
    go_wp2_with (first | (go_at_call 10; first | (refine (l01In_yes _ _ _ _ (by omega) (by omega)).mono ?_; rintro e w5 ⟨rfl, rfl⟩) | (refine (l01In_no _ _ _ _ (by omega)).mono ?_; rintro e w5 ⟨rfl, rfl⟩)) | (go_at_call 11; refine (specWordOk_any _ _ (by first | exact h1 | exact h2 | exact h3)).mono ?_; rintro e w5 ⟨rfl, rfl⟩; first | rw [HQU.out] | rw [HQB.out] | rw [HQT.out]))
    go_ret
    exact ⟨by rw [HE.out]; rfl, b0⟩
  | true =>
  cases et with
  | false =>
    have HE : Hid (D = false) := HNO.out (fun h => by obtain ⟨p0, p1, p2, p3, p4, p5, p6, p7, p8, p9, p10, p11, p12⟩ := h; exact absurd (p4 (show (5 : Int) ≠ 6 by decide)) (tx_some HET.out rfl))
    go_wp2_with (first | (go_at_call 10; first | (refine (l01In_yes _ _ _ _ (by omega) (by omega)).mono ?_; rintro e w5 ⟨rfl, rfl⟩) | (refine (l01In_no _ _ _ _ (by omega)).mono ?_; rintro e w5 ⟨rfl, rfl⟩)) | (go_at_call 11; refine (specWordOk_any _ _ (by first | exact h1 | exact h2 | exact h3)).mono ?_; rintro e w5 ⟨rfl, rfl⟩; first | rw [HQU.out] | rw [HQB.out] | rw [HQT.out]))
    go_ret
    exact ⟨by rw [HE.out]; rfl, b0⟩
  | true =>
  by_cases hI : ui = 0
  case neg =>
    have hI1 : (ui == 0) = false := beq_eq_false_iff_ne.2 hI
    have HE : Hid (D = false) := HNO.out (fun h => by obtain ⟨p0, p1, p2, p3, p4, p5, p6, p7, p8, p9, p10, p11, p12⟩ := h; exact hI (p6 (show (5 : Int) ≠ 4 by decide) (show (5 : Int) ≠ 6 by decide)))
    go_wp2_with (first | (go_at_call 10; first | (refine (l01In_yes _ _ _ _ (by omega) (by omega)).mono ?_; rintro e w5 ⟨rfl, rfl⟩) | (refine (l01In_no _ _ _ _ (by omega)).mono ?_; rintro e w5 ⟨rfl, rfl⟩)) | (go_at_call 11; refine (specWordOk_any _ _ (by first | exact h1 | exact h2 | exact h3)).mono ?_; rintro e w5 ⟨rfl, rfl⟩; first | rw [HQU.out] | rw [HQB.out] | rw [HQT.out]))
    go_ret
    exact ⟨by rw [HE.out]; rfl, b0⟩
  subst hI
  by_cases hF : fl = 0
  case neg =>
    have hF1 : (fl == 0) = false := beq_eq_false_iff_ne.2 hF
    have HE : Hid (D = false) := HNO.out (fun h => by obtain ⟨p0, p1, p2, p3, p4, p5, p6, p7, p8, p9, p10, p11, p12⟩ := h; exact hF (p10 (show (5 : Int) ≠ 3 by decide) (show (5 : Int) ≠ 4 by decide)))
    go_wp2_with (first | (go_at_call 10; first | (refine (l01In_yes _ _ _ _ (by omega) (by omega)).mono ?_; rintro e w5 ⟨rfl, rfl⟩) | (refine (l01In_no _ _ _ _ (by omega)).mono ?_; rintro e w5 ⟨rfl, rfl⟩)) | (go_at_call 11; refine (specWordOk_any _ _ (by first | exact h1 | exact h2 | exact h3)).mono ?_; rintro e w5 ⟨rfl, rfl⟩; first | rw [HQU.out] | rw [HQB.out] | rw [HQT.out]))
    go_ret
    exact ⟨by rw [HE.out]; rfl, b0⟩
  subst hF
  cases ex with
  | false =>
    have HE : Hid (D = false) := HNO.out (fun h => by obtain ⟨p0, p1, p2, p3, p4, p5, p6, p7, p8, p9, p10, p11, p12⟩ := h; exact absurd (p12 (show (5 : Int) ≠ 3 by decide)) (tx_some HEX.out rfl))
    go_wp2_with (first | (go_at_call 10; first | (refine (l01In_yes _ _ _ _ (by omega) (by omega)).mono ?_; rintro e w5 ⟨rfl, rfl⟩) | (refine (l01In_no _ _ _ _ (by omega)).mono ?_; rintro e w5 ⟨rfl, rfl⟩)) | (go_at_call 11; refine (specWordOk_any _ _ (by first | exact h1 | exact h2 | exact h3)).mono ?_; rintro e w5 ⟨rfl, rfl⟩; first | rw [HQU.out] | rw [HQB.out] | rw [HQT.out]))
    go_ret
    exact ⟨by rw [HE.out]; rfl, b0⟩
  | true =>
  go_upto_region 10 with (first | (go_at_call 10; first | (refine (l01In_yes _ _ _ _ (by omega) (by omega)).mono ?_; rintro e w5 ⟨rfl, rfl⟩) | (refine (l01In_no _ _ _ _ (by omega)).mono ?_; rintro e w5 ⟨rfl, rfl⟩)) | (go_at_call 11; refine (specWordOk_any _ _ (by first | exact h1 | exact h2 | exact h3)).mono ?_; rintro e w5 ⟨rfl, rfl⟩; first | rw [HQU.out] | rw [HQB.out] | rw [HQT.out]))
  clear a0 a1 a2 a3 a4 a6 a7
  go_wp2
  go_loopw [6] (fun iv wr => ∃ i : Nat, i ≤ n ∧ iv = .int .i64 (i : Int) ∧ (∀ j, j < i → UidAt l j) ∧ Below W.heap.size W wr) (fun iv _ => n - (intOf iv).toNat)
  case atStart => exact ⟨0, by omega, rfl, fun j hj => by omega, Below.refl _ _⟩
  case round =>
    obtain ⟨i, hi, rfl, hU, hb⟩ := hrel
    have HU := Lib.hid hU
    clear hU a5
    obtain ⟨a0, a1, a2, a3, a4, a5, a6, a7, _⟩ := (Q0.out.later hb).eightL
    have bw := b0.trans (hb.mono b0.size)
    by_cases hlt : i < n
    · obtain ⟨x, hgx⟩ : ∃ x, l[i]? = some x := ⟨_, List.getElem?_eq_getElem (by rw [HN.out]; exact hlt)⟩
      obtain ⟨ga, oa, rfl, p0⟩ := HRW.out wr bw i _ hgx
      have HX := Lib.hid hgx
      clear hgx
      have hi0 : (0 : Int) ≤ (i : Int) := by omega
      have hi1 : (i : Int) < (n : Int) := by omega
      have HB := Lib.hid hb
      have HBW := Lib.hid bw
      by_cases hv : 1 ≤ x ∧ x ≤ 9999
      case neg =>
        have HE : Hid (D = false) := HNO.out (fun h => by obtain ⟨p0, p1, p2, p3, p4, p5, p6, p7, p8, p9, p10, p11, p12⟩ := h; exact hv (p8.1 i x HX.out).1)
        clear hb bw
        go_wp2
        go_quiet (first | (go_at_call 10; first | exact Calls.quiet_of_same (in_yes_q _ _ _ _ (by omega) (by omega)) | exact Calls.quiet_of_same (in_no_q _ _ _ _ (by omega))))
        go_wp2
        go_ret
        exact ⟨by rw [HE.out]; rfl, HBW.out.trans ⟨rfl, rfl, rfl, Nat.le_refl _, fun _ _ => rfl⟩⟩
      by_cases hz : i = 0
      · have HK : Hid (UidAt l i) := fun x' hx' => by
          rw [HX.out] at hx'
          cases hx'
          exact ⟨hv, fun y hy => absurd hz (by omega)⟩
        have hz1 : ¬ ((0 : Int) < (i : Int)) := by omega
        have hz2 : ¬ (0 < i) := by omega
        clear hb bw hz
        go_wp2
        go_quiet (first | (go_at_call 10; first | exact Calls.quiet_of_same (in_yes_q _ _ _ _ (by omega) (by omega)) | exact Calls.quiet_of_same (in_no_q _ _ _ _ (by omega))))
        go_wp2
        go_roundw
        case rel => exact ⟨i + 1, by omega, by go_num, fun j hj => by
          by_cases c : j = i
          · subst c; exact HK.out
          · exact HU.out j (by omega), below_drewN HB.out _⟩
        case measure => simp [intOf]; omega
      · obtain ⟨j, hj⟩ : ∃ j, i = j + 1 := ⟨i - 1, by omega⟩
        obtain ⟨y, hgy⟩ : ∃ y, l[j]? = some y := ⟨_, List.getElem?_eq_getElem (by rw [HN.out]; omega)⟩
        obtain ⟨ga', oa', ee, p1⟩ := HRW.out wr bw j _ hgy
        cases ee
        have HY := Lib.hid hgy
        have HJ := Lib.hid hj
        have hz1 : (0 : Int) < (i : Int) := by omega
        have hz2 : 0 < i := by omega
        have hw1 : IntKind.i64.wrap ((i : Int) - 1) = (j : Int) := (IntWalk.i64_in _ ⟨by omega, by omega⟩).trans (by omega)
        have hj0 : (0 : Int) ≤ (j : Int) := by omega
        have hj1 : (j : Int) < (n : Int) := by omega
        clear hb bw hgy hj
        by_cases hyx : x ≤ y
        · have HE : Hid (D = false) := HNO.out (fun h => by
            obtain ⟨p0, p1, p2, p3, p4, p5, p6, p7, p8, p9, p10, p11, p12⟩ := h
            have := (p8.1 i x HX.out).2 y (by omega) (by rw [HJ.out]; exact HY.out)
            omega)
          go_wp2
          go_quiet (first | (go_at_call 10; first | exact Calls.quiet_of_same (in_yes_q _ _ _ _ (by omega) (by omega)) | exact Calls.quiet_of_same (in_no_q _ _ _ _ (by omega))))
          go_wp2
          go_ret
          exact ⟨by rw [HE.out]; rfl, HBW.out.trans ⟨rfl, rfl, rfl, Nat.le_refl _, fun _ _ => rfl⟩⟩
        · have HK : Hid (UidAt l i) := fun x' hx' => by
            rw [HX.out] at hx'
            cases hx'
            refine ⟨hv, fun y' _ hy' => ?_⟩
            rw [HJ.out, show j + 1 - 1 = j by omega, HY.out] at hy'
            cases hy'
            omega
          go_wp2
          go_quiet (first | (go_at_call 10; first | exact Calls.quiet_of_same (in_yes_q _ _ _ _ (by omega) (by omega)) | exact Calls.quiet_of_same (in_no_q _ _ _ _ (by omega))))
          go_wp2
          go_roundw
          case rel => exact ⟨i + 1, by omega, by go_num, fun q hq => by
            by_cases c : q = i
            · subst c; exact HK.out
            · exact HU.out q (by omega), below_drewN HB.out _⟩
          case measure => simp [intOf]; omega
    · have HALL : Hid (∀ j, UidAt l j) := fun j => by
        by_cases hj : j < i
        · exact HU.out j hj
        · intro x hx
          have := (List.getElem?_eq_some_iff.1 hx).1
          have := HN.out
          omega
      have HBW := Lib.hid bw
      clear hb bw
      have hfl : (0 : Int) ≤ 0 ∧ (0 : Int) ≤ 7 := by decide
      by_cases htx : (tx.size : Int) ≤ 100
      case neg =>
        have HE : Hid (D = false) := HNO.out (fun h => by obtain ⟨p0, p1, p2, p3, p4, p5, p6, p7, p8, p9, p10, p11, p12⟩ := h; exact htx (by have := p11; simp only at this; omega))
        go_wp2_with (first | (go_at_call 10; first | (refine (l01In_yes _ _ _ _ (by omega) (by omega)).mono ?_; rintro e w5 ⟨rfl, rfl⟩) | (refine (l01In_no _ _ _ _ (by omega)).mono ?_; rintro e w5 ⟨rfl, rfl⟩)) | (go_at_call 11; refine (specWordOk_any _ _ (by first | exact h1 | exact h2 | exact h3)).mono ?_; rintro e w5 ⟨rfl, rfl⟩; first | rw [HQU.out] | rw [HQB.out] | rw [HQT.out]))
        go_ret
        exact ⟨by rw [HE.out]; rfl, HBW.out⟩
      by_cases h8 : (n : Int) ≤ 8
      case neg =>
        have HE : Hid (D = false) := HNO.out (fun h => by obtain ⟨p0, p1, p2, p3, p4, p5, p6, p7, p8, p9, p10, p11, p12⟩ := h; exact h8 (by have := p8.2; have h9 := HN.out; simp only at this; omega))
        go_wp2_with (first | (go_at_call 10; first | (refine (l01In_yes _ _ _ _ (by omega) (by omega)).mono ?_; rintro e w5 ⟨rfl, rfl⟩) | (refine (l01In_no _ _ _ _ (by omega)).mono ?_; rintro e w5 ⟨rfl, rfl⟩)) | (go_at_call 11; refine (specWordOk_any _ _ (by first | exact h1 | exact h2 | exact h3)).mono ?_; rintro e w5 ⟨rfl, rfl⟩; first | rw [HQU.out] | rw [HQB.out] | rw [HQT.out]))
        go_ret
        exact ⟨by rw [HE.out]; first | rfl | exact congrArg (fun b => Ending.returned (.bool b)) (decide_eq_false (by omega)), HBW.out⟩
      have HE : Hid (D = true) := by
        show D = true
        rw [← HD.out]
        exact sameP_yes ⟨(show (1 : Int) ≤ 5 ∧ (5 : Int) ≤ 6 by decide), of_decide_eq_true HQU.out, of_decide_eq_true HQB.out, fun h => absurd h (show ¬ ((5 : Int) = 6) by decide), fun _ => tx_no HET.out rfl, fun h => absurd h (show ¬ ((5 : Int) = 4 ∨ (5 : Int) = 6) by decide), fun _ _ => rfl, fun h => absurd rfl h, ⟨HALL.out, by rw [HN.out]; omega⟩, hfl, fun _ _ => rfl, by show tx.size ≤ 100; omega, fun _ => tx_no HEX.out rfl⟩
      have e8 : decide ((n : Int) ≤ 8) = true := decide_eq_true h8
      have E8 := Lib.hid e8
      clear e8
      go_wp2_with (first | (go_at_call 10; first | (refine (l01In_yes _ _ _ _ (by omega) (by omega)).mono ?_; rintro e w5 ⟨rfl, rfl⟩) | (refine (l01In_no _ _ _ _ (by omega)).mono ?_; rintro e w5 ⟨rfl, rfl⟩)) | (go_at_call 11; refine (specWordOk_any _ _ (by first | exact h1 | exact h2 | exact h3)).mono ?_; rintro e w5 ⟨rfl, rfl⟩; first | rw [HQU.out] | rw [HQB.out] | rw [HQT.out]))
      go_ret
      exact ⟨by rw [HE.out]; first | rfl | exact congrArg (fun b => Ending.returned (.bool b)) E8.out, HBW.out⟩

set_option maxRecDepth 100000 in
set_option maxHeartbeats 8000000 in
theorem specCall6 (us bo tob tx : ByteArray) (ui fl : Int) (l : List Int) (ad : Option Addr) (n cap : Nat) (w : World) (hu : Rows' intE w (.slice ad n cap) l) (hn : l.length = n) (hl : n ≤ 1048576) (h1 : us.size ≤ 1099511627776) (h2 : bo.size ≤ 1099511627776) (h3 : tob.size ≤ 1099511627776) (h4 : tx.size ≤ 1048576) :
    Calls Try.prog 5 #[.agg #[.int .i64 6, .string us, .string bo, .string tob, .int .i64 ui, .slice ad n cap, .int .i64 fl, .string tx]] w fun e w' => e = .returned (.bool (sameP (⟨6, us, bo, tob, ui, l, fl, tx⟩ : Cal).ok)) ∧ Below w.heap.size w w' := by
  obtain ⟨D, hD⟩ : ∃ D, sameP (⟨6, us, bo, tob, ui, l, fl, tx⟩ : Cal).ok = D := ⟨_, rfl⟩
  have HD := Lib.hid hD
  rw [hD]
  clear hD
  have HNO : Hid (¬ (⟨6, us, bo, tob, ui, l, fl, tx⟩ : Cal).ok → D = false) := fun h => by rw [← HD.out]; exact sameP_no h
  obtain ⟨QU, hQU⟩ : ∃ QU, decide (wdOk us) = QU := ⟨_, rfl⟩
  obtain ⟨QB, hQB⟩ : ∃ QB, decide (wdOk bo) = QB := ⟨_, rfl⟩
  obtain ⟨QT, hQT⟩ : ∃ QT, decide (wdOk tob) = QT := ⟨_, rfl⟩
  have HQU := Lib.hid hQU
  have HQB := Lib.hid hQB
  have HQT := Lib.hid hQT
  clear hQU hQB hQT
  obtain ⟨et, qt⟩ : ∃ et, (tob.toList == []) = et := ⟨_, rfl⟩
  obtain ⟨ex, qx⟩ : ∃ ex, (tx.toList == []) = ex := ⟨_, rfl⟩
  have HET := Lib.hid qt
  have HEX := Lib.hid qx
  have HN := Lib.hid hn
  obtain ⟨ad', cap', ee, hrow⟩ := hu.intsD
  have HRW : Hid (∀ X, Below w.heap.size w X → ∀ (i : Nat) (x : Int), l[i]? = some x → ∃ g off, ad = some ⟨g, off, none⟩ ∧ X.cell? ⟨g, off + i, none⟩ = some (.int .i64 x)) := by
    cases ee
    exact hrow
  clear hu ee hrow ad' cap' hn
  have b0 := belNew w (.cells #[.int .i64 6, .string us, .string bo, .string tob, .int .i64 ui, .slice ad n cap, .int .i64 fl, .string tx] 27)
  have q0 := Box.new w #[.int .i64 6, .string us, .string bo, .string tob, .int .i64 ui, .slice ad n cap, .int .i64 fl, .string tx] 27
  go_enter Try.func5, Try.ntmps5
  go_upto_region 1 with fail
  obtain ⟨W, hW⟩ : ∃ W, w.alloc (.cells #[.int .i64 6, .string us, .string bo, .string tob, .int .i64 ui, .slice ad n cap, .int .i64 fl, .string tx] 27) = W := ⟨_, rfl⟩
  rw [hW] at b0 q0 ⊢
  clear hW
  have Q0 := Lib.hid q0
  obtain ⟨a0, a1, a2, a3, a4, a5, a6, a7, _⟩ := q0.eightL
  clear q0
  cases QU with
  | false =>
    have HE : Hid (D = false) := HNO.out (fun h => by obtain ⟨p0, p1, p2, p3, p4, p5, p6, p7, p8, p9, p10, p11, p12⟩ := h; exact absurd p1 (of_decide_eq_false HQU.out))
    go_wp2_with (first | (go_at_call 10; first | (refine (l01In_yes _ _ _ _ (by omega) (by omega)).mono ?_; rintro e w5 ⟨rfl, rfl⟩) | (refine (l01In_no _ _ _ _ (by omega)).mono ?_; rintro e w5 ⟨rfl, rfl⟩)) | (go_at_call 11; refine (specWordOk_any _ _ (by first | exact h1 | exact h2 | exact h3)).mono ?_; rintro e w5 ⟨rfl, rfl⟩; first | rw [HQU.out] | rw [HQB.out] | rw [HQT.out]))
    go_ret
    exact ⟨by rw [HE.out]; rfl, b0⟩
  | true =>
  cases QB with
  | false =>
    have HE : Hid (D = false) := HNO.out (fun h => by obtain ⟨p0, p1, p2, p3, p4, p5, p6, p7, p8, p9, p10, p11, p12⟩ := h; exact absurd p2 (of_decide_eq_false HQB.out))
    go_wp2_with (first | (go_at_call 10; first | (refine (l01In_yes _ _ _ _ (by omega) (by omega)).mono ?_; rintro e w5 ⟨rfl, rfl⟩) | (refine (l01In_no _ _ _ _ (by omega)).mono ?_; rintro e w5 ⟨rfl, rfl⟩)) | (go_at_call 11; refine (specWordOk_any _ _ (by first | exact h1 | exact h2 | exact h3)).mono ?_; rintro e w5 ⟨rfl, rfl⟩; first | rw [HQU.out] | rw [HQB.out] | rw [HQT.out]))
    go_ret
    exact ⟨by rw [HE.out]; rfl, b0⟩
  | true =>
  cases QT with
  | false =>
    have HE : Hid (D = false) := HNO.out (fun h => by obtain ⟨p0, p1, p2, p3, p4, p5, p6, p7, p8, p9, p10, p11, p12⟩ := h; exact absurd (p3 rfl) (of_decide_eq_false HQT.out))
    go_wp2_with (first | (go_at_call 10; first | (refine (l01In_yes _ _ _ _ (by omega) (by omega)).mono ?_; rintro e w5 ⟨rfl, rfl⟩) | (refine (l01In_no _ _ _ _ (by omega)).mono ?_; rintro e w5 ⟨rfl, rfl⟩)) | (go_at_call 11; refine (specWordOk_any _ _ (by first | exact h1 | exact h2 | exact h3)).mono ?_; rintro e w5 ⟨rfl, rfl⟩; first | rw [HQU.out] | rw [HQB.out] | rw [HQT.out]))
    go_ret
    exact ⟨by rw [HE.out]; rfl, b0⟩
  | true =>
  by_cases hF : fl = 0
  case neg =>
    have hF1 : (fl == 0) = false := beq_eq_false_iff_ne.2 hF
    have HE : Hid (D = false) := HNO.out (fun h => by obtain ⟨p0, p1, p2, p3, p4, p5, p6, p7, p8, p9, p10, p11, p12⟩ := h; exact hF (p10 (show (6 : Int) ≠ 3 by decide) (show (6 : Int) ≠ 4 by decide)))
    go_wp2_with (first | (go_at_call 10; first | (refine (l01In_yes _ _ _ _ (by omega) (by omega)).mono ?_; rintro e w5 ⟨rfl, rfl⟩) | (refine (l01In_no _ _ _ _ (by omega)).mono ?_; rintro e w5 ⟨rfl, rfl⟩)) | (go_at_call 11; refine (specWordOk_any _ _ (by first | exact h1 | exact h2 | exact h3)).mono ?_; rintro e w5 ⟨rfl, rfl⟩; first | rw [HQU.out] | rw [HQB.out] | rw [HQT.out]))
    go_ret
    exact ⟨by rw [HE.out]; rfl, b0⟩
  subst hF
  cases ex with
  | false =>
    have HE : Hid (D = false) := HNO.out (fun h => by obtain ⟨p0, p1, p2, p3, p4, p5, p6, p7, p8, p9, p10, p11, p12⟩ := h; exact absurd (p12 (show (6 : Int) ≠ 3 by decide)) (tx_some HEX.out rfl))
    go_wp2_with (first | (go_at_call 10; first | (refine (l01In_yes _ _ _ _ (by omega) (by omega)).mono ?_; rintro e w5 ⟨rfl, rfl⟩) | (refine (l01In_no _ _ _ _ (by omega)).mono ?_; rintro e w5 ⟨rfl, rfl⟩)) | (go_at_call 11; refine (specWordOk_any _ _ (by first | exact h1 | exact h2 | exact h3)).mono ?_; rintro e w5 ⟨rfl, rfl⟩; first | rw [HQU.out] | rw [HQB.out] | rw [HQT.out]))
    go_ret
    exact ⟨by rw [HE.out]; rfl, b0⟩
  | true =>
  by_cases hn0 : (0 : Int) < (n : Int)
  case pos =>
    have HE : Hid (D = false) := HNO.out (fun h => by obtain ⟨p0, p1, p2, p3, p4, p5, p6, p7, p8, p9, p10, p11, p12⟩ := h; have := p7 (show (6 : Int) ≠ 5 by decide); simp only at this; have h9 := HN.out; rw [this] at h9; simp at h9; omega)
    go_wp2_with (first | (go_at_call 10; first | (refine (l01In_yes _ _ _ _ (by omega) (by omega)).mono ?_; rintro e w5 ⟨rfl, rfl⟩) | (refine (l01In_no _ _ _ _ (by omega)).mono ?_; rintro e w5 ⟨rfl, rfl⟩)) | (go_at_call 11; refine (specWordOk_any _ _ (by first | exact h1 | exact h2 | exact h3)).mono ?_; rintro e w5 ⟨rfl, rfl⟩; first | rw [HQU.out] | rw [HQB.out] | rw [HQT.out]))
    go_ret
    exact ⟨by rw [HE.out]; rfl, b0⟩
  by_cases hr : 1 ≤ ui ∧ ui ≤ 9999
  case neg =>
    have HE : Hid (D = false) := HNO.out (fun h => by obtain ⟨p0, p1, p2, p3, p4, p5, p6, p7, p8, p9, p10, p11, p12⟩ := h; exact hr (p5 (show (6 : Int) = 4 ∨ (6 : Int) = 6 by decide)))
    go_wp2_with (first | (go_at_call 10; first | (refine (l01In_yes _ _ _ _ (by omega) (by omega)).mono ?_; rintro e w5 ⟨rfl, rfl⟩) | (refine (l01In_no _ _ _ _ (by omega)).mono ?_; rintro e w5 ⟨rfl, rfl⟩)) | (go_at_call 11; refine (specWordOk_any _ _ (by first | exact h1 | exact h2 | exact h3)).mono ?_; rintro e w5 ⟨rfl, rfl⟩; first | rw [HQU.out] | rw [HQB.out] | rw [HQT.out]))
    go_ret
    exact ⟨by rw [HE.out]; rfl, b0⟩
  go_upto_region 10 with (first | (go_at_call 10; first | (refine (l01In_yes _ _ _ _ (by omega) (by omega)).mono ?_; rintro e w5 ⟨rfl, rfl⟩) | (refine (l01In_no _ _ _ _ (by omega)).mono ?_; rintro e w5 ⟨rfl, rfl⟩)) | (go_at_call 11; refine (specWordOk_any _ _ (by first | exact h1 | exact h2 | exact h3)).mono ?_; rintro e w5 ⟨rfl, rfl⟩; first | rw [HQU.out] | rw [HQB.out] | rw [HQT.out]))
  clear a0 a1 a2 a3 a4 a6 a7
  go_wp2
  go_loopw [6] (fun iv wr => ∃ i : Nat, i ≤ n ∧ iv = .int .i64 (i : Int) ∧ (∀ j, j < i → UidAt l j) ∧ Below W.heap.size W wr) (fun iv _ => n - (intOf iv).toNat)
  case atStart => exact ⟨0, by omega, rfl, fun j hj => by omega, Below.refl _ _⟩
  case round =>
    obtain ⟨i, hi, rfl, hU, hb⟩ := hrel
    have HU := Lib.hid hU
    clear hU a5
    obtain ⟨a0, a1, a2, a3, a4, a5, a6, a7, _⟩ := (Q0.out.later hb).eightL
    have bw := b0.trans (hb.mono b0.size)
    by_cases hlt : i < n
    · exact absurd hlt (by omega)
    · have HALL : Hid (∀ j, UidAt l j) := fun j => by
        by_cases hj : j < i
        · exact HU.out j hj
        · intro x hx
          have := (List.getElem?_eq_some_iff.1 hx).1
          have := HN.out
          omega
      have HBW := Lib.hid bw
      clear hb bw
      have hfl : (0 : Int) ≤ 0 ∧ (0 : Int) ≤ 7 := by decide
      by_cases htx : (tx.size : Int) ≤ 100
      case neg =>
        have HE : Hid (D = false) := HNO.out (fun h => by obtain ⟨p0, p1, p2, p3, p4, p5, p6, p7, p8, p9, p10, p11, p12⟩ := h; exact htx (by have := p11; simp only at this; omega))
        go_wp2_with (first | (go_at_call 10; first | (refine (l01In_yes _ _ _ _ (by omega) (by omega)).mono ?_; rintro e w5 ⟨rfl, rfl⟩) | (refine (l01In_no _ _ _ _ (by omega)).mono ?_; rintro e w5 ⟨rfl, rfl⟩)) | (go_at_call 11; refine (specWordOk_any _ _ (by first | exact h1 | exact h2 | exact h3)).mono ?_; rintro e w5 ⟨rfl, rfl⟩; first | rw [HQU.out] | rw [HQB.out] | rw [HQT.out]))
        go_ret
        exact ⟨by rw [HE.out]; rfl, HBW.out⟩
      have h8 : (n : Int) ≤ 8 := by omega
      have HE : Hid (D = true) := by
        show D = true
        rw [← HD.out]
        exact sameP_yes ⟨(show (1 : Int) ≤ 6 ∧ (6 : Int) ≤ 6 by decide), of_decide_eq_true HQU.out, of_decide_eq_true HQB.out, fun _ => of_decide_eq_true HQT.out, fun h => absurd rfl h, fun _ => hr, fun _ h => absurd rfl h, fun _ => List.length_eq_zero_iff.1 (by rw [HN.out]; omega), ⟨HALL.out, by rw [HN.out]; omega⟩, hfl, fun _ _ => rfl, by show tx.size ≤ 100; omega, fun _ => tx_no HEX.out rfl⟩
      have e8 : decide ((n : Int) ≤ 8) = true := decide_eq_true h8
      have E8 := Lib.hid e8
      clear e8
      go_wp2_with (first | (go_at_call 10; first | (refine (l01In_yes _ _ _ _ (by omega) (by omega)).mono ?_; rintro e w5 ⟨rfl, rfl⟩) | (refine (l01In_no _ _ _ _ (by omega)).mono ?_; rintro e w5 ⟨rfl, rfl⟩)) | (go_at_call 11; refine (specWordOk_any _ _ (by first | exact h1 | exact h2 | exact h3)).mono ?_; rintro e w5 ⟨rfl, rfl⟩; first | rw [HQU.out] | rw [HQB.out] | rw [HQT.out]))
      go_ret
      exact ⟨by rw [HE.out]; first | rfl | exact congrArg (fun b => Ending.returned (.bool b)) E8.out, HBW.out⟩

set_option maxRecDepth 100000 in
set_option maxHeartbeats 8000000 in
theorem specCallOk_any (c : Cal) (u : Value) (w : World) (hu : Rows' intE w u c.uids) (hl : c.uids.length ≤ 1048576) (h1 : c.user.size ≤ 1099511627776) (h2 : c.box.size ≤ 1099511627776) (h3 : c.tob.size ≤ 1099511627776) (h4 : c.text.size ≤ 1048576) :
    Calls Try.prog 5 #[c.v u] w fun e w' => e = .returned (.bool (sameP c.ok)) ∧ Below w.heap.size w w' := by
  obtain ⟨k, us, bo, tob, ui, l, fl, tx⟩ := c
  simp only at hu hl h1 h2 h3 h4
  unfold Cal.v
  simp only
  obtain ⟨ad, cap, rfl, _⟩ := hu.intsD
  by_cases k1 : k = 1
  · subst k1
    exact specCall1 us bo tob tx ui fl l ad l.length cap w hu rfl hl h1 h2 h3 h4
  by_cases k2 : k = 2
  · subst k2
    exact specCall2 us bo tob tx ui fl l ad l.length cap w hu rfl hl h1 h2 h3 h4
  by_cases k3 : k = 3
  · subst k3
    exact specCall3 us bo tob tx ui fl l ad l.length cap w hu rfl hl h1 h2 h3 h4
  by_cases k4 : k = 4
  · subst k4
    exact specCall4 us bo tob tx ui fl l ad l.length cap w hu rfl hl h1 h2 h3 h4
  by_cases k5 : k = 5
  · subst k5
    exact specCall5 us bo tob tx ui fl l ad l.length cap w hu rfl hl h1 h2 h3 h4
  by_cases k6 : k = 6
  · subst k6
    exact specCall6 us bo tob tx ui fl l ad l.length cap w hu rfl hl h1 h2 h3 h4
  have HE : sameP (⟨k, us, bo, tob, ui, l, fl, tx⟩ : Cal).ok = false := sameP_no (fun h => by have := h.1; simp only at this; omega)
  rw [HE]
  have b0 := belNew w (.cells #[.int .i64 k, .string us, .string bo, .string tob, .int .i64 ui, .slice ad l.length cap, .int .i64 fl, .string tx] 27)
  have q0 := Box.new w #[.int .i64 k, .string us, .string bo, .string tob, .int .i64 ui, .slice ad l.length cap, .int .i64 fl, .string tx] 27
  go_enter Try.func5, Try.ntmps5
  go_upto_region 1 with fail
  obtain ⟨W, hW⟩ : ∃ W, w.alloc (.cells #[.int .i64 k, .string us, .string bo, .string tob, .int .i64 ui, .slice ad l.length cap, .int .i64 fl, .string tx] 27) = W := ⟨_, rfl⟩
  rw [hW] at b0 q0 ⊢
  clear hW
  obtain ⟨a0, a1, a2, a3, a4, a5, a6, a7, _⟩ := q0.eightL
  clear q0
  have hno : ¬ (1 ≤ k ∧ k ≤ 6) := by omega
  go_wp2_with (go_at_call 10; refine (l01In_no _ _ _ _ hno).mono ?_; rintro e w5 ⟨rfl, rfl⟩)
  go_ret
  exact ⟨rfl, b0⟩

end Go.Proofs.Ytodldamjleehlaa
