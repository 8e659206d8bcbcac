/- Texts of our own, joined. -/
import Derived.Test.YtklkhllkjnbhjaaGreatDoorJsx
/- Whether a log is right: its numbers, and whether a segment is on the disk: the program's nextsOk, belowNexts, holds. -/
namespace Go.Proofs.YtklkhllkjnbhjaaGreatDoor
open Go.RowKit
set_option maxRecDepth 100000
set_option maxHeartbeats 8000000
theorem Box.eightK {w : World} {b : Nat} {u0 u1 u2 u3 u4 u5 u6 u7 : Value} {t : TypeId} (h : Box w b #[u0, u1, u2, u3, u4, u5, u6, u7] t) :
    w.cell? ⟨b, 0, none⟩ = some u0 ∧ w.cell? ⟨b, 1, none⟩ = some u1 ∧ w.cell? ⟨b, 2, none⟩ = some u2 ∧ w.cell? ⟨b, 3, none⟩ = some u3 ∧ w.cell? ⟨b, 4, none⟩ = some u4 ∧ w.cell? ⟨b, 5, none⟩ = some u5 ∧ w.cell? ⟨b, 6, none⟩ = some u6 ∧ w.cell? ⟨b, 7, none⟩ = some u7 :=
  ⟨h.cell 0 _ rfl, h.cell 1 _ rfl, h.cell 2 _ rfl, h.cell 3 _ rfl, h.cell 4 _ rfl, h.cell 5 _ rfl, h.cell 6 _ rfl, h.cell 7 _ rfl⟩
def nextsP (L : Lg) : Prop := Fr.numOk L.ng ∧ Fr.numOk L.ns ∧ Fr.numOk L.nv ∧ Fr.numOk L.st
def belowP (L : Lg) (s : Sg) : Prop := (∀ x ∈ s.items, x.1 < L.ns ∧ x.2.valid < L.nv) ∧ s.gen < L.ng
def holdsP (d : Dk) (s : Sg) : Prop := sgG (sgT d s.no) = s.gen ∧ (sfE (sgT d s.no) : Int) = s.ende ∧ (sfL (sgT d s.no)).map fiO = s.items.map some
def numA4 (a b c d : Int) (i : Nat) : Int := if i = 0 then a else if i = 1 then b else if i = 2 then c else d
theorem numA4_run0 (a b c d : Int) (wx : World) : (Instr.index 89 (.agg #[.int .i64 a, .int .i64 b, .int .i64 c, .int .i64 d]) (.int .i64 0)).run Tryz.prog wx = .ok (.int .i64 a) wx := by kernel_rfl
theorem numA4_run1 (a b c d : Int) (wx : World) : (Instr.index 89 (.agg #[.int .i64 a, .int .i64 b, .int .i64 c, .int .i64 d]) (.int .i64 1)).run Tryz.prog wx = .ok (.int .i64 b) wx := by kernel_rfl
theorem numA4_run2 (a b c d : Int) (wx : World) : (Instr.index 89 (.agg #[.int .i64 a, .int .i64 b, .int .i64 c, .int .i64 d]) (.int .i64 2)).run Tryz.prog wx = .ok (.int .i64 c) wx := by kernel_rfl
theorem numA4_run3 (a b c d : Int) (wx : World) : (Instr.index 89 (.agg #[.int .i64 a, .int .i64 b, .int .i64 c, .int .i64 d]) (.int .i64 3)).run Tryz.prog wx = .ok (.int .i64 d) wx := by kernel_rfl
theorem numA4_run (a b c d : Int) {i : Nat} (h : i < 4) (wx : World) : (Instr.index 89 (.agg #[.int .i64 a, .int .i64 b, .int .i64 c, .int .i64 d]) (.int .i64 (i : Int))).run Tryz.prog wx = .ok (.int .i64 (numA4 a b c d i)) wx := by
  have : i = 0 ∨ i = 1 ∨ i = 2 ∨ i = 3 := by omega
  rcases this with rfl | rfl | rfl | rfl
  · exact numA4_run0 a b c d wx
  · exact numA4_run1 a b c d wx
  · exact numA4_run2 a b c d wx
  · exact numA4_run3 a b c d wx
theorem nextsOk_any (L : Lg) (va vb vu : Value) (w : World) :
    Calls Tryz.prog 33 #[.agg #[va, vb, .int .i64 L.segs, vu, .int .i64 L.ng, .int .i64 L.ns, .int .i64 L.st, .int .i64 L.nv]] w fun e w' => e = .returned (.bool (sameP (nextsP L))) ∧ Below w.heap.size w w' := by
  have X0 := Box.new w #[va, vb, .int .i64 L.segs, vu, .int .i64 L.ng, .int .i64 L.ns, .int .i64 L.st, .int .i64 L.nv] 30; have b0 := belNew w (.cells #[va, vb, .int .i64 L.segs, vu, .int .i64 L.ng, .int .i64 L.ns, .int .i64 L.st, .int .i64 L.nv] 30); obtain ⟨D, hD⟩ : ∃ D, sameP (nextsP L) = D := ⟨_, rfl⟩; rw [hD]; have HYES : Hid ((∀ k, k < 4 → Fr.numOk (numA4 L.ng L.ns L.nv L.st k)) → D = true) := fun h => by rw [← hD]; exact sameP_yes ⟨h 0 (by omega), h 1 (by omega), h 2 (by omega), h 3 (by omega)⟩
  have HNO : Hid (∀ k, k < 4 → ¬ Fr.numOk (numA4 L.ng L.ns L.nv L.st k) → D = false) := fun k hk hb => by
    rw [← hD]; refine sameP_no (fun c => hb ?_); have : k = 0 ∨ k = 1 ∨ k = 2 ∨ k = 3 := by omega
    rcases this with rfl | rfl | rfl | rfl
    · exact c.1
    · exact c.2.1
    · exact c.2.2.1
    · exact c.2.2.2
  clear hD; obtain ⟨y0, y1, y2, y3, y4, y5, y6, y7⟩ := X0.eightK; have HB0 := Lib.hid b0; clear X0 b0; go_enter Tryz.func33, Tryz.ntmps33
  go_upto_region 1 with fail
  generalize w.alloc (.cells #[va, vb, .int .i64 L.segs, vu, .int .i64 L.ng, .int .i64 L.ns, .int .i64 L.st, .int .i64 L.nv] 30) = W at HB0 y0 y1 y2 y3 y4 y5 y6 y7 ⊢; go_wp2_with fail
  clear y0 y1 y2 y3 y4 y5 y6 y7; go_loopw [14] (fun iv wr => ∃ i : Nat, i ≤ 4 ∧ iv = .int .i64 (i : Int) ∧ Hid (∀ k, k < i → Fr.numOk (numA4 L.ng L.ns L.nv L.st k)) ∧ wr = W) (fun iv _ => 4 - (intOf iv).toNat)
  case atStart => exact ⟨0, by omega, rfl, fun k hk => by omega, rfl⟩
  case round =>
    obtain ⟨i, hi, rfl, HOK, rfl⟩ := hrel; by_cases hlt : i < 4
    · have hix := numA4_run L.ng L.ns L.nv L.st hlt
      have HBAD := Lib.hid (HNO.out i hlt); have HS : Hid (Fr.numOk (numA4 L.ng L.ns L.nv L.st i) → ∀ k, k < i + 1 → Fr.numOk (numA4 L.ng L.ns L.nv L.st k)) := fun hb k hk => by
        rcases Nat.lt_succ_iff_lt_or_eq.1 hk with h | rfl
        · exact HOK.out k h
        · exact hb
      generalize numA4 L.ng L.ns L.nv L.st i = N at hix HBAD HS; have hi4 : (i : Int) < 4 := (by omega); by_cases hn : Fr.numOk N
      · have HS' := Lib.hid (HS.out hn)
        have hd : decide (Fr.numOk N) = true := decide_eq_true hn; clear HS HBAD; go_wp2_with (go_at_call 61; refine (numberOk_any _ _).mono ?_; rintro e w1 ⟨rfl, rfl⟩; rw [hd])
        go_roundw
        case rel => exact ⟨i + 1, by omega, by go_num, HS', by first | rfl | trivial⟩
        case measure => simp [intOf]; omega
      · have HE := Lib.hid (HBAD.out hn)
        have hd : decide (Fr.numOk N) = false := decide_eq_false hn; clear HS HBAD; go_wp2_with (go_at_call 61; refine (numberOk_any _ _).mono ?_; rintro e w1 ⟨rfl, rfl⟩; rw [hd])
        go_ret; exact ⟨by rw [HE.out]; first | done | rfl | simp, HB0.out⟩
    · have HE := Lib.hid (HYES.out (fun k hk => HOK.out k (by omega)))
      go_wp2; go_ret; exact ⟨by rw [HE.out]; first | done | rfl | simp, HB0.out⟩
theorem belowNexts_any (L : Lg) (va vb vu : Value) (s : Sg) (am : Option Addr) (nm cm : Nat) (w : World) (h : Rows' itE w (.slice am nm cm) s.items) (hl : s.items.length ≤ 1099511627776) :
    Calls Tryz.prog 64 #[.agg #[va, vb, .int .i64 L.segs, vu, .int .i64 L.ng, .int .i64 L.ns, .int .i64 L.st, .int .i64 L.nv], .agg #[.int .i64 s.no, .int .i64 s.gen, .int .i64 s.ende, .slice am nm cm]] w fun e w' => e = .returned (.bool (sameP (belowP L s))) ∧ Below w.heap.size w w' := by
  obtain ⟨ad, cap, ev, hrow⟩ := h.items; injection ev with e1 e2 e3; subst e1 e2 e3; have XL0 := Box.new w #[va, vb, .int .i64 L.segs, vu, .int .i64 L.ng, .int .i64 L.ns, .int .i64 L.st, .int .i64 L.nv] 30; have b0 := belNew w (.cells #[va, vb, .int .i64 L.segs, vu, .int .i64 L.ng, .int .i64 L.ns, .int .i64 L.st, .int .i64 L.nv] 30); have z0 : (w.alloc (.cells #[va, vb, .int .i64 L.segs, vu, .int .i64 L.ng, .int .i64 L.ns, .int .i64 L.st, .int .i64 L.nv] 30)).heap.size = w.heap.size + 1 := by simp
  have XS := Box.new (w.alloc (.cells #[va, vb, .int .i64 L.segs, vu, .int .i64 L.ng, .int .i64 L.ns, .int .i64 L.st, .int .i64 L.nv] 30)) #[.int .i64 s.no, .int .i64 s.gen, .int .i64 s.ende, .slice am s.items.length cm] 60; have b1 := belNew (w.alloc (.cells #[va, vb, .int .i64 L.segs, vu, .int .i64 L.ng, .int .i64 L.ns, .int .i64 L.st, .int .i64 L.nv] 30)) (.cells #[.int .i64 s.no, .int .i64 s.gen, .int .i64 s.ende, .slice am s.items.length cm] 60); rw [z0] at XS; have XL := XL0.later b1; have b2 := b0.trans (b1.mono b0.size); obtain ⟨D, hD⟩ : ∃ D, sameP (belowP L s) = D := ⟨_, rfl⟩; rw [hD]; have HD := Lib.hid hD; have HR : Hid _ := hrow; clear XL0 b0 b1 z0 hD hrow; obtain ⟨W, hW⟩ : ∃ W, (w.alloc (.cells #[va, vb, .int .i64 L.segs, vu, .int .i64 L.ng, .int .i64 L.ns, .int .i64 L.st, .int .i64 L.nv] 30)).alloc (.cells #[.int .i64 s.no, .int .i64 s.gen, .int .i64 s.ende, .slice am s.items.length cm] 60) = W := ⟨_, rfl⟩; rw [hW] at XS XL b2; have HW := Lib.hid hW; obtain ⟨g1, hg1⟩ : ∃ g1, w.heap.size + 1 = g1 := ⟨_, rfl⟩; rw [hg1] at XS; obtain ⟨g0, hg0⟩ : ∃ g0, w.heap.size = g0 := ⟨_, rfl⟩; rw [hg0] at XL; have HG : Hid (w.heap.size + 1 = g1 ∧ w.heap.size = g0) := ⟨hg1, hg0⟩; have HB2 := Lib.hid b2; have HXL := Lib.hid XL; have HXS := Lib.hid XS; obtain ⟨n, hn⟩ : ∃ n, s.items.length = n := ⟨_, rfl⟩; have HN := Lib.hid hn; have HW2 : Hid ((w.alloc (.cells #[va, vb, .int .i64 L.segs, vu, .int .i64 L.ng, .int .i64 L.ns, .int .i64 L.st, .int .i64 L.nv] 30)).alloc (.cells #[.int .i64 s.no, .int .i64 s.gen, .int .i64 s.ende, .slice am n cm] 60) = W) := by show _ = _; rw [← hn]; exact hW
  rw [hn] at HXS hl ⊢; clear hW hg1 hg0 b2 XL XS hn HW h; go_enter Tryz.func64, Tryz.ntmps64
  go_upto_region 1 with fail
  rw [HW2.out, HG.out.1, HG.out.2]; obtain ⟨s0, s1, s2, s3, _⟩ := HXS.out.fourG; go_wp2_with fail
  clear s0 s1 s2 s3; go_loopw [10] (fun iv wr => ∃ i : Nat, i ≤ n ∧ iv = .int .i64 (i : Int) ∧ Hid (∀ k x, k < i → s.items[k]? = some x → x.1 < L.ns ∧ x.2.valid < L.nv) ∧ Below W.heap.size W wr) (fun iv _ => n - (intOf iv).toNat)
  case atStart => exact ⟨0, by omega, rfl, fun k x hk => by omega, Below.refl _ _⟩
  case round =>
    obtain ⟨i, hi, rfl, HOK, bq⟩ := hrel; have bw := HB2.out.trans (bq.mono HB2.out.size); obtain ⟨y0, y1, y2, y3, y4, y5, y6, y7⟩ := (HXL.out.later bq).eightK; obtain ⟨s0, s1, s2, s3, _⟩ := (HXS.out.later bq).fourG; by_cases hlt : i < n
    · obtain ⟨x, hgx⟩ : ∃ x, s.items[i]? = some x := ⟨_, List.getElem?_eq_getElem (by rw [HN.out]; exact hlt)⟩
      obtain ⟨ga, oa, rfl, q0, q1, q2, q3, q4, q5, q6, q7, q8⟩ := HR.out _ bw i _ hgx; have kX := belNew wr (.cells #[.int .i64 x.1, .int .i64 x.2.kind, .int .i64 x.2.valid, .int .i64 x.2.uid, .int .i64 x.2.next, .int .i64 x.2.flags, .string x.2.user, .string x.2.name, .string x.2.text] 44); have bN := Lib.hid (bq.trans (kX.mono bq.size)); have bNw := Lib.hid (bw.trans (kX.mono bw.size)); have HS : Hid (x.1 < L.ns ∧ x.2.valid < L.nv → ∀ k y, k < i + 1 → s.items[k]? = some y → y.1 < L.ns ∧ y.2.valid < L.nv) := fun hb k y hk hy => by
        rcases Nat.lt_succ_iff_lt_or_eq.1 hk with h | rfl
        · exact HOK.out k y h hy
        · rw [hgx] at hy; cases hy; exact hb
      have HBAD : Hid (¬ (x.1 < L.ns ∧ x.2.valid < L.nv) → D = false) := fun hb => by
        rw [← HD.out]; exact sameP_no (fun c => hb (c.1 x (List.mem_of_getElem? hgx)))
      have y5' := (cell_later kX y5); have y7' := (cell_later kX y7); have s1' := (cell_later kX s1); have hi0 : (0 : Int) ≤ (i : Int) := (by omega); have hi1 : (i : Int) < (n : Int) := (by omega); clear hgx kX bq bw; by_cases c1 : L.ns ≤ x.1
      · have HE := Lib.hid (HBAD.out (fun c => by omega))
        clear HS HBAD; go_wp2; go_ret; exact ⟨by rw [HE.out]; first | done | rfl | simp, bNw.out⟩
      · by_cases c2 : L.nv ≤ x.2.valid
        · have HE := Lib.hid (HBAD.out (fun c => by omega))
          clear HS HBAD; go_wp2; go_ret; exact ⟨by rw [HE.out]; first | done | rfl | simp, bNw.out⟩
        · have HS' := Lib.hid (HS.out ⟨by omega, by omega⟩)
          clear HS HBAD; go_wp2; exact ⟨⟨i + 1, by omega, by simp, HS', bN.out⟩, by first | omega | (simp [intOf]; omega)⟩
    · have HALL : Hid (∀ x ∈ s.items, x.1 < L.ns ∧ x.2.valid < L.nv) := fun x hx => by
        obtain ⟨k, hk⟩ := List.getElem?_of_mem hx; exact HOK.out k x (by have := (List.getElem?_eq_some_iff.1 hk).1; have := HN.out; omega) hk
      have bZ := Lib.hid bw; by_cases c : s.gen < L.ng
      · have HE : Hid (D = true) := by show _ = _; rw [← HD.out]; exact sameP_yes ⟨HALL.out, c⟩
        go_wp2; go_ret; exact ⟨by rw [HE.out]; first | done | rfl | simp, bZ.out⟩
      · have HE : Hid (D = false) := by show _ = _; rw [← HD.out]; exact sameP_no (fun e => c e.2)
        go_wp2; go_ret; exact ⟨by rw [HE.out]; first | done | rfl | simp, bZ.out⟩
end Go.Proofs.YtklkhllkjnbhjaaGreatDoor
