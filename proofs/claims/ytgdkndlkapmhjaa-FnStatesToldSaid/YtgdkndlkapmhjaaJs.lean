/- Texts of our own, joined. -/
import Derived.Test.YtgdkndlkapmhjaaJr
import Derived.Test.YtgdkndlkapmhjaaJk
import Derived.Test.YtgdkndlkapmhjaaJp
import Derived.Test.YtgdkndlkapmhjaaJd
import Derived.WalkSmall
import Derived.Deep.QuietTactic
import Derived.BigQuiet
/- StateOk of the model. -/
namespace Go.Proofs.Ytgdkndlkapmhjaa
open Go.RowKit

theorem someB (p : Prop) : ∃ F : Bool, F = true ↔ p := ⟨@decide p (Classical.propDecidable _), by simp⟩
theorem in_yes_q (n lo hi : Int) (w : World) (h1 : lo ≤ n) (h2 : n ≤ hi) : Calls Try.prog 29 #[.int .i64 n, .int .i64 lo, .int .i64 hi] w fun e w' => e = .returned (.bool true) ∧ w' = w :=
  (l01In_yes n lo hi w h1 h2).mono fun _ _ h => ⟨h.1, h.2.symm⟩
theorem in_no_q (n lo hi : Int) (w : World) (h : ¬ (lo ≤ n ∧ n ≤ hi)) : Calls Try.prog 29 #[.int .i64 n, .int .i64 lo, .int .i64 hi] w fun e w' => e = .returned (.bool false) ∧ w' = w :=
  (l01In_no n lo hi w h).mono fun _ _ h => ⟨h.1, h.2.symm⟩

theorem word_quiet {s : ByteArray} {b : Bool} (hs : s.size ≤ 1099511627776) (h : decide (wdOk s) = b) (w : World) : Calls Try.prog 39 #[.string s] w fun e w' => e = .returned (.bool b) ∧ w' = w :=
  (specWordOk_any s w hs).mono fun e w' h' => ⟨by rw [h'.1, h], h'.2.symm⟩

set_option maxRecDepth 100000 in
set_option maxHeartbeats 8000000 in
theorem specStateOk_any (ps : List Bx) (va : Value) (w : World) (ha : BRd w va ps) (hla : ps.length ≤ 1048576) (hma : ∀ b ∈ ps, b.mails.length ≤ 1048576 ∧ b.user.size ≤ 1099511627776 ∧ b.name.size ≤ 1099511627776) :
    Calls Try.prog 15 #[.agg #[va]] w fun e w' => e = .returned (.bool (stB ps)) ∧ Below w.heap.size w w' := by
  obtain ⟨ad, cap, rfl, hrowa⟩ := ha.boxes
  have HA := Lib.hid hrowa
  have HMA := Lib.hid hma
  clear ha hrowa hma
  obtain ⟨n, hn⟩ : ∃ n, ps.length = n := ⟨_, rfl⟩
  rw [hn] at hla ⊢
  have HN := Lib.hid hn
  clear hn
  have X1 := Box.new w #[.slice ad n cap] 28
  have b1 := belNew w (.cells #[.slice ad n cap] 28)
  go_enter Try.func15, Try.ntmps15
  go_upto_region 1 with fail
  generalize w.alloc (.cells #[.slice ad n cap] 28) = w1 at X1 b1 ⊢
  have H1 : Hid (∀ x, Below w1.heap.size w1 x → x.cell? ⟨w.heap.size, 0, none⟩ = some (.slice ad n cap) ∧ Below w.heap.size w x) := fun x hx => ⟨(X1.later hx).cell 0 _ rfl, b1.trans (hx.mono b1.size)⟩
  clear X1 b1
  go_wp2
  go_loopw [3] (fun iv wr => ∃ i : Nat, i ≤ n ∧ iv = .int .i64 (i : Int) ∧ (∀ j, j < i → StAt ps j) ∧ Below w1.heap.size w1 wr) (fun iv _ => n - (intOf iv).toNat)
  case atStart => exact ⟨0, by omega, rfl, fun j hj => by omega, Below.refl _ _⟩
  case round =>
    obtain ⟨i, hi, rfl, hup, bq⟩ := hrel
    have HUP := Lib.hid hup
    clear hup
    obtain ⟨y1, bW⟩ := H1.out _ bq
    by_cases hlt : i < n
    · obtain ⟨b, hgb⟩ : ∃ b, ps[i]? = some b := ⟨_, List.getElem?_eq_getElem (by rw [HN.out]; exact hlt)⟩
      obtain ⟨hm1, hu1, hn1⟩ := HMA.out _ (List.mem_of_getElem? hgb)
      obtain ⟨gp, op, am, nm, cm, rfl, p0, p1, p2, p3, p4, rm⟩ := HA.out _ bW i _ hgb
      have HP : Hid (∀ (k : Nat) (y : Bx), ps[k]? = some y → ∀ X, Below w.heap.size w X → X.cell? ⟨gp, op + k * 5, none⟩ = some (.int .i64 y.valid) ∧ X.cell? ⟨gp, op + k * 5 + 1, none⟩ = some (.string y.user) ∧ X.cell? ⟨gp, op + k * 5 + 2, none⟩ = some (.string y.name)) := fun k y hk X hX => by
        obtain ⟨gp', op', _, _, _, e, q0, q1, q2, _⟩ := HA.out X hX k y hk
        cases e
        exact ⟨q0, q1, q2⟩
      obtain ⟨rml, hrm⟩ := rm.mails
      rw [← rml] at hm1
      have HRM := Lib.hid hrm
      have HRL := Lib.hid rml
      clear rm hrm rml
      have HGB := Lib.hid hgb
      obtain ⟨bV, bU, bN, bX, bM⟩ := b
      simp only at p0 p1 p2 p3 p4 hu1 hn1 HRL HRM
      have hi0 : (0 : Int) ≤ (i : Int) := by omega
      have hi1 : (i : Int) < (n : Int) := by omega
      have XB := Box.new wr #[.int .i64 bV, .string bU, .string bN, .int .i64 bX, .slice am nm cm] 55
      have k9 := belNew wr (.cells #[.int .i64 bV, .string bU, .string bN, .int .i64 bX, .slice am nm cm] 55)
      have b9 := bq.trans (k9.mono bq.size)
      clear hgb bq
      go_upto_region 5 with fail
      clear p0 p1 p2 p3 p4 y1
      generalize wr.alloc (.cells #[.int .i64 bV, .string bU, .string bN, .int .i64 bX, .slice am nm cm] 55) = w9 at XB b9 ⊢
      generalize wr.heap.size = g9 at XB ⊢
      have H9 : Hid (∀ x, Below w9.heap.size w9 x → (x.cell? ⟨g9, 0, none⟩ = some (.int .i64 bV) ∧ x.cell? ⟨g9, 1, none⟩ = some (.string bU) ∧ x.cell? ⟨g9, 2, none⟩ = some (.string bN) ∧ x.cell? ⟨g9, 3, none⟩ = some (.int .i64 bX) ∧ x.cell? ⟨g9, 4, none⟩ = some (.slice am nm cm)) ∧ x.cell? ⟨w.heap.size, 0, none⟩ = some (.slice (some ⟨gp, op, none⟩) n cap) ∧ Below w.heap.size w x ∧ Below w1.heap.size w1 x) := fun x hx =>
        have hb := b9.trans (hx.mono b9.size)
        ⟨(XB.later hx).five, (H1.out _ hb).1, (H1.out _ hb).2, hb⟩
      clear XB b9 k9
      obtain ⟨F, hF0⟩ := someB (¬ (bxOk ⟨bV, bU, bN, bX, bM⟩ ∧ ∀ p, 0 < i → ps[i - 1]? = some p → p.valid < bV))
      have hF := Lib.hid hF0
      clear hF0
      obtain ⟨bu, hbu⟩ : ∃ bu, decide (wdOk bU) = bu := ⟨_, rfl⟩
      obtain ⟨bn, hbn⟩ : ∃ bn, decide (wdOk bN) = bn := ⟨_, rfl⟩
      have HWU := Lib.hid (fun x => word_quiet hu1 hbu x)
      have HWN := Lib.hid (fun x => word_quiet hn1 hbn x)
      have HBU := Lib.hid hbu
      have HBN := Lib.hid hbn
      clear hbu hbn
      go_cut [57] (fun c wx => c = .bool F ∧ Below w9.heap.size w9 wx)
      case first =>
        obtain ⟨⟨c0, c1, c2, c3, _⟩, y1, bW9, _⟩ := H9.out _ (Below.refl _ _)
        by_cases hv : 1 ≤ bV ∧ bV ≤ 9999
        rotate_left
        · skip
          have HE : Hid (F = true) := hF.out.2 (fun c => hv c.1.1)
          clear hF HUP HP HRM HRL HGB HN HMA HA H1 H9 HBU HBN
          go_quiet (first | (go_at_call 29; first | exact Calls.quiet_of_same (in_yes_q _ _ _ _ (by omega) (by omega)) | exact Calls.quiet_of_same (in_no_q _ _ _ _ (by omega))) | (go_at_call 39; first | with_reducible exact Calls.quiet_of_same (HWU.out _) | with_reducible exact Calls.quiet_of_same (HWN.out _)))
          go_wp2_with fail
          go_meet
          exact ⟨by rw [HE.out], below_drewN (Below.refl _ _) _⟩
        rcases (show i = 0 ∨ ∃ j, i = j + 1 by cases i with | zero => exact .inl rfl | succ j => exact .inr ⟨j, rfl⟩) with rfl | ⟨j, rfl⟩
        · have hz : ¬ ((0 : Int) < ((0 : Nat) : Int)) := by omega
          cases bu with
          | false =>
            have HE : Hid (F = true) := hF.out.2 (fun c => by have h1 := c.1.2.1; have h2 := HBU.out; rw [decide_eq_true h1] at h2; cases h2)
            clear hF HUP HP HRM HRL HGB HN HMA HA H1 H9 HBU HBN
            go_quiet (first | (go_at_call 29; first | exact Calls.quiet_of_same (in_yes_q _ _ _ _ (by omega) (by omega)) | exact Calls.quiet_of_same (in_no_q _ _ _ _ (by omega))) | (go_at_call 39; first | with_reducible exact Calls.quiet_of_same (HWU.out _) | with_reducible exact Calls.quiet_of_same (HWN.out _)))
            go_wp2_with fail
            go_meet
            exact ⟨by rw [HE.out], below_drewN (Below.refl _ _) _⟩
          | true =>
            cases bn with
            | false =>
              have HE : Hid (F = true) := hF.out.2 (fun c => by have h1 := c.1.2.2.1; have h2 := HBN.out; rw [decide_eq_true h1] at h2; cases h2)
              clear hF HUP HP HRM HRL HGB HN HMA HA H1 H9 HBU HBN
              go_quiet (first | (go_at_call 29; first | exact Calls.quiet_of_same (in_yes_q _ _ _ _ (by omega) (by omega)) | exact Calls.quiet_of_same (in_no_q _ _ _ _ (by omega))) | (go_at_call 39; first | with_reducible exact Calls.quiet_of_same (HWU.out _) | with_reducible exact Calls.quiet_of_same (HWN.out _)))
              go_wp2_with fail
              go_meet
              exact ⟨by rw [HE.out], below_drewN (Below.refl _ _) _⟩
            | true =>
              by_cases hx : 1 ≤ bX ∧ bX ≤ 10000
              rotate_left
              · skip
                have HE : Hid (F = true) := hF.out.2 (fun c => hx c.1.2.2.2)
                clear hF HUP HP HRM HRL HGB HN HMA HA H1 H9 HBU HBN
                go_quiet (first | (go_at_call 29; first | exact Calls.quiet_of_same (in_yes_q _ _ _ _ (by omega) (by omega)) | exact Calls.quiet_of_same (in_no_q _ _ _ _ (by omega))) | (go_at_call 39; first | with_reducible exact Calls.quiet_of_same (HWU.out _) | with_reducible exact Calls.quiet_of_same (HWN.out _)))
                go_wp2_with fail
                go_meet
                exact ⟨by rw [HE.out], below_drewN (Below.refl _ _) _⟩
              have HE : Hid (F = false) := Bool.eq_false_iff.2 (fun h => hF.out.1 h ⟨⟨hv, of_decide_eq_true HBU.out, of_decide_eq_true HBN.out, hx⟩, fun p h => absurd h (Nat.lt_irrefl 0)⟩)
              clear hF HUP HP HRM HRL HGB HN HMA HA H1 H9 HBU HBN
              go_quiet (first | (go_at_call 29; first | exact Calls.quiet_of_same (in_yes_q _ _ _ _ (by omega) (by omega)) | exact Calls.quiet_of_same (in_no_q _ _ _ _ (by omega))) | (go_at_call 39; first | with_reducible exact Calls.quiet_of_same (HWU.out _) | with_reducible exact Calls.quiet_of_same (HWN.out _)))
              go_wp2_with fail
              go_meet
              exact ⟨by rw [HE.out], below_drewN (Below.refl _ _) _⟩
        · obtain ⟨p, hgp⟩ : ∃ p, ps[j]? = some p := ⟨_, List.getElem?_eq_getElem (by rw [HN.out]; omega)⟩
          have hpos : (0 : Int) < (j : Int) + 1 := by omega
          have hj1 : (j : Int) < (n : Int) := by omega
          have hj0 : (0 : Int) ≤ (j : Int) := by omega
          obtain ⟨t0, _⟩ := HP.out _ _ hgp _ bW9
          have HGP := Lib.hid hgp
          clear hgp
          obtain ⟨pV, pU, pN, pX, pM⟩ := p
          simp only at t0
          have hwr : IntKind.i64.wrap ((j : Int) + 1 - 1) = (j : Int) := by rw [show (j : Int) + 1 - 1 = (j : Int) by omega]; exact IntWalk.i64_in _ ⟨by omega, by omega⟩
          have hwr2 : IntKind.i64.wrap (j : Int) = (j : Int) := IntWalk.i64_in _ ⟨by omega, by omega⟩
          by_cases hup : bV ≤ pV
          · skip
            have HE : Hid (F = true) := hF.out.2 (fun c => by have h1 := c.2 _ (Nat.succ_pos j) HGP.out; simp only at h1; omega)
            clear hF HUP HP HRM HRL HGB HN HMA HA H1 H9 HBU HBN
            go_quiet (first | (go_at_call 29; first | exact Calls.quiet_of_same (in_yes_q _ _ _ _ (by omega) (by omega)) | exact Calls.quiet_of_same (in_no_q _ _ _ _ (by omega))) | (go_at_call 39; first | with_reducible exact Calls.quiet_of_same (HWU.out _) | with_reducible exact Calls.quiet_of_same (HWN.out _)))
            go_wp2_with fail
            go_meet
            exact ⟨by rw [HE.out], below_drewN (Below.refl _ _) _⟩
          cases bu with
          | false =>
            have HE : Hid (F = true) := hF.out.2 (fun c => by have h1 := c.1.2.1; have h2 := HBU.out; rw [decide_eq_true h1] at h2; cases h2)
            clear hF HUP HP HRM HRL HGB HN HMA HA H1 H9 HBU HBN
            go_quiet (first | (go_at_call 29; first | exact Calls.quiet_of_same (in_yes_q _ _ _ _ (by omega) (by omega)) | exact Calls.quiet_of_same (in_no_q _ _ _ _ (by omega))) | (go_at_call 39; first | with_reducible exact Calls.quiet_of_same (HWU.out _) | with_reducible exact Calls.quiet_of_same (HWN.out _)))
            go_wp2_with fail
            go_meet
            exact ⟨by rw [HE.out], below_drewN (Below.refl _ _) _⟩
          | true =>
            cases bn with
            | false =>
              have HE : Hid (F = true) := hF.out.2 (fun c => by have h1 := c.1.2.2.1; have h2 := HBN.out; rw [decide_eq_true h1] at h2; cases h2)
              clear hF HUP HP HRM HRL HGB HN HMA HA H1 H9 HBU HBN
              go_quiet (first | (go_at_call 29; first | exact Calls.quiet_of_same (in_yes_q _ _ _ _ (by omega) (by omega)) | exact Calls.quiet_of_same (in_no_q _ _ _ _ (by omega))) | (go_at_call 39; first | with_reducible exact Calls.quiet_of_same (HWU.out _) | with_reducible exact Calls.quiet_of_same (HWN.out _)))
              go_wp2_with fail
              go_meet
              exact ⟨by rw [HE.out], below_drewN (Below.refl _ _) _⟩
            | true =>
              by_cases hx : 1 ≤ bX ∧ bX ≤ 10000
              rotate_left
              · skip
                have HE : Hid (F = true) := hF.out.2 (fun c => hx c.1.2.2.2)
                clear hF HUP HP HRM HRL HGB HN HMA HA H1 H9 HBU HBN
                go_quiet (first | (go_at_call 29; first | exact Calls.quiet_of_same (in_yes_q _ _ _ _ (by omega) (by omega)) | exact Calls.quiet_of_same (in_no_q _ _ _ _ (by omega))) | (go_at_call 39; first | with_reducible exact Calls.quiet_of_same (HWU.out _) | with_reducible exact Calls.quiet_of_same (HWN.out _)))
                go_wp2_with fail
                go_meet
                exact ⟨by rw [HE.out], below_drewN (Below.refl _ _) _⟩
              have HE : Hid (F = false) := Bool.eq_false_iff.2 (fun h => hF.out.1 h ⟨⟨hv, of_decide_eq_true HBU.out, of_decide_eq_true HBN.out, hx⟩, fun p _ h => by have e := Option.some.inj (h.symm.trans HGP.out); rw [e]; simp only; omega⟩)
              clear hF HUP HP HRM HRL HGB HN HMA HA H1 H9 HBU HBN
              go_quiet (first | (go_at_call 29; first | exact Calls.quiet_of_same (in_yes_q _ _ _ _ (by omega) (by omega)) | exact Calls.quiet_of_same (in_no_q _ _ _ _ (by omega))) | (go_at_call 39; first | with_reducible exact Calls.quiet_of_same (HWU.out _) | with_reducible exact Calls.quiet_of_same (HWN.out _)))
              go_wp2_with fail
              go_meet
              exact ⟨by rw [HE.out], below_drewN (Below.refl _ _) _⟩
      case rest =>
        obtain ⟨rfl, k10⟩ := hcut
        clear HWU HWN HBU HBN
        cases F with
        | true =>
          have HE : Hid (stB ps = false) := stB_no (fun c => hF.out.1 rfl ⟨(c _ HGB.out).1, (c _ HGB.out).2.1⟩)
          have bE := (H9.out _ k10).2.2.1
          go_wp2
          go_ret
          exact ⟨by rw [HE.out]; rfl, bE⟩
        | false =>
          have HOK : Hid (bxOk ⟨bV, bU, bN, bX, bM⟩ ∧ ∀ p, 0 < i → ps[i - 1]? = some p → p.valid < bV) := Classical.byContradiction (fun c => by have := hF.out.2 c; cases this)
          have hbx := HOK.out.1.2.2.2
          simp only at hbx
          clear hF
          go_wp2
          go_loopw [5] (fun kv wq => ∃ k : Nat, k ≤ i ∧ kv = .int .i64 (k : Int) ∧ (∀ (q : Nat) (y : Bx), q < k → ps[q]? = some y → ¬ (y.user = bU ∧ y.name = bN)) ∧ Below w9.heap.size w9 wq) (fun kv _ => i - (intOf kv).toNat)
          case atStart => exact ⟨0, by omega, rfl, fun q y hq => by omega, k10⟩
          case round =>
            clear k10
            obtain ⟨k, hk, rfl, hno, bq⟩ := hrel
            have HNO := Lib.hid hno
            clear hno
            obtain ⟨⟨c0, c1, c2, c3, c4⟩, y1, bW9, _⟩ := H9.out _ bq
            by_cases hlk : k < i
            · obtain ⟨y, hgy⟩ : ∃ y, ps[k]? = some y := ⟨_, List.getElem?_eq_getElem (by rw [HN.out]; omega)⟩
              obtain ⟨_, t1, t2⟩ := HP.out _ _ hgy _ bW9
              have HGY := Lib.hid hgy
              clear hgy c0 c3 c4
              obtain ⟨yV, yU, yN, yX, yM⟩ := y
              simp only at t1 t2
              have hk0 : (0 : Int) ≤ (k : Int) := by omega
              have hk1 : (k : Int) < (n : Int) := by omega
              have hk2 : (k : Int) < (i : Int) := by omega
              by_cases hu : yU = bU
              · subst hu
                by_cases hn2 : yN = bN
                · subst hn2
                  have HE : Hid (stB ps = false) := stB_twice HGB.out hlk HGY.out ⟨rfl, rfl⟩
                  clear HNO HGY
                  go_wp2
                  go_quiet (fail)
                  go_wp2
                  go_ret
                  exact ⟨by rw [HE.out]; rfl, below_drewN bW9 _⟩
                · have hn' : (yN.toList == bN.toList) = false := by rw [beq_eq_false_iff_ne]; exact fun h => hn2 ((ba_same' _ _).1 h)
                  have HS : Hid (∀ (q : Nat) (y : Bx), q < k + 1 → ps[q]? = some y → ¬ (y.user = yU ∧ y.name = bN)) := fun q y hq hy => by
                    rcases Nat.lt_succ_iff_lt_or_eq.1 hq with h | rfl
                    · exact HNO.out q y h hy
                    · have e := Option.some.inj (hy.symm.trans HGY.out); rw [e]; exact fun c => hn2 c.2
                  clear HNO HGY hn2
                  go_wp2
                  go_quiet (fail)
                  go_wp2
                  go_roundw
                  case rel => exact ⟨k + 1, by omega, by go_num, HS.out, below_drewN bq _⟩
                  case measure => simp [intOf]; omega
              · have hu' : (yU.toList == bU.toList) = false := by rw [beq_eq_false_iff_ne]; exact fun h => hu ((ba_same' _ _).1 h)
                have HS : Hid (∀ (q : Nat) (y : Bx), q < k + 1 → ps[q]? = some y → ¬ (y.user = bU ∧ y.name = bN)) := fun q y hq hy => by
                  rcases Nat.lt_succ_iff_lt_or_eq.1 hq with h | rfl
                  · exact HNO.out q y h hy
                  · have e := Option.some.inj (hy.symm.trans HGY.out); rw [e]; exact fun c => hu c.1
                clear HNO HGY hu t2 c2
                go_wp2
                go_quiet (fail)
                go_wp2
                go_roundw
                case rel => exact ⟨k + 1, by omega, by go_num, HS.out, below_drewN bq _⟩
                case measure => simp [intOf]; omega
            · have hki : Hid (i = k) := by show i = k; omega
              have HNB : Hid (∀ (q : Nat) (y : Bx), q < i → ps[q]? = some y → ¬ (y.user = bU ∧ y.name = bN)) := by rw [hki.out]; exact HNO.out
              have hk2 : ¬ (k : Int) < (i : Int) := by omega
              clear HNO hki
              go_wp2
              go_loopw [6] (fun kv wq => ∃ k : Nat, k ≤ nm ∧ kv = .int .i64 (k : Int) ∧ (∀ q, q < k → MlAt ⟨bV, bU, bN, bX, bM⟩ q) ∧ Below w9.heap.size w9 wq) (fun kv _ => nm - (intOf kv).toNat)
              case atStart => exact ⟨0, by omega, rfl, fun q hq => by omega, bq⟩
              case round =>
                clear bq c0 c1 c2 c3 c4 y1 bW9
                obtain ⟨k2, hk3, rfl, hml, bq⟩ := hrel
                have HML := Lib.hid hml
                clear hml
                obtain ⟨⟨_, _, _, c3, c4⟩, _, bW9, b19⟩ := H9.out _ bq
                by_cases hlm : k2 < nm
                · obtain ⟨m, hgm⟩ : ∃ m, bM[k2]? = some m := ⟨_, List.getElem?_eq_getElem (by rw [← HRL.out]; exact hlm)⟩
                  obtain ⟨gm, om, rfl, m0, m1, m2⟩ := HRM.out _ bW9 k2 _ hgm
                  have HGM := Lib.hid hgm
                  clear hgm
                  obtain ⟨mU, mF, mT⟩ := m
                  simp only at m0 m1 m2
                  have hm0 : (0 : Int) ≤ (k2 : Int) := by omega
                  have hm3 : (k2 : Int) < (nm : Int) := by omega
                  have XM := Box.new wr #[.int .i64 mU, .int .i64 mF, .string mT] 65
                  have k11 := belNew wr (.cells #[.int .i64 mU, .int .i64 mF, .string mT] 65)
                  have b11 := bq.trans (k11.mono bq.size)
                  clear bq k11 bW9 b19
                  go_upto_region 16 with fail
                  clear m0 m1 m2 c3 c4
                  generalize wr.alloc (.cells #[.int .i64 mU, .int .i64 mF, .string mT] 65) = w11 at XM b11 ⊢
                  generalize wr.heap.size = g11 at XM ⊢
                  obtain ⟨⟨_, _, _, c3, c4⟩, _, bW9, _⟩ := H9.out _ b11
                  obtain ⟨x0, x1, x2, _⟩ := XM.three
                  clear XM
                  obtain ⟨M, hM0⟩ := someB (¬ (mlOk bX ⟨mU, mF, mT⟩ ∧ ∀ q, 0 < k2 → bM[k2 - 1]? = some q → q.uid < mU))
                  have hM := Lib.hid hM0
                  clear hM0
                  have hwx : IntKind.i64.wrap (bX - 1) = bX - 1 := IntWalk.i64_in _ ⟨by omega, by omega⟩
                  go_cut [129] (fun c wx => c = .bool M ∧ Below w11.heap.size w11 wx)
                  case first =>
                    by_cases hv : 1 ≤ mU ∧ mU ≤ bX - 1
                    rotate_left
                    · skip
                      have HE : Hid (M = true) := hM.out.2 (fun c => hv c.1.1)
                      clear hM HUP HP HRL HGB HN HMA HA H1 H9 HOK HNB HML
                      go_quiet (first | (go_at_call 29; first | exact Calls.quiet_of_same (in_yes_q _ _ _ _ (by omega) (by omega)) | exact Calls.quiet_of_same (in_no_q _ _ _ _ (by omega))) | (go_at_call 39; first | with_reducible exact Calls.quiet_of_same (HWU.out _) | with_reducible exact Calls.quiet_of_same (HWN.out _)))
                      go_wp2_with fail
                      go_meet
                      exact ⟨by rw [HE.out], below_drewN (Below.refl _ _) _⟩
                    rcases (show k2 = 0 ∨ ∃ j, k2 = j + 1 by cases k2 with | zero => exact .inl rfl | succ j => exact .inr ⟨j, rfl⟩) with rfl | ⟨j, rfl⟩
                    · have hz : ¬ ((0 : Int) < ((0 : Nat) : Int)) := by omega
                      by_cases hfl : 0 ≤ mF ∧ mF ≤ 7
                      rotate_left
                      · skip
                        have HE : Hid (M = true) := hM.out.2 (fun c => hfl c.1.2.1)
                        clear hM HUP HP HRL HGB HN HMA HA H1 H9 HOK HNB HML
                        go_quiet (first | (go_at_call 29; first | exact Calls.quiet_of_same (in_yes_q _ _ _ _ (by omega) (by omega)) | exact Calls.quiet_of_same (in_no_q _ _ _ _ (by omega))) | (go_at_call 39; first | with_reducible exact Calls.quiet_of_same (HWU.out _) | with_reducible exact Calls.quiet_of_same (HWN.out _)))
                        go_wp2_with fail
                        go_meet
                        exact ⟨by rw [HE.out], below_drewN (Below.refl _ _) _⟩
                      by_cases htx : (100 : Int) < (mT.size : Int)
                      · skip
                        have HE : Hid (M = true) := hM.out.2 (fun c => by have h1 : mT.size ≤ 100 := c.1.2.2; omega)
                        clear hM HUP HP HRL HGB HN HMA HA H1 H9 HOK HNB HML
                        go_quiet (first | (go_at_call 29; first | exact Calls.quiet_of_same (in_yes_q _ _ _ _ (by omega) (by omega)) | exact Calls.quiet_of_same (in_no_q _ _ _ _ (by omega))) | (go_at_call 39; first | with_reducible exact Calls.quiet_of_same (HWU.out _) | with_reducible exact Calls.quiet_of_same (HWN.out _)))
                        go_wp2_with fail
                        go_meet
                        exact ⟨by rw [HE.out], below_drewN (Below.refl _ _) _⟩
                      have HE : Hid (M = false) := Bool.eq_false_iff.2 (fun h => hM.out.1 h ⟨⟨hv, hfl, by show mT.size ≤ 100; omega⟩, fun p h => absurd h (Nat.lt_irrefl 0)⟩)
                      clear hM HUP HP HRL HGB HN HMA HA H1 H9 HOK HNB HML
                      go_quiet (first | (go_at_call 29; first | exact Calls.quiet_of_same (in_yes_q _ _ _ _ (by omega) (by omega)) | exact Calls.quiet_of_same (in_no_q _ _ _ _ (by omega))) | (go_at_call 39; first | with_reducible exact Calls.quiet_of_same (HWU.out _) | with_reducible exact Calls.quiet_of_same (HWN.out _)))
                      go_wp2_with fail
                      go_meet
                      exact ⟨by rw [HE.out], below_drewN (Below.refl _ _) _⟩
                    · obtain ⟨p, hgp⟩ : ∃ p, bM[j]? = some p := ⟨_, List.getElem?_eq_getElem (by rw [← HRL.out]; omega)⟩
                      have hpos : (0 : Int) < (j : Int) + 1 := by omega
                      have hj1 : (j : Int) < (nm : Int) := by omega
                      have hj0 : (0 : Int) ≤ (j : Int) := by omega
                      obtain ⟨gm', om', e, t0, _⟩ := HRM.out _ bW9 j _ hgp
                      cases e
                      have HGP := Lib.hid hgp
                      clear hgp
                      obtain ⟨pU, pF, pT⟩ := p
                      simp only at t0
                      have hwr : IntKind.i64.wrap ((j : Int) + 1 - 1) = (j : Int) := by rw [show (j : Int) + 1 - 1 = (j : Int) by omega]; exact IntWalk.i64_in _ ⟨by omega, by omega⟩
                      have hwr2 : IntKind.i64.wrap (j : Int) = (j : Int) := IntWalk.i64_in _ ⟨by omega, by omega⟩
                      by_cases hup : mU ≤ pU
                      · skip
                        have HE : Hid (M = true) := hM.out.2 (fun c => by have h1 := c.2 _ (Nat.succ_pos j) HGP.out; simp only at h1; omega)
                        clear hM HUP HP HRL HGB HN HMA HA H1 H9 HOK HNB HML
                        go_quiet (first | (go_at_call 29; first | exact Calls.quiet_of_same (in_yes_q _ _ _ _ (by omega) (by omega)) | exact Calls.quiet_of_same (in_no_q _ _ _ _ (by omega))) | (go_at_call 39; first | with_reducible exact Calls.quiet_of_same (HWU.out _) | with_reducible exact Calls.quiet_of_same (HWN.out _)))
                        go_wp2_with fail
                        go_meet
                        exact ⟨by rw [HE.out], below_drewN (Below.refl _ _) _⟩
                      by_cases hfl : 0 ≤ mF ∧ mF ≤ 7
                      rotate_left
                      · skip
                        have HE : Hid (M = true) := hM.out.2 (fun c => hfl c.1.2.1)
                        clear hM HUP HP HRL HGB HN HMA HA H1 H9 HOK HNB HML
                        go_quiet (first | (go_at_call 29; first | exact Calls.quiet_of_same (in_yes_q _ _ _ _ (by omega) (by omega)) | exact Calls.quiet_of_same (in_no_q _ _ _ _ (by omega))) | (go_at_call 39; first | with_reducible exact Calls.quiet_of_same (HWU.out _) | with_reducible exact Calls.quiet_of_same (HWN.out _)))
                        go_wp2_with fail
                        go_meet
                        exact ⟨by rw [HE.out], below_drewN (Below.refl _ _) _⟩
                      by_cases htx : (100 : Int) < (mT.size : Int)
                      · skip
                        have HE : Hid (M = true) := hM.out.2 (fun c => by have h1 : mT.size ≤ 100 := c.1.2.2; omega)
                        clear hM HUP HP HRL HGB HN HMA HA H1 H9 HOK HNB HML
                        go_quiet (first | (go_at_call 29; first | exact Calls.quiet_of_same (in_yes_q _ _ _ _ (by omega) (by omega)) | exact Calls.quiet_of_same (in_no_q _ _ _ _ (by omega))) | (go_at_call 39; first | with_reducible exact Calls.quiet_of_same (HWU.out _) | with_reducible exact Calls.quiet_of_same (HWN.out _)))
                        go_wp2_with fail
                        go_meet
                        exact ⟨by rw [HE.out], below_drewN (Below.refl _ _) _⟩
                      have HE : Hid (M = false) := Bool.eq_false_iff.2 (fun h => hM.out.1 h ⟨⟨hv, hfl, by show mT.size ≤ 100; omega⟩, fun p _ h => by have e := Option.some.inj (h.symm.trans HGP.out); rw [e]; simp only; omega⟩)
                      clear hM HUP HP HRL HGB HN HMA HA H1 H9 HOK HNB HML
                      go_quiet (first | (go_at_call 29; first | exact Calls.quiet_of_same (in_yes_q _ _ _ _ (by omega) (by omega)) | exact Calls.quiet_of_same (in_no_q _ _ _ _ (by omega))) | (go_at_call 39; first | with_reducible exact Calls.quiet_of_same (HWU.out _) | with_reducible exact Calls.quiet_of_same (HWN.out _)))
                      go_wp2_with fail
                      go_meet
                      exact ⟨by rw [HE.out], below_drewN (Below.refl _ _) _⟩
                  case rest =>
                    obtain ⟨rfl, k12⟩ := hcut
                    have b12 := b11.trans (k12.mono b11.size)
                    have bE := (H9.out _ b12).2.2.1
                    cases M with
                    | true =>
                      have HE : Hid (stB ps = false) := stB_no (fun c => hM.out.1 rfl ⟨((c _ HGB.out).2.2.2 k2 _ HGM.out).1, fun q h1 h2 => ((c _ HGB.out).2.2.2 k2 _ HGM.out).2 q h1 h2⟩)
                      clear hM
                      go_wp2
                      go_ret
                      exact ⟨by rw [HE.out]; rfl, bE⟩
                    | false =>
                      have HS : Hid (∀ q, q < k2 + 1 → MlAt ⟨bV, bU, bN, bX, bM⟩ q) := fun q hq => by
                        rcases Nat.lt_succ_iff_lt_or_eq.1 hq with h | rfl
                        · exact HML.out q h
                        · have hc : mlOk bX ⟨mU, mF, mT⟩ ∧ ∀ q', 0 < q → bM[q - 1]? = some q' → q'.uid < mU := Classical.byContradiction (fun c => by have := hM.out.2 c; cases this)
                          exact MlAt.of HGM.out hc.1 hc.2
                      clear hM
                      go_wp2
                      go_roundw
                      case rel => exact ⟨k2 + 1, by omega, by go_num, HS.out, b12⟩
                      case measure => simp [intOf]; omega
                · have HS : Hid (∀ j, j < i + 1 → StAt ps j) := fun j hj => by
                    rcases Nat.lt_succ_iff_lt_or_eq.1 hj with h | rfl
                    · exact HUP.out j h
                    · exact StAt.of HGB.out HOK.out.1 HOK.out.2 HNB.out (fun q hq => HML.out q (by have e := HRL.out; simp only at hq; omega))
                  have hlm2 : ¬ (k2 : Int) < (nm : Int) := by omega
                  go_wp2
                  exact ⟨⟨i + 1, by omega, by simp, HS.out, b19⟩, by first | omega | (simp [intOf]; omega)⟩
    · have HE : Hid (stB ps = true) := stB_all (fun j hj => HUP.out j (by rw [HN.out] at hj; omega))
      go_wp2
      go_ret
      exact ⟨by rw [HE.out]; rfl, bW⟩

end Go.Proofs.Ytgdkndlkapmhjaa
