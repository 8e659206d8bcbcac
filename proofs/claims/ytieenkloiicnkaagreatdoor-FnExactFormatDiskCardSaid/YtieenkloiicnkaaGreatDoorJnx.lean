/- Texts of our own, joined. -/
import Derived.Test.YtieenkloiicnkaaGreatDoorJlx
import Derived.Test.YtieenkloiicnkaaGreatDoorJmx
import Derived.Test.YtieenkloiicnkaaGreatDoorJb
import Derived.Deep.DeepCutAuto
import Derived.Deep.QuietTactic
import Derived.Deep.RegionHeld3
import Derived.BigQuiet
import Derived.WalkSmall
/- CheckOk of the program: what is wrong with a check is a fault with a code. -/
namespace Go.Proofs.YtieenkloiicnkaaGreatDoor
open Go.RowKit

theorem segNo_any (s : Int) (w : World) :
    Calls Tryz.prog 102 #[.int .i64 s] w fun e w' => e = .returned (.bool (decide (0 ≤ s ∧ s ≤ 10))) ∧ w = w' := by
  by_cases h1 : 0 ≤ s
  · have g2 : decide (s < 11) = decide (0 ≤ s ∧ s ≤ 10) := decide_eq_decide.2 ⟨fun h => ⟨h1, by omega⟩, fun h => by omega⟩
    rw [← g2]
    clear g2
    go_enter Tryz.func102, Tryz.ntmps102
    go_wp2
    go_ret
    exact ⟨rfl, rfl⟩
  · rw [decide_eq_false (show ¬ (0 ≤ s ∧ s ≤ 10) by omega)]
    go_enter Tryz.func102, Tryz.ntmps102
    go_wp2
    go_ret
    exact ⟨rfl, rfl⟩
theorem segNo_q {s : Int} {D : Bool} (hd : decide (0 ≤ s ∧ s ≤ 10) = D) (w : World) : Calls Tryz.prog 102 #[.int .i64 s] w fun e w' => e = .returned (.bool D) ∧ w' = w :=
  (segNo_any s w).mono fun _ _ h => ⟨by rw [← hd]; exact h.1, h.2.symm⟩

theorem sliceTo_run {g o n cap i : Nat} (h : i ≤ cap) (wx : World) : (Instr.slice 46 (.slice (some ⟨g, o, none⟩) n cap) none (some (.int .i64 (i : Int))) none).run Tryz.prog wx = .ok (.slice (some ⟨g, o, none⟩) i cap) wx := by
  rw [run_slice_h (P := Tryz.prog) wx 46 _ n cap (by kernel_rfl) .i64 (i : Int) (by omega) (by omega)]
  rw [show Tryz.prog.elem 46 = 124 by kernel_rfl, Tryz.sizeOf124]
  simp [Result.andThen, sliced, Addr.add]

def numAt (st ng ns nv : Int) (i : Nat) : Int := if i = 0 then st else if i = 1 then ng else if i = 2 then ns else nv

theorem numAt_run0 (st ng ns nv : Int) (wx : World) : (Instr.index 202 (.agg #[.int .i64 st, .int .i64 ng, .int .i64 ns, .int .i64 nv]) (.int .i64 0)).run Tryz.prog wx = .ok (.int .i64 st) wx := by kernel_rfl
theorem numAt_run1 (st ng ns nv : Int) (wx : World) : (Instr.index 202 (.agg #[.int .i64 st, .int .i64 ng, .int .i64 ns, .int .i64 nv]) (.int .i64 1)).run Tryz.prog wx = .ok (.int .i64 ng) wx := by kernel_rfl
theorem numAt_run2 (st ng ns nv : Int) (wx : World) : (Instr.index 202 (.agg #[.int .i64 st, .int .i64 ng, .int .i64 ns, .int .i64 nv]) (.int .i64 2)).run Tryz.prog wx = .ok (.int .i64 ns) wx := by kernel_rfl
theorem numAt_run3 (st ng ns nv : Int) (wx : World) : (Instr.index 202 (.agg #[.int .i64 st, .int .i64 ng, .int .i64 ns, .int .i64 nv]) (.int .i64 3)).run Tryz.prog wx = .ok (.int .i64 nv) wx := by kernel_rfl
theorem numAt_run (st ng ns nv : Int) {i : Nat} (h : i < 4) (wx : World) : (Instr.index 202 (.agg #[.int .i64 st, .int .i64 ng, .int .i64 ns, .int .i64 nv]) (.int .i64 (i : Int))).run Tryz.prog wx = .ok (.int .i64 (numAt st ng ns nv i)) wx := by
  have : i = 0 ∨ i = 1 ∨ i = 2 ∨ i = 3 := by omega
  rcases this with rfl | rfl | rfl | rfl
  · exact numAt_run0 st ng ns nv wx
  · exact numAt_run1 st ng ns nv wx
  · exact numAt_run2 st ng ns nv wx
  · exact numAt_run3 st ng ns nv wx

def WrongC (c : Ck) (e : Ending) : Prop := (c.ok ∧ e = .returned .nilIface) ∨ (¬ c.ok ∧ ∃ k : Int, (k = 1 ∨ k = 2) ∧ e = .returned (.iface 134 (.agg #[.int .i64 k])))
set_option maxRecDepth 100000 in
set_option maxHeartbeats 8000000 in
theorem wrongWith_any (c : Ck) (a : Option Addr) (cap : Nat) (w : World) (h : Rows' rfE w (.slice a c.refs.length cap) c.refs) (hl : c.refs.length ≤ 1048576) :
    Calls Tryz.prog 120 #[.agg #[.int .i64 c.st, .int .i64 c.ng, .int .i64 c.ns, .int .i64 c.nv, .slice a c.refs.length cap]] w fun e w' => WrongC c e ∧ Below w.heap.size w w' := by
  have HRW := Lib.hid h
  obtain ⟨_, _, hv, hrow⟩ := h.refs
  cases hv
  have HR := Lib.hid hrow
  clear h hrow
  have HYES : Hid (c.ok → WrongC c (.returned .nilIface)) := fun h => .inl ⟨h, rfl⟩
  have HNO : Hid (¬ c.ok → ∀ k : Int, (k = 1 ∨ k = 2) → WrongC c (.returned (.iface 134 (.agg #[.int .i64 k])))) := fun h k hk => .inr ⟨h, k, hk, rfl⟩
  obtain ⟨st, ng, ns, nv, rs⟩ := c
  generalize WrongC ⟨st, ng, ns, nv, rs⟩ = A at HYES HNO ⊢
  replace HYES : Hid (((numIn st ∧ numIn ng ∧ numIn ns ∧ numIn nv) ∧ (1 ≤ rs.length ∧ rs.length ≤ 11) ∧ ∀ (i : Nat) (r : Rf), rs[i]? = some r → rfAt ng rs i r) → A (.returned .nilIface)) := HYES
  replace HNO : Hid (¬ ((numIn st ∧ numIn ng ∧ numIn ns ∧ numIn nv) ∧ (1 ≤ rs.length ∧ rs.length ≤ 11) ∧ ∀ (i : Nat) (r : Rf), rs[i]? = some r → rfAt ng rs i r) → ∀ k : Int, (k = 1 ∨ k = 2) → A (.returned (.iface 134 (.agg #[.int .i64 k])))) := HNO
  simp only at hl HR HRW ⊢
  obtain ⟨n, hn⟩ : ∃ n, rs.length = n := ⟨_, rfl⟩
  rw [hn] at hl HYES HNO HRW ⊢
  have HN := Lib.hid hn
  clear hn
  have X0 := Box.new w #[.int .i64 st, .int .i64 ng, .int .i64 ns, .int .i64 nv, .slice a n cap] 48
  have b0 := belNew w (.cells #[.int .i64 st, .int .i64 ng, .int .i64 ns, .int .i64 nv, .slice a n cap] 48)
  have HC : Hid (∀ x, Below (w.alloc (.cells #[.int .i64 st, .int .i64 ng, .int .i64 ns, .int .i64 nv, .slice a n cap] 48)).heap.size (w.alloc (.cells #[.int .i64 st, .int .i64 ng, .int .i64 ns, .int .i64 nv, .slice a n cap] 48)) x → (x.cell? ⟨w.heap.size, 0, none⟩ = some (.int .i64 st) ∧ x.cell? ⟨w.heap.size, 1, none⟩ = some (.int .i64 ng) ∧ x.cell? ⟨w.heap.size, 2, none⟩ = some (.int .i64 ns) ∧ x.cell? ⟨w.heap.size, 3, none⟩ = some (.int .i64 nv) ∧ x.cell? ⟨w.heap.size, 4, none⟩ = some (.slice a n cap)) ∧ Below w.heap.size w x) := fun x hx => by
    obtain ⟨x0, x1, x2, x3, x4, _⟩ := (X0.later hx).fiveC
    exact ⟨⟨x0, x1, x2, x3, x4⟩, b0.trans (hx.mono b0.size)⟩
  clear X0 b0
  go_enter Tryz.func120, Tryz.ntmps120
  go_upto_region 1 with fail
  generalize w.alloc (.cells #[.int .i64 st, .int .i64 ng, .int .i64 ns, .int .i64 nv, .slice a n cap] 48) = W at HC ⊢
  obtain ⟨g, hg⟩ : ∃ g, w.heap.size = g := ⟨_, rfl⟩
  rw [hg] at HC
  replace HC : Hid (∀ x, Below W.heap.size W x → (x.cell? ⟨g, 0, none⟩ = some (.int .i64 st) ∧ x.cell? ⟨g, 1, none⟩ = some (.int .i64 ng) ∧ x.cell? ⟨g, 2, none⟩ = some (.int .i64 ns) ∧ x.cell? ⟨g, 3, none⟩ = some (.int .i64 nv) ∧ x.cell? ⟨g, 4, none⟩ = some (.slice a n cap)) ∧ Below w.heap.size w x) := by rw [hg]; exact HC
  have HG := Lib.hid hg
  try simp only [hg]
  clear hg
  obtain ⟨⟨c0, c1, c2, c3, c4⟩, bW⟩ := HC.out _ (Below.refl _ _)
  go_wp2_with fail
  clear c0 c1 c2 c3 c4
  go_loopw [17] (fun iv wr => ∃ i : Nat, i ≤ 4 ∧ iv = .int .i64 (i : Int) ∧ Hid (∀ k, k < i → numIn (numAt st ng ns nv k)) ∧ Below W.heap.size W wr) (fun iv _ => 4 - (intOf iv).toNat)
  case atStart => exact ⟨0, by omega, rfl, fun k hk => by omega, Below.refl _ _⟩
  case round =>
    obtain ⟨i, hi, rfl, HOK, bq⟩ := hrel
    have bw := (HC.out _ bq).2
    by_cases hlt : i < 4
    · have hix := numAt_run st ng ns nv hlt
      have HBAD : Hid (¬ numIn (numAt st ng ns nv i) → A (.returned (.iface 134 (.agg #[.int .i64 1])))) := fun hb => HNO.out (fun c => hb (by
        have : i = 0 ∨ i = 1 ∨ i = 2 ∨ i = 3 := by omega
        rcases this with rfl | rfl | rfl | rfl
        · exact c.1.1
        · exact c.1.2.1
        · exact c.1.2.2.1
        · exact c.1.2.2.2)) 1 (.inl rfl)
      have HS : Hid (numIn (numAt st ng ns nv i) → ∀ k, k < i + 1 → numIn (numAt st ng ns nv k)) := fun hb k hk => by
        rcases Nat.lt_succ_iff_lt_or_eq.1 hk with h | rfl
        · exact HOK.out k h
        · exact hb
      generalize numAt st ng ns nv i = N at hix HBAD HS
      have hi4 : (i : Int) < 4 := by omega
      by_cases hn : numIn N
      · have HS' := Lib.hid (HS.out hn)
        have hd : decide (Fr.numOk N) = true := decide_eq_true hn
        clear HS HBAD
        go_wp2_with (go_at_call 114; refine (numberOk_any _ _).mono ?_; rintro e w1 ⟨rfl, rfl⟩; rw [hd])
        go_roundw
        case rel => exact ⟨i + 1, by omega, by go_num, HS', bq⟩
        case measure => simp [intOf]; omega
      · have HE := Lib.hid (HBAD.out hn)
        have hd : decide (Fr.numOk N) = false := decide_eq_false hn
        clear HS HBAD
        go_wp2_with (go_at_call 114; refine (numberOk_any _ _).mono ?_; rintro e w1 ⟨rfl, rfl⟩; rw [hd])
        go_ret
        exact ⟨HE.out, bw⟩
    · have hge : ¬ (i : Int) < 4 := by omega
      have h1 : 1 ≤ st ∧ st ≤ 1000000000 := HOK.out 0 (by omega)
      have h2 : 1 ≤ ng ∧ ng ≤ 1000000000 := HOK.out 1 (by omega)
      have h3 : 1 ≤ ns ∧ ns ≤ 1000000000 := HOK.out 2 (by omega)
      have h4 : 1 ≤ nv ∧ nv ≤ 1000000000 := HOK.out 3 (by omega)
      obtain ⟨⟨c0, c1, c2, c3, c4⟩, _⟩ := HC.out _ bq
      by_cases h5 : 1 ≤ n ∧ n ≤ 11
      rotate_left
      · have HE : Hid (A (.returned (.iface 134 (.agg #[.int .i64 2])))) := HNO.out (fun c => h5 c.2.1) 2 (.inr rfl)
        rcases (show n < 1 ∨ (¬ n < 1 ∧ 11 < n) by omega) with hz | ⟨hz, hy⟩
        · have hz' : (n : Int) < 1 := by omega
          go_wp2
          go_ret
          exact ⟨HE.out, bw⟩
        · have hz' : ¬ (n : Int) < 1 := by omega
          have hy' : (11 : Int) < (n : Int) := by omega
          go_wp2
          go_ret
          exact ⟨HE.out, bw⟩
      have HBAD : Hid (∀ (i : Nat) (r : Rf), rs[i]? = some r → ¬ rfAt ng rs i r → A (.returned (.iface 134 (.agg #[.int .i64 2])))) := fun i r hr hb => HNO.out (fun c => hb (c.2.2 i r hr)) 2 (.inr rfl)
      have HGOOD : Hid ((∀ (i : Nat) (r : Rf), rs[i]? = some r → rfAt ng rs i r) → A (.returned .nilIface)) := fun hb => HYES.out ⟨⟨h1, h2, h3, h4⟩, h5, hb⟩
      have hz' : ¬ (n : Int) < 1 := by omega
      have hy' : ¬ (11 : Int) < (n : Int) := by omega
      obtain ⟨wA, hwA⟩ : ∃ wA, wA = wr := ⟨_, rfl⟩
      subst hwA
      clear HYES HNO HOK bw
      go_wp2
      clear c0 c1 c2 c3 c4
      go_loopw [5, 41] (fun lv iv wr => ∃ (i : Nat) (last : Int), i ≤ n ∧ lv = .int .i64 last ∧ iv = .int .i64 (i : Int) ∧ Hid ((∀ (k : Nat) (r : Rf), k < i → rs[k]? = some r → rfAt ng rs k r) ∧ (i = 0 → last = 0) ∧ (∀ p : Rf, 0 < i → rs[i - 1]? = some p → last = p.2) ∧ 0 ≤ last) ∧ Below W.heap.size W wr) (fun _ iv _ => n - (intOf iv).toNat)
      case atStart => exact ⟨0, 0, by omega, rfl, rfl, ⟨fun k r hk => by omega, fun _ => rfl, fun p hp => by omega, by omega⟩, bq⟩
      case round =>
        clear bq
        obtain ⟨i, last, hi, rfl, rfl, HOK, bq⟩ := hrel
        obtain ⟨⟨c0, c1, c2, c3, c4⟩, bw⟩ := HC.out _ bq
        by_cases hlt : i < n
        · obtain ⟨r, hgr⟩ : ∃ r, rs[i]? = some r := ⟨_, List.getElem?_eq_getElem (by rw [HN.out]; exact hlt)⟩
          obtain ⟨gp, op, rfl, p0, p1⟩ := HR.out _ bw i _ hgr
          have HGR := Lib.hid hgr
          clear hgr
          have HCAP : Hid (n ≤ cap) := by
            rcases HRW.out with ⟨hz, _⟩ | ⟨_, _, _, e, hc, _⟩
            · have := HN.out; rw [hz] at this; simp at this; omega
            · cases e; rw [HN.out] at hc; exact hc
          have HIFF : Hid (rfAt ng rs i r ↔ ¬ r.2 ≤ last ∧ ¬ ng ≤ r.2 ∧ (0 ≤ r.1 ∧ r.1 ≤ 10) ∧ hasR (rs.take i) r.1 = false) :=
            ⟨fun h => rfAt_not (by rw [HN.out]; omega) HOK.out.2.1 HOK.out.2.2.1 h, fun h => rfAt_of HOK.out.2.2.1 HOK.out.2.2.2 h.1 h.2.1 h.2.2.1 h.2.2.2⟩
          obtain ⟨rN, rG⟩ := r
          simp only at p0 p1 HIFF
          have hi0 : (0 : Int) ≤ (i : Int) := by omega
          have hi1 : (i : Int) < (n : Int) := by omega
          have XB := Box.new wr #[.int .i64 rN, .int .i64 rG] 124
          have k9 := belNew wr (.cells #[.int .i64 rN, .int .i64 rG] 124)
          have b9 := bq.trans (k9.mono bq.size)
          clear bq bw
          go_upto_region 13 with fail
          clear p0 p1 c0 c1 c2 c3 c4
          generalize wr.alloc (.cells #[.int .i64 rN, .int .i64 rG] 124) = w9 at XB b9 ⊢
          obtain ⟨g9, hg9⟩ : ∃ g9, wr.heap.size = g9 := ⟨_, rfl⟩
          rw [hg9] at XB ⊢
          clear hg9 k9
          have H9 : Hid (∀ x, Below w9.heap.size w9 x → (x.cell? ⟨g9, 0, none⟩ = some (.int .i64 rN) ∧ x.cell? ⟨g9, 1, none⟩ = some (.int .i64 rG) ∧ x.cell? ⟨g, 1, none⟩ = some (.int .i64 ng) ∧ x.cell? ⟨g, 4, none⟩ = some (.slice (some ⟨gp, op, none⟩) n cap)) ∧ Below w.heap.size w x ∧ Below W.heap.size W x) := fun x hx =>
            have hb := b9.trans (hx.mono b9.size)
            ⟨⟨(XB.later hx).cell 0 _ rfl, (XB.later hx).cell 1 _ rfl, (HC.out _ hb).1.2.1, (HC.out _ hb).1.2.2.2.2⟩, (HC.out _ hb).2, hb⟩
          clear XB b9
          obtain ⟨F, hF0⟩ := someC (¬ rfAt ng rs i (rN, rG))
          have hF := Lib.hid hF0
          clear hF0
          go_cut [71] (fun c wx => c = .bool F ∧ Below w9.heap.size w9 wx)
          case first =>
            obtain ⟨⟨d0, d1, c1, c4⟩, bw, _⟩ := H9.out _ (Below.refl _ _)
            by_cases ha : rG ≤ last
            · have HE : Hid (F = true) := hF.out.2 (fun c => (HIFF.out.1 c).1 ha)
              clear hF HR HN HC HBAD HGOOD HOK HGR H9 bw HIFF HRW
              go_quiet (fail)
              go_wp2_with fail
              go_meet
              exact ⟨by rw [HE.out], below_drewN (Below.refl _ _) _⟩
            by_cases hb : ng ≤ rG
            · have HE : Hid (F = true) := hF.out.2 (fun c => (HIFF.out.1 c).2.1 hb)
              clear hF HR HN HC HBAD HGOOD HOK HGR H9 bw HIFF HRW
              go_quiet (fail)
              go_wp2_with fail
              go_meet
              exact ⟨by rw [HE.out], below_drewN (Below.refl _ _) _⟩
            by_cases hs : 0 ≤ rN ∧ rN ≤ 10
            rotate_left
            · have HE : Hid (F = true) := hF.out.2 (fun c => hs (HIFF.out.1 c).2.2.1)
              have HQ := Lib.hid (fun x => segNo_q (decide_eq_false hs) x)
              clear hF HR HN HC HBAD HGOOD HOK HGR H9 bw HIFF HRW
              go_quiet (first | (go_at_call 102; exact Calls.quiet_of_same (HQ.out _)))
              go_wp2_with fail
              go_meet
              exact ⟨by rw [HE.out], below_drewN (Below.refl _ _) _⟩
            have hd : decide (0 ≤ rN ∧ rN ≤ 10) = true := decide_eq_true hs
            have HFE : Hid (F = hasR (rs.take i) rN) := by
              show _ = _
              cases hq : hasR (rs.take i) rN with
              | true => exact hF.out.2 (fun c => by have := (HIFF.out.1 c).2.2.2; rw [hq] at this; cases this)
              | false => exact Bool.eq_false_iff.2 (fun h => hF.out.1 h (HIFF.out.2 ⟨ha, hb, hs, hq⟩))
            have HTK := Lib.hid (fun x (hx : Below w.heap.size w x) => refersTo_any (rs.take i) (.slice (some ⟨gp, op, none⟩) i cap) rN x ((HRW.out.later hx).takeR i (by omega)) (by rw [List.length_take]; omega))
            generalize hasR (rs.take i) rN = D at HFE HTK
            have hsl : ∀ wx, (Instr.slice 46 (.slice (some ⟨gp, op, none⟩) n cap) none (some (.int .i64 (i : Int))) none).run Tryz.prog wx = .ok (.slice (some ⟨gp, op, none⟩) i cap) wx := fun wx => sliceTo_run (by have := HCAP.out; omega) wx
            have kk : Below w9.heap.size w9 w9.drew := (Below.refl _ _).drew
            obtain ⟨⟨e0, e1, e2, e3⟩, _⟩ := H9.out _ kk
            clear hF HR HN HC HBAD HGOOD HOK HGR bw HIFF HRW d0 d1 c1 c4
            go_region_held3 (fun x => x.cell? ⟨g9, 0, none⟩ = some (.int .i64 rN) ∧ x.cell? ⟨g9, 1, none⟩ = some (.int .i64 rG) ∧ x.cell? ⟨g, 1, none⟩ = some (.int .i64 ng) ∧ x.cell? ⟨g, 4, none⟩ = some (.slice (some ⟨gp, op, none⟩) n cap))
              (first | exact (H9.out _ kk).1)
              (first
                | (go_at_call 102; refine (segNo_any _ _).mono ?_; rintro e wX ⟨rfl, rfl⟩; rw [hd])
                | (go_at_call 155; refine (HTK.out _ (H9.out _ kk).2.1).mono ?_; rintro e wX ⟨rfl, kX⟩; have kk := kk.trans (kX.mono kk.size); clear kX))
            all_goals
              go_wp2_with fail
              go_meet
              exact ⟨by rw [HFE.out], kk⟩
          case rest =>
            obtain ⟨rfl, k10⟩ := hcut
            cases F with
            | true =>
              have HE := Lib.hid (HBAD.out i _ HGR.out (hF.out.1 rfl))
              have bE := (H9.out _ k10).2.1
              go_wp2
              go_ret
              exact ⟨HE.out, bE⟩
            | false =>
              have HP : Hid (rfAt ng rs i (rN, rG)) := Classical.byContradiction (fun c => by have := hF.out.2 c; cases this)
              have HS : Hid ((∀ (k : Nat) (r : Rf), k < i + 1 → rs[k]? = some r → rfAt ng rs k r) ∧ (i + 1 = 0 → rG = 0) ∧ (∀ p : Rf, 0 < i + 1 → rs[i + 1 - 1]? = some p → rG = p.2) ∧ 0 ≤ rG) := by
                refine ⟨fun q y hq hy => ?_, fun h => by omega, fun p _ hp => ?_, by have := HP.out.2.1.1; simp only at this; omega⟩
                · rcases Nat.lt_succ_iff_lt_or_eq.1 hq with h | rfl
                  · exact HOK.out.1 q y h hy
                  · have e := Option.some.inj (hy.symm.trans HGR.out); rw [e]; exact HP.out
                · rw [Nat.add_sub_cancel] at hp
                  have e := Option.some.inj (hp.symm.trans HGR.out)
                  rw [e]
              obtain ⟨⟨d0, d1, c1, c4⟩, _, bX⟩ := H9.out _ k10
              clear hF k10 HIFF
              go_wp2
              go_roundw
              case rel => exact ⟨i + 1, rG, by omega, rfl, by go_num, HS, bX⟩
              case measure => simp [intOf]; omega
        · have hge : ¬ (i : Int) < (n : Int) := by omega
          have HE := Lib.hid (HGOOD.out (fun k r hr => HOK.out.1 k r (by have := (List.getElem?_eq_some_iff.1 hr).1; rw [HN.out] at this; omega) hr))
          clear c0 c1 c2 c3 c4
          go_wp2
          go_ret
          exact ⟨HE.out, bw⟩


end Go.Proofs.YtieenkloiicnkaaGreatDoor
