/- Texts of our own, joined. -/
import Derived.Test.YtmbmbnjbeofmaaaJf
import Derived.Test.YtmbmbnjbeofmaaaJa
/- The library's merge of boxes, and its stable sort, at whatever length. -/
namespace Go.Proofs.Ytmbmbnjbeofmaaa
open Go.RowKit Go.Sort

set_option maxRecDepth 100000 in
set_option maxHeartbeats 8000000 in
theorem merge1 (B : Nat) (w0 w : World) (g n cap a m b : Nat) (hs : List BxH) (h : PW B w0 w g n cap hs) (ham : a < m) (hmb : m < b) (hbn : b ≤ n) (hn : n ≤ 1048576) (hma : m = a + 1) :
    Calls Try.prog 51 #[.slice (some ⟨g, 0, none⟩) n cap, .int .i64 (a : Int), .int .i64 (m : Int), .int .i64 (b : Int), .func (.func 39) #[] #[]] w fun e w' => e = .returned (.tuple #[]) ∧ PW B w0 w' g n cap hs := by
  have hw0 : IntKind.i64.wrap ((m : Int) - (a : Int)) = 1 := (IntWalk.i64_in _ ⟨by omega, by omega⟩).trans (by omega)
  have HMA := Lib.hid hma
  clear hma
  go_enter Try.func51, Try.ntmps51
  go_wp2
  go_loopw [10, 11] (fun iv jv wr => ∃ i j : Nat, m ≤ i ∧ i ≤ j ∧ j ≤ b ∧ iv = .int .i64 (i : Int) ∧ jv = .int .i64 (j : Int) ∧ PW B w0 wr g n cap hs) (fun iv jv _ => (intOf jv).toNat - (intOf iv).toNat)
  case atStart => exact ⟨m, b, by omega, by omega, by omega, rfl, rfl, h⟩
  case round =>
    clear h hw0
    obtain ⟨i, j, hi, hij, hj, rfl, rfl, h⟩ := hrel
    by_cases hlt : (i : Int) < (j : Int)
    · obtain ⟨c, hc⟩ : ∃ c : Nat, (i + j) / 2 = c := ⟨_, rfl⟩
      have hcc : ((i : Int) + (j : Int)) / 2 = (c : Int) := by omega
      have hc1 : i ≤ c := by omega
      have hc2 : c < j := by omega
      clear hc
      have hw1 : IntKind.i64.wrap ((c : Int) + 1) = ((c + 1 : Nat) : Int) := (IntWalk.i64_in _ ⟨by omega, by omega⟩).trans (by omega)
      obtain ⟨X, Y, hXY⟩ := h.two (i := c) (j := a) (by omega) (by omega)
      have HY := Lib.hid hXY
      have HPW := Lib.hid h
      obtain ⟨r, hr⟩ : ∃ r, Lib.compareInt X.valid Y.valid = r := ⟨_, rfl⟩
      have HC := Lib.hid (fun W => byValid_belP X Y W)
      rw [hr] at HC
      have hcp0 : (0 : Int) ≤ (c : Int) := by omega
      have hcp1 : (c : Int) < (n : Int) := by omega
      have hcq0 : (0 : Int) ≤ (a : Int) := by omega
      have hcq1 : (a : Int) < (n : Int) := by omega
      have kk : Below wr.heap.size wr wr.drew := (Below.refl _ _).drew
      obtain ⟨⟨x0, x1, x2, x3, x4⟩, y0, y1, y2, y3, y4⟩ := HY.out _ kk
      clear h hr hXY
      go_upto_region 5 with fail
      go_cut [50] (fun c wx => c = .bool (decide (r < 0)) ∧ ∃ y, y = wx ∧ Below wr.heap.size wr y)
      case first =>
        go_region_held3 (fun X' => (X'.cell? ⟨g, c * 5, none⟩ = some (.int .i64 X.valid) ∧ X'.cell? ⟨g, c * 5 + 1, none⟩ = some (.string X.user) ∧ X'.cell? ⟨g, c * 5 + 2, none⟩ = some (.string X.name) ∧ X'.cell? ⟨g, c * 5 + 3, none⟩ = some (.int .i64 X.next) ∧ X'.cell? ⟨g, c * 5 + 4, none⟩ = some (.slice X.a X.n X.c)) ∧ (X'.cell? ⟨g, a * 5, none⟩ = some (.int .i64 Y.valid) ∧ X'.cell? ⟨g, a * 5 + 1, none⟩ = some (.string Y.user) ∧ X'.cell? ⟨g, a * 5 + 2, none⟩ = some (.string Y.name) ∧ X'.cell? ⟨g, a * 5 + 3, none⟩ = some (.int .i64 Y.next) ∧ X'.cell? ⟨g, a * 5 + 4, none⟩ = some (.slice Y.a Y.n Y.c)))
          (first | exact HY.out _ kk)
          (first | (go_at_call 39; refine (HC.out _).mono ?_; rintro e wX ⟨rfl, kX⟩; have kk := kk.trans (kX.mono kk.size)))
        all_goals
          go_wp2_with fail
          go_meet
          exact ⟨by first | rfl | simp, _, rfl, kk⟩
      case rest =>
      obtain ⟨rfl, w1, hwr, k1⟩ := hcut
      subst hwr
      clear x0 x1 x2 x3 x4 y0 y1 y2 y3 y4 kk HY HC hcp0 hcp1 hcq0 hcq1
      have h := HPW.out.later k1
      clear k1 HPW
      by_cases hlv : r < 0
      · rw [decide_eq_true hlv]
        clear hlv
        go_wp2
        exact ⟨⟨c + 1, j, by omega, by omega, by omega, by first | rfl | (simp [hw1]) | simp, rfl, h⟩, by first | omega | (simp [intOf]; omega)⟩
      · rw [decide_eq_false hlv]
        clear hlv
        go_wp2
        exact ⟨⟨i, c, by omega, by omega, by omega, rfl, rfl, h⟩, by first | omega | (simp [intOf]; omega)⟩
    · obtain ⟨t, ht⟩ : ∃ t : Nat, i - 1 = t := ⟨_, rfl⟩
      have hwt : IntKind.i64.wrap ((i : Int) - 1) = ((t : Nat) : Int) := (IntWalk.i64_in _ ⟨by omega, by omega⟩).trans (by omega)
      have ht2 : t + 1 ≤ n := by omega
      have ht3 : a ≤ t := by have := HMA.out; omega
      clear ht
      go_wp2
      go_loopw [13] (fun kv wr => ∃ k : Nat, a ≤ k ∧ k ≤ t + 1 ∧ kv = .int .i64 (k : Int) ∧ PW B w0 wr g n cap hs) (fun kv _ => t + 1 - (intOf kv).toNat)
      case atStart => exact ⟨a, by omega, by omega, rfl, h⟩
      case round =>
        clear h
        obtain ⟨p, hk1, hk2, rfl, h⟩ := hrel
        by_cases hpt : (p : Int) < (t : Int)
        · obtain ⟨q, hq⟩ : ∃ q : Nat, p + 1 = q := ⟨_, rfl⟩
          have hw2 : IntKind.i64.wrap ((p : Int) + 1) = ((q : Nat) : Int) := (IntWalk.i64_in _ ⟨by omega, by omega⟩).trans (by omega)
          have hpq : p < q := by omega
          have hpq2 : q ≤ t := by omega
          have hpq3 : q ≤ p + 1 := by omega
          clear hq
          obtain ⟨x, y, ⟨x0, x1, x2, x3, x4⟩, ⟨y0, y1, y2, y3, y4⟩, hfz, P2⟩ := h.swapC (i := p) (j := q) (by omega) (by omega)
          have HP := Lib.hid P2
          have hp0 : (0 : Int) ≤ (p : Int) := by omega
          have hp1 : (p : Int) < (n : Int) := by omega
          have hq0 : (0 : Int) ≤ (q : Int) := by omega
          have hq1 : (q : Int) < (n : Int) := by omega
          clear h P2
          have n0 : ¬ (p * 5 = q * 5) := by omega
          have m0 : ¬ (q * 5 = p * 5) := by omega
          have n1 : ¬ (p * 5 = q * 5 + 1) := by omega
          have m1 : ¬ (q * 5 + 1 = p * 5) := by omega
          have n2 : ¬ (p * 5 = q * 5 + 2) := by omega
          have m2 : ¬ (q * 5 + 2 = p * 5) := by omega
          have n3 : ¬ (p * 5 = q * 5 + 3) := by omega
          have m3 : ¬ (q * 5 + 3 = p * 5) := by omega
          have n4 : ¬ (p * 5 = q * 5 + 4) := by omega
          have m4 : ¬ (q * 5 + 4 = p * 5) := by omega
          have n5 : ¬ (p * 5 + 1 = q * 5) := by omega
          have m5 : ¬ (q * 5 = p * 5 + 1) := by omega
          have n6 : ¬ (p * 5 + 1 = q * 5 + 1) := by omega
          have m6 : ¬ (q * 5 + 1 = p * 5 + 1) := by omega
          have n7 : ¬ (p * 5 + 1 = q * 5 + 2) := by omega
          have m7 : ¬ (q * 5 + 2 = p * 5 + 1) := by omega
          have n8 : ¬ (p * 5 + 1 = q * 5 + 3) := by omega
          have m8 : ¬ (q * 5 + 3 = p * 5 + 1) := by omega
          have n9 : ¬ (p * 5 + 1 = q * 5 + 4) := by omega
          have m9 : ¬ (q * 5 + 4 = p * 5 + 1) := by omega
          have n10 : ¬ (p * 5 + 2 = q * 5) := by omega
          have m10 : ¬ (q * 5 = p * 5 + 2) := by omega
          have n11 : ¬ (p * 5 + 2 = q * 5 + 1) := by omega
          have m11 : ¬ (q * 5 + 1 = p * 5 + 2) := by omega
          have n12 : ¬ (p * 5 + 2 = q * 5 + 2) := by omega
          have m12 : ¬ (q * 5 + 2 = p * 5 + 2) := by omega
          have n13 : ¬ (p * 5 + 2 = q * 5 + 3) := by omega
          have m13 : ¬ (q * 5 + 3 = p * 5 + 2) := by omega
          have n14 : ¬ (p * 5 + 2 = q * 5 + 4) := by omega
          have m14 : ¬ (q * 5 + 4 = p * 5 + 2) := by omega
          have n15 : ¬ (p * 5 + 3 = q * 5) := by omega
          have m15 : ¬ (q * 5 = p * 5 + 3) := by omega
          have n16 : ¬ (p * 5 + 3 = q * 5 + 1) := by omega
          have m16 : ¬ (q * 5 + 1 = p * 5 + 3) := by omega
          have n17 : ¬ (p * 5 + 3 = q * 5 + 2) := by omega
          have m17 : ¬ (q * 5 + 2 = p * 5 + 3) := by omega
          have n18 : ¬ (p * 5 + 3 = q * 5 + 3) := by omega
          have m18 : ¬ (q * 5 + 3 = p * 5 + 3) := by omega
          have n19 : ¬ (p * 5 + 3 = q * 5 + 4) := by omega
          have m19 : ¬ (q * 5 + 4 = p * 5 + 3) := by omega
          have n20 : ¬ (p * 5 + 4 = q * 5) := by omega
          have m20 : ¬ (q * 5 = p * 5 + 4) := by omega
          have n21 : ¬ (p * 5 + 4 = q * 5 + 1) := by omega
          have m21 : ¬ (q * 5 + 1 = p * 5 + 4) := by omega
          have n22 : ¬ (p * 5 + 4 = q * 5 + 2) := by omega
          have m22 : ¬ (q * 5 + 2 = p * 5 + 4) := by omega
          have n23 : ¬ (p * 5 + 4 = q * 5 + 3) := by omega
          have m23 : ¬ (q * 5 + 3 = p * 5 + 4) := by omega
          have n24 : ¬ (p * 5 + 4 = q * 5 + 4) := by omega
          have m24 : ¬ (q * 5 + 4 = p * 5 + 4) := by omega
          have mixed : Try.prog.follows Departure.mixedOrders = true := by kernel_rfl
          go_wp2_with fail
          go_big_region_o
          all_goals go_wp2
          go_roundw
          case rel => exact ⟨q, by omega, by omega, by first | rfl | (simp [hw2]) | (congr 1; omega), HP.out⟩
          case measure => simp [intOf]; omega
        · go_wp2
          exact bodyPost_ret (v := .tuple #[]) (by simp [results, Try.results51, go_sem]) rfl ⟨rfl, h⟩

set_option maxRecDepth 100000 in
set_option maxHeartbeats 8000000 in
theorem merge2 (B : Nat) (w0 w : World) (g n cap a m b : Nat) (hs : List BxH) (h : PW B w0 w g n cap hs) (ham : a < m) (hmb : m < b) (hbn : b ≤ n) (hn : n ≤ 1048576) (hma : m ≠ a + 1) (hbm : b = m + 1) :
    Calls Try.prog 51 #[.slice (some ⟨g, 0, none⟩) n cap, .int .i64 (a : Int), .int .i64 (m : Int), .int .i64 (b : Int), .func (.func 39) #[] #[]] w fun e w' => e = .returned (.tuple #[]) ∧ PW B w0 w' g n cap hs := by
  obtain ⟨d, hd⟩ : ∃ d : Nat, m - a = d := ⟨_, rfl⟩
  have hw0 : IntKind.i64.wrap ((m : Int) - (a : Int)) = ((d : Nat) : Int) := (IntWalk.i64_in _ ⟨by omega, by omega⟩).trans (by omega)
  have hd1 : ¬ ((d : Int) = 1) := by omega
  have hd1b : ((d : Int) == 1) = false := by simpa using hd1
  have hw9 : IntKind.i64.wrap ((b : Int) - (m : Int)) = 1 := (IntWalk.i64_in _ ⟨by omega, by omega⟩).trans (by omega)
  clear hd hbm hma
  go_enter Try.func51, Try.ntmps51
  go_wp2
  go_loopw [14, 15] (fun iv jv wr => ∃ i j : Nat, a ≤ i ∧ i ≤ j ∧ j ≤ m ∧ iv = .int .i64 (i : Int) ∧ jv = .int .i64 (j : Int) ∧ PW B w0 wr g n cap hs) (fun iv jv _ => (intOf jv).toNat - (intOf iv).toNat)
  case atStart => exact ⟨a, m, by omega, by omega, by omega, rfl, rfl, h⟩
  case round =>
    clear h hw0 hw9
    obtain ⟨i, j, hi, hij, hj, rfl, rfl, h⟩ := hrel
    by_cases hlt : (i : Int) < (j : Int)
    · obtain ⟨c, hc⟩ : ∃ c : Nat, (i + j) / 2 = c := ⟨_, rfl⟩
      have hcc : ((i : Int) + (j : Int)) / 2 = (c : Int) := by omega
      have hc1 : i ≤ c := by omega
      have hc2 : c < j := by omega
      clear hc
      have hw1 : IntKind.i64.wrap ((c : Int) + 1) = ((c + 1 : Nat) : Int) := (IntWalk.i64_in _ ⟨by omega, by omega⟩).trans (by omega)
      obtain ⟨X, Y, hXY⟩ := h.two (i := m) (j := c) (by omega) (by omega)
      have HY := Lib.hid hXY
      have HPW := Lib.hid h
      obtain ⟨r, hr⟩ : ∃ r, Lib.compareInt X.valid Y.valid = r := ⟨_, rfl⟩
      have HC := Lib.hid (fun W => byValid_belP X Y W)
      rw [hr] at HC
      have hcp0 : (0 : Int) ≤ (m : Int) := by omega
      have hcp1 : (m : Int) < (n : Int) := by omega
      have hcq0 : (0 : Int) ≤ (c : Int) := by omega
      have hcq1 : (c : Int) < (n : Int) := by omega
      have kk : Below wr.heap.size wr wr.drew := (Below.refl _ _).drew
      obtain ⟨⟨x0, x1, x2, x3, x4⟩, y0, y1, y2, y3, y4⟩ := HY.out _ kk
      clear h hr hXY
      go_upto_region 17 with fail
      go_cut [103] (fun c wx => c = .bool (!decide (r < 0)) ∧ ∃ y, y = wx ∧ Below wr.heap.size wr y)
      case first =>
        go_region_held3 (fun X' => (X'.cell? ⟨g, m * 5, none⟩ = some (.int .i64 X.valid) ∧ X'.cell? ⟨g, m * 5 + 1, none⟩ = some (.string X.user) ∧ X'.cell? ⟨g, m * 5 + 2, none⟩ = some (.string X.name) ∧ X'.cell? ⟨g, m * 5 + 3, none⟩ = some (.int .i64 X.next) ∧ X'.cell? ⟨g, m * 5 + 4, none⟩ = some (.slice X.a X.n X.c)) ∧ (X'.cell? ⟨g, c * 5, none⟩ = some (.int .i64 Y.valid) ∧ X'.cell? ⟨g, c * 5 + 1, none⟩ = some (.string Y.user) ∧ X'.cell? ⟨g, c * 5 + 2, none⟩ = some (.string Y.name) ∧ X'.cell? ⟨g, c * 5 + 3, none⟩ = some (.int .i64 Y.next) ∧ X'.cell? ⟨g, c * 5 + 4, none⟩ = some (.slice Y.a Y.n Y.c)))
          (first | exact HY.out _ kk)
          (first | (go_at_call 39; refine (HC.out _).mono ?_; rintro e wX ⟨rfl, kX⟩; have kk := kk.trans (kX.mono kk.size)))
        all_goals
          go_wp2_with fail
          go_meet
          exact ⟨by first | rfl | simp, _, rfl, kk⟩
      case rest =>
      obtain ⟨rfl, w1, hwr, k1⟩ := hcut
      subst hwr
      clear x0 x1 x2 x3 x4 y0 y1 y2 y3 y4 kk HY HC hcp0 hcp1 hcq0 hcq1
      have h := HPW.out.later k1
      clear k1 HPW
      by_cases hlv : r < 0
      · rw [decide_eq_true hlv]
        clear hlv
        go_wp2
        exact ⟨⟨i, c, by omega, by omega, by omega, rfl, rfl, h⟩, by first | omega | (simp [intOf]; omega)⟩
      · rw [decide_eq_false hlv]
        clear hlv
        go_wp2
        exact ⟨⟨c + 1, j, by omega, by omega, by omega, by first | rfl | (simp [hw1]) | simp, rfl, h⟩, by first | omega | (simp [intOf]; omega)⟩
    · go_wp2
      go_loopw [17] (fun kv wr => ∃ k : Nat, i ≤ k ∧ k ≤ m ∧ kv = .int .i64 (k : Int) ∧ PW B w0 wr g n cap hs) (fun kv _ => (intOf kv).toNat)
      case atStart => exact ⟨m, by omega, by omega, rfl, h⟩
      case round =>
        clear h
        obtain ⟨p, hk1, hk2, rfl, h⟩ := hrel
        by_cases hpt : (i : Int) < (p : Int)
        · obtain ⟨q, hq⟩ : ∃ q : Nat, p - 1 = q := ⟨_, rfl⟩
          have hw2 : IntKind.i64.wrap ((p : Int) - 1) = ((q : Nat) : Int) := (IntWalk.i64_in _ ⟨by omega, by omega⟩).trans (by omega)
          have hpq : q < p := by omega
          have hpq2 : i ≤ q := by omega
          clear hq
          obtain ⟨x, y, ⟨x0, x1, x2, x3, x4⟩, ⟨y0, y1, y2, y3, y4⟩, hfz, P2⟩ := h.swapC (i := p) (j := q) (by omega) (by omega)
          have HP := Lib.hid P2
          have hp0 : (0 : Int) ≤ (p : Int) := by omega
          have hp1 : (p : Int) < (n : Int) := by omega
          have hq0 : (0 : Int) ≤ (q : Int) := by omega
          have hq1 : (q : Int) < (n : Int) := by omega
          clear h P2
          have n0 : ¬ (p * 5 = q * 5) := by omega
          have m0 : ¬ (q * 5 = p * 5) := by omega
          have n1 : ¬ (p * 5 = q * 5 + 1) := by omega
          have m1 : ¬ (q * 5 + 1 = p * 5) := by omega
          have n2 : ¬ (p * 5 = q * 5 + 2) := by omega
          have m2 : ¬ (q * 5 + 2 = p * 5) := by omega
          have n3 : ¬ (p * 5 = q * 5 + 3) := by omega
          have m3 : ¬ (q * 5 + 3 = p * 5) := by omega
          have n4 : ¬ (p * 5 = q * 5 + 4) := by omega
          have m4 : ¬ (q * 5 + 4 = p * 5) := by omega
          have n5 : ¬ (p * 5 + 1 = q * 5) := by omega
          have m5 : ¬ (q * 5 = p * 5 + 1) := by omega
          have n6 : ¬ (p * 5 + 1 = q * 5 + 1) := by omega
          have m6 : ¬ (q * 5 + 1 = p * 5 + 1) := by omega
          have n7 : ¬ (p * 5 + 1 = q * 5 + 2) := by omega
          have m7 : ¬ (q * 5 + 2 = p * 5 + 1) := by omega
          have n8 : ¬ (p * 5 + 1 = q * 5 + 3) := by omega
          have m8 : ¬ (q * 5 + 3 = p * 5 + 1) := by omega
          have n9 : ¬ (p * 5 + 1 = q * 5 + 4) := by omega
          have m9 : ¬ (q * 5 + 4 = p * 5 + 1) := by omega
          have n10 : ¬ (p * 5 + 2 = q * 5) := by omega
          have m10 : ¬ (q * 5 = p * 5 + 2) := by omega
          have n11 : ¬ (p * 5 + 2 = q * 5 + 1) := by omega
          have m11 : ¬ (q * 5 + 1 = p * 5 + 2) := by omega
          have n12 : ¬ (p * 5 + 2 = q * 5 + 2) := by omega
          have m12 : ¬ (q * 5 + 2 = p * 5 + 2) := by omega
          have n13 : ¬ (p * 5 + 2 = q * 5 + 3) := by omega
          have m13 : ¬ (q * 5 + 3 = p * 5 + 2) := by omega
          have n14 : ¬ (p * 5 + 2 = q * 5 + 4) := by omega
          have m14 : ¬ (q * 5 + 4 = p * 5 + 2) := by omega
          have n15 : ¬ (p * 5 + 3 = q * 5) := by omega
          have m15 : ¬ (q * 5 = p * 5 + 3) := by omega
          have n16 : ¬ (p * 5 + 3 = q * 5 + 1) := by omega
          have m16 : ¬ (q * 5 + 1 = p * 5 + 3) := by omega
          have n17 : ¬ (p * 5 + 3 = q * 5 + 2) := by omega
          have m17 : ¬ (q * 5 + 2 = p * 5 + 3) := by omega
          have n18 : ¬ (p * 5 + 3 = q * 5 + 3) := by omega
          have m18 : ¬ (q * 5 + 3 = p * 5 + 3) := by omega
          have n19 : ¬ (p * 5 + 3 = q * 5 + 4) := by omega
          have m19 : ¬ (q * 5 + 4 = p * 5 + 3) := by omega
          have n20 : ¬ (p * 5 + 4 = q * 5) := by omega
          have m20 : ¬ (q * 5 = p * 5 + 4) := by omega
          have n21 : ¬ (p * 5 + 4 = q * 5 + 1) := by omega
          have m21 : ¬ (q * 5 + 1 = p * 5 + 4) := by omega
          have n22 : ¬ (p * 5 + 4 = q * 5 + 2) := by omega
          have m22 : ¬ (q * 5 + 2 = p * 5 + 4) := by omega
          have n23 : ¬ (p * 5 + 4 = q * 5 + 3) := by omega
          have m23 : ¬ (q * 5 + 3 = p * 5 + 4) := by omega
          have n24 : ¬ (p * 5 + 4 = q * 5 + 4) := by omega
          have m24 : ¬ (q * 5 + 4 = p * 5 + 4) := by omega
          have mixed : Try.prog.follows Departure.mixedOrders = true := by kernel_rfl
          go_wp2_with fail
          go_big_region_o
          all_goals go_wp2
          go_roundw
          case rel => exact ⟨q, by omega, by omega, by first | rfl | (simp [hw2]) | (congr 1; omega), HP.out⟩
          case measure => simp [intOf]; omega
        · go_wp2
          exact bodyPost_ret (v := .tuple #[]) (by simp [results, Try.results51, go_sem]) rfl ⟨rfl, h⟩

set_option maxRecDepth 100000 in
set_option maxHeartbeats 8000000 in
theorem merge3 (B : Nat) (w0 w : World) (g n cap a m b : Nat) (hs : List BxH) (h : PW B w0 w g n cap hs) (ham : a < m) (hmb : m < b) (hbn : b ≤ n) (hn : n ≤ 1048576) (hma : m ≠ a + 1) (hbm : b ≠ m + 1)
    (IH : ∀ (x : World) (a' m' b' : Nat), b' - a' < b - a → a' < m' → m' < b' → b' ≤ n → PW B w0 x g n cap hs → Calls Try.prog 51 #[.slice (some ⟨g, 0, none⟩) n cap, .int .i64 (a' : Int), .int .i64 (m' : Int), .int .i64 (b' : Int), .func (.func 39) #[] #[]] x fun e w' => e = .returned (.tuple #[]) ∧ PW B w0 w' g n cap hs) :
    Calls Try.prog 51 #[.slice (some ⟨g, 0, none⟩) n cap, .int .i64 (a : Int), .int .i64 (m : Int), .int .i64 (b : Int), .func (.func 39) #[] #[]] w fun e w' => e = .returned (.tuple #[]) ∧ PW B w0 w' g n cap hs := by
  obtain ⟨d, hd⟩ : ∃ d : Nat, m - a = d := ⟨_, rfl⟩
  obtain ⟨d2, hd2⟩ : ∃ d : Nat, b - m = d := ⟨_, rfl⟩
  obtain ⟨mid, hmid⟩ : ∃ d : Nat, (a + b) / 2 = d := ⟨_, rfl⟩
  obtain ⟨nn, hnn⟩ : ∃ d : Nat, mid + m = d := ⟨_, rfl⟩
  obtain ⟨pp, hpp⟩ : ∃ d : Nat, nn - 1 = d := ⟨_, rfl⟩
  have hw0 : IntKind.i64.wrap ((m : Int) - (a : Int)) = ((d : Nat) : Int) := (IntWalk.i64_in _ ⟨by omega, by omega⟩).trans (by omega)
  have hw1 : IntKind.i64.wrap ((b : Int) - (m : Int)) = ((d2 : Nat) : Int) := (IntWalk.i64_in _ ⟨by omega, by omega⟩).trans (by omega)
  have hw3 : IntKind.i64.wrap ((mid : Int) + (m : Int)) = ((nn : Nat) : Int) := (IntWalk.i64_in _ ⟨by omega, by omega⟩).trans (by omega)
  have hw4 : IntKind.i64.wrap ((nn : Int) - 1) = ((pp : Nat) : Int) := (IntWalk.i64_in _ ⟨by omega, by omega⟩).trans (by omega)
  have hd1 : ¬ ((d : Int) = 1) := by omega
  have hd1b : ((d : Int) == 1) = false := by simpa using hd1
  have hd3 : ¬ ((d2 : Int) = 1) := by omega
  have hd3b : ((d2 : Int) == 1) = false := by simpa using hd3
  have hmm : ((a : Int) + (b : Int)) / 2 = (mid : Int) := by omega
  have HIH := Lib.hid IH
  have HR := Lib.hid (fun x s e hx h1 h2 h3 => rotate_any B w0 x g n cap s m e hs (.func (.func 39) #[] #[]) hx h1 h2 h3 hn)
  have HF : Hid (nn = mid + m ∧ pp + 1 = nn ∧ a < mid ∧ mid < b ∧ a + b ≤ 2 * mid + 1 ∧ 2 * mid ≤ a + b) := by
    show _ ∧ _
    omega
  clear hd hd2 hmid hnn hpp hma hbm IH
  go_enter Try.func51, Try.ntmps51
  by_cases hlm : (mid : Int) < (m : Int)
  · obtain ⟨s0, hs0⟩ : ∃ s0 : Nat, nn - b = s0 := ⟨_, rfl⟩
    have HSB : Hid (s0 + b = nn ∧ a ≤ s0 ∧ s0 ≤ mid) := by have := HF.out; show _ ∧ _; omega
    have hns : b ≤ nn ∧ nn ≤ 4194304 := by have := HSB.out; have := HF.out; omega
    have hws : IntKind.i64.wrap ((nn : Int) - (b : Int)) = ((s0 : Nat) : Int) := (IntWalk.i64_in _ ⟨by omega, by omega⟩).trans (by omega)
    clear hs0 hns
    go_wp2
    go_loopw [20, 21] (fun sv rv wr => ∃ s r : Nat, s0 ≤ s ∧ s ≤ r ∧ r ≤ mid ∧ sv = .int .i64 (s : Int) ∧ rv = .int .i64 (r : Int) ∧ PW B w0 wr g n cap hs) (fun sv rv _ => (intOf rv).toNat - (intOf sv).toNat)
    case atStart => exact ⟨s0, mid, by omega, by have := HSB.out; omega, by omega, by first | rfl | (simp [hws]), rfl, h⟩
    case round =>
      clear h
      obtain ⟨s, r, hsi, hsr, hrr, rfl, rfl, h⟩ := hrel
      by_cases hlt : (s : Int) < (r : Int)
      · obtain ⟨c, hc⟩ : ∃ c : Nat, (s + r) / 2 = c := ⟨_, rfl⟩
        have hcc : ((s : Int) + (r : Int)) / 2 = (c : Int) := by omega
        have hc1 : s ≤ c := by omega
        have hc2 : c < r := by omega
        obtain ⟨e, he⟩ : ∃ e : Nat, pp - c = e := ⟨_, rfl⟩
        have hle : c ≤ pp ∧ e < n ∧ c < n := by have := HF.out; have := HSB.out; omega
        have hw5 : IntKind.i64.wrap ((c : Int) + 1) = ((c + 1 : Nat) : Int) := (IntWalk.i64_in _ ⟨by omega, by omega⟩).trans (by omega)
        have hw6 : IntKind.i64.wrap ((pp : Int) - (c : Int)) = ((e : Nat) : Int) := (IntWalk.i64_in _ ⟨by omega, by omega⟩).trans (by omega)
        have hle1 : e < n := hle.2.1
        have hle2 : c < n := hle.2.2
        clear hc he hle
        obtain ⟨rr, hrr2⟩ : ∃ rr, rr = r := ⟨_, rfl⟩
        subst hrr2
        obtain ⟨X, Y, hXY⟩ := h.two (i := e) (j := c) (by omega) (by omega)
        have HY := Lib.hid hXY
        have HPW := Lib.hid h
        obtain ⟨z, hr⟩ : ∃ z, Lib.compareInt X.valid Y.valid = z := ⟨_, rfl⟩
        have HC := Lib.hid (fun W => byValid_belP X Y W)
        rw [hr] at HC
        have hcp0 : (0 : Int) ≤ (e : Int) := by omega
        have hcp1 : (e : Int) < (n : Int) := by omega
        have hcq0 : (0 : Int) ≤ (c : Int) := by omega
        have hcq1 : (c : Int) < (n : Int) := by omega
        have kk : Below wr.heap.size wr wr.drew := (Below.refl _ _).drew
        obtain ⟨⟨x0, x1, x2, x3, x4⟩, y0, y1, y2, y3, y4⟩ := HY.out _ kk
        clear h hr hXY
        go_upto_region 35 with fail
        go_cut [171] (fun c wx => c = .bool (!decide (z < 0)) ∧ ∃ y, y = wx ∧ Below wr.heap.size wr y)
        case first =>
          go_region_held3 (fun X' => (X'.cell? ⟨g, e * 5, none⟩ = some (.int .i64 X.valid) ∧ X'.cell? ⟨g, e * 5 + 1, none⟩ = some (.string X.user) ∧ X'.cell? ⟨g, e * 5 + 2, none⟩ = some (.string X.name) ∧ X'.cell? ⟨g, e * 5 + 3, none⟩ = some (.int .i64 X.next) ∧ X'.cell? ⟨g, e * 5 + 4, none⟩ = some (.slice X.a X.n X.c)) ∧ (X'.cell? ⟨g, c * 5, none⟩ = some (.int .i64 Y.valid) ∧ X'.cell? ⟨g, c * 5 + 1, none⟩ = some (.string Y.user) ∧ X'.cell? ⟨g, c * 5 + 2, none⟩ = some (.string Y.name) ∧ X'.cell? ⟨g, c * 5 + 3, none⟩ = some (.int .i64 Y.next) ∧ X'.cell? ⟨g, c * 5 + 4, none⟩ = some (.slice Y.a Y.n Y.c)))
            (first | exact HY.out _ kk)
            (first | (go_at_call 39; refine (HC.out _).mono ?_; rintro e wX ⟨rfl, kX⟩; have kk := kk.trans (kX.mono kk.size)))
          all_goals
            go_wp2_with fail
            go_meet
            exact ⟨by first | rfl | simp, _, rfl, kk⟩
        case rest =>
        obtain ⟨rfl, w1, hwr, k1⟩ := hcut
        subst hwr
        clear x0 x1 x2 x3 x4 y0 y1 y2 y3 y4 kk HY HC hcp0 hcp1 hcq0 hcq1
        have h := HPW.out.later k1
        clear k1 HPW
        by_cases hlv : z < 0
        · rw [decide_eq_true hlv]
          clear hlv
          go_wp2
          exact ⟨⟨s, c, by omega, by omega, by omega, rfl, rfl, h⟩, by first | omega | (simp [intOf]; omega)⟩
        · rw [decide_eq_false hlv]
          clear hlv
          go_wp2
          exact ⟨⟨c + 1, rr, by omega, by omega, by omega, by first | rfl | (simp [hw5]) | simp, rfl, h⟩, by first | omega | (simp [intOf]; omega)⟩
      · obtain ⟨e, he⟩ : ∃ e : Nat, nn - s = e := ⟨_, rfl⟩
        have hle : s ≤ nn ∧ e ≤ b ∧ s ≤ mid ∧ s ≤ m := by have := HF.out; have := HSB.out; omega
        have hw6 : IntKind.i64.wrap ((nn : Int) - (s : Int)) = ((e : Nat) : Int) := (IntWalk.i64_in _ ⟨by omega, by omega⟩).trans (by omega)
        have HE := Lib.hid hle
        clear he hle
        by_cases c1a : (s : Int) < (m : Int)
        · by_cases c1b : (m : Int) < (e : Int)
          · go_wp2_with fail
            refine (HR.out _ s e h (by omega) (by omega) (by have := HE.out; omega)).mono ?_
            rintro e0 wA ⟨rfl, hA⟩
            by_cases c2a : (a : Int) < (s : Int)
            · by_cases c2b : (s : Int) < (mid : Int)
              · go_wp2_with fail
                refine (HIH.out _ a s mid (by have := HF.out; omega) (by omega) (by omega) (by have := HF.out; omega) hA).mono ?_
                rintro e0 wB ⟨rfl, hB⟩
                by_cases c3a : (mid : Int) < (e : Int)
                · by_cases c3b : (e : Int) < (b : Int)
                  · go_wp2_with fail
                    all_goals
                      refine (HIH.out _ mid e b (by have := HF.out; omega) (by omega) (by omega) hbn hB).mono ?_
                      rintro e0 wC ⟨rfl, hC⟩
                      go_wp2
                      all_goals
                        go_end0
                        exact ⟨rfl, hC⟩
                  · go_wp2
                    all_goals
                      go_end0
                      exact ⟨rfl, hB⟩
                · go_wp2
                  all_goals
                    go_end0
                    exact ⟨rfl, hB⟩
              · skip
                by_cases c3a : (mid : Int) < (e : Int)
                · by_cases c3b : (e : Int) < (b : Int)
                  · go_wp2_with fail
                    all_goals
                      refine (HIH.out _ mid e b (by have := HF.out; omega) (by omega) (by omega) hbn hA).mono ?_
                      rintro e0 wC ⟨rfl, hC⟩
                      go_wp2
                      all_goals
                        go_end0
                        exact ⟨rfl, hC⟩
                  · go_wp2
                    all_goals
                      go_end0
                      exact ⟨rfl, hA⟩
                · go_wp2
                  all_goals
                    go_end0
                    exact ⟨rfl, hA⟩
            · skip
              by_cases c3a : (mid : Int) < (e : Int)
              · by_cases c3b : (e : Int) < (b : Int)
                · go_wp2_with fail
                  all_goals
                    refine (HIH.out _ mid e b (by have := HF.out; omega) (by omega) (by omega) hbn hA).mono ?_
                    rintro e0 wC ⟨rfl, hC⟩
                    go_wp2
                    all_goals
                      go_end0
                      exact ⟨rfl, hC⟩
                · go_wp2
                  all_goals
                    go_end0
                    exact ⟨rfl, hA⟩
              · go_wp2
                all_goals
                  go_end0
                  exact ⟨rfl, hA⟩
          · clear HR
            by_cases c2a : (a : Int) < (s : Int)
            · by_cases c2b : (s : Int) < (mid : Int)
              · go_wp2_with fail
                refine (HIH.out _ a s mid (by have := HF.out; omega) (by omega) (by omega) (by have := HF.out; omega) h).mono ?_
                rintro e0 wB ⟨rfl, hB⟩
                by_cases c3a : (mid : Int) < (e : Int)
                · by_cases c3b : (e : Int) < (b : Int)
                  · go_wp2_with fail
                    all_goals
                      refine (HIH.out _ mid e b (by have := HF.out; omega) (by omega) (by omega) hbn hB).mono ?_
                      rintro e0 wC ⟨rfl, hC⟩
                      go_wp2
                      all_goals
                        go_end0
                        exact ⟨rfl, hC⟩
                  · go_wp2
                    all_goals
                      go_end0
                      exact ⟨rfl, hB⟩
                · go_wp2
                  all_goals
                    go_end0
                    exact ⟨rfl, hB⟩
              · skip
                by_cases c3a : (mid : Int) < (e : Int)
                · by_cases c3b : (e : Int) < (b : Int)
                  · go_wp2_with fail
                    all_goals
                      refine (HIH.out _ mid e b (by have := HF.out; omega) (by omega) (by omega) hbn h).mono ?_
                      rintro e0 wC ⟨rfl, hC⟩
                      go_wp2
                      all_goals
                        go_end0
                        exact ⟨rfl, hC⟩
                  · go_wp2
                    all_goals
                      go_end0
                      exact ⟨rfl, h⟩
                · go_wp2
                  all_goals
                    go_end0
                    exact ⟨rfl, h⟩
            · skip
              by_cases c3a : (mid : Int) < (e : Int)
              · by_cases c3b : (e : Int) < (b : Int)
                · go_wp2_with fail
                  all_goals
                    refine (HIH.out _ mid e b (by have := HF.out; omega) (by omega) (by omega) hbn h).mono ?_
                    rintro e0 wC ⟨rfl, hC⟩
                    go_wp2
                    all_goals
                      go_end0
                      exact ⟨rfl, hC⟩
                · go_wp2
                  all_goals
                    go_end0
                    exact ⟨rfl, h⟩
              · go_wp2
                all_goals
                  go_end0
                  exact ⟨rfl, h⟩
        · clear HR
          by_cases c2a : (a : Int) < (s : Int)
          · by_cases c2b : (s : Int) < (mid : Int)
            · go_wp2_with fail
              refine (HIH.out _ a s mid (by have := HF.out; omega) (by omega) (by omega) (by have := HF.out; omega) h).mono ?_
              rintro e0 wB ⟨rfl, hB⟩
              by_cases c3a : (mid : Int) < (e : Int)
              · by_cases c3b : (e : Int) < (b : Int)
                · go_wp2_with fail
                  all_goals
                    refine (HIH.out _ mid e b (by have := HF.out; omega) (by omega) (by omega) hbn hB).mono ?_
                    rintro e0 wC ⟨rfl, hC⟩
                    go_wp2
                    all_goals
                      go_end0
                      exact ⟨rfl, hC⟩
                · go_wp2
                  all_goals
                    go_end0
                    exact ⟨rfl, hB⟩
              · go_wp2
                all_goals
                  go_end0
                  exact ⟨rfl, hB⟩
            · skip
              by_cases c3a : (mid : Int) < (e : Int)
              · by_cases c3b : (e : Int) < (b : Int)
                · go_wp2_with fail
                  all_goals
                    refine (HIH.out _ mid e b (by have := HF.out; omega) (by omega) (by omega) hbn h).mono ?_
                    rintro e0 wC ⟨rfl, hC⟩
                    go_wp2
                    all_goals
                      go_end0
                      exact ⟨rfl, hC⟩
                · go_wp2
                  all_goals
                    go_end0
                    exact ⟨rfl, h⟩
              · go_wp2
                all_goals
                  go_end0
                  exact ⟨rfl, h⟩
          · skip
            by_cases c3a : (mid : Int) < (e : Int)
            · by_cases c3b : (e : Int) < (b : Int)
              · go_wp2_with fail
                all_goals
                  refine (HIH.out _ mid e b (by have := HF.out; omega) (by omega) (by omega) hbn h).mono ?_
                  rintro e0 wC ⟨rfl, hC⟩
                  go_wp2
                  all_goals
                    go_end0
                    exact ⟨rfl, hC⟩
              · go_wp2
                all_goals
                  go_end0
                  exact ⟨rfl, h⟩
            · go_wp2
              all_goals
                go_end0
                exact ⟨rfl, h⟩
  · have HSB : Hid (nn ≤ a + b ∧ m ≤ mid ∧ a ≤ m) := by have := HF.out; show _ ∧ _; omega
    have hws := trivial
    go_wp2
    go_loopw [20, 21] (fun sv rv wr => ∃ s r : Nat, a ≤ s ∧ s ≤ r ∧ r ≤ m ∧ sv = .int .i64 (s : Int) ∧ rv = .int .i64 (r : Int) ∧ PW B w0 wr g n cap hs) (fun sv rv _ => (intOf rv).toNat - (intOf sv).toNat)
    case atStart => exact ⟨a, m, by omega, by have := HSB.out; omega, by omega, by first | rfl | (simp [hws]), rfl, h⟩
    case round =>
      clear h
      obtain ⟨s, r, hsi, hsr, hrr, rfl, rfl, h⟩ := hrel
      by_cases hlt : (s : Int) < (r : Int)
      · obtain ⟨c, hc⟩ : ∃ c : Nat, (s + r) / 2 = c := ⟨_, rfl⟩
        have hcc : ((s : Int) + (r : Int)) / 2 = (c : Int) := by omega
        have hc1 : s ≤ c := by omega
        have hc2 : c < r := by omega
        obtain ⟨e, he⟩ : ∃ e : Nat, pp - c = e := ⟨_, rfl⟩
        have hle : c ≤ pp ∧ e < n ∧ c < n := by have := HF.out; have := HSB.out; omega
        have hw5 : IntKind.i64.wrap ((c : Int) + 1) = ((c + 1 : Nat) : Int) := (IntWalk.i64_in _ ⟨by omega, by omega⟩).trans (by omega)
        have hw6 : IntKind.i64.wrap ((pp : Int) - (c : Int)) = ((e : Nat) : Int) := (IntWalk.i64_in _ ⟨by omega, by omega⟩).trans (by omega)
        have hle1 : e < n := hle.2.1
        have hle2 : c < n := hle.2.2
        clear hc he hle
        obtain ⟨rr, hrr2⟩ : ∃ rr, rr = r := ⟨_, rfl⟩
        subst hrr2
        obtain ⟨X, Y, hXY⟩ := h.two (i := e) (j := c) (by omega) (by omega)
        have HY := Lib.hid hXY
        have HPW := Lib.hid h
        obtain ⟨z, hr⟩ : ∃ z, Lib.compareInt X.valid Y.valid = z := ⟨_, rfl⟩
        have HC := Lib.hid (fun W => byValid_belP X Y W)
        rw [hr] at HC
        have hcp0 : (0 : Int) ≤ (e : Int) := by omega
        have hcp1 : (e : Int) < (n : Int) := by omega
        have hcq0 : (0 : Int) ≤ (c : Int) := by omega
        have hcq1 : (c : Int) < (n : Int) := by omega
        have kk : Below wr.heap.size wr wr.drew := (Below.refl _ _).drew
        obtain ⟨⟨x0, x1, x2, x3, x4⟩, y0, y1, y2, y3, y4⟩ := HY.out _ kk
        clear h hr hXY
        go_upto_region 35 with fail
        go_cut [171] (fun c wx => c = .bool (!decide (z < 0)) ∧ ∃ y, y = wx ∧ Below wr.heap.size wr y)
        case first =>
          go_region_held3 (fun X' => (X'.cell? ⟨g, e * 5, none⟩ = some (.int .i64 X.valid) ∧ X'.cell? ⟨g, e * 5 + 1, none⟩ = some (.string X.user) ∧ X'.cell? ⟨g, e * 5 + 2, none⟩ = some (.string X.name) ∧ X'.cell? ⟨g, e * 5 + 3, none⟩ = some (.int .i64 X.next) ∧ X'.cell? ⟨g, e * 5 + 4, none⟩ = some (.slice X.a X.n X.c)) ∧ (X'.cell? ⟨g, c * 5, none⟩ = some (.int .i64 Y.valid) ∧ X'.cell? ⟨g, c * 5 + 1, none⟩ = some (.string Y.user) ∧ X'.cell? ⟨g, c * 5 + 2, none⟩ = some (.string Y.name) ∧ X'.cell? ⟨g, c * 5 + 3, none⟩ = some (.int .i64 Y.next) ∧ X'.cell? ⟨g, c * 5 + 4, none⟩ = some (.slice Y.a Y.n Y.c)))
            (first | exact HY.out _ kk)
            (first | (go_at_call 39; refine (HC.out _).mono ?_; rintro e wX ⟨rfl, kX⟩; have kk := kk.trans (kX.mono kk.size)))
          all_goals
            go_wp2_with fail
            go_meet
            exact ⟨by first | rfl | simp, _, rfl, kk⟩
        case rest =>
        obtain ⟨rfl, w1, hwr, k1⟩ := hcut
        subst hwr
        clear x0 x1 x2 x3 x4 y0 y1 y2 y3 y4 kk HY HC hcp0 hcp1 hcq0 hcq1
        have h := HPW.out.later k1
        clear k1 HPW
        by_cases hlv : z < 0
        · rw [decide_eq_true hlv]
          clear hlv
          go_wp2
          exact ⟨⟨s, c, by omega, by omega, by omega, rfl, rfl, h⟩, by first | omega | (simp [intOf]; omega)⟩
        · rw [decide_eq_false hlv]
          clear hlv
          go_wp2
          exact ⟨⟨c + 1, rr, by omega, by omega, by omega, by first | rfl | (simp [hw5]) | simp, rfl, h⟩, by first | omega | (simp [intOf]; omega)⟩
      · obtain ⟨e, he⟩ : ∃ e : Nat, nn - s = e := ⟨_, rfl⟩
        have hle : s ≤ nn ∧ e ≤ b ∧ s ≤ mid ∧ s ≤ m := by have := HF.out; have := HSB.out; omega
        have hw6 : IntKind.i64.wrap ((nn : Int) - (s : Int)) = ((e : Nat) : Int) := (IntWalk.i64_in _ ⟨by omega, by omega⟩).trans (by omega)
        have HE := Lib.hid hle
        clear he hle
        by_cases c1a : (s : Int) < (m : Int)
        · by_cases c1b : (m : Int) < (e : Int)
          · go_wp2_with fail
            refine (HR.out _ s e h (by omega) (by omega) (by have := HE.out; omega)).mono ?_
            rintro e0 wA ⟨rfl, hA⟩
            by_cases c2a : (a : Int) < (s : Int)
            · by_cases c2b : (s : Int) < (mid : Int)
              · go_wp2_with fail
                refine (HIH.out _ a s mid (by have := HF.out; omega) (by omega) (by omega) (by have := HF.out; omega) hA).mono ?_
                rintro e0 wB ⟨rfl, hB⟩
                by_cases c3a : (mid : Int) < (e : Int)
                · by_cases c3b : (e : Int) < (b : Int)
                  · go_wp2_with fail
                    all_goals
                      refine (HIH.out _ mid e b (by have := HF.out; omega) (by omega) (by omega) hbn hB).mono ?_
                      rintro e0 wC ⟨rfl, hC⟩
                      go_wp2
                      all_goals
                        go_end0
                        exact ⟨rfl, hC⟩
                  · go_wp2
                    all_goals
                      go_end0
                      exact ⟨rfl, hB⟩
                · go_wp2
                  all_goals
                    go_end0
                    exact ⟨rfl, hB⟩
              · skip
                by_cases c3a : (mid : Int) < (e : Int)
                · by_cases c3b : (e : Int) < (b : Int)
                  · go_wp2_with fail
                    all_goals
                      refine (HIH.out _ mid e b (by have := HF.out; omega) (by omega) (by omega) hbn hA).mono ?_
                      rintro e0 wC ⟨rfl, hC⟩
                      go_wp2
                      all_goals
                        go_end0
                        exact ⟨rfl, hC⟩
                  · go_wp2
                    all_goals
                      go_end0
                      exact ⟨rfl, hA⟩
                · go_wp2
                  all_goals
                    go_end0
                    exact ⟨rfl, hA⟩
            · skip
              by_cases c3a : (mid : Int) < (e : Int)
              · by_cases c3b : (e : Int) < (b : Int)
                · go_wp2_with fail
                  all_goals
                    refine (HIH.out _ mid e b (by have := HF.out; omega) (by omega) (by omega) hbn hA).mono ?_
                    rintro e0 wC ⟨rfl, hC⟩
                    go_wp2
                    all_goals
                      go_end0
                      exact ⟨rfl, hC⟩
                · go_wp2
                  all_goals
                    go_end0
                    exact ⟨rfl, hA⟩
              · go_wp2
                all_goals
                  go_end0
                  exact ⟨rfl, hA⟩
          · clear HR
            by_cases c2a : (a : Int) < (s : Int)
            · by_cases c2b : (s : Int) < (mid : Int)
              · go_wp2_with fail
                refine (HIH.out _ a s mid (by have := HF.out; omega) (by omega) (by omega) (by have := HF.out; omega) h).mono ?_
                rintro e0 wB ⟨rfl, hB⟩
                by_cases c3a : (mid : Int) < (e : Int)
                · by_cases c3b : (e : Int) < (b : Int)
                  · go_wp2_with fail
                    all_goals
                      refine (HIH.out _ mid e b (by have := HF.out; omega) (by omega) (by omega) hbn hB).mono ?_
                      rintro e0 wC ⟨rfl, hC⟩
                      go_wp2
                      all_goals
                        go_end0
                        exact ⟨rfl, hC⟩
                  · go_wp2
                    all_goals
                      go_end0
                      exact ⟨rfl, hB⟩
                · go_wp2
                  all_goals
                    go_end0
                    exact ⟨rfl, hB⟩
              · skip
                by_cases c3a : (mid : Int) < (e : Int)
                · by_cases c3b : (e : Int) < (b : Int)
                  · go_wp2_with fail
                    all_goals
                      refine (HIH.out _ mid e b (by have := HF.out; omega) (by omega) (by omega) hbn h).mono ?_
                      rintro e0 wC ⟨rfl, hC⟩
                      go_wp2
                      all_goals
                        go_end0
                        exact ⟨rfl, hC⟩
                  · go_wp2
                    all_goals
                      go_end0
                      exact ⟨rfl, h⟩
                · go_wp2
                  all_goals
                    go_end0
                    exact ⟨rfl, h⟩
            · skip
              by_cases c3a : (mid : Int) < (e : Int)
              · by_cases c3b : (e : Int) < (b : Int)
                · go_wp2_with fail
                  all_goals
                    refine (HIH.out _ mid e b (by have := HF.out; omega) (by omega) (by omega) hbn h).mono ?_
                    rintro e0 wC ⟨rfl, hC⟩
                    go_wp2
                    all_goals
                      go_end0
                      exact ⟨rfl, hC⟩
                · go_wp2
                  all_goals
                    go_end0
                    exact ⟨rfl, h⟩
              · go_wp2
                all_goals
                  go_end0
                  exact ⟨rfl, h⟩
        · clear HR
          by_cases c2a : (a : Int) < (s : Int)
          · by_cases c2b : (s : Int) < (mid : Int)
            · go_wp2_with fail
              refine (HIH.out _ a s mid (by have := HF.out; omega) (by omega) (by omega) (by have := HF.out; omega) h).mono ?_
              rintro e0 wB ⟨rfl, hB⟩
              by_cases c3a : (mid : Int) < (e : Int)
              · by_cases c3b : (e : Int) < (b : Int)
                · go_wp2_with fail
                  all_goals
                    refine (HIH.out _ mid e b (by have := HF.out; omega) (by omega) (by omega) hbn hB).mono ?_
                    rintro e0 wC ⟨rfl, hC⟩
                    go_wp2
                    all_goals
                      go_end0
                      exact ⟨rfl, hC⟩
                · go_wp2
                  all_goals
                    go_end0
                    exact ⟨rfl, hB⟩
              · go_wp2
                all_goals
                  go_end0
                  exact ⟨rfl, hB⟩
            · skip
              by_cases c3a : (mid : Int) < (e : Int)
              · by_cases c3b : (e : Int) < (b : Int)
                · go_wp2_with fail
                  all_goals
                    refine (HIH.out _ mid e b (by have := HF.out; omega) (by omega) (by omega) hbn h).mono ?_
                    rintro e0 wC ⟨rfl, hC⟩
                    go_wp2
                    all_goals
                      go_end0
                      exact ⟨rfl, hC⟩
                · go_wp2
                  all_goals
                    go_end0
                    exact ⟨rfl, h⟩
              · go_wp2
                all_goals
                  go_end0
                  exact ⟨rfl, h⟩
          · skip
            by_cases c3a : (mid : Int) < (e : Int)
            · by_cases c3b : (e : Int) < (b : Int)
              · go_wp2_with fail
                all_goals
                  refine (HIH.out _ mid e b (by have := HF.out; omega) (by omega) (by omega) hbn h).mono ?_
                  rintro e0 wC ⟨rfl, hC⟩
                  go_wp2
                  all_goals
                    go_end0
                    exact ⟨rfl, hC⟩
              · go_wp2
                all_goals
                  go_end0
                  exact ⟨rfl, h⟩
            · go_wp2
              all_goals
                go_end0
                exact ⟨rfl, h⟩

end Go.Proofs.Ytmbmbnjbeofmaaa

/- The library's stable sort of boxes, at whatever length: the same boxes stand in the row behind it. -/
namespace Go.Proofs.Ytmbmbnjbeofmaaa
open Go.RowKit Go.Sort

theorem merge_any (B : Nat) (w0 : World) (g n cap : Nat) (hs : List BxH) (hn : n ≤ 1048576) : ∀ (k : Nat) (w : World) (a m b : Nat), b - a ≤ k → a < m → m < b → b ≤ n → PW B w0 w g n cap hs →
    Calls Try.prog 51 #[.slice (some ⟨g, 0, none⟩) n cap, .int .i64 (a : Int), .int .i64 (m : Int), .int .i64 (b : Int), .func (.func 39) #[] #[]] w fun e w' => e = .returned (.tuple #[]) ∧ PW B w0 w' g n cap hs
  | 0, w, a, m, b, hk, h1, h2, _, _ => by omega
  | k + 1, w, a, m, b, hk, h1, h2, h3, h => by
    by_cases c1 : m = a + 1
    · exact merge1 B w0 w g n cap a m b hs h h1 h2 h3 hn c1
    · by_cases c2 : b = m + 1
      · exact merge2 B w0 w g n cap a m b hs h h1 h2 h3 hn c1 c2
      · exact merge3 B w0 w g n cap a m b hs h h1 h2 h3 hn c1 c2 (fun x a' m' b' q0 q1 q2 q3 q4 => merge_any B w0 g n cap hs hn k x a' m' b' (by omega) q1 q2 q3 q4)

set_option maxRecDepth 100000 in
set_option maxHeartbeats 8000000 in
theorem stable_any (B : Nat) (w0 w : World) (g n cap : Nat) (hs : List BxH) (h : PW B w0 w g n cap hs) (hn : n ≤ 1048576) :
    Calls Try.prog 46 #[.slice (some ⟨g, 0, none⟩) n cap, .int .i64 (n : Int), .func (.func 39) #[] #[]] w fun e w' => e = .returned (.tuple #[]) ∧ PW B w0 w' g n cap hs := by
  have HI := Lib.hid (fun x a b hx h1 h2 => insert_any B w0 x g n cap a b hs hx h1 h2 hn)
  have HM := Lib.hid (fun x a m b h1 h2 h3 hx => merge_any B w0 g n cap hs hn (b - a) x a m b (Nat.le_refl _) h1 h2 h3 hx)
  go_enter Try.func46, Try.ntmps46
  go_wp2
  go_loopw [7, 8] (fun av bv wr => ∃ a b : Nat, a ≤ n ∧ b = a + 20 ∧ av = .int .i64 (a : Int) ∧ bv = .int .i64 (b : Int) ∧ PW B w0 wr g n cap hs) (fun av _ _ => n + 20 - (intOf av).toNat)
  case atStart => exact ⟨0, 20, by omega, rfl, rfl, rfl, h⟩
  case round =>
    clear h
    obtain ⟨a, b, ha, hb, rfl, rfl, h⟩ := hrel
    have HB := Lib.hid hb
    clear hb
    by_cases hlt : (b : Int) ≤ (n : Int)
    · obtain ⟨c, hc⟩ : ∃ c : Nat, b + 20 = c := ⟨_, rfl⟩
      have hw1 : IntKind.i64.wrap ((b : Int) + 20) = ((c : Nat) : Int) := (IntWalk.i64_in _ ⟨by omega, by omega⟩).trans (by omega)
      have HCC := Lib.hid hc
      clear hc
      go_wp2_with fail
      refine (HI.out _ a b h (by have := HB.out; omega) (by omega)).mono ?_
      rintro e w1 ⟨rfl, h1⟩
      go_wp2
      exact ⟨⟨b, c, by omega, by have := HCC.out; omega, by first | rfl | simp, by first | rfl | (simp [hw1]) | simp, h1⟩, by have := HB.out; first | omega | (simp [intOf]; omega)⟩
    · go_wp2_with fail
      refine (HI.out _ a n h ha (Nat.le_refl _)).mono ?_
      rintro e w1 ⟨rfl, h1⟩
      clear h
      go_wp2
      go_loopw [6, 7, 8, 9] (fun sv _ _ _ wr => ∃ s : Nat, 20 ≤ s ∧ s ≤ 4194304 ∧ sv = .int .i64 (s : Int) ∧ PW B w0 wr g n cap hs) (fun sv _ _ _ _ => n - (intOf sv).toNat)
      case atStart => exact ⟨20, by omega, by omega, rfl, h1⟩
      case round =>
        clear h1 hlt ha HB
        obtain ⟨s, hs1, hs2, rfl, h⟩ := hrel
        by_cases hlt : (s : Int) < (n : Int)
        · obtain ⟨t, ht⟩ : ∃ t : Nat, 2 * s = t := ⟨_, rfl⟩
          have hw1 : IntKind.i64.wrap (2 * (s : Int)) = ((t : Nat) : Int) := (IntWalk.i64_in _ ⟨by omega, by omega⟩).trans (by omega)
          have hw2 : IntKind.i64.wrap ((s : Int) * 2) = ((t : Nat) : Int) := (IntWalk.i64_in _ ⟨by omega, by omega⟩).trans (by omega)
          have HT := Lib.hid ht
          clear ht
          go_wp2
          go_loopw [7, 8] (fun av bv wr => ∃ a b : Nat, a ≤ n ∧ b = a + t ∧ av = .int .i64 (a : Int) ∧ bv = .int .i64 (b : Int) ∧ PW B w0 wr g n cap hs) (fun av _ _ => n + 20 - (intOf av).toNat)
          case atStart => exact ⟨0, t, by omega, by omega, by first | rfl | simp, by first | rfl | (simp [hw1]) | simp, h⟩
          case round =>
            clear h
            obtain ⟨a, b, ha, hb, rfl, rfl, h⟩ := hrel
            have HB := Lib.hid hb
            clear hb
            obtain ⟨m, hm⟩ : ∃ m : Nat, a + s = m := ⟨_, rfl⟩
            have hw3 : IntKind.i64.wrap ((a : Int) + (s : Int)) = ((m : Nat) : Int) := (IntWalk.i64_in _ ⟨by omega, by omega⟩).trans (by omega)
            have HMM := Lib.hid hm
            clear hm
            by_cases hbn : (b : Int) ≤ (n : Int)
            · obtain ⟨c, hc⟩ : ∃ c : Nat, b + t = c := ⟨_, rfl⟩
              have htt : t ≤ 8388608 := by have := HT.out; omega
              have hw4 : IntKind.i64.wrap ((b : Int) + (t : Int)) = ((c : Nat) : Int) := (IntWalk.i64_in _ ⟨by omega, by omega⟩).trans (by omega)
              have HCC := Lib.hid hc
              clear hc
              go_wp2_with fail
              refine (HM.out _ a m b (by have := HMM.out; omega) (by have := HMM.out; have := HB.out; have := HT.out; omega) (by omega) h).mono ?_
              rintro e w2 ⟨rfl, h2⟩
              go_wp2
              exact ⟨⟨b, c, by omega, by have := HCC.out; omega, by first | rfl | simp, by first | rfl | (simp [hw4]) | simp, h2⟩, by have := HB.out; have := HT.out; first | omega | (simp [intOf]; omega)⟩
            · by_cases hmn : (m : Int) < (n : Int)
              · go_wp2_with fail
                refine (HM.out _ a m n (by have := HMM.out; omega) (by omega) (Nat.le_refl _) h).mono ?_
                rintro e w2 ⟨rfl, h2⟩
                go_wp2
                exact ⟨⟨t, by have := HT.out; omega, by have := HT.out; omega, by first | rfl | (simp [hw2]) | simp, h2⟩, by have := HT.out; first | omega | (simp [intOf]; omega)⟩
              · go_wp2
                exact ⟨⟨t, by have := HT.out; omega, by have := HT.out; omega, by first | rfl | (simp [hw2]) | simp, h⟩, by have := HT.out; first | omega | (simp [intOf]; omega)⟩
        · go_wp2
          go_end0
          exact ⟨rfl, h⟩

set_option maxRecDepth 100000 in
set_option maxHeartbeats 1000000 in
theorem insert_nil (w : World) : Calls Try.prog 50 #[.slice none 0 0, .int .i64 0, .int .i64 0, .func (.func 39) #[] #[]] w fun e w' => e = .returned (.tuple #[]) ∧ w' = w := by
  go_enter Try.func50, Try.ntmps50
  go_wp2
  go_loopw [8] (fun iv wr => iv = .int .i64 1 ∧ wr = w) (fun _ _ => 0)
  case atStart => exact ⟨rfl, rfl⟩
  case round =>
    obtain ⟨rfl, rfl⟩ := hrel
    go_wp2
    go_end0
    exact ⟨rfl, rfl⟩

set_option maxRecDepth 100000 in
set_option maxHeartbeats 1000000 in
theorem stable_nil (w : World) : Calls Try.prog 46 #[.slice none 0 0, .int .i64 0, .func (.func 39) #[] #[]] w fun e w' => e = .returned (.tuple #[]) ∧ w' = w := by
  go_enter Try.func46, Try.ntmps46
  go_wp2
  go_loopw [7, 8] (fun u v wr => u = .int .i64 0 ∧ v = .int .i64 20 ∧ wr = w) (fun _ _ _ => 0)
  case atStart => exact ⟨rfl, rfl, rfl⟩
  case round =>
    obtain ⟨rfl, rfl, rfl⟩ := hrel
    go_wp2_with fail
    refine (insert_nil _).mono ?_
    rintro e w1 ⟨rfl, rfl⟩
    obtain ⟨wA, hwA⟩ : ∃ wA, wA = w1 := ⟨_, rfl⟩
    go_wp2
    go_loopw [6] (fun v wr => v = .int .i64 20 ∧ wr = w1) (fun _ _ => 0)
    case atStart => exact ⟨rfl, rfl⟩
    case round =>
      obtain ⟨rfl, rfl⟩ := hrel
      go_wp2
      go_end0
      exact ⟨rfl, rfl⟩

set_option maxRecDepth 100000 in
set_option maxHeartbeats 4000000 in
/-- A list of boxes of the call's own, sorted: the same boxes. -/
theorem sortStable_perm (B : Nat) (w0 w : World) (v : Value) (hs : List BxH) (h : RBuf hdE B w0 w v hs) (hl : hs.length ≤ 1048576) :
    Calls Try.prog 38 #[v, .func (.func 39) #[] #[]] w fun e w' => e = .returned (.tuple #[]) ∧ ∃ l, l.Perm hs ∧ RBuf hdE B w0 w' v l := by
  rcases h.own.2 with ⟨rfl, h0⟩ | ⟨g, cap, cur, rfl, hg, hh, hnc, hcp, hcs, htake⟩
  · obtain rfl := List.length_eq_zero_iff.1 h0
    have HI := Lib.hid (stable_nil w)
    have HR := Lib.hid h
    clear h
    go_enter Try.func38, Try.ntmps38
    go_wp2_with fail
    refine HI.out.mono ?_
    rintro e w1 ⟨rfl, rfl⟩
    go_wp2
    go_end0
    exact ⟨rfl, [], List.Perm.refl _, HR.out⟩
  · have HI := Lib.hid (stable_any B w0 w g hs.length cap hs ⟨hs, List.Perm.refl _, rfl, h⟩ hl)
    clear h hh hcs htake hcp
    obtain ⟨n, hn⟩ : ∃ n, hs.length = n := ⟨_, rfl⟩
    rw [hn] at hl HI hnc ⊢
    clear hn
    go_enter Try.func38, Try.ntmps38
    go_wp2_with fail
    refine HI.out.mono ?_
    rintro e w1 ⟨rfl, l, h1, h2, h3⟩
    go_wp2
    go_end0
    exact ⟨rfl, l, h1, h3⟩

end Go.Proofs.Ytmbmbnjbeofmaaa

/- How numbers, texts and writes lie in memory. -/
namespace Go.Proofs.Ytmbmbnjbeofmaaa
open Go.RowKit

def strE : Enc ByteArray where
  ty := 9
  sty := 45
  sz := 1
  bytes := 16
  zero := .string ⟨#[]⟩
  f := fun s => [.string s]
  len := fun _ => rfl
  pos := by decide
  one := fun _ u hu => by simp at hu; subst hu; rfl
  und := Try.underlying45
  info := by kernel_rfl
  zc := rfl
  z0 := ⟨#[]⟩
  zf := rfl


/-- A write: where, and what. -/
structure Wr where
  at_ : Int
  text : ByteArray



end Go.Proofs.Ytmbmbnjbeofmaaa
