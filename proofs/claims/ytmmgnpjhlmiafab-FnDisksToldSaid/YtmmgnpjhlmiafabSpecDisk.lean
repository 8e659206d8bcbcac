/- Disks: what the model's functions hand back. -/
import Derived.Test.YtmmgnpjhlmiafabPlainDisk
import Derived.Deep.RegionHeld3
import Derived.Deep.QuietTactic
import Derived.BigQuiet
namespace Go.Proofs.Ytmmgnpjhlmiafab
open Go.RowKit

theorem in_yes (n lo hi : Int) (w : World) (h1 : lo ≤ n) (h2 : n ≤ hi) :
    Calls Try.prog 23 #[.int .i64 n, .int .i64 lo, .int .i64 hi] w fun e w' => e = .returned (.bool true) ∧ w = w' := by
  have g2 : decide (n ≤ hi) = true := decide_eq_true h2
  go_enter Try.func23, Try.ntmps23
  go_wp2
  go_ret
  exact ⟨rfl, rfl⟩

theorem in_no (n lo hi : Int) (w : World) (h : ¬ (lo ≤ n ∧ n ≤ hi)) :
    Calls Try.prog 23 #[.int .i64 n, .int .i64 lo, .int .i64 hi] w fun e w' => e = .returned (.bool false) ∧ w = w' := by
  by_cases h1 : lo ≤ n
  · have g2 : decide (n ≤ hi) = false := decide_eq_false (fun h2 => h ⟨h1, h2⟩)
    go_enter Try.func23, Try.ntmps23
    go_wp2
    go_ret
    exact ⟨rfl, rfl⟩
  · go_enter Try.func23, Try.ntmps23
    go_wp2
    go_ret
    exact ⟨rfl, rfl⟩

theorem in_yes_q (n lo hi : Int) (w : World) (h1 : lo ≤ n) (h2 : n ≤ hi) :
    Calls Try.prog 23 #[.int .i64 n, .int .i64 lo, .int .i64 hi] w fun e w' => e = .returned (.bool true) ∧ w' = w :=
  (in_yes n lo hi w h1 h2).mono fun _ _ h => ⟨h.1, h.2.symm⟩
theorem in_no_q (n lo hi : Int) (w : World) (h : ¬ (lo ≤ n ∧ n ≤ hi)) :
    Calls Try.prog 23 #[.int .i64 n, .int .i64 lo, .int .i64 hi] w fun e w' => e = .returned (.bool false) ∧ w' = w :=
  (in_no n lo hi w h).mono fun _ _ h => ⟨h.1, h.2.symm⟩

set_option maxRecDepth 100000 in
set_option maxHeartbeats 2000000 in
theorem specDiskOk_any (d : Dk) (v : Value) (w : World) (h : DRd w v d) (hs : d.small) (ht : ∀ s ∈ d.sec, s.size ≤ 1099511627776) (hu : ∀ x ∈ d.cache, x.text.size ≤ 1099511627776) :
    Calls Try.prog 14 #[v] w fun e w' => e = .returned (.bool (decide d.ok)) ∧ Below w.heap.size w w' := by
  obtain ⟨va, vb, rfl, ha, hb⟩ := h
  obtain ⟨s1, s2⟩ := hs
  have b0 : Below w.heap.size w (w.alloc (.cells #[va, vb] 27)) := (Below.refl _ _).alloc (Nat.le_refl _) _
  have hx := Box.new w #[va, vb] 27
  obtain ⟨aa, ca, rfl⟩ : ∃ (a : Option Addr) (c : Nat), va = .slice a d.sec.length c := by
    rcases ha with ⟨e, a, c, rfl⟩ | ⟨g, c, rfl, _⟩
    · exact ⟨a, c, by rw [e]; rfl⟩
    · exact ⟨_, c, rfl⟩
  obtain ⟨ab, cb, rfl⟩ : ∃ (a : Option Addr) (c : Nat), vb = .slice a d.cache.length c := by
    rcases hb with ⟨e, a, c, rfl⟩ | ⟨g, o, c, rfl, _⟩
    · exact ⟨a, c, by rw [e]; rfl⟩
    · exact ⟨_, c, rfl⟩
  have c0 := hx.cell 0 (.slice aa d.sec.length ca) rfl
  have c1 := hx.cell 1 (.slice ab d.cache.length cb) rfl
  by_cases hin : 1 ≤ d.sec.length ∧ d.sec.length ≤ 100
  · by_cases hc : d.cache.length ≤ 60
    · have HA := Lib.hid (ha.later b0)
      have HB := Lib.hid (hb.later b0)
      clear ha hb
      go_enter Try.func14, Try.ntmps14
      go_wp2_with (go_at_call 23; refine (in_yes _ _ _ _ (by omega) (by omega)).mono ?_; rintro e w1 ⟨rfl, rfl⟩)
      generalize w.alloc (.cells #[.slice aa d.sec.length ca, .slice ab d.cache.length cb] 27) = W at *
      go_loopw [3] (fun iv wr => ∃ i : Nat, i ≤ d.sec.length ∧ iv = .int .i64 (i : Int) ∧ (∀ s ∈ d.sec.take i, s.size = 32) ∧ wr = W) (fun iv _ => d.sec.length - (intOf iv).toNat)
      case atStart => exact ⟨0, by omega, rfl, by simp, rfl⟩
      case round =>
        obtain ⟨i, hi, rfl, hall, hw⟩ := hrel
        have hw' := hw.symm
        clear hw
        subst hw'
        by_cases hlt : i < d.sec.length
        · have HL := Lib.hid hall
          have hz := Lib.hid (ht _ (List.getElem_mem hlt))
          have HM := Lib.hid (List.getElem_mem hlt)
          have htk := Lib.hid (List.take_succ_eq_append_getElem hlt)
          obtain ⟨g, rfl, hcs⟩ : ∃ g : Nat, aa = some ⟨g, 0, none⟩ ∧ W.cell? ⟨g, i, none⟩ = some (.string d.sec[i]) := by
            rcases HA.out with ⟨e, _⟩ | ⟨g, c, hv, _, _, hcl⟩
            · rw [e] at hlt; simp at hlt
            · simp only [Value.slice.injEq] at hv
              exact ⟨g, hv.1, hcl i _ (List.getElem?_eq_getElem hlt)⟩
          clear hall ht hu
          generalize d.sec[i] = t at *
          have hz2 := hz.out
          by_cases h32 : t.size = 32
          · go_wp2
            go_roundw
            case rel => exact ⟨i + 1, by omega, by go_num, by
              rw [htk.out]
              intro x hx
              rcases List.mem_append.1 hx with h | h
              · exact HL.out x h
              · simp at h; rw [h]; exact h32, trivial⟩
            case measure => simp [intOf]; omega
          · have HNO := Lib.hid (show decide d.ok = false from decide_eq_false (fun h => h32 (h.2.2.2.1 t HM.out)))
            go_wp2
            go_ret
            exact ⟨by rw [HNO.out]; rfl, b0⟩
        · have hall' : ∀ s ∈ d.sec, s.size = 32 := by rw [List.take_of_length_le (by omega)] at hall; exact hall
          have HALL := Lib.hid hall'
          clear hall hall' ht
          go_wp2
          go_loopw [4] (fun iv wx => ∃ j : Nat, j ≤ d.cache.length ∧ iv = .int .i64 (j : Int) ∧ (∀ x ∈ d.cache.take j, 0 ≤ x.at_ ∧ x.at_ < d.sec.length ∧ x.text.size = 32) ∧ Below W.heap.size W wx) (fun iv _ => d.cache.length - (intOf iv).toNat)
          case atStart => exact ⟨0, by omega, rfl, by simp, Below.refl _ _⟩
          case round =>
            obtain ⟨j, hj, rfl, hall, hbx⟩ := hrel
            have bx : Below w.heap.size w wr := b0.trans (hbx.mono b0.size)
            have e0 := (hbx.cell (p := ⟨w.heap.size, 0, none⟩) hx.lt).trans c0
            have e1 := (hbx.cell (p := ⟨w.heap.size, 1, none⟩) hx.lt).trans c1
            clear c0 c1
            by_cases hlt2 : j < d.cache.length
            · have HL := Lib.hid hall
              have hz := Lib.hid (hu _ (List.getElem_mem hlt2))
              have HM := Lib.hid (List.getElem_mem hlt2)
              have htk := Lib.hid (List.take_succ_eq_append_getElem hlt2)
              obtain ⟨g, off, rfl, hcl⟩ := HB.out.at j hlt2
              have d0 : wr.cell? ⟨g, off + j * 2, none⟩ = some (.int .i64 d.cache[j].at_) := hcl wr hbx 0 _ rfl
              have d1 : wr.cell? ⟨g, off + j * 2 + 1, none⟩ = some (.string d.cache[j].text) := hcl wr hbx 1 _ rfl
              clear hall hu hcl
              generalize d.cache[j] = x at *
              obtain ⟨n, t⟩ := x
              simp only at d0 d1
              have hz2 := hz.out
              simp only at hz2
              have hj0 : (0 : Int) ≤ (j : Int) := by omega
              have hj1 : (j : Int) < (d.cache.length : Int) := by omega
              have hw1 : IntKind.i64.wrap ((d.sec.length : Int) - 1) = (d.sec.length : Int) - 1 := IntWalk.i64_in _ ⟨by omega, by omega⟩
              by_cases hat : 0 ≤ n ∧ n < d.sec.length
              · by_cases h32 : t.size = 32
                · have g1 : ((t.size : Int) != 32) = false := by rw [h32]; rfl
                  go_wp2
                  go_quiet (first | (go_at_call 23; exact Calls.quiet_of_same (in_yes_q _ _ _ _ (by omega) (by omega))))
                  go_wp2
                  go_roundw
                  case rel => exact ⟨j + 1, by omega, by go_num, by
                    rw [htk.out]
                    intro x hx
                    rcases List.mem_append.1 hx with h | h
                    · exact HL.out x h
                    · simp at h; rw [h]; exact ⟨hat.1, hat.2, h32⟩, hbx.trans ⟨rfl, rfl, rfl, Nat.le_refl _, fun _ _ => rfl⟩⟩
                  case measure => simp [intOf]; omega
                · have g1 : ((t.size : Int) != 32) = true := by simp; omega
                  have HNO := Lib.hid (show decide d.ok = false from decide_eq_false (fun h => h32 (h.2.2.2.2 _ HM.out).2.2))
                  go_wp2
                  go_quiet (first | (go_at_call 23; exact Calls.quiet_of_same (in_yes_q _ _ _ _ (by omega) (by omega))))
                  go_wp2
                  go_ret
                  exact ⟨by rw [HNO.out]; rfl, bx.trans ⟨rfl, rfl, rfl, Nat.le_refl _, fun _ _ => rfl⟩⟩
              · have HNO := Lib.hid (show decide d.ok = false from decide_eq_false (fun h => hat ⟨(h.2.2.2.2 _ HM.out).1, (h.2.2.2.2 _ HM.out).2.1⟩))
                go_wp2
                go_quiet (first | (go_at_call 23; exact Calls.quiet_of_same (in_no_q _ _ _ _ (by omega))))
                go_wp2
                go_ret
                exact ⟨by rw [HNO.out]; rfl, bx.trans ⟨rfl, rfl, rfl, Nat.le_refl _, fun _ _ => rfl⟩⟩
            · have hyes : decide d.ok = true := decide_eq_true ⟨hin.1, hin.2, hc, HALL.out, by rw [List.take_of_length_le (by omega)] at hall; exact hall⟩
              have HY := Lib.hid hyes
              clear hall hyes
              go_wp2
              go_ret
              exact ⟨by rw [HY.out]; rfl, bx⟩
    · have hno : decide d.ok = false := decide_eq_false (fun h => hc h.2.2.1)
      go_enter Try.func14, Try.ntmps14
      go_wp2_with (go_at_call 23; refine (in_yes _ _ _ _ (by omega) (by omega)).mono ?_; rintro e w1 ⟨rfl, rfl⟩)
      go_ret
      exact ⟨by rw [hno]; rfl, b0⟩
  · have hno : decide d.ok = false := decide_eq_false (fun h => hin ⟨h.1, h.2.1⟩)
    go_enter Try.func14, Try.ntmps14
    go_wp2_with (go_at_call 23; refine (in_no _ _ _ _ (by omega)).mono ?_; rintro e w1 ⟨rfl, rfl⟩)
    go_ret
    exact ⟨by rw [hno]; rfl, b0⟩

/-- The forms of a disk's two slices. -/
theorem DRd.form {w : World} {v : Value} {d : Dk} (h : DRd w v d) : ∃ (aa ab : Option Addr) (ca cb : Nat), v = .agg #[.slice aa d.sec.length ca, .slice ab d.cache.length cb] ∧ Strs w (.slice aa d.sec.length ca) d.sec ∧ Rows' wrE w (.slice ab d.cache.length cb) d.cache := by
  obtain ⟨va, vb, rfl, ha, hb⟩ := h
  obtain ⟨aa, ca, rfl⟩ : ∃ (a : Option Addr) (c : Nat), va = .slice a d.sec.length c := by
    rcases ha with ⟨e, a, c, rfl⟩ | ⟨g, c, rfl, _⟩
    · exact ⟨a, c, by rw [e]; rfl⟩
    · exact ⟨_, c, rfl⟩
  obtain ⟨ab, cb, rfl⟩ : ∃ (a : Option Addr) (c : Nat), vb = .slice a d.cache.length c := by
    rcases hb with ⟨e, a, c, rfl⟩ | ⟨g, o, c, rfl, _⟩
    · exact ⟨a, c, by rw [e]; rfl⟩
    · exact ⟨_, c, rfl⟩
  exact ⟨aa, ab, ca, cb, rfl, ha, hb⟩

theorem Strs.at {w : World} {a : Option Addr} {cap : Nat} {l : List ByteArray} (h : Strs w (.slice a l.length cap) l) (i : Nat) (hi : i < l.length) : ∃ g : Nat, a = some ⟨g, 0, none⟩ ∧ w.cell? ⟨g, i, none⟩ = some (.string l[i]) := by
  rcases h with ⟨e, _⟩ | ⟨g, c, hv, _, _, hcl⟩
  · rw [e] at hi; simp at hi
  · simp only [Value.slice.injEq] at hv
    exact ⟨g, hv.1, hcl i _ (List.getElem?_eq_getElem hi)⟩

set_option maxRecDepth 100000 in
set_option maxHeartbeats 2000000 in
theorem specReadSector_any (d : Dk) (v : Value) (a : Int) (w : World) (h : DRd w v d) (hs : d.small) :
    Calls Try.prog 8 #[v, .int .i64 a] w fun e w' => e = .returned (rdT d a) ∧ Below w.heap.size w w' := by
  obtain ⟨aa, ab, ca, cb, rfl, ha, hb⟩ := h.form
  obtain ⟨s1, s2⟩ := hs
  have b0 : Below w.heap.size w (w.alloc (.cells #[.slice aa d.sec.length ca, .slice ab d.cache.length cb] 27)) := (Below.refl _ _).alloc (Nat.le_refl _) _
  have hx := Box.new w #[.slice aa d.sec.length ca, .slice ab d.cache.length cb] 27
  have c0 := hx.cell 0 (.slice aa d.sec.length ca) rfl
  have c1 := hx.cell 1 (.slice ab d.cache.length cb) rfl
  by_cases hin : 0 ≤ a ∧ a < d.sec.length
  · have HA := Lib.hid (ha.later b0)
    have HB := Lib.hid (hb.later b0)
    clear ha hb h hx
    go_enter Try.func8, Try.ntmps8
    go_wp2_with (go_at_call 23; refine (in_yes _ _ _ _ (by omega) (by omega)).mono ?_; rintro e w1 ⟨rfl, rfl⟩)
    generalize w.alloc (.cells #[.slice aa d.sec.length ca, .slice ab d.cache.length cb] 27) = W at *
    go_loopw [6] (fun iv wr => ∃ j : Nat, j ≤ d.cache.length ∧ iv = .int .i64 ((j : Int) - 1) ∧ lastAt d.cache a = lastAt (d.cache.take j) a ∧ wr = W) (fun iv _ => (intOf iv + 1).toNat)
    case atStart => exact ⟨d.cache.length, by omega, rfl, by rw [List.take_length], rfl⟩
    case round =>
      obtain ⟨j, hj, rfl, hla, hw⟩ := hrel
      have hw' := hw.symm
      clear hw
      subst hw'
      by_cases hj0 : j = 0
      · subst hj0
        have hnone : lastAt d.cache a = none := by rw [hla]; rfl
        obtain ⟨k, rfl⟩ := Int.eq_ofNat_of_zero_le hin.1
        have hk : k < d.sec.length := by omega
        obtain ⟨g, rfl, hcs⟩ := HA.out.at k hk
        have HZ := Lib.hid (rdT_sec hk hnone)
        have hk1 : (k : Int) < (d.sec.length : Int) := by omega
        clear hla hnone
        generalize d.sec[k] = t at *
        go_wp2
        go_ret2
        exact ⟨by rw [HZ.out]; rfl, b0⟩
      · obtain ⟨i, rfl⟩ : ∃ i, j = i + 1 := ⟨j - 1, by omega⟩
        have hi : i < d.cache.length := by omega
        obtain ⟨g, off, rfl, hcl⟩ := HB.out.at i hi
        have d0 : W.cell? ⟨g, off + i * 2, none⟩ = some (.int .i64 d.cache[i].at_) := hcl W (Below.refl _ _) 0 _ rfl
        have d1 : W.cell? ⟨g, off + i * 2 + 1, none⟩ = some (.string d.cache[i].text) := hcl W (Below.refl _ _) 1 _ rfl
        rw [lastAt_take hi] at hla
        clear hcl
        generalize d.cache[i] = x at *
        obtain ⟨n, t⟩ := x
        simp only at d0 d1 hla
        have hii : (((i + 1 : Nat) : Int) - 1) = (i : Int) := by omega
        rw [hii]
        have hi0 : (0 : Int) ≤ (i : Int) := by omega
        have hi1 : (i : Int) < (d.cache.length : Int) := by omega
        by_cases hna : n = a
        · rw [if_pos hna] at hla
          have HZ := Lib.hid (rdT_last hin hla)
          clear hla
          subst hna
          go_wp2
          go_ret2
          exact ⟨by rw [HZ.out]; rfl, b0⟩
        · rw [if_neg hna] at hla
          have HL := Lib.hid hla
          clear hla
          go_wp2
          go_roundw
          case rel => exact ⟨i, by omega, rfl, HL.out, trivial⟩
          case measure => simp [intOf]
  · have HZ := Lib.hid (rdT_no hin)
    clear ha hb h hx
    go_enter Try.func8, Try.ntmps8
    go_wp2_with (go_at_call 23; refine (in_no _ _ _ _ (by omega)).mono ?_; rintro e w1 ⟨rfl, rfl⟩)
    go_ret2
    exact ⟨by rw [HZ.out]; rfl, b0⟩

end Go.Proofs.Ytmmgnpjhlmiafab
