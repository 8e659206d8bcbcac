/- Disks: what the program's DiskOk hands back. -/
import Derived.Test.YtmmgnpjhlmiafabSpecDisk
import Derived.Test.YtmmgnpjhlmiafabSector
import Derived.Deep.RegionHeld3
import Derived.Deep.QuietTactic
import Derived.BigQuiet
namespace Go.Proofs.Ytmmgnpjhlmiafab
open Go.RowKit

set_option maxRecDepth 100000 in
set_option maxHeartbeats 2000000 in
theorem implDiskOk_any (d : Dk) (v : Value) (w : World) (h : DRd w v d) (hs : d.small) :
    Calls Try.prog 13 #[v] w fun e w' => e = .returned (.bool (decide d.ok)) ∧ Below w.heap.size w w' := by
  obtain ⟨va, vb, rfl, ha, hb⟩ := h
  obtain ⟨s1, s2⟩ := hs
  have b0 : Below w.heap.size w (w.alloc (.cells #[va, vb] 27)) := (Below.refl _ _).alloc (Nat.le_refl _) _
  have hx := Box.new w #[va, vb] 27
  obtain ⟨aa, ca, rfl⟩ : ∃ (a : Option Addr) (c : Nat), va = .slice a d.sec.length c := by
    rcases ha with ⟨e, a, c, rfl⟩ | ⟨g, c, rfl, _⟩
    · exact ⟨a, c, by rw [e]; rfl⟩
    · exact ⟨_, c, rfl⟩
  obtain ⟨ab, cb, rfl⟩ : ∃ (a : Option Addr) (c : Nat), vb = .slice a d.cache.length c := by
    rcases hb with ⟨e, a, c, rfl⟩ | ⟨g, o, c, rfl, _⟩
    · exact ⟨a, c, by rw [e]; rfl⟩
    · exact ⟨_, c, rfl⟩
  have c0 := hx.cell 0 (.slice aa d.sec.length ca) rfl
  have c1 := hx.cell 1 (.slice ab d.cache.length cb) rfl
  by_cases hin : 1 ≤ d.sec.length ∧ d.sec.length ≤ 100
  · by_cases hc : d.cache.length ≤ 60
    · have HA := Lib.hid (ha.later b0)
      have HB := Lib.hid (hb.later b0)
      clear ha hb
      go_enter Try.func13, Try.ntmps13
      go_wp2
      generalize w.alloc (.cells #[.slice aa d.sec.length ca, .slice ab d.cache.length cb] 27) = W at *
      go_loopw [26] (fun iv wr => ∃ i : Nat, i ≤ d.sec.length ∧ iv = .int .i64 (i : Int) ∧ (∀ s ∈ d.sec.take i, s.size = 32) ∧ Below W.heap.size W wr) (fun iv _ => d.sec.length - (intOf iv).toNat)
      case atStart => exact ⟨0, by omega, rfl, by simp, Below.refl _ _⟩
      case round =>
        obtain ⟨i, hi, rfl, hall, hbr⟩ := hrel
        have br : Below w.heap.size w wr := b0.trans (hbr.mono b0.size)
        by_cases hlt : i < d.sec.length
        · have HL := Lib.hid hall
          have HM := Lib.hid (List.getElem_mem hlt)
          have htk := Lib.hid (List.take_succ_eq_append_getElem hlt)
          obtain ⟨g, rfl, hcs⟩ := (HA.out.later hbr).at i hlt
          have hi0 : (0 : Int) ≤ (i : Int) := by omega
          have hi1 : (i : Int) < (d.sec.length : Int) := by omega
          clear hall
          generalize d.sec[i] = t at *
          by_cases h32 : t.size = 32
          · go_wp2_with (go_at_call 28; refine (sectorOk_any _ _).mono ?_; rintro e w1 ⟨rfl, k1⟩; rw [decide_eq_true h32])
            go_roundw
            case rel => exact ⟨i + 1, by omega, by go_num, by
              rw [htk.out]
              intro x hx
              rcases List.mem_append.1 hx with h | h
              · exact HL.out x h
              · simp at h; rw [h]; exact h32, hbr.trans (k1.mono hbr.size)⟩
            case measure => simp [intOf]; omega
          · have HNO := Lib.hid (show decide d.ok = false from decide_eq_false (fun h => h32 (h.2.2.2.1 t HM.out)))
            go_wp2_with (go_at_call 28; refine (sectorOk_any _ _).mono ?_; rintro e w1 ⟨rfl, k1⟩; rw [decide_eq_false h32])
            go_ret
            exact ⟨by rw [HNO.out]; rfl, br.trans (k1.mono br.size)⟩
        · have hall' : ∀ s ∈ d.sec, s.size = 32 := by rw [List.take_of_length_le (by omega)] at hall; exact hall
          have HALL := Lib.hid hall'
          have e1 := (hbr.cell (p := ⟨w.heap.size, 1, none⟩) hx.lt).trans c1
          clear hall hall'
          have HB2 := Lib.hid (HB.out.later hbr)
          go_wp2
          obtain ⟨wa, hwa⟩ : ∃ wa, wa = wr := ⟨_, rfl⟩
          subst hwa
          go_loopw [37] (fun iv wx => ∃ j : Nat, j ≤ d.cache.length ∧ iv = .int .i64 (j : Int) ∧ (∀ x ∈ d.cache.take j, 0 ≤ x.at_ ∧ x.at_ < d.sec.length ∧ x.text.size = 32) ∧ Below wa.heap.size wa wx) (fun iv _ => d.cache.length - (intOf iv).toNat)
          case atStart => exact ⟨0, by omega, rfl, by simp, Below.refl _ _⟩
          case round =>
            obtain ⟨j, hj, rfl, hall, hbx⟩ := hrel
            have bx : Below w.heap.size w wr := br.trans (hbx.mono br.size)
            by_cases hlt2 : j < d.cache.length
            · have HL := Lib.hid hall
              have HM := Lib.hid (List.getElem_mem hlt2)
              have htk := Lib.hid (List.take_succ_eq_append_getElem hlt2)
              obtain ⟨g, off, rfl, hcl⟩ := HB2.out.at j hlt2
              have d0 : wr.cell? ⟨g, off + j * 2, none⟩ = some (.int .i64 d.cache[j].at_) := hcl wr hbx 0 _ rfl
              have d1 : wr.cell? ⟨g, off + j * 2 + 1, none⟩ = some (.string d.cache[j].text) := hcl wr hbx 1 _ rfl
              clear hall hcl e1 c0 c1
              generalize d.cache[j] = x at *
              obtain ⟨n, t⟩ := x
              simp only at d0 d1
              have hj0 : (0 : Int) ≤ (j : Int) := by omega
              have hj1 : (j : Int) < (d.cache.length : Int) := by omega
              have bA : Below wr.heap.size wr (wr.alloc (.cells #[.int .i64 n, .string t] 49)) := (Below.refl _ _).alloc (Nat.le_refl _) _
              by_cases hat : 0 ≤ n ∧ n < (d.sec.length : Int) ∧ t.size = 32
              · go_wp2_with (go_at_call 29; refine (okAmong_any ⟨n, t⟩ _ _).mono ?_; rintro e w1 ⟨rfl, k1⟩; rw [decide_eq_true hat])
                have k2 := bA.trans (k1.mono bA.size)
                go_roundw
                case rel => exact ⟨j + 1, by omega, by go_num, by
                  rw [htk.out]
                  intro x hx
                  rcases List.mem_append.1 hx with h | h
                  · exact HL.out x h
                  · simp at h; rw [h]; exact hat, hbx.trans (k2.mono hbx.size)⟩
                case measure => simp [intOf]; omega
              · have HNO := Lib.hid (show decide d.ok = false from decide_eq_false (fun h => hat (h.2.2.2.2 _ HM.out)))
                go_wp2_with (go_at_call 29; refine (okAmong_any ⟨n, t⟩ _ _).mono ?_; rintro e w1 ⟨rfl, k1⟩; rw [decide_eq_false hat])
                have k2 := bA.trans (k1.mono bA.size)
                go_ret
                exact ⟨by rw [HNO.out]; rfl, bx.trans (k2.mono bx.size)⟩
            · have hyes : decide d.ok = true := decide_eq_true ⟨hin.1, hin.2, hc, HALL.out, by rw [List.take_of_length_le (by omega)] at hall; exact hall⟩
              have HY := Lib.hid hyes
              clear hall hyes
              go_wp2
              go_ret
              exact ⟨by rw [HY.out]; rfl, bx⟩
    · have hno : decide d.ok = false := decide_eq_false (fun h => hc h.2.2.1)
      rw [hno]
      go_enter Try.func13, Try.ntmps13
      go_wp2
      go_ret
      exact ⟨rfl, b0⟩
  · have hno : decide d.ok = false := decide_eq_false (fun h => hin ⟨h.1, h.2.1⟩)
    rw [hno]
    go_enter Try.func13, Try.ntmps13
    go_wp2
    all_goals
      go_ret
      exact ⟨rfl, b0⟩

end Go.Proofs.Ytmmgnpjhlmiafab
