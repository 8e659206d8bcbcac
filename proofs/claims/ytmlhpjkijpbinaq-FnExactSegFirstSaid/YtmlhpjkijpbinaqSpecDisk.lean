/- Disks: what the model's functions hand back. -/
import Derived.Test.YtmlhpjkijpbinaqPlainDisk
import Derived.Deep.RegionHeld3
import Derived.Deep.QuietTactic
import Derived.BigQuiet
namespace Go.Proofs.Ytmlhpjkijpbinaq
open Go.RowKit

theorem in_yes (n lo hi : Int) (w : World) (h1 : lo ≤ n) (h2 : n ≤ hi) :
    Calls Try.prog 12 #[.int .i64 n, .int .i64 lo, .int .i64 hi] w fun e w' => e = .returned (.bool true) ∧ w = w' := by
  have g2 : decide (n ≤ hi) = true := decide_eq_true h2
  go_enter Try.func12, Try.ntmps12
  go_wp2
  go_ret
  exact ⟨rfl, rfl⟩

theorem in_no (n lo hi : Int) (w : World) (h : ¬ (lo ≤ n ∧ n ≤ hi)) :
    Calls Try.prog 12 #[.int .i64 n, .int .i64 lo, .int .i64 hi] w fun e w' => e = .returned (.bool false) ∧ w = w' := by
  by_cases h1 : lo ≤ n
  · have g2 : decide (n ≤ hi) = false := decide_eq_false (fun h2 => h ⟨h1, h2⟩)
    go_enter Try.func12, Try.ntmps12
    go_wp2
    go_ret
    exact ⟨rfl, rfl⟩
  · go_enter Try.func12, Try.ntmps12
    go_wp2
    go_ret
    exact ⟨rfl, rfl⟩

theorem in_yes_q (n lo hi : Int) (w : World) (h1 : lo ≤ n) (h2 : n ≤ hi) :
    Calls Try.prog 12 #[.int .i64 n, .int .i64 lo, .int .i64 hi] w fun e w' => e = .returned (.bool true) ∧ w' = w :=
  (in_yes n lo hi w h1 h2).mono fun _ _ h => ⟨h.1, h.2.symm⟩
theorem in_no_q (n lo hi : Int) (w : World) (h : ¬ (lo ≤ n ∧ n ≤ hi)) :
    Calls Try.prog 12 #[.int .i64 n, .int .i64 lo, .int .i64 hi] w fun e w' => e = .returned (.bool false) ∧ w' = w :=
  (in_no n lo hi w h).mono fun _ _ h => ⟨h.1, h.2.symm⟩


/-- The forms of a disk's two slices. -/
theorem DRd.form {w : World} {v : Value} {d : Dk} (h : DRd w v d) : ∃ (aa ab : Option Addr) (ca cb : Nat), v = .agg #[.slice aa d.sec.length ca, .slice ab d.cache.length cb] ∧ Strs w (.slice aa d.sec.length ca) d.sec ∧ Rows' wrE w (.slice ab d.cache.length cb) d.cache := by
  obtain ⟨va, vb, rfl, ha, hb⟩ := h
  obtain ⟨aa, ca, rfl⟩ : ∃ (a : Option Addr) (c : Nat), va = .slice a d.sec.length c := by
    rcases ha with ⟨e, a, c, rfl⟩ | ⟨g, c, rfl, _⟩
    · exact ⟨a, c, by rw [e]; rfl⟩
    · exact ⟨_, c, rfl⟩
  obtain ⟨ab, cb, rfl⟩ : ∃ (a : Option Addr) (c : Nat), vb = .slice a d.cache.length c := by
    rcases hb with ⟨e, a, c, rfl⟩ | ⟨g, o, c, rfl, _⟩
    · exact ⟨a, c, by rw [e]; rfl⟩
    · exact ⟨_, c, rfl⟩
  exact ⟨aa, ab, ca, cb, rfl, ha, hb⟩

theorem Strs.at {w : World} {a : Option Addr} {cap : Nat} {l : List ByteArray} (h : Strs w (.slice a l.length cap) l) (i : Nat) (hi : i < l.length) : ∃ g : Nat, a = some ⟨g, 0, none⟩ ∧ w.cell? ⟨g, i, none⟩ = some (.string l[i]) := by
  rcases h with ⟨e, _⟩ | ⟨g, c, hv, _, _, hcl⟩
  · rw [e] at hi; simp at hi
  · simp only [Value.slice.injEq] at hv
    exact ⟨g, hv.1, hcl i _ (List.getElem?_eq_getElem hi)⟩

set_option maxRecDepth 100000 in
set_option maxHeartbeats 2000000 in
theorem specReadSector_any (d : Dk) (v : Value) (a : Int) (w : World) (h : DRd w v d) (hs : d.small) :
    Calls Try.prog 23 #[v, .int .i64 a] w fun e w' => e = .returned (rdT d a) ∧ Below w.heap.size w w' := by
  obtain ⟨aa, ab, ca, cb, rfl, ha, hb⟩ := h.form
  obtain ⟨s1, s2⟩ := hs
  have b0 : Below w.heap.size w (w.alloc (.cells #[.slice aa d.sec.length ca, .slice ab d.cache.length cb] 32)) := (Below.refl _ _).alloc (Nat.le_refl _) _
  have hx := Box.new w #[.slice aa d.sec.length ca, .slice ab d.cache.length cb] 32
  have c0 := hx.cell 0 (.slice aa d.sec.length ca) rfl
  have c1 := hx.cell 1 (.slice ab d.cache.length cb) rfl
  by_cases hin : 0 ≤ a ∧ a < d.sec.length
  · have HA := Lib.hid (ha.later b0)
    have HB := Lib.hid (hb.later b0)
    clear ha hb h hx
    go_enter Try.func23, Try.ntmps23
    go_wp2_with (go_at_call 12; refine (in_yes _ _ _ _ (by omega) (by omega)).mono ?_; rintro e w1 ⟨rfl, rfl⟩)
    generalize w.alloc (.cells #[.slice aa d.sec.length ca, .slice ab d.cache.length cb] 32) = W at *
    go_loopw [6] (fun iv wr => ∃ j : Nat, j ≤ d.cache.length ∧ iv = .int .i64 ((j : Int) - 1) ∧ lastAt d.cache a = lastAt (d.cache.take j) a ∧ wr = W) (fun iv _ => (intOf iv + 1).toNat)
    case atStart => exact ⟨d.cache.length, by omega, rfl, by rw [List.take_length], rfl⟩
    case round =>
      obtain ⟨j, hj, rfl, hla, hw⟩ := hrel
      have hw' := hw.symm
      clear hw
      subst hw'
      by_cases hj0 : j = 0
      · subst hj0
        have hnone : lastAt d.cache a = none := by rw [hla]; rfl
        obtain ⟨k, rfl⟩ := Int.eq_ofNat_of_zero_le hin.1
        have hk : k < d.sec.length := by omega
        obtain ⟨g, rfl, hcs⟩ := HA.out.at k hk
        have HZ := Lib.hid (rdT_sec hk hnone)
        have hk1 : (k : Int) < (d.sec.length : Int) := by omega
        clear hla hnone
        generalize d.sec[k] = t at *
        go_wp2
        go_ret2
        exact ⟨by rw [HZ.out]; rfl, b0⟩
      · obtain ⟨i, rfl⟩ : ∃ i, j = i + 1 := ⟨j - 1, by omega⟩
        have hi : i < d.cache.length := by omega
        obtain ⟨g, off, rfl, hcl⟩ := HB.out.at i hi
        have d0 : W.cell? ⟨g, off + i * 2, none⟩ = some (.int .i64 d.cache[i].at_) := hcl W (Below.refl _ _) 0 _ rfl
        have d1 : W.cell? ⟨g, off + i * 2 + 1, none⟩ = some (.string d.cache[i].text) := hcl W (Below.refl _ _) 1 _ rfl
        rw [lastAt_take hi] at hla
        clear hcl
        generalize d.cache[i] = x at *
        obtain ⟨n, t⟩ := x
        simp only at d0 d1 hla
        have hii : (((i + 1 : Nat) : Int) - 1) = (i : Int) := by omega
        rw [hii]
        have hi0 : (0 : Int) ≤ (i : Int) := by omega
        have hi1 : (i : Int) < (d.cache.length : Int) := by omega
        by_cases hna : n = a
        · rw [if_pos hna] at hla
          have HZ := Lib.hid (rdT_last hin hla)
          clear hla
          subst hna
          go_wp2
          go_ret2
          exact ⟨by rw [HZ.out]; rfl, b0⟩
        · rw [if_neg hna] at hla
          have HL := Lib.hid hla
          clear hla
          go_wp2
          go_roundw
          case rel => exact ⟨i, by omega, rfl, HL.out, trivial⟩
          case measure => simp [intOf]
  · have HZ := Lib.hid (rdT_no hin)
    clear ha hb h hx
    go_enter Try.func23, Try.ntmps23
    go_wp2_with (go_at_call 12; refine (in_no _ _ _ _ (by omega)).mono ?_; rintro e w1 ⟨rfl, rfl⟩)
    go_ret2
    exact ⟨by rw [HZ.out]; rfl, b0⟩

end Go.Proofs.Ytmlhpjkijpbinaq
