/- Texts of our own, joined. -/
import Derived.Test.YtklkhllkjnbhjaaGreatDoorJa
import Derived.Deep.RegionHeld3
import Derived.Deep.QuietTactic
import Derived.BigQuiet
import Derived.Shelf.LaysM
import Derived.Shelf.Strconv.Clone
import Derived.RangeFuncNested
import Derived.RangeFuncBound
import Derived.RangeFuncCalls
import Derived.RangeFuncLeaves
import Derived.RangeFuncBox
import Derived.Shelf.Abstract
import Derived.Shelf.RegionOpen
import Derived.WalkKit
import Derived.OwnWalkIn
import Derived.TacticsInMore
import Derived.LoopNIn
import Derived.LoopIn
import Derived.Shelf.Strings.Builder1
import Derived.Shelf.Lays
/- Plain facts on disks: what is right, what is read. -/
namespace Go.Proofs.YtklkhllkjnbhjaaGreatDoor
open Go.RowKit
set_option maxRecDepth 100000
set_option maxHeartbeats 8000000
def Dk.ok (d : Dk) : Prop := 1 ≤ d.sec.length ∧ d.sec.length ≤ 100 ∧ d.cache.length ≤ 60 ∧ (∀ s ∈ d.sec, s.size = 32) ∧ ∀ x ∈ d.cache, 0 ≤ x.at_ ∧ x.at_ < d.sec.length ∧ x.text.size = 32
instance (d : Dk) : Decidable d.ok := by unfold Dk.ok; infer_instance
def lastAt (c : List Wr) (a : Int) : Option ByteArray := match c with
  | [] => none
  | x :: c => match lastAt c a with
    | some t => some t
    | none => if x.at_ = a then some x.text else none
theorem lastAt_append (c : List Wr) (x : Wr) (a : Int) : lastAt (c ++ [x]) a = if x.at_ = a then some x.text else lastAt c a := by
  induction c with
  | nil => simp only [List.nil_append, lastAt]
  | cons y c ih =>
    show (match lastAt (c ++ [x]) a with
      | some t => some t
      | none => if y.at_ = a then some y.text else none) = _
    rw [ih]; by_cases h : x.at_ = a
    · simp [h]
    · simp only [h, if_false]; rfl
theorem lastAt_take {c : List Wr} {i : Nat} (h : i < c.length) (a : Int) : lastAt (c.take (i + 1)) a = if c[i].at_ = a then some c[i].text else lastAt (c.take i) a := by
  rw [List.take_succ_eq_append_getElem h, lastAt_append]
def rdT (d : Dk) (a : Int) : Value :=
  if 0 ≤ a ∧ a < d.sec.length then .tuple #[.string ((lastAt d.cache a).getD (d.sec.getD a.toNat ⟨#[]⟩)), .bool true] else .tuple #[.string ⟨#[]⟩, .bool false]
theorem rdT_no {d : Dk} {a : Int} (h : ¬ (0 ≤ a ∧ a < d.sec.length)) : rdT d a = .tuple #[.string ⟨#[]⟩, .bool false] := by rw [rdT, if_neg h]
theorem rdT_last {d : Dk} {a : Int} (h : 0 ≤ a ∧ a < d.sec.length) {t : ByteArray} (ht : lastAt d.cache a = some t) : rdT d a = .tuple #[.string t, .bool true] := by rw [rdT, if_pos h, ht]; rfl
theorem rdT_sec {d : Dk} {k : Nat} (h : k < d.sec.length) (ht : lastAt d.cache (k : Int) = none) : rdT d (k : Int) = .tuple #[.string d.sec[k], .bool true] := by
  rw [rdT, if_pos ⟨by omega, by omega⟩, ht, Int.toNat_natCast, List.getD_eq_getElem?_getD, List.getElem?_eq_getElem h]; rfl

/- Disks: what the model's functions hand back. -/
theorem in_yes (n lo hi : Int) (w : World) (h1 : lo ≤ n) (h2 : n ≤ hi) :
    Calls Tryz.prog 52 #[.int .i64 n, .int .i64 lo, .int .i64 hi] w fun e w' => e = .returned (.bool true) ∧ w = w' := by
  have g2 : decide (n ≤ hi) = true := decide_eq_true h2; go_enter Tryz.func52, Tryz.ntmps52
  go_wp2; go_ret; exact ⟨rfl, rfl⟩
theorem in_no (n lo hi : Int) (w : World) (h : ¬ (lo ≤ n ∧ n ≤ hi)) :
    Calls Tryz.prog 52 #[.int .i64 n, .int .i64 lo, .int .i64 hi] w fun e w' => e = .returned (.bool false) ∧ w = w' := by
  by_cases h1 : lo ≤ n
  · have g2 : decide (n ≤ hi) = false := decide_eq_false (fun h2 => h ⟨h1, h2⟩)
    go_enter Tryz.func52, Tryz.ntmps52
    go_wp2; go_ret; exact ⟨rfl, rfl⟩
  · go_enter Tryz.func52, Tryz.ntmps52
    go_wp2; go_ret; exact ⟨rfl, rfl⟩
theorem in_yes_q (n lo hi : Int) (w : World) (h1 : lo ≤ n) (h2 : n ≤ hi) :
    Calls Tryz.prog 52 #[.int .i64 n, .int .i64 lo, .int .i64 hi] w fun e w' => e = .returned (.bool true) ∧ w' = w :=
  (in_yes n lo hi w h1 h2).mono fun _ _ h => ⟨h.1, h.2.symm⟩
theorem in_no_q (n lo hi : Int) (w : World) (h : ¬ (lo ≤ n ∧ n ≤ hi)) :
    Calls Tryz.prog 52 #[.int .i64 n, .int .i64 lo, .int .i64 hi] w fun e w' => e = .returned (.bool false) ∧ w' = w :=
  (in_no n lo hi w h).mono fun _ _ h => ⟨h.1, h.2.symm⟩
theorem specDiskOk_any (d : Dk) (v : Value) (w : World) (h : DRd w v d) (hs : d.small) (ht : ∀ s ∈ d.sec, s.size ≤ 1099511627776) (hu : ∀ x ∈ d.cache, x.text.size ≤ 1099511627776) :
    Calls Tryz.prog 50 #[v] w fun e w' => e = .returned (.bool (decide d.ok)) ∧ Below w.heap.size w w' := by
  obtain ⟨va, vb, rfl, ha, hb⟩ := h; obtain ⟨s1, s2⟩ := hs; have b0 : Below w.heap.size w (w.alloc (.cells #[va, vb] 27)) := (Below.refl _ _).alloc (Nat.le_refl _) _; have hx := Box.new w #[va, vb] 27; obtain ⟨aa, ca, rfl⟩ : ∃ (a : Option Addr) (c : Nat), va = .slice a d.sec.length c := by
    rcases ha with ⟨e, a, c, rfl⟩ | ⟨g, c, rfl, _⟩
    · exact ⟨a, c, by rw [e]; rfl⟩
    · exact ⟨_, c, rfl⟩
  obtain ⟨ab, cb, rfl⟩ : ∃ (a : Option Addr) (c : Nat), vb = .slice a d.cache.length c := by
    rcases hb with ⟨e, a, c, rfl⟩ | ⟨g, o, c, rfl, _⟩
    · exact ⟨a, c, by rw [e]; rfl⟩
    · exact ⟨_, c, rfl⟩
  have c0 := hx.cell 0 (.slice aa d.sec.length ca) rfl; have c1 := hx.cell 1 (.slice ab d.cache.length cb) rfl; by_cases hin : 1 ≤ d.sec.length ∧ d.sec.length ≤ 100
  · by_cases hc : d.cache.length ≤ 60
    · have HA := Lib.hid (ha.later b0)
      have HB := Lib.hid (hb.later b0); clear ha hb; go_enter Tryz.func50, Tryz.ntmps50
      go_wp2_with (go_at_call 52; refine (in_yes _ _ _ _ (by omega) (by omega)).mono ?_; rintro e w1 ⟨rfl, rfl⟩)
      generalize w.alloc (.cells #[.slice aa d.sec.length ca, .slice ab d.cache.length cb] 27) = W at *; go_loopw [3] (fun iv wr => ∃ i : Nat, i ≤ d.sec.length ∧ iv = .int .i64 (i : Int) ∧ (∀ s ∈ d.sec.take i, s.size = 32) ∧ wr = W) (fun iv _ => d.sec.length - (intOf iv).toNat)
      case atStart => exact ⟨0, by omega, rfl, by simp, rfl⟩
      case round =>
        obtain ⟨i, hi, rfl, hall, hw⟩ := hrel; have hw' := hw.symm; clear hw; subst hw'; by_cases hlt : i < d.sec.length
        · have HL := Lib.hid hall
          have hz := Lib.hid (ht _ (List.getElem_mem hlt)); have HM := Lib.hid (List.getElem_mem hlt); have htk := Lib.hid (List.take_succ_eq_append_getElem hlt); obtain ⟨g, rfl, hcs⟩ : ∃ g : Nat, aa = some ⟨g, 0, none⟩ ∧ W.cell? ⟨g, i, none⟩ = some (.string d.sec[i]) := by
            rcases HA.out with ⟨e, _⟩ | ⟨g, c, hv, _, _, hcl⟩
            · rw [e] at hlt; simp at hlt
            · simp only [Value.slice.injEq] at hv
              exact ⟨g, hv.1, hcl i _ (List.getElem?_eq_getElem hlt)⟩
          clear hall ht hu; generalize d.sec[i] = t at *; have hz2 := hz.out; by_cases h32 : t.size = 32
          · go_wp2
            go_roundw
            case rel => exact ⟨i + 1, by omega, by go_num, by
              rw [htk.out]; intro x hx; rcases List.mem_append.1 hx with h | h
              · exact HL.out x h
              · simp at h; rw [h]; exact h32, trivial⟩
            case measure => simp [intOf]; omega
          · have HNO := Lib.hid (show decide d.ok = false from decide_eq_false (fun h => h32 (h.2.2.2.1 t HM.out)))
            go_wp2; go_ret; exact ⟨by rw [HNO.out]; rfl, b0⟩
        · have hall' : ∀ s ∈ d.sec, s.size = 32 := by rw [List.take_of_length_le (by omega)] at hall; exact hall
          have HALL := Lib.hid hall'; clear hall hall' ht; go_wp2; go_loopw [4] (fun iv wx => ∃ j : Nat, j ≤ d.cache.length ∧ iv = .int .i64 (j : Int) ∧ (∀ x ∈ d.cache.take j, 0 ≤ x.at_ ∧ x.at_ < d.sec.length ∧ x.text.size = 32) ∧ Below W.heap.size W wx) (fun iv _ => d.cache.length - (intOf iv).toNat)
          case atStart => exact ⟨0, by omega, rfl, by simp, Below.refl _ _⟩
          case round =>
            obtain ⟨j, hj, rfl, hall, hbx⟩ := hrel; have bx : Below w.heap.size w wr := b0.trans (hbx.mono b0.size); have e0 := (hbx.cell (p := ⟨w.heap.size, 0, none⟩) hx.lt).trans c0; have e1 := (hbx.cell (p := ⟨w.heap.size, 1, none⟩) hx.lt).trans c1; clear c0 c1; by_cases hlt2 : j < d.cache.length
            · have HL := Lib.hid hall
              have hz := Lib.hid (hu _ (List.getElem_mem hlt2)); have HM := Lib.hid (List.getElem_mem hlt2); have htk := Lib.hid (List.take_succ_eq_append_getElem hlt2); obtain ⟨g, off, rfl, hcl⟩ := HB.out.at j hlt2; have d0 : wr.cell? ⟨g, off + j * 2, none⟩ = some (.int .i64 d.cache[j].at_) := hcl wr hbx 0 _ rfl; have d1 : wr.cell? ⟨g, off + j * 2 + 1, none⟩ = some (.string d.cache[j].text) := hcl wr hbx 1 _ rfl; clear hall hu hcl; generalize d.cache[j] = x at *; obtain ⟨n, t⟩ := x; simp only at d0 d1; have hz2 := hz.out; simp only at hz2; have hj0 : (0 : Int) ≤ (j : Int) := (by omega); have hj1 : (j : Int) < (d.cache.length : Int) := (by omega); have hw1 : IntKind.i64.wrap ((d.sec.length : Int) - 1) = (d.sec.length : Int) - 1 := IntWalk.i64_in _ ⟨by omega, by omega⟩; by_cases hat : 0 ≤ n ∧ n < d.sec.length
              · by_cases h32 : t.size = 32
                · have g1 : ((t.size : Int) != 32) = false := by rw [h32]; rfl
                  go_wp2; go_quiet (first | (go_at_call 52; exact Calls.quiet_of_same (in_yes_q _ _ _ _ (by omega) (by omega))))
                  go_wp2; go_roundw
                  case rel => exact ⟨j + 1, by omega, by go_num, by
                    rw [htk.out]; intro x hx; rcases List.mem_append.1 hx with h | h
                    · exact HL.out x h
                    · simp at h; rw [h]; exact ⟨hat.1, hat.2, h32⟩, hbx.trans ⟨rfl, rfl, rfl, Nat.le_refl _, fun _ _ => rfl⟩⟩
                  case measure => simp [intOf]; omega
                · have g1 : ((t.size : Int) != 32) = true := by simp; omega
                  have HNO := Lib.hid (show decide d.ok = false from decide_eq_false (fun h => h32 (h.2.2.2.2 _ HM.out).2.2)); go_wp2; go_quiet (first | (go_at_call 52; exact Calls.quiet_of_same (in_yes_q _ _ _ _ (by omega) (by omega))))
                  go_wp2; go_ret; exact ⟨by rw [HNO.out]; rfl, bx.trans ⟨rfl, rfl, rfl, Nat.le_refl _, fun _ _ => rfl⟩⟩
              · have HNO := Lib.hid (show decide d.ok = false from decide_eq_false (fun h => hat ⟨(h.2.2.2.2 _ HM.out).1, (h.2.2.2.2 _ HM.out).2.1⟩))
                go_wp2; go_quiet (first | (go_at_call 52; exact Calls.quiet_of_same (in_no_q _ _ _ _ (by omega))))
                go_wp2; go_ret; exact ⟨by rw [HNO.out]; rfl, bx.trans ⟨rfl, rfl, rfl, Nat.le_refl _, fun _ _ => rfl⟩⟩
            · have hyes : decide d.ok = true := decide_eq_true ⟨hin.1, hin.2, hc, HALL.out, by rw [List.take_of_length_le (by omega)] at hall; exact hall⟩
              have HY := Lib.hid hyes; clear hall hyes; go_wp2; go_ret; exact ⟨by rw [HY.out]; rfl, bx⟩
    · have hno : decide d.ok = false := decide_eq_false (fun h => hc h.2.2.1)
      go_enter Tryz.func50, Tryz.ntmps50
      go_wp2_with (go_at_call 52; refine (in_yes _ _ _ _ (by omega) (by omega)).mono ?_; rintro e w1 ⟨rfl, rfl⟩)
      go_ret; exact ⟨by rw [hno]; rfl, b0⟩
  · have hno : decide d.ok = false := decide_eq_false (fun h => hin ⟨h.1, h.2.1⟩)
    go_enter Tryz.func50, Tryz.ntmps50
    go_wp2_with (go_at_call 52; refine (in_no _ _ _ _ (by omega)).mono ?_; rintro e w1 ⟨rfl, rfl⟩)
    go_ret; exact ⟨by rw [hno]; rfl, b0⟩
theorem DRd.form {w : World} {v : Value} {d : Dk} (h : DRd w v d) : ∃ (aa ab : Option Addr) (ca cb : Nat), v = .agg #[.slice aa d.sec.length ca, .slice ab d.cache.length cb] ∧ Strs w (.slice aa d.sec.length ca) d.sec ∧ Rows' wrE w (.slice ab d.cache.length cb) d.cache := by
  obtain ⟨va, vb, rfl, ha, hb⟩ := h; obtain ⟨aa, ca, rfl⟩ : ∃ (a : Option Addr) (c : Nat), va = .slice a d.sec.length c := by
    rcases ha with ⟨e, a, c, rfl⟩ | ⟨g, c, rfl, _⟩
    · exact ⟨a, c, by rw [e]; rfl⟩
    · exact ⟨_, c, rfl⟩
  obtain ⟨ab, cb, rfl⟩ : ∃ (a : Option Addr) (c : Nat), vb = .slice a d.cache.length c := by
    rcases hb with ⟨e, a, c, rfl⟩ | ⟨g, o, c, rfl, _⟩
    · exact ⟨a, c, by rw [e]; rfl⟩
    · exact ⟨_, c, rfl⟩
  exact ⟨aa, ab, ca, cb, rfl, ha, hb⟩
theorem Strs.at {w : World} {a : Option Addr} {cap : Nat} {l : List ByteArray} (h : Strs w (.slice a l.length cap) l) (i : Nat) (hi : i < l.length) : ∃ g : Nat, a = some ⟨g, 0, none⟩ ∧ w.cell? ⟨g, i, none⟩ = some (.string l[i]) := by
  rcases h with ⟨e, _⟩ | ⟨g, c, hv, _, _, hcl⟩
  · rw [e] at hi; simp at hi
  · simp only [Value.slice.injEq] at hv
    exact ⟨g, hv.1, hcl i _ (List.getElem?_eq_getElem hi)⟩
theorem specReadSector_any (d : Dk) (v : Value) (a : Int) (w : World) (h : DRd w v d) (hs : d.small) :
    Calls Tryz.prog 132 #[v, .int .i64 a] w fun e w' => e = .returned (rdT d a) ∧ Below w.heap.size w w' := by
  obtain ⟨aa, ab, ca, cb, rfl, ha, hb⟩ := h.form; obtain ⟨s1, s2⟩ := hs; have b0 : Below w.heap.size w (w.alloc (.cells #[.slice aa d.sec.length ca, .slice ab d.cache.length cb] 27)) := (Below.refl _ _).alloc (Nat.le_refl _) _; have hx := Box.new w #[.slice aa d.sec.length ca, .slice ab d.cache.length cb] 27; have c0 := hx.cell 0 (.slice aa d.sec.length ca) rfl; have c1 := hx.cell 1 (.slice ab d.cache.length cb) rfl; by_cases hin : 0 ≤ a ∧ a < d.sec.length
  · have HA := Lib.hid (ha.later b0)
    have HB := Lib.hid (hb.later b0); clear ha hb h hx; go_enter Tryz.func132, Tryz.ntmps132
    go_wp2_with (go_at_call 52; refine (in_yes _ _ _ _ (by omega) (by omega)).mono ?_; rintro e w1 ⟨rfl, rfl⟩)
    generalize w.alloc (.cells #[.slice aa d.sec.length ca, .slice ab d.cache.length cb] 27) = W at *; go_loopw [6] (fun iv wr => ∃ j : Nat, j ≤ d.cache.length ∧ iv = .int .i64 ((j : Int) - 1) ∧ lastAt d.cache a = lastAt (d.cache.take j) a ∧ wr = W) (fun iv _ => (intOf iv + 1).toNat)
    case atStart => exact ⟨d.cache.length, by omega, rfl, by rw [List.take_length], rfl⟩
    case round =>
      obtain ⟨j, hj, rfl, hla, hw⟩ := hrel; have hw' := hw.symm; clear hw; subst hw'; by_cases hj0 : j = 0
      · subst hj0
        have hnone : lastAt d.cache a = none := (by rw [hla]; rfl); obtain ⟨k, rfl⟩ := Int.eq_ofNat_of_zero_le hin.1; have hk : k < d.sec.length := (by omega); obtain ⟨g, rfl, hcs⟩ := HA.out.at k hk; have HZ := Lib.hid (rdT_sec hk hnone); have hk1 : (k : Int) < (d.sec.length : Int) := (by omega); clear hla hnone; generalize d.sec[k] = t at *; go_wp2; go_ret2
        exact ⟨by rw [HZ.out]; rfl, b0⟩
      · obtain ⟨i, rfl⟩ : ∃ i, j = i + 1 := ⟨j - 1, by omega⟩
        have hi : i < d.cache.length := (by omega); obtain ⟨g, off, rfl, hcl⟩ := HB.out.at i hi; have d0 : W.cell? ⟨g, off + i * 2, none⟩ = some (.int .i64 d.cache[i].at_) := hcl W (Below.refl _ _) 0 _ rfl; have d1 : W.cell? ⟨g, off + i * 2 + 1, none⟩ = some (.string d.cache[i].text) := hcl W (Below.refl _ _) 1 _ rfl; rw [lastAt_take hi] at hla; clear hcl; generalize d.cache[i] = x at *; obtain ⟨n, t⟩ := x; simp only at d0 d1 hla; have hii : (((i + 1 : Nat) : Int) - 1) = (i : Int) := (by omega); rw [hii]; have hi0 : (0 : Int) ≤ (i : Int) := (by omega); have hi1 : (i : Int) < (d.cache.length : Int) := (by omega); by_cases hna : n = a
        · rw [if_pos hna] at hla
          have HZ := Lib.hid (rdT_last hin hla); clear hla; subst hna; go_wp2; go_ret2
          exact ⟨by rw [HZ.out]; rfl, b0⟩
        · rw [if_neg hna] at hla
          have HL := Lib.hid hla; clear hla; go_wp2; go_roundw
          case rel => exact ⟨i, by omega, rfl, HL.out, trivial⟩
          case measure => simp [intOf]
  · have HZ := Lib.hid (rdT_no hin)
    clear ha hb h hx; go_enter Tryz.func132, Tryz.ntmps132
    go_wp2_with (go_at_call 52; refine (in_no _ _ _ _ (by omega)).mono ?_; rintro e w1 ⟨rfl, rfl⟩)
    go_ret2
    exact ⟨by rw [HZ.out]; rfl, b0⟩

/- strings.Clone hands back the same bytes and changes nothing that was there: out of the library's own theorem on internal/stringslite.Clone, at the numbers of this program. -/
open Go.Shelf Go.RowKit
def cloneRen : Go.Shelf.Ren := ⟨fun | 316 => 123 | n => n, fun | 9 => 9 | 3 => 3 | 4 => 4 | 37 => 22 | 0 => 0 | 127 => 190 | 5 => 5 | n => n, fun | n => n⟩
theorem cloneLaid : Go.Proofs.LaysM.n316 Tryz.prog cloneRen := {
  mixed := by kernel_rfl
  f316 := Tryz.func123.trans (congrArg some (by kernel_rfl))
  t0 := Tryz.underlying0
  a0 := Tryz.isAgg0
  z0 := Tryz.sizeOf0
  v0 := Tryz.zeroValue0
  t3 := Tryz.underlying3
  a3 := Tryz.isAgg3
  z3 := Tryz.sizeOf3
  v3 := Tryz.zeroValue3
  t4 := Tryz.underlying4
  a4 := Tryz.isAgg4
  z4 := Tryz.sizeOf4
  v4 := Tryz.zeroValue4
  t9 := Tryz.underlying9
  a9 := Tryz.isAgg9
  z9 := Tryz.sizeOf9
  v9 := Tryz.zeroValue9
  t37 := Tryz.underlying22
  a37 := Tryz.isAgg22
  z37 := Tryz.sizeOf22
  v37 := Tryz.zeroValue22
  t127 := Tryz.underlying190
  a127 := Tryz.isAgg190
  z127 := Tryz.sizeOf190
  v127 := Tryz.zeroValue190
  t5 := Tryz.underlying5
  a5 := Tryz.isAgg5
  z5 := Tryz.sizeOf5
  v5 := Tryz.zeroValue5
  i0 := by kernel_rfl
  i3 := by kernel_rfl
  i4 := by kernel_rfl
  i5 := by kernel_rfl
  i9 := by kernel_rfl
  i37 := by kernel_rfl
  i127 := by kernel_rfl }
theorem innerClone_any (s : ByteArray) (w : World) (hlim : s.size ≤ 281474976710656) :
    Calls Tryz.prog 123 #[.string s] w fun e w' => e = .returned (.string s) ∧ Below w.heap.size w w' := Any.stringslite_Clone cloneLaid s w hlim
theorem clone_any (s : ByteArray) (w : World) (hlim : s.size ≤ 281474976710656) :
    Calls Tryz.prog 97 #[.string s] w fun e w' => e = .returned (.string s) ∧ Below w.heap.size w w' := by
  go_enter Tryz.func97, Tryz.ntmps97
  go_wp2_with (go_at_call 123; refine (innerClone_any _ _ hlim).mono ?_; rintro e w1 ⟨rfl, hb1⟩)
  go_ret; exact ⟨rfl, hb1⟩

/- What the program's ReadSector hands back: a range over slices.Backward. -/
open Go.RowKit Go.Shelf
attribute [local go_sem] Oper.semAt_some
abbrev BkT := { p : Int × Wr // p.2.text.size ≤ 1099511627776 }
def bkV (c : List Wr) (j : Nat) : Int × Wr := ((c.length : Int) - 1 - (j : Int), (c[c.length - 1 - j]?).getD ⟨0, ⟨#[]⟩⟩)
theorem bkV_ok {c : List Wr} (hu : ∀ x ∈ c, x.text.size ≤ 1099511627776) (j : Nat) : (bkV c j).2.text.size ≤ 1099511627776 := by
  unfold bkV; by_cases h : c.length - 1 - j < c.length
  · simp only [List.getElem?_eq_getElem h, Option.getD_some]
    exact hu _ (List.getElem_mem h)
  · simp only [List.getElem?_eq_none (Nat.le_of_not_lt h), Option.getD_none]
    exact Nat.zero_le _
def bkAt (c : List Wr) (hu : ∀ x ∈ c, x.text.size ≤ 1099511627776) (j : Nat) : BkT := ⟨bkV c j, bkV_ok hu j⟩
def bkTo (c : List Wr) (hu : ∀ x ∈ c, x.text.size ≤ 1099511627776) (k : Nat) : List BkT := (List.range k).map (bkAt c hu)
theorem bkTo_succ (c : List Wr) (hu : ∀ x ∈ c, x.text.size ≤ 1099511627776) (k : Nat) : bkTo c hu (k + 1) = bkTo c hu k ++ [bkAt c hu k] := by simp [bkTo, List.range_succ]
theorem bkTo_length (c : List Wr) (hu : ∀ x ∈ c, x.text.size ≤ 1099511627776) (k : Nat) : (bkTo c hu k).length = k := by simp [bkTo]
def bkE (x : BkT) : Array Value := #[.int .i64 x.1.1, .agg #[.int .i64 x.1.2.at_, .string x.1.2.text]]
theorem bkV_at {c : List Wr} {k : Nat} (hk : k < c.length) : bkV c k = ((c.length : Int) - 1 - (k : Int), c[c.length - 1 - k]'(by omega)) := by
  unfold bkV; rw [List.getElem?_eq_getElem (by omega)]; rfl
theorem back1_in (n : Nat) (hn : 1 ≤ n) (l Bs n₀ b off cap : Nat) (c : List Wr) (hu : ∀ x ∈ c, x.text.size ≤ 1099511627776) (hl : c.length ≤ 1073741824) (hb : b < n₀) (J Jx : List BkT → World → Prop)
    (hY : ∀ pre x W, J pre W → pre.length < c.length → YieldAt Fence.wide (n - 1) Tryz.prog l (bkE x) W fun e W' =>
      (e = .returned (.bool true) ∧ J (pre ++ [x]) W' ∧ Below n₀ W W') ∨ (e = .returned (.bool false) ∧ Jx (pre ++ [x]) W'))
    (W : World) (hB : W.cell? ⟨Bs, 0, none⟩ = some (.slice (some ⟨b, off, none⟩) c.length cap)) (hBn : Bs < n₀)
    (hc : ∀ j (hj : j < c.length), W.cell? ⟨b, off + j * 2, none⟩ = some (.int .i64 c[j].at_) ∧ W.cell? ⟨b, off + j * 2 + 1, none⟩ = some (.string c[j].text)) (h0 : J [] W) :
    CallsIn Fence.wide n Tryz.prog 167 #[.func (.yield l) #[] #[], .pointer (some ⟨Bs, 0, none⟩)] W fun e W' => (∃ v, e = .returned v) ∧
      ((∃ ys, ys = bkTo c hu c.length ∧ J ys W') ∨ (∃ pre, (∃ k, k ≤ c.length ∧ pre = bkTo c hu k) ∧ Jx pre W')) := by
  refine callsIn_of_wp Tryz.func167 rfl trivial ?_ rfl; simp only [Tryz.ntmps167, List.size_toArray, List.length_cons, List.length_nil, Nat.reduceAdd, Nat.reduceSub, Array.replicate_succ, Array.replicate_zero, List.push_toArray, List.append_toArray, List.nil_append, List.cons_append]; gi_wp2; gi_loopw [3] (fun i wr => ∃ k : Nat, k ≤ c.length ∧ i = .int .i64 ((c.length : Int) - 1 - (k : Int)) ∧ J (bkTo c hu k) wr ∧ Below n₀ W wr) (fun i _ => (intOf i + 1).toNat)
  case atStart => exact ⟨0, Nat.zero_le _, by simp, h0, Below.refl _ _⟩
  case round =>
    obtain ⟨k, hk, rfl, hJs, hnx⟩ := hrel; by_cases hlt : k < c.length
    · obtain ⟨m, hm⟩ : ∃ m : Nat, m = c.length - 1 - k := ⟨_, rfl⟩
      have hml : m < c.length := (by omega); have hmi : (c.length : Int) - 1 - (k : Int) = (m : Int) := (by omega); have hbk : bkE (bkAt c hu k) = #[.int .i64 (m : Int), .agg #[.int .i64 c[m].at_, .string c[m].text]] := by
        unfold bkE bkAt; simp only [bkV_at hlt, hmi]; subst hm; rfl
      obtain ⟨q0, q1⟩ := hc m hml; have d0 := (hnx.cell (p := ⟨b, off + m * 2, none⟩) hb).trans q0; have d1 := (hnx.cell (p := ⟨b, off + m * 2 + 1, none⟩) hb).trans q1; have dB := (hnx.cell (p := ⟨Bs, 0, none⟩) hBn).trans hB; have hsu := Lib.hid (bkTo_succ c hu k); obtain ⟨fn, tmps, assign, body, hy, hR⟩ := hY _ (bkAt c hu k) wr hJs (by rw [bkTo_length]; exact hlt); rw [hbk] at hy; clear q0 q1; have HJ : Hid (∀ W, J (bkTo c hu k ++ [bkAt c hu k]) W → J (bkTo c hu (k + 1)) W) := fun W h => by rw [hsu.out]; exact h
      generalize c[m] = x at *; obtain ⟨na, t⟩ := x; simp only at d0 d1 hy; rw [hmi]; have hm0 : (0 : Int) ≤ (m : Int) := (by omega); have hm1 : (m : Int) < (c.length : Int) := (by omega); have HM := Lib.hid hmi; clear hmi hbk hm; gi_wp2; refine hR.mono ?_; rintro e W3 (⟨rfl, hJ3, hk3⟩ | ⟨rfl, hJx3⟩)
      · gi_wp2
        go_roundw
        case rel => exact ⟨k + 1, by omega, by have := HM.out; simp; omega, HJ.out _ hJ3, hnx.trans hk3⟩
        case measure => simp [intOf]
      · gi_wp2
        refine bodyPost_ret (results_none rfl _ _ _) rfl ?_; exact ⟨⟨_, rfl⟩, .inr ⟨_, ⟨k + 1, by omega, hsu.out.symm⟩, hJx3⟩⟩
    · obtain rfl : k = c.length := by omega
      gi_wp2; go_end0
      exact ⟨⟨_, rfl⟩, .inl ⟨_, rfl, hJs⟩⟩
theorem back1_nil_in (n : Nat) (l Bs cap : Nat) (a : Option Addr) (J : List BkT → World → Prop) (W : World) (hB : W.cell? ⟨Bs, 0, none⟩ = some (.slice a 0 cap)) (h0 : J [] W) :
    CallsIn Fence.wide n Tryz.prog 167 #[.func (.yield l) #[] #[], .pointer (some ⟨Bs, 0, none⟩)] W fun e W' => (∃ v, e = .returned v) ∧ J [] W' := by
  refine callsIn_of_wp Tryz.func167 rfl trivial ?_ rfl; simp only [Tryz.ntmps167, List.size_toArray, List.length_cons, List.length_nil, Nat.reduceAdd, Nat.reduceSub, Array.replicate_succ, Array.replicate_zero, List.push_toArray, List.append_toArray, List.nil_append, List.cons_append]; gi_wp2; gi_loopw [3] (fun i wr => i = .int .i64 (-1) ∧ J [] wr) (fun _ _ => 0)
  case atStart => exact ⟨rfl, h0⟩
  case round =>
    obtain ⟨rfl, hJs⟩ := hrel; gi_wp2; go_end0
    exact ⟨⟨_, rfl⟩, hJs⟩
theorem back_stops (n : Nat) (hn : 1 ≤ n) (Bs : Nat) (v : Value) (c : List Wr) (hu : ∀ x ∈ c, x.text.size ≤ 1099511627776) (hl : c.length ≤ 1073741824) (w : World) (hBs : Bs < w.heap.size) (hc : w.cell? ⟨Bs, 0, none⟩ = some v) (hr : Rows' wrE w v c) :
    SeqStopsK Fence.wide n Tryz.prog 167 #[.pointer (some ⟨Bs, 0, none⟩)] bkE (Below w.heap.size) (fun ys => ys = bkTo c hu c.length) (fun pre => ∃ k, k ≤ c.length ∧ pre = bkTo c hu k) c.length w := fun l J Jx W hW _ _ hY h0 => by
  have hc' := (hW.cell (p := ⟨Bs, 0, none⟩) hBs).trans hc
  rcases hr.ways with ⟨rfl, a, cap, rfl⟩ | ⟨_, b, off, cap, rfl, _, hb, hcs⟩
  · exact (back1_nil_in n l Bs cap a J W hc' h0).mono fun e W' ⟨he, hj⟩ => ⟨he, .inl ⟨_, rfl, hj⟩⟩
  · refine back1_in n hn l Bs w.heap.size b off cap c hu hl hb J Jx hY W hc' hBs (fun j hj => ?_) h0
    have q := List.getElem?_eq_getElem hj
    have q0 := hcs j _ q 0 (.int .i64 c[j].at_) rfl
    have q1 := hcs j _ q 1 (.string c[j].text) rfl
    exact ⟨(hW.cell (p := ⟨b, off + j * 2, none⟩) hb).trans q0, (hW.cell (p := ⟨b, off + j * 2 + 1, none⟩) hb).trans q1⟩
theorem back_in (n : Nat) (a : Option Addr) (len cap : Nat) (w : World) :
    CallsIn Fence.wide n Tryz.prog 161 #[.slice a len cap] w fun e w' => e = .returned (.func (.func 167) #[] #[.pointer (some ⟨w.heap.size, 0, none⟩)]) ∧ w' = w.alloc (.cells #[.slice a len cap] 25) := by
  refine callsIn_of_wp Tryz.func161 rfl trivial ?_ rfl; simp only [Tryz.ntmps161, List.size_toArray, List.length_cons, List.length_nil, Nat.reduceAdd, Nat.reduceSub, Array.replicate_succ, Array.replicate_zero, List.push_toArray, List.append_toArray, List.nil_append, List.cons_append]; gi_wp2; go_ret; exact ⟨rfl, rfl⟩
theorem lastAt_none_of {c : List Wr} (hu : ∀ x ∈ c, x.text.size ≤ 1099511627776) {a : Int} {k : Nat} (hk : k ≤ c.length) (h : ∀ p ∈ bkTo c hu k, p.1.2.at_ ≠ a) : lastAt c a = lastAt (c.take (c.length - k)) a := by
  induction k with
  | zero => simp
  | succ k ih =>
    rw [bkTo_succ] at h; rw [ih (by omega) (fun p hp => h p (List.mem_append.2 (.inl hp)))]; have hi : c.length - 1 - k < c.length := by omega
    have e : c.length - k = c.length - 1 - k + 1 := by omega
    have := h (bkAt c hu k) (List.mem_append.2 (.inr (by simp))); have hv : (bkAt c hu k).1 = _ := bkV_at (by omega); rw [hv] at this; rw [e, lastAt_take hi, if_neg this]; congr 2; omega
theorem lastAt_of_hit {c : List Wr} (hu : ∀ x ∈ c, x.text.size ≤ 1099511627776) {a : Int} {k : Nat} (hk : k < c.length) (h : ∀ p ∈ bkTo c hu k, p.1.2.at_ ≠ a) (ha : (bkAt c hu k).1.2.at_ = a) : lastAt c a = some (bkAt c hu k).1.2.text := by
  rw [lastAt_none_of hu (by omega) h]; have hi : c.length - 1 - k < c.length := by omega
  have e : c.length - k = c.length - 1 - k + 1 := by omega
  have hv : (bkAt c hu k).1 = _ := bkV_at hk; rw [hv] at ha ⊢; rw [e, lastAt_take hi, if_pos ha]
theorem implReadSector_any (d : Dk) (v : Value) (a : Int) (w : World) (h : DRd w v d) (hs : d.small) (ht : ∀ s ∈ d.sec, s.size ≤ 1099511627776) (hu : ∀ x ∈ d.cache, x.text.size ≤ 1099511627776) :
    Calls Tryz.prog 151 #[v, .int .i64 a] w fun e w' => e = .returned (rdT d a) ∧ Below w.heap.size w w' := by
  obtain ⟨aa, ab, ca, cb, rfl, ha, hb⟩ := h.form; obtain ⟨s1, s2⟩ := hs; by_cases hin : 0 ≤ a ∧ a < d.sec.length
  · refine (callsIn_wide (n := 5)).1 ?_
    refine callsIn_of_wp_marks Tryz.func151 rfl trivial ?_ rfl; simp only [Tryz.ntmps151, List.size_toArray, List.length_cons, List.length_nil, Nat.reduceAdd, Nat.reduceSub, Array.replicate_succ, Array.replicate_zero, List.push_toArray, List.append_toArray, List.nil_append, List.cons_append]; have hi0 : (0 : Int) ≤ a := hin.1; have hi1 : a < (d.sec.length : Int) := hin.2; gi_wp2_with (refine ⟨trivial, ?_⟩; gi_at_call 161; refine (back_in _ _ _ _ _).mono ?_; rintro e w' ⟨rfl, rfl⟩); obtain ⟨W0, hW0⟩ : ∃ W0, (((((w.alloc (.cells #[.slice aa d.sec.length ca, .slice ab d.cache.length cb] 27)).alloc (.cells #[.int .i64 a] 3)).alloc (.cells #[.string ⟨#[]⟩] 9)).alloc (.cells #[.bool false] 4)).alloc (.cells #[.slice ab d.cache.length cb] 25)) = W0 := ⟨_, rfl⟩; have hsz : W0.heap.size = w.heap.size + 5 := by rw [← hW0]; simp
    have hB0 : Below w.heap.size w W0 := by rw [← hW0]; exact (((((Below.refl _ w).alloc (Nat.le_refl _) _).alloc (by simp) _).alloc (by simp; omega) _).alloc (by simp; omega) _).alloc (by simp; omega) _
    have c0 : W0.cell? ⟨w.heap.size, 0, none⟩ = some (.slice aa d.sec.length ca) := by rw [← hW0]; simp [go_sem]
    have bA : Boxed W0 (w.heap.size + 1) 3 (.int .i64 a) := by
      rw [← hW0]; have := ((((Boxed.new (w.alloc (.cells #[.slice aa d.sec.length ca, .slice ab d.cache.length cb] 27)) 3 (.int .i64 a)).alloc (.cells #[.string ⟨#[]⟩] 9)).alloc (.cells #[.bool false] 4)).alloc (.cells #[.slice ab d.cache.length cb] 25)); simpa using this
    have bS : Boxed W0 (w.heap.size + 1 + 1) 9 (.string ⟨#[]⟩) := by
      rw [← hW0]; have := (((Boxed.new ((w.alloc (.cells #[.slice aa d.sec.length ca, .slice ab d.cache.length cb] 27)).alloc (.cells #[.int .i64 a] 3)) 9 (.string ⟨#[]⟩)).alloc (.cells #[.bool false] 4)).alloc (.cells #[.slice ab d.cache.length cb] 25)); simpa using this
    have bB : Boxed W0 (w.heap.size + 1 + 1 + 1) 4 (.bool false) := by
      rw [← hW0]; have := ((Boxed.new (((w.alloc (.cells #[.slice aa d.sec.length ca, .slice ab d.cache.length cb] 27)).alloc (.cells #[.int .i64 a] 3)).alloc (.cells #[.string ⟨#[]⟩] 9)) 4 (.bool false)).alloc (.cells #[.slice ab d.cache.length cb] 25)); simpa using this
    have bC : W0.cell? ⟨w.heap.size + 1 + 1 + 1 + 1, 0, none⟩ = some (.slice ab d.cache.length cb) := by rw [← hW0]; simp [go_sem]
    rw [hW0]; clear hW0; refine wpIn_rangeFunc_ownH rfl (by omega) (gf := 167) (lb := #[.pointer (some ⟨w.heap.size + 1 + 1 + 1 + 1, 0, none⟩)]) rfl trivial (enters_of Tryz.func167 (by kernel_rfl) rfl)
      (back_stops 4 (by omega) (w.heap.size + 1 + 1 + 1 + 1) _ d.cache hu s2 W0 (by omega) bC (hb.later hB0)) belowK_t (belowK_b (Nat.le_refl _)) (Below.refl _ _) (fun _ => rfl)
      (fun pre W => ((∀ p ∈ pre, p.1.2.at_ ≠ a) ∧ w.heap.size + 5 ≤ W.heap.size ∧ W.cell? ⟨w.heap.size, 0, none⟩ = some (.slice aa d.sec.length ca) ∧ Boxed W (w.heap.size + 1) 3 (.int .i64 a) ∧ Boxed W (w.heap.size + 1 + 1) 9 (.string ⟨#[]⟩) ∧ Boxed W (w.heap.size + 1 + 1 + 1) 4 (.bool false)) ∧ Below w.heap.size w W)
      (fun c pre W => (c = .ret ∧ ∃ ini last, pre = ini ++ [last] ∧ (∀ p ∈ ini, p.1.2.at_ ≠ a) ∧ last.1.2.at_ = a ∧ Boxed W (w.heap.size + 1 + 1) 9 (.string last.1.2.text) ∧ Boxed W (w.heap.size + 1 + 1 + 1) 4 (.bool true)) ∧ Below w.heap.size w W)
      ?hI ?hIx ?h0
      (fun x a' W => ∃ Bx, w.heap.size + 5 ≤ Bx ∧ W.cell? ⟨Bx, 0, none⟩ = some (.int .i64 x.1.2.at_) ∧ W.cell? ⟨Bx, 1, none⟩ = some (.string x.1.2.text) ∧ a' = { tmps := #[.agg #[.slice aa d.sec.length ca, .slice ab d.cache.length cb], .int .i64 a, .pointer (some ⟨w.heap.size, 0, none⟩), .pointer (some ⟨w.heap.size + 1, 0, none⟩), .pointer (some ⟨w.heap.size + 1 + 1, 0, none⟩), .pointer (some ⟨w.heap.size + 1 + 1 + 1, 0, none⟩), undef, .pointer (some ⟨Bx, 0, none⟩), .int .i64 a, .bool (decide (a < 0)), .bool (decide (a < 0)), .int .i64 a, .pointer (some ⟨w.heap.size, 0, none⟩), .slice aa d.sec.length ca, .int .i64 (d.sec.length : Int), .bool (decide ((d.sec.length : Int) ≤ a)), .bool (decide (a < 0) || decide ((d.sec.length : Int) ≤ a)), .pointer (some ⟨w.heap.size, 1, none⟩), .slice ab d.cache.length cb, .func (.func 167) #[] #[.pointer (some ⟨w.heap.size + 1 + 1 + 1 + 1, 0, none⟩)], .int .i64 x.1.1, .agg #[.int .i64 x.1.2.at_, .string x.1.2.text], undef, undef, undef, undef, undef, undef, undef, undef, undef, undef, undef, undef, undef], defers := [] })
      ?hAx ?assign ?body ?done ?stop
    case hI =>
      rintro s X Y row ⟨⟨i1, i0, i2, i3, i4, i5⟩, i6⟩ hg hr; have ne : ∀ b, b < W0.heap.size → some b ≠ row := fun b hb e => by have := (hr b e.symm).1; omega
      exact ⟨⟨i1, Nat.le_trans i0 hg.size, hg.cell i2 (ne _ (by simp; omega)), i3.kept hg (ne _ (by omega)), i4.kept hg (ne _ (by omega)), i5.kept hg (ne _ (by omega))⟩, i6.grown hg i6.size (fun k hk => by have := (hr k hk).1; omega)⟩
    case hIx =>
      rintro c s X Y row ⟨⟨e0, ini, last, e1, e2, e3, e4, e5⟩, i6⟩ hg hr; have ne : ∀ b, b < W0.heap.size → some b ≠ row := fun b hb e => by have := (hr b e.symm).1; omega
      exact ⟨⟨e0, ini, last, e1, e2, e3, e4.kept hg (ne _ (by omega)), e5.kept hg (ne _ (by omega))⟩, i6.grown hg i6.size (fun k hk => by have := (hr k hk).1; omega)⟩
    case h0 => exact ⟨⟨by simp, by omega, c0, bA, bS, bB⟩, hB0⟩
    case hAx =>
      rintro x a' _ X Y row ⟨Bx, q1, q2, q3, q4⟩ hg hr; exact ⟨Bx, q1, cell_kept q2 hg (fun r e => (hr r e).2), cell_kept q3 hg (fun r e => (hr r e).2), q4⟩
    case assign =>
      rintro l pre x W K ⟨⟨i1, i0, i2, i3, i4, i5⟩, i6⟩ hK; simp only [bkE]; gi_wp2; have bN := Box.new W #[.int .i64 x.1.2.at_, .string x.1.2.text] 63; exact hK _ _ ((KeepsOthers.alloc _ _).from _) ((Below.refl _ W).alloc (by omega) _) ⟨⟨i1, by simp; omega, (((Below.refl W.heap.size W).alloc (Nat.le_refl _) _).cell (p := ⟨w.heap.size, 0, none⟩) (World.block_lt_of_cell? _ _ i2)).trans i2, i3.alloc _, i4.alloc _, i5.alloc _⟩, i6.alloc i6.size _⟩ ⟨W.heap.size, i0, bN.cell 0 _ rfl, bN.cell 1 _ rfl, rfl⟩
    case body =>
      rintro l pre x a' W hl ⟨r, hr⟩ ⟨⟨i1, i0, i2, i3, i4, i5⟩, i6⟩ ⟨Bx, hBx, x0, x1, rfl⟩ hlt; have c3 := i3.cell; have hxs := x.2; by_cases hxa : x.1.2.at_ = a
      · have hq : (x.1.2.at_ == a) = true := by simp [hxa]
        have HB1 : Hid (∀ w1 : World, Below W.heap.size W w1 → Boxed w1 (w.heap.size + 1 + 1) 9 (.string ⟨#[]⟩) ∧ Boxed w1 (w.heap.size + 1 + 1 + 1) 4 (.bool false) ∧ Below w.heap.size w w1 ∧ KeepsFrom W0.heap.size W w1) :=
          fun w1 k1 => ⟨(k1.block _ i4.lt).trans i4, (k1.block _ i5.lt).trans i5, i6.trans (k1.mono i6.size), KeepsFrom.of_grownBy (row := none) ⟨k1.os, k1.tape, k1.output, k1.size, fun k hk _ => k1.block k hk⟩ (fun j e => by cases e)⟩
        have HX := Lib.hid hxa; have HI1 := Lib.hid i1; clear i4 i5 i6 hxa i1; gi_wp2_with (refine ⟨trivial, ?_⟩; gi_at_call 97; refine (CallsIn.inRound l (callsIn_wide.2 (clone_any _ _ (by omega)))).mono ?_; rintro e w1 ⟨rfl, k1⟩; obtain ⟨g4, g5, g6, g7⟩ := HB1.out w1 k1; have z4 := g4.cell; have f4 := g4.frozen; have z5 := g5.cell; have f5 := g5.frozen); refine ⟨g7.trans (((KeepsOthers.setCell _ _ _).from _).trans ((KeepsOthers.setCell _ _ _).from _)), ⟨rfl, pre, x, rfl, HI1.out, HX.out, ?_, ?_⟩, ?_⟩
        · exact (g4.set _).other (by omega) _
        · exact (g5.other (by omega) _).set _
        · exact (g6.setCell (p := ⟨w.heap.size + 1 + 1, 0, none⟩) (by simp; omega) _).setCell (p := ⟨w.heap.size + 1 + 1 + 1, 0, none⟩) (by simp; omega) _
      · have hq : (x.1.2.at_ == a) = false := by simp [hxa]
        have HX := Lib.hid hxa; clear hxa; gi_wp2; exact ⟨KeepsFrom.refl _ _, Below.refl _ _, ⟨fun p hp => (List.mem_append.1 hp).elim (i1 p) (fun e => by simp at e; subst e; exact HX.out), i0, i2, i3, i4, i5⟩, i6⟩
    case done =>
      rintro D ys W hD rfl ⟨⟨i1, i0, i2, i3, i4, i5⟩, i6⟩ hK; have hnone : lastAt d.cache a = none := by
        rw [lastAt_none_of hu (Nat.le_refl _) i1]; simp [lastAt]
      obtain ⟨k, rfl⟩ := Int.eq_ofNat_of_zero_le hi0; have hk : k < d.sec.length := (by omega); obtain ⟨g, rfl, hcs⟩ := (ha.later i6).at k hk; have HZ := Lib.hid (rdT_sec hk hnone); have htz := ht _ (List.getElem_mem hk); have c3 := i3.cell; have HB1 : Hid (∀ w1 : World, Below W.heap.size W w1 → Boxed w1 (w.heap.size + 1 + 1) 9 (.string ⟨#[]⟩) ∧ Boxed w1 (w.heap.size + 1 + 1 + 1) 4 (.bool false) ∧ Below w.heap.size w w1 ∧ w1.heap[D]? = some (.deferred (some []))) :=
        fun w1 k1 => ⟨(k1.block _ i4.lt).trans i4, (k1.block _ i5.lt).trans i5, i6.trans (k1.mono i6.size), (k1.block _ (Array.getElem?_eq_some_iff.1 hK).1).trans hK⟩
      clear i4 i5 i6 i1 hnone hK ht hu; generalize d.sec[k] = t at *; gi_wp2_with (refine ⟨trivial, ?_⟩; gi_at_call 97; refine (callsIn_wide.2 (clone_any _ _ (by omega))).mono ?_; rintro e w1 ⟨rfl, k1⟩; obtain ⟨g4, g5, g6, g7⟩ := HB1.out w1 k1; have z4 := g4.cell; have f4 := g4.frozen; have z5 := g5.cell; have f5 := g5.frozen); have G4 := (g4.set (.string t)).other (B' := w.heap.size + 1 + 1 + 1) (by omega) (.bool true); have G5 := (g5.other (B' := w.heap.size + 1 + 1) (by omega) (.string t)).set (.bool true); have GK := (KeepsOthers.setCell (w1.setCell ⟨w.heap.size + 1 + 1, 0, none⟩ (.string t)) ⟨w.heap.size + 1 + 1 + 1, 0, none⟩ (.bool true)).same D _ ((KeepsOthers.setCell w1 ⟨w.heap.size + 1 + 1, 0, none⟩ (.string t)).same D _ g7 rfl) rfl; refine ⟨by simp, .inl ⟨_, _, rfl, run_takeDeferred GK, ?_⟩⟩; have q4 := (G4.kept (grownBy_putObj' _ D (.deferred none)) (by simp; omega)).cell; have q5 := (G5.kept (grownBy_putObj' _ D (.deferred none)) (by simp; omega)).cell; have b6 := (g6.setCell (p := ⟨w.heap.size + 1 + 1, 0, none⟩) (by simp; omega) (.string t)).setCell (p := ⟨w.heap.size + 1 + 1 + 1, 0, none⟩) (by simp; omega) (.bool true); refine ⟨.tuple #[.string t, .bool true], ?_, by rw [HZ.out], b6.trans (belowK_b (w := w) (Nat.le_refl _) _ D _ _ (by omega) GK rfl rfl)⟩; simp [results, Tryz.f151, go_sem, q4, q5]
    case stop =>
      rintro D c pre W hD ⟨k, hk, rfl⟩ ⟨⟨rfl, ini, last, e1, e2, e3, e4, e5⟩, i6⟩ hK; gi_wp2; refine ⟨by simp, .inl ⟨_, _, rfl, run_takeDeferred hK, ?_⟩⟩; have q4 := (e4.kept (grownBy_putObj' _ D (.deferred none)) (by simp; omega)).cell; have q5 := (e5.kept (grownBy_putObj' _ D (.deferred none)) (by simp; omega)).cell; obtain ⟨k', rfl⟩ : ∃ k', k = k' + 1 := by
        cases k with
        | zero => simp [bkTo] at e1
        | succ k' => exact ⟨k', rfl⟩
      rw [bkTo_succ] at e1; obtain ⟨rfl, e6⟩ := List.append_inj' e1 rfl; obtain rfl : bkAt d.cache hu k' = last := by simpa using e6
      have HZ := rdT_last hin (lastAt_of_hit hu (by omega) e2 e3); refine ⟨.tuple #[.string (bkAt d.cache hu k').1.2.text, .bool true], ?_, by rw [HZ], i6.trans (belowK_b (w := w) (Nat.le_refl _) W D _ _ (by omega) hK rfl rfl)⟩; simp [results, Tryz.f151, go_sem, q4, q5]
  · have HZ := Lib.hid (rdT_no hin)
    have hB0 := Lib.hid ((((((Below.refl _ w).alloc (Nat.le_refl _) (.cells #[.slice aa d.sec.length ca, .slice ab d.cache.length cb] 27)).alloc (by simp) (.cells #[.int .i64 a] 3)).alloc (by simp; omega) (.cells #[.string ⟨#[]⟩] 9)).alloc (by simp; omega) (.cells #[.bool false] 4))); clear ha hb h; go_enter Tryz.func151, Tryz.ntmps151
    go_wp2
    all_goals
      refine bodyPost_ret (v := .tuple #[.string ⟨#[]⟩, .bool false]) (by simp [results, Tryz.results151, go_sem]) rfl ?_
      exact ⟨by rw [HZ.out], hB0.out⟩

/- strings.Builder: what WriteString and String hand back: String out of the library's own theorem, at the numbers of this program; copyCheck and WriteString walked. -/
open Go.Shelf Go.RowKit
def bldRen : Go.Shelf.Ren := ⟨fun | 169 => 153 | n => n, fun | 70 => 195 | 9 => 9 | 0 => 0 | 72 => 197 | 37 => 22 | 127 => 190 | 3 => 3 | 5 => 5 | n => n, fun | n => n⟩
theorem bldLaid : Go.Proofs.Lays.n169 Tryz.prog bldRen := {
  mixed := by kernel_rfl
  f169 := Tryz.func153.trans (congrArg some (by kernel_rfl))
  t0 := Tryz.underlying0
  a0 := Tryz.isAgg0
  z0 := Tryz.sizeOf0
  v0 := Tryz.zeroValue0
  t3 := Tryz.underlying3
  a3 := Tryz.isAgg3
  z3 := Tryz.sizeOf3
  v3 := Tryz.zeroValue3
  t9 := Tryz.underlying9
  a9 := Tryz.isAgg9
  z9 := Tryz.sizeOf9
  v9 := Tryz.zeroValue9
  t37 := Tryz.underlying22
  a37 := Tryz.isAgg22
  z37 := Tryz.sizeOf22
  v37 := Tryz.zeroValue22
  t70 := Tryz.underlying195
  a70 := Tryz.isAgg195
  z70 := Tryz.sizeOf195
  v70 := Tryz.zeroValue195
  t72 := Tryz.underlying197
  a72 := Tryz.isAgg197
  z72 := Tryz.sizeOf197
  v72 := Tryz.zeroValue197
  t127 := Tryz.underlying190
  a127 := Tryz.isAgg190
  z127 := Tryz.sizeOf190
  v127 := Tryz.zeroValue190 }
theorem bldExtra : Builder.Extra Tryz.prog bldRen := {
  sizeBuilder := by kernel_rfl
  liesBuilder := by kernel_rfl
  t5 := Tryz.underlying5
  a5 := Tryz.isAgg5
  z5 := Tryz.sizeOf5
  v5 := Tryz.zeroValue5
  infoByte := by kernel_rfl
  cellsByte := by kernel_rfl
  sizeByte := by kernel_rfl
  neB5 := by decide }
theorem bldString (B b : Nat) (l : List UInt8) (w : World) (h : Lib.IsBuilder 197 5 B b (Lib.byteCells l) w) (hBw : B ≤ w.heap.size) :
    Calls Tryz.prog 153 #[.pointer (some ⟨b, 0, none⟩)] w fun e w' => e = .returned (.string ⟨l.toArray⟩) ∧ Below B w w' := Any.Builder_String_any bldLaid bldExtra B b l w h hBw
theorem copyCheck_used (b : Nat) (w : World) (h0 : w.cell? ⟨b, 0, none⟩ = some (.pointer (some ⟨b, 0, none⟩))) :
    Calls Tryz.prog 162 #[.pointer (some ⟨b, 0, none⟩)] w fun e w' => e = .returned (.tuple #[]) ∧ w' = w := by
  obtain ⟨j, hj, _⟩ := Option.map_eq_some_iff.1 bldExtra.sizeBuilder; go_enter Tryz.func162, Tryz.ntmps162
  go_wp2; rw [Lib.run_neq_ptr_same w _ Tryz.underlying195 hj]; go_wp2; go_end0
  exact ⟨rfl, rfl⟩
theorem copyCheck_fresh (b : Nat) (w : World) (h0 : w.cell? ⟨b, 0, none⟩ = some (.pointer none)) (hsh : w.shape? b = some (197, 2)) (hfz : w.frozen? ⟨b, 0, none⟩ = false) :
    Calls Tryz.prog 162 #[.pointer (some ⟨b, 0, none⟩)] w fun e w' => e = .returned (.tuple #[]) ∧ w' = w.setCell ⟨b, 0, none⟩ (.pointer (some ⟨b, 0, none⟩)) := by
  obtain ⟨j, hj, hjs⟩ := Option.map_eq_some_iff.1 bldExtra.sizeBuilder; go_enter Tryz.func162, Tryz.ntmps162
  go_wp2; rw [Lib.run_to_unsafe w ⟨b, 0, none⟩ Tryz.underlying195 Tryz.underlying212 hj (by rw [hjs]; decide) hsh (Nat.zero_lt_succ 1)]; simp only [Result.andThen]; rw [Oper.upon_value]; go_wp2; rw [run_callFunc_extern Tryz.func168 (by kernel_rfl) (by kernel_rfl) (by kernel_rfl) (e := Extern.AbiNoEscape.same) (by kernel_rfl)]; rw [Lib.run_noEscape]; simp only [Result.andThen]; rw [Oper.upon_value]; go_wp2; rw [Lib.run_from_unsafe w ⟨b, 0, none⟩ Tryz.underlying212 Tryz.underlying195 hj hsh bldExtra.liesBuilder]; simp only [Result.andThen]; rw [Oper.upon_value]; go_wp2; go_end0
  exact ⟨rfl, rfl⟩
theorem copyCheck_any (B b : Nat) (bs : List Value) (w : World) (h : Lib.IsBuilder 197 5 B b bs w) :
    Calls Tryz.prog 162 #[.pointer (some ⟨b, 0, none⟩)] w fun e w' => e = .returned (.tuple #[]) ∧ (Lib.BuilderAt 197 5 B b (.pointer (some ⟨b, 0, none⟩)) bs w' ∧ Below B w w') := by
  rcases h with h | h
  · refine (copyCheck_fresh b w h.cell0 h.shape h.frozen0).mono ?_
    rintro e w' ⟨rfl, rfl⟩; exact ⟨rfl, h.used _, (Below.refl B w).setCell (p := ⟨b, 0, none⟩) h.1 _⟩
  · refine (copyCheck_used b w h.cell0).mono ?_
    rintro e w' ⟨rfl, rfl⟩; exact ⟨rfl, h, Below.refl B _⟩
theorem bldWrite (B b : Nat) (bs : List Value) (s : ByteArray) (w : World) (h : Lib.IsBuilder 197 5 B b bs w) (hlen : bs.length + s.size ≤ 140737488355328) (hBw : B ≤ w.heap.size) :
    Calls Tryz.prog 152 #[.pointer (some ⟨b, 0, none⟩), .string s] w fun e w' => e = .returned (.tuple #[.int .i64 s.size, .nilIface]) ∧ (Lib.BuilderAt 197 5 B b (.pointer (some ⟨b, 0, none⟩)) (bs ++ Lib.strCells s) w' ∧ Below B w w') := by
  obtain ⟨i0, hi, hz0, hz1, hz2⟩ := info_parts bldExtra.infoByte; go_enter Tryz.func152, Tryz.ntmps152
  go_wp2_with (go_at_call 162; refine (copyCheck_any B b bs _ h).mono ?_)
  rintro e w1 ⟨rfl, h1, hb1⟩; obtain ⟨hB, v, hbk, hown, hne⟩ := h1; have c0 : w1.cell? ⟨b, 0, none⟩ = some (.pointer (some ⟨b, 0, none⟩)) := by rw [Lib.cell_of_heap hbk]; rfl
  have c1 : w1.cell? ⟨b, 1, none⟩ = some v := by rw [Lib.cell_of_heap hbk]; rfl
  go_wp2_with (at_builtin; refine Lib.wpList_append_own_string _ rfl _ _ 22 9 rfl B 5 i0 Tryz.underlying22 Tryz.underlying9 hi hz0 hz1 hz2 _ _ _ rfl hown s rfl ?c3 ?c4 ?c5 ?_)
  case c3 => unfold maxLen; omega
  case c4 => omega
  case c5 => have := hb1.size; omega
  intro v' w2 hown' hgrow _; have hlt : b < w1.heap.size := by
    rcases Nat.lt_or_ge b w1.heap.size with h' | h'
    · exact h'
    · simp [Array.getElem?_eq_none h'] at hbk
  have hb2 : w2.heap[b]? = some (.cells #[.pointer (some ⟨b, 0, none⟩), v] 197 (0, 0)) := by
    rw [hgrow.block b hlt (fun e => hne e.symm)]; exact hbk
  have d0 : w2.cell? ⟨b, 0, none⟩ = some (.pointer (some ⟨b, 0, none⟩)) := by rw [Lib.cell_of_heap hb2]; rfl
  have d1 : w2.cell? ⟨b, 1, none⟩ = some v := by rw [Lib.cell_of_heap hb2]; rfl
  have f1 : w2.frozen? ⟨b, 1, none⟩ = false := Lib.frozen_of_heap hb2 1; obtain ⟨ao, n', cap, rfl⟩ : ∃ ao n' cap, v' = .slice ao n' cap := by
    rcases hown'.2 with ⟨hv, _⟩ | ⟨g, cap, cur, hv, _⟩
    · exact ⟨_, _, _, hv⟩
    · exact ⟨_, _, _, hv⟩
  go_wp2; go_ret2
  refine ⟨rfl, ?_, ?_⟩
  · exact Lib.BuilderAt.put (T := 197) (e := 5) hB hb2 (bs' := bs ++ Lib.strCells s) (by simpa [Lib.strCells_length] using hown') (by decide)
  · exact (hb1.grown hgrow (by have := hb1.size; omega) (fun k hk => (hown.lt k hk).1)).setCell (p := ⟨b, 1, none⟩) hB _
end Go.Proofs.YtklkhllkjnbhjaaGreatDoor
