/- A list of texts marked and looked at again: what laws.markStringS and laws.heldStringS hand back. -/
import Derived.Test.YtnaaebbinmpjeaaMarks
namespace Go.Proofs.Ytnaaebbinmpjeaa
open Go.RowKit

theorem markText_at (K : Int) (k : Nat) (w : World) (hK : K = (k : Int)) (h1 : 1 ≤ k) (h2 : k ≤ 4611686018427387904) :
    Calls Try.prog 26 #[.int .i64 K] w fun e w' => e = .returned (.string (mark k)) ∧ Below w.heap.size w w' := by
  subst hK
  exact markText_any k w h1 h2

/-- The first i texts of l marked, from the k-th mark on. -/
def markTo (k : Nat) (l : List ByteArray) (i : Nat) : List ByteArray := (List.range i).map (fun j => mark (k + j)) ++ l.drop i

theorem markTo_length {k i : Nat} {l : List ByteArray} (h : i ≤ l.length) : (markTo k l i).length = l.length := by
  simp [markTo]; omega

theorem markTo_set {k i : Nat} {l : List ByteArray} (h : i < l.length) : (markTo k l i).set i (mark (k + i)) = markTo k l (i + 1) := by
  unfold markTo
  rw [List.set_append_right _ _ (by simp)]
  simp only [List.length_map, List.length_range, Nat.sub_self]
  rw [List.drop_eq_getElem_cons h, List.set_cons_zero, List.range_succ, List.map_append, List.append_assoc]
  rfl

theorem markTo_zero (k : Nat) (l : List ByteArray) : markTo k l 0 = l := by simp [markTo]

/-- All marked. -/
def marksOf (k n : Nat) : List ByteArray := (List.range n).map (fun j => mark (k + j))
theorem markTo_all (k : Nat) (l : List ByteArray) : markTo k l l.length = marksOf k l.length := by simp [markTo, marksOf]
theorem marksOf_length (k n : Nat) : (marksOf k n).length = n := by simp [marksOf]
theorem marksOf_at {k n i : Nat} (h : i < n) : (marksOf k n)[i]? = some (mark (k + i)) := by simp [marksOf, h]

set_option maxRecDepth 100000 in
set_option maxHeartbeats 1000000 in
theorem markStringS_any (l : List ByteArray) (v : Value) (k B : Nat) (w0 w : World) (hb : SBuf B w0 w v l) (hk : 1 ≤ k) (hk2 : k + l.length ≤ 1099511627776) :
    Calls Try.prog 12 #[v, .int .i64 (k : Int)] w fun e w' => e = .returned (.int .i64 ((k + l.length : Nat) : Int)) ∧ SBuf B w0 w' v (marksOf k l.length) := by
  rcases hb.own.2 with ⟨rfl, h0⟩ | ⟨g, cap, cur, rfl, hg, hh, hnc, hcp, hcs, htake⟩
  · obtain rfl := List.length_eq_zero_iff.1 h0
    go_enter Try.func12, Try.ntmps12
    go_wp2
    go_loop [1, 5] (fun kv iv => kv = .int .i64 (k : Int) ∧ iv = .int .i64 0) (fun _ _ => 0)
    case atStart => exact ⟨rfl, rfl⟩
    case round =>
      obtain ⟨rfl, rfl⟩ := hrel
      go_wp2
      go_ret
      exact ⟨rfl, hb⟩
  · clear hh hcs htake hcp
    have hle : l.length ≤ 1099511627776 := by omega
    go_enter Try.func12, Try.ntmps12
    go_wp2
    go_loopw [1, 5] (fun kv iv wr => ∃ i : Nat, i ≤ l.length ∧ iv = .int .i64 (i : Int) ∧ kv = .int .i64 ((k + i : Nat) : Int) ∧ SBuf B w0 wr (.slice (some ⟨g, 0, none⟩) l.length cap) (markTo k l i)) (fun _ iv _ => l.length - (intOf iv).toNat)
    case atStart => exact ⟨0, by omega, rfl, rfl, by rw [markTo_zero]; exact hb⟩
    case round =>
      obtain ⟨i, hi, rfl, rfl, hbr⟩ := hrel
      by_cases hlt : i < l.length
      · have hi0 : (0 : Int) ≤ (i : Int) := by omega
        have hi1 : (i : Int) < (l.length : Int) := by omega
        have hml := markTo_length (k := k) hi
        have hms : Hid ((markTo k l i).set i (mark (k + i)) = markTo k l (i + 1)) := markTo_set hlt
        have HF : Hid (∀ w1, Below wr.heap.size wr w1 → ∃ t, w1.cell? ⟨g, i, none⟩ = some (.string t) ∧ w1.frozen? ⟨g, i, none⟩ = false) := by
          intro w1 hb1
          have hb2 := hbr.later hb1
          rw [← hml] at hb2
          refine ⟨(markTo k l i)[i]'(by omega), ?_, hb2.own.frozenAt i⟩
          rw [hb2.own.cellAt i (by omega)]
          simp [strV]
        go_wp2_with (go_at_call 26; refine (markText_at _ (k + i) _ (by omega) (by omega) (by omega)).mono ?_; rintro e w1 ⟨rfl, hb1⟩; obtain ⟨t, hc1, hf1⟩ := HF.out w1 hb1)
        have hb2 := hbr.later hb1
        have hst : SBuf B w0 (w1.setCell ⟨g, i, none⟩ (.string (mark (k + i)))) (.slice (some ⟨g, 0, none⟩) l.length cap) (markTo k l (i + 1)) := by
          rw [← hml] at hb2
          have := hb2.stored i (mark (k + i))
          rw [hms.out, hml] at this
          exact this
        go_roundw
        case rel => exact ⟨i + 1, by omega, by go_num, by go_num, hst⟩
        case measure => simp [intOf]; omega
      · have hfin : Hid (i = l.length) := by show i = l.length; omega
        go_wp2
        go_ret
        refine ⟨?_, ?_⟩
        · rw [← hfin.out]; rfl
        · have := hbr
          rw [hfin.out, markTo_all] at this
          exact this

set_option maxRecDepth 100000 in
set_option maxHeartbeats 1000000 in
theorem heldStringS_any (n : Nat) (v : Value) (k : Nat) (w : World) (hb : Strs w v (marksOf k n)) (hk : 1 ≤ k) (hk2 : k + n ≤ 1099511627776) :
    Calls Try.prog 13 #[v, .int .i64 (k : Int)] w fun e w' => e = .returned (.int .i64 ((k + n : Nat) : Int)) ∧ Below w.heap.size w w' := by
  have hmn := marksOf_length k n
  rcases hb.ways with ⟨h0, a, c, rfl⟩ | ⟨hne, g, cap, rfl, hcap, hg, hcl⟩
  · have hn0 : n = 0 := by rw [h0] at hmn; simpa using hmn.symm
    subst hn0
    clear hb
    go_enter Try.func13, Try.ntmps13
    go_wp2
    go_loop [1, 5] (fun kv iv => kv = .int .i64 (k : Int) ∧ iv = .int .i64 0) (fun _ _ => 0)
    case atStart => exact ⟨rfl, rfl⟩
    case round =>
      obtain ⟨rfl, rfl⟩ := hrel
      go_wp2
      go_ret
      exact ⟨rfl, Below.refl _ _⟩
  · rw [hmn] at *
    have HC : Hid (∀ j b, (marksOf k n)[j]? = some b → w.cell? ⟨g, j, none⟩ = some (.string b)) := hcl
    clear hcl hb hne hmn
    go_enter Try.func13, Try.ntmps13
    go_wp2
    go_loopw [1, 5] (fun kv iv wr => ∃ i : Nat, i ≤ n ∧ iv = .int .i64 (i : Int) ∧ kv = .int .i64 ((k + i : Nat) : Int) ∧ Below w.heap.size w wr) (fun _ iv _ => n - (intOf iv).toNat)
    case atStart => exact ⟨0, by omega, rfl, rfl, Below.refl _ _⟩
    case round =>
      obtain ⟨i, hi, rfl, rfl, hbel⟩ := hrel
      by_cases hlt : i < n
      · have hi0 : (0 : Int) ≤ (i : Int) := by omega
        have hi1 : (i : Int) < (n : Int) := by omega
        have hc0 := HC.out i _ (marksOf_at hlt)
        have hc1 := (hbel.cell (p := ⟨g, i, none⟩) hg).trans hc0
        obtain ⟨t, ht0⟩ : ∃ t, mark (k + i) = t := ⟨_, rfl⟩
        have ht : Hid (mark (k + i) = t) := ht0
        rw [ht0] at hc1 hc0
        have HC0 : Hid (w.cell? ⟨g, i, none⟩ = some (.string t)) := hc0
        clear ht0 hc0
        go_wp2
        go_region_held3 (fun w' => w'.cell? ⟨g, i, none⟩ = some (.string t))
          (first | go_keep | exact ((hbel.drew.trans (hb1.mono hbel.size)).cell hg).trans HC0.out)
          (first | (go_at_call 26; refine (markText_at _ (k + i) _ (by omega) (by omega) (by omega)).mono ?_; rintro e w1 ⟨rfl, hb1⟩; rw [ht.out]))
        all_goals
          go_wp2
          go_roundw
          case rel => exact ⟨i + 1, by omega, by go_num, by go_num, hbel.drew.trans (hb1.mono hbel.size)⟩
          case measure => simp [intOf]; omega
      · have hfin : Hid (i = n) := by show i = n; omega
        go_wp2
        go_ret
        exact ⟨by rw [← hfin.out]; rfl, hbel⟩

end Go.Proofs.Ytnaaebbinmpjeaa
