/- The helpers of the exact laws over lists of writes: two alike are alike; each is marked, and the marks are held. -/
import Derived.Test.YtnaaebbinmpjeaaMarksS
import Derived.Test.YtnaaebbinmpjeaaEncs
import Derived.Test.YtnaaebbinmpjeaaPuts
import Derived.Lib.Hide
namespace Go.Proofs.Ytnaaebbinmpjeaa
open Go.RowKit

/-- The marks of a list of writes. -/
def markW (k : Nat) (j : Nat) : Wr := ⟨((k + 2 * j : Nat) : Int), mark (k + 2 * j + 1)⟩
def marksW (k n : Nat) : List Wr := (List.range n).map (markW k)
theorem marksW_length (k n : Nat) : (marksW k n).length = n := by simp [marksW]
theorem marksW_at {k n i : Nat} (h : i < n) : (marksW k n)[i]? = some (markW k i) := by simp [marksW, h]

/-! Lists of texts as rows. -/

theorem strE_row (l : List ByteArray) : strE.row l = strV l := by
  induction l with
  | nil => rfl
  | cons x l ih =>
    have : strE.row (x :: l) = .string x :: strE.row l := rfl
    rw [this, ih]; rfl

theorem RBuf.toS {B : Nat} {w0 w : World} {v : Value} {l : List ByteArray} (h : RBuf strE B w0 w v l) : SBuf B w0 w v l :=
  ⟨by have := h.own; rw [strE_row] at this; exact this, h.bel, h.le⟩
theorem SBuf.toR {B : Nat} {w0 w : World} {v : Value} {l : List ByteArray} (h : SBuf B w0 w v l) : RBuf strE B w0 w v l :=
  ⟨by rw [strE_row]; exact h.own, h.bel, h.le⟩

set_option maxRecDepth 100000 in
set_option maxHeartbeats 1000000 in
theorem markStringS_row (l : List ByteArray) (v : Value) (k B : Nat) (w0 w : World) (hb : SBuf B w0 w v l) (hk : 1 ≤ k) (hk2 : k + l.length ≤ 1099511627776) :
    Calls Try.prog 12 #[v, .int .i64 (k : Int)] w fun e w' => e = .returned (.int .i64 ((k + l.length : Nat) : Int)) ∧ SBuf B w0 w' v (marksOf k l.length) ∧ w.grownBy w' v.ownBlock := by
  rcases hb.own.2 with ⟨rfl, h0⟩ | ⟨g, cap, cur, rfl, hg, hh, hnc, hcp, hcs, htake⟩
  · obtain rfl := List.length_eq_zero_iff.1 h0
    go_enter Try.func12, Try.ntmps12
    go_wp2
    go_loop [1, 5] (fun kv iv => kv = .int .i64 (k : Int) ∧ iv = .int .i64 0) (fun _ _ => 0)
    case atStart => exact ⟨rfl, rfl⟩
    case round =>
      obtain ⟨rfl, rfl⟩ := hrel
      go_wp2
      go_ret
      exact ⟨rfl, hb, World.grownBy.refl _ _⟩
  · clear hh hcs htake hcp
    have hle : l.length ≤ 1099511627776 := by omega
    go_enter Try.func12, Try.ntmps12
    go_wp2
    go_loopw [1, 5] (fun kv iv wr => ∃ i : Nat, i ≤ l.length ∧ iv = .int .i64 (i : Int) ∧ kv = .int .i64 ((k + i : Nat) : Int) ∧ SBuf B w0 wr (.slice (some ⟨g, 0, none⟩) l.length cap) (markTo k l i) ∧ w.grownBy wr (some g)) (fun _ iv _ => l.length - (intOf iv).toNat)
    case atStart => exact ⟨0, by omega, rfl, rfl, by rw [markTo_zero]; exact hb, World.grownBy.refl _ _⟩
    case round =>
      obtain ⟨i, hi, rfl, rfl, hbr, hgr⟩ := hrel
      by_cases hlt : i < l.length
      · have hi0 : (0 : Int) ≤ (i : Int) := by omega
        have hi1 : (i : Int) < (l.length : Int) := by omega
        have hml := markTo_length (k := k) hi
        have hms : Hid ((markTo k l i).set i (mark (k + i)) = markTo k l (i + 1)) := markTo_set hlt
        have HF : Hid (∀ w1, Below wr.heap.size wr w1 → ∃ t, w1.cell? ⟨g, i, none⟩ = some (.string t) ∧ w1.frozen? ⟨g, i, none⟩ = false) := by
          intro w1 hb1
          have hb2 := hbr.later hb1
          rw [← hml] at hb2
          refine ⟨(markTo k l i)[i]'(by omega), ?_, hb2.own.frozenAt i⟩
          rw [hb2.own.cellAt i (by omega)]
          simp [strV]
        have HG := Lib.hid hgr
        clear hgr
        go_wp2_with (go_at_call 26; refine (markText_at _ (k + i) _ (by omega) (by omega) (by omega)).mono ?_; rintro e w1 ⟨rfl, hb1⟩; obtain ⟨t, hc1, hf1⟩ := HF.out w1 hb1)
        have hb2 := hbr.later hb1
        have hst : SBuf B w0 (w1.setCell ⟨g, i, none⟩ (.string (mark (k + i)))) (.slice (some ⟨g, 0, none⟩) l.length cap) (markTo k l (i + 1)) := by
          rw [← hml] at hb2
          have := hb2.stored i (mark (k + i))
          rw [hms.out, hml] at this
          exact this
        have hg2 := (HG.out.trans (grownBy_of_below hb1 (some g))).trans (grownBy_store w1 g i (.string (mark (k + i))))
        go_roundw
        case rel => exact ⟨i + 1, by omega, by go_num, by go_num, hst, hg2⟩
        case measure => simp [intOf]; omega
      · have hfin : Hid (i = l.length) := by show i = l.length; omega
        go_wp2
        go_ret
        refine ⟨?_, ?_, hgr⟩
        · rw [← hfin.out]; rfl
        · have := hbr
          rw [hfin.out, markTo_all] at this
          exact this

end Go.Proofs.Ytnaaebbinmpjeaa
