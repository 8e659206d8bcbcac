/- Texts of our own, joined. -/
import Derived.Test.YtieenkloiicnkaaGreatDoorJh
import Derived.Deep.Cut
import Derived.Test.YtieenkloiicnkaaGreatDoorJa
/- Segments: where they lie, and their texts: SegFirst, SegText, the model's and the program's. -/
namespace Go.Proofs.YtieenkloiicnkaaGreatDoor
open Go.RowKit

def sgF (s : Int) : Int := if 0 ≤ s ∧ s ≤ 10 then 8 + 8 * s else 0
theorem sgF_yes {s : Int} (h : 0 ≤ s ∧ s ≤ 10) : sgF s = 8 + 8 * s := if_pos h
theorem sgF_no {s : Int} (h : ¬ (0 ≤ s ∧ s ≤ 10)) : sgF s = 0 := if_neg h

theorem segNumberOk_any (s : Int) (w : World) :
    Calls Tryz.prog 102 #[.int .i64 s] w fun e w' => e = .returned (.bool (decide (0 ≤ s ∧ s ≤ 10))) ∧ w = w' := by
  by_cases h1 : 0 ≤ s
  · have g2 : decide (s < 11) = decide (0 ≤ s ∧ s ≤ 10) := decide_eq_decide.2 ⟨fun h => ⟨h1, by omega⟩, fun h => by omega⟩
    rw [← g2]
    clear g2
    go_enter Tryz.func102, Tryz.ntmps102
    go_wp2
    go_ret
    exact ⟨rfl, rfl⟩
  · rw [decide_eq_false (show ¬ (0 ≤ s ∧ s ≤ 10) by omega)]
    go_enter Tryz.func102, Tryz.ntmps102
    go_wp2
    go_ret
    exact ⟨rfl, rfl⟩

theorem implSegFirst_any (s : Int) (w : World) :
    Calls Tryz.prog 61 #[.int .i64 s] w fun e w' => e = .returned (.int .i64 (sgF s)) ∧ w = w' := by
  by_cases h : 0 ≤ s ∧ s ≤ 10
  · rw [sgF_yes h]
    have hd := decide_eq_true h
    go_enter Tryz.func61, Tryz.ntmps61
    go_wp2_with (go_at_call 102; refine (segNumberOk_any _ _).mono ?_; rintro e w1 ⟨rfl, rfl⟩; rw [hd])
    go_ret
    exact ⟨rfl, rfl⟩
  · rw [sgF_no h]
    have hd := decide_eq_false h
    go_enter Tryz.func61, Tryz.ntmps61
    go_wp2_with (go_at_call 102; refine (segNumberOk_any _ _).mono ?_; rintro e w1 ⟨rfl, rfl⟩; rw [hd])
    go_ret
    exact ⟨rfl, rfl⟩

theorem specSegFirst_any (s : Int) (w : World) :
    Calls Tryz.prog 138 #[.int .i64 s] w fun e w' => e = .returned (.int .i64 (sgF s)) ∧ w = w' := by
  by_cases h : 0 ≤ s ∧ s ≤ 10
  · rw [sgF_yes h]
    go_enter Tryz.func138, Tryz.ntmps138
    go_wp2_with (go_at_call 56; refine (in_yes _ _ _ _ (by omega) (by omega)).mono ?_; rintro e w5 ⟨rfl, rfl⟩)
    go_ret
    exact ⟨congrArg (fun z => Ending.returned (.int .i64 z)) (by omega), rfl⟩
  · rw [sgF_no h]
    go_enter Tryz.func138, Tryz.ntmps138
    go_wp2_with (go_at_call 56; refine (in_no _ _ _ _ h).mono ?_; rintro e w5 ⟨rfl, rfl⟩)
    go_ret
    exact ⟨rfl, rfl⟩

end Go.Proofs.YtieenkloiicnkaaGreatDoor

/- What spec.l01Long hands back. -/
namespace Go.Proofs.YtieenkloiicnkaaGreatDoor
open Go.RowKit

theorem Buf.stored {B : Nat} {w0 w : World} {g cap : Nat} {l : List UInt8} (h : Buf B w0 w (.slice (some ⟨g, 0, none⟩) l.length cap) l) (j : Nat) (t : UInt8) :
    Buf B w0 (w.setCell ⟨g, j, none⟩ (.int .u8 (t.toNat : Int))) (.slice (some ⟨g, 0, none⟩) l.length cap) (l.set j t) := by
  have hst := h.own.stored j (.int .u8 (t.toNat : Int))
  have e : bytesV (l.set j t) = (bytesV l).set j (.int .u8 (t.toNat : Int)) := by simp [bytesV, List.map_set]
  refine ⟨?_, h.bel.setCell (h.own.lt g rfl).1 _, by have := h.le; simpa using this⟩
  have hl : (l.set j t).length = l.length := by simp
  rw [hl, e]
  exact hst.1

theorem wpList_make_zeros {w : World} {ops : Array Oper} {rest : List Oper} {o : Oper} {a : Act} {Q : Exit → Act → World → Prop} (hg : o.guard = none) (l c : Operand) (hop : o.op = Op.makeSlice 157 l c)
    (kl kc : IntKind) (L C : Int) (n : Nat) (hl : a.eval l = .int kl L) (hc : a.eval c = .int kc C) (hL : L = (n : Int)) (hC : C = (n : Int)) (hn : n ≤ 281474976710656)
    (h : ∀ w' g, Buf w.heap.size w w' (.slice (some ⟨g, 0, none⟩) n n) (List.replicate n 0) → wpList Tryz.prog ops Q rest (a.put o.dst (.slice (some ⟨g, 0, none⟩) n n)) w') : wpList Tryz.prog ops Q (o :: rest) a w := by
  obtain ⟨i0, hi, hz0, hz1, hz2⟩ := info_parts Tryz.info_u8
  refine wpList_make_full w hg l c 157 hop w.heap.size 5 i0 (.int .u8 0) 1 Tryz.underlying157 hi hz0 hz1 kl kc L C n hl hc hL hC (by rw [hz2]; omega) (by unfold maxLen; omega) (Nat.le_refl _) ?_
  intro w' hown hgrow
  refine h w' w.heap.size ⟨?_, (Below.refl _ _).grown hgrow (Nat.le_refl _) (fun k hk => by cases hk), hgrow.size⟩
  have e : (madeCells (Value.int .u8 0).cells (n * 1)).toList = bytesV (List.replicate n 0) := by
    rw [Nat.mul_one]
    show (madeCells #[Value.int .u8 0] n).toList = _
    rw [toList_madeCells_one]
    simp [bytesV]
  rw [e] at hown
  simpa using hown

def longTo (n k : Nat) (x : UInt8) : List UInt8 := List.replicate k x ++ List.replicate (n - k) 0
theorem longTo_length {n k : Nat} {x : UInt8} (h : k ≤ n) : (longTo n k x).length = n := by simp [longTo]; omega
theorem longTo_set {n k : Nat} {x : UInt8} (h : k < n) : (longTo n k x).set k x = longTo n (k + 1) x := by
  unfold longTo
  rw [List.set_append_right _ _ (by simp)]
  simp only [List.length_replicate, Nat.sub_self]
  rw [show n - k = (n - (k + 1)) + 1 by omega, List.replicate_succ, List.set_cons_zero, List.replicate_succ', List.append_assoc]
  rfl
theorem longTo_all (n : Nat) (x : UInt8) : longTo n n x = List.replicate n x := by simp [longTo]

set_option maxRecDepth 100000 in
set_option maxHeartbeats 1000000 in
theorem long_any (n : Nat) (x : UInt8) (w : World) (hn : n ≤ 1048576) :
    Calls Tryz.prog 137 #[.int .i64 (n : Int), .int .u8 (x.toNat : Int)] w fun e w' => e = .returned (.string ⟨(List.replicate n x).toArray⟩) ∧ Below w.heap.size w w' := by
  go_enter Tryz.func137, Tryz.ntmps137
  go_wp2_with (at_make; refine wpList_make_zeros rfl _ _ rfl .i64 .i64 _ _ n rfl rfl rfl rfl (by omega) ?_; intro w1 g hb1)
  go_loopw [6] (fun iv wr => ∃ k : Nat, k ≤ n ∧ iv = .int .i64 (k : Int) ∧ Buf w.heap.size w wr (.slice (some ⟨g, 0, none⟩) n n) (longTo n k x)) (fun iv _ => n - (intOf iv).toNat)
  case atStart => exact ⟨0, by omega, rfl, by simpa [longTo] using hb1⟩
  case round =>
    obtain ⟨k, hk, rfl, hb⟩ := hrel
    by_cases hlt : k < n
    · have hml := longTo_length (x := x) hk
      have hms : Hid ((longTo n k x).set k x = longTo n (k + 1) x) := longTo_set hlt
      have hbm : Buf w.heap.size w wr (.slice (some ⟨g, 0, none⟩) (longTo n k x).length n) (longTo n k x) := by rw [hml]; exact hb
      have hc1 : wr.cell? ⟨g, k, none⟩ = some (.int .u8 (((longTo n k x)[k]'(by omega)).toNat : Int)) := by
        rw [hbm.own.cellAt k (by omega)]
        simp only [bytesV, List.getElem?_map]
        rw [List.getElem?_eq_getElem (by omega)]
        rfl
      have hf1 : wr.frozen? ⟨g, k, none⟩ = false := hbm.own.frozenAt k
      have hst := hbm.stored k x
      rw [hms.out, hml] at hst
      generalize (longTo n k x)[k]'(by omega) = t at hc1
      clear hml hbm
      go_wp2
      go_roundw
      case rel => exact ⟨k + 1, by omega, by go_num, hst⟩
      case measure => simp [intOf]; omega
    · have hfin : Hid (k = n) := by show k = n; omega
      have hcv := hb.toString
      go_wp2
      go_ret
      exact ⟨by rw [hfin.out, longTo_all]; rfl, hb.bel⟩

end Go.Proofs.YtieenkloiicnkaaGreatDoor
