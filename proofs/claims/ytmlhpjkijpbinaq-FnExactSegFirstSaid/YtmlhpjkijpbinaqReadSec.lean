/- What the program's ReadSector hands back: a range over slices.Backward. -/
import Derived.Test.YtmlhpjkijpbinaqSpecDisk
import Derived.Test.YtmlhpjkijpbinaqClone
import Derived.RangeFuncNested
import Derived.RangeFuncBound
import Derived.RangeFuncCalls
import Derived.RangeFuncLeaves
import Derived.RangeFuncBox
import Derived.Shelf.Abstract
import Derived.Shelf.RegionOpen
import Derived.WalkKit
import Derived.OwnWalkIn
import Derived.TacticsInMore
import Derived.LoopNIn
import Derived.LoopIn
namespace Go.Proofs.Ytmlhpjkijpbinaq
open Go.RowKit Go.Shelf

attribute [local go_sem] Oper.semAt_some

/-- What comes in a round: where, and a write that is not too long. -/
abbrev BkT := { p : Int × Wr // p.2.text.size ≤ 1099511627776 }
/-- What comes in round j: from the end on. -/
def bkV (c : List Wr) (j : Nat) : Int × Wr := ((c.length : Int) - 1 - (j : Int), (c[c.length - 1 - j]?).getD ⟨0, ⟨#[]⟩⟩)
theorem bkV_ok {c : List Wr} (hu : ∀ x ∈ c, x.text.size ≤ 1099511627776) (j : Nat) : (bkV c j).2.text.size ≤ 1099511627776 := by
  unfold bkV
  by_cases h : c.length - 1 - j < c.length
  · simp only [List.getElem?_eq_getElem h, Option.getD_some]
    exact hu _ (List.getElem_mem h)
  · simp only [List.getElem?_eq_none (Nat.le_of_not_lt h), Option.getD_none]
    exact Nat.zero_le _
def bkAt (c : List Wr) (hu : ∀ x ∈ c, x.text.size ≤ 1099511627776) (j : Nat) : BkT := ⟨bkV c j, bkV_ok hu j⟩
def bkTo (c : List Wr) (hu : ∀ x ∈ c, x.text.size ≤ 1099511627776) (k : Nat) : List BkT := (List.range k).map (bkAt c hu)
theorem bkTo_succ (c : List Wr) (hu : ∀ x ∈ c, x.text.size ≤ 1099511627776) (k : Nat) : bkTo c hu (k + 1) = bkTo c hu k ++ [bkAt c hu k] := by simp [bkTo, List.range_succ]
theorem bkTo_length (c : List Wr) (hu : ∀ x ∈ c, x.text.size ≤ 1099511627776) (k : Nat) : (bkTo c hu k).length = k := by simp [bkTo]
def bkE (x : BkT) : Array Value := #[.int .i64 x.1.1, .agg #[.int .i64 x.1.2.at_, .string x.1.2.text]]
theorem bkV_at {c : List Wr} {k : Nat} (hk : k < c.length) : bkV c k = ((c.length : Int) - 1 - (k : Int), c[c.length - 1 - k]'(by omega)) := by
  unfold bkV
  rw [List.getElem?_eq_getElem (by omega)]; rfl

set_option maxRecDepth 100000 in
set_option maxHeartbeats 2000000 in
theorem back1_in (n : Nat) (hn : 1 ≤ n) (l Bs n₀ b off cap : Nat) (c : List Wr) (hu : ∀ x ∈ c, x.text.size ≤ 1099511627776) (hl : c.length ≤ 1073741824) (hb : b < n₀) (J Jx : List BkT → World → Prop)
    (hY : ∀ pre x W, J pre W → pre.length < c.length → YieldAt Fence.wide (n - 1) Try.prog l (bkE x) W fun e W' =>
      (e = .returned (.bool true) ∧ J (pre ++ [x]) W' ∧ Below n₀ W W') ∨ (e = .returned (.bool false) ∧ Jx (pre ++ [x]) W'))
    (W : World) (hB : W.cell? ⟨Bs, 0, none⟩ = some (.slice (some ⟨b, off, none⟩) c.length cap)) (hBn : Bs < n₀)
    (hc : ∀ j (hj : j < c.length), W.cell? ⟨b, off + j * 2, none⟩ = some (.int .i64 c[j].at_) ∧ W.cell? ⟨b, off + j * 2 + 1, none⟩ = some (.string c[j].text)) (h0 : J [] W) :
    CallsIn Fence.wide n Try.prog 32 #[.func (.yield l) #[] #[], .pointer (some ⟨Bs, 0, none⟩)] W fun e W' => (∃ v, e = .returned v) ∧
      ((∃ ys, ys = bkTo c hu c.length ∧ J ys W') ∨ (∃ pre, (∃ k, k ≤ c.length ∧ pre = bkTo c hu k) ∧ Jx pre W')) := by
  refine callsIn_of_wp Try.func32 rfl trivial ?_ rfl
  simp only [Try.ntmps32, List.size_toArray, List.length_cons, List.length_nil, Nat.reduceAdd, Nat.reduceSub, Array.replicate_succ, Array.replicate_zero, List.push_toArray, List.append_toArray, List.nil_append, List.cons_append]
  gi_wp2
  gi_loopw [3] (fun i wr => ∃ k : Nat, k ≤ c.length ∧ i = .int .i64 ((c.length : Int) - 1 - (k : Int)) ∧ J (bkTo c hu k) wr ∧ Below n₀ W wr) (fun i _ => (intOf i + 1).toNat)
  case atStart => exact ⟨0, Nat.zero_le _, by simp, h0, Below.refl _ _⟩
  case round =>
    obtain ⟨k, hk, rfl, hJs, hnx⟩ := hrel
    by_cases hlt : k < c.length
    · obtain ⟨m, hm⟩ : ∃ m : Nat, m = c.length - 1 - k := ⟨_, rfl⟩
      have hml : m < c.length := by omega
      have hmi : (c.length : Int) - 1 - (k : Int) = (m : Int) := by omega
      have hbk : bkE (bkAt c hu k) = #[.int .i64 (m : Int), .agg #[.int .i64 c[m].at_, .string c[m].text]] := by
        unfold bkE bkAt
        simp only [bkV_at hlt, hmi]
        subst hm
        rfl
      obtain ⟨q0, q1⟩ := hc m hml
      have d0 := (hnx.cell (p := ⟨b, off + m * 2, none⟩) hb).trans q0
      have d1 := (hnx.cell (p := ⟨b, off + m * 2 + 1, none⟩) hb).trans q1
      have dB := (hnx.cell (p := ⟨Bs, 0, none⟩) hBn).trans hB
      have hsu := Lib.hid (bkTo_succ c hu k)
      obtain ⟨fn, tmps, assign, body, hy, hR⟩ := hY _ (bkAt c hu k) wr hJs (by rw [bkTo_length]; exact hlt)
      rw [hbk] at hy
      clear q0 q1
      have HJ : Hid (∀ W, J (bkTo c hu k ++ [bkAt c hu k]) W → J (bkTo c hu (k + 1)) W) := fun W h => by rw [hsu.out]; exact h
      generalize c[m] = x at *
      obtain ⟨na, t⟩ := x
      simp only at d0 d1 hy
      rw [hmi]
      have hm0 : (0 : Int) ≤ (m : Int) := by omega
      have hm1 : (m : Int) < (c.length : Int) := by omega
      have HM := Lib.hid hmi
      clear hmi hbk hm
      gi_wp2
      refine hR.mono ?_
      rintro e W3 (⟨rfl, hJ3, hk3⟩ | ⟨rfl, hJx3⟩)
      · gi_wp2
        go_roundw
        case rel => exact ⟨k + 1, by omega, by have := HM.out; simp; omega, HJ.out _ hJ3, hnx.trans hk3⟩
        case measure => simp [intOf]
      · gi_wp2
        refine bodyPost_ret (results_none rfl _ _ _) rfl ?_
        exact ⟨⟨_, rfl⟩, .inr ⟨_, ⟨k + 1, by omega, hsu.out.symm⟩, hJx3⟩⟩
    · obtain rfl : k = c.length := by omega
      gi_wp2
      go_end0
      exact ⟨⟨_, rfl⟩, .inl ⟨_, rfl, hJs⟩⟩

set_option maxRecDepth 100000 in
set_option maxHeartbeats 1000000 in
theorem back1_nil_in (n : Nat) (l Bs cap : Nat) (a : Option Addr) (J : List BkT → World → Prop) (W : World) (hB : W.cell? ⟨Bs, 0, none⟩ = some (.slice a 0 cap)) (h0 : J [] W) :
    CallsIn Fence.wide n Try.prog 32 #[.func (.yield l) #[] #[], .pointer (some ⟨Bs, 0, none⟩)] W fun e W' => (∃ v, e = .returned v) ∧ J [] W' := by
  refine callsIn_of_wp Try.func32 rfl trivial ?_ rfl
  simp only [Try.ntmps32, List.size_toArray, List.length_cons, List.length_nil, Nat.reduceAdd, Nat.reduceSub, Array.replicate_succ, Array.replicate_zero, List.push_toArray, List.append_toArray, List.nil_append, List.cons_append]
  gi_wp2
  gi_loopw [3] (fun i wr => i = .int .i64 (-1) ∧ J [] wr) (fun _ _ => 0)
  case atStart => exact ⟨rfl, h0⟩
  case round =>
    obtain ⟨rfl, hJs⟩ := hrel
    gi_wp2
    go_end0
    exact ⟨⟨_, rfl⟩, hJs⟩

theorem back_stops (n : Nat) (hn : 1 ≤ n) (Bs : Nat) (v : Value) (c : List Wr) (hu : ∀ x ∈ c, x.text.size ≤ 1099511627776) (hl : c.length ≤ 1073741824) (w : World) (hBs : Bs < w.heap.size) (hc : w.cell? ⟨Bs, 0, none⟩ = some v) (hr : Rows' wrE w v c) :
    SeqStopsK Fence.wide n Try.prog 32 #[.pointer (some ⟨Bs, 0, none⟩)] bkE (Below w.heap.size) (fun ys => ys = bkTo c hu c.length) (fun pre => ∃ k, k ≤ c.length ∧ pre = bkTo c hu k) c.length w := fun l J Jx W hW _ _ hY h0 => by
  have hc' := (hW.cell (p := ⟨Bs, 0, none⟩) hBs).trans hc
  rcases hr.ways with ⟨rfl, a, cap, rfl⟩ | ⟨_, b, off, cap, rfl, _, hb, hcs⟩
  · exact (back1_nil_in n l Bs cap a J W hc' h0).mono fun e W' ⟨he, hj⟩ => ⟨he, .inl ⟨_, rfl, hj⟩⟩
  · refine back1_in n hn l Bs w.heap.size b off cap c hu hl hb J Jx hY W hc' hBs (fun j hj => ?_) h0
    have q := List.getElem?_eq_getElem hj
    have q0 := hcs j _ q 0 (.int .i64 c[j].at_) rfl
    have q1 := hcs j _ q 1 (.string c[j].text) rfl
    exact ⟨(hW.cell (p := ⟨b, off + j * 2, none⟩) hb).trans q0, (hW.cell (p := ⟨b, off + j * 2 + 1, none⟩) hb).trans q1⟩

set_option maxHeartbeats 1000000 in
theorem back_in (n : Nat) (a : Option Addr) (len cap : Nat) (w : World) :
    CallsIn Fence.wide n Try.prog 29 #[.slice a len cap] w fun e w' => e = .returned (.func (.func 32) #[] #[.pointer (some ⟨w.heap.size, 0, none⟩)]) ∧ w' = w.alloc (.cells #[.slice a len cap] 30) := by
  refine callsIn_of_wp Try.func29 rfl trivial ?_ rfl
  simp only [Try.ntmps29, List.size_toArray, List.length_cons, List.length_nil, Nat.reduceAdd, Nat.reduceSub, Array.replicate_succ, Array.replicate_zero, List.push_toArray, List.append_toArray, List.nil_append, List.cons_append]
  gi_wp2
  go_ret
  exact ⟨rfl, rfl⟩

/-- Of what has come from the end on, none at this place: then the last one there lies ahead. -/
theorem lastAt_none_of {c : List Wr} (hu : ∀ x ∈ c, x.text.size ≤ 1099511627776) {a : Int} {k : Nat} (hk : k ≤ c.length) (h : ∀ p ∈ bkTo c hu k, p.1.2.at_ ≠ a) : lastAt c a = lastAt (c.take (c.length - k)) a := by
  induction k with
  | zero => simp
  | succ k ih =>
    rw [bkTo_succ] at h
    rw [ih (by omega) (fun p hp => h p (List.mem_append.2 (.inl hp)))]
    have hi : c.length - 1 - k < c.length := by omega
    have e : c.length - k = c.length - 1 - k + 1 := by omega
    have := h (bkAt c hu k) (List.mem_append.2 (.inr (by simp)))
    have hv : (bkAt c hu k).1 = _ := bkV_at (by omega)
    rw [hv] at this
    rw [e, lastAt_take hi, if_neg this]
    congr 2
    omega

theorem lastAt_of_hit {c : List Wr} (hu : ∀ x ∈ c, x.text.size ≤ 1099511627776) {a : Int} {k : Nat} (hk : k < c.length) (h : ∀ p ∈ bkTo c hu k, p.1.2.at_ ≠ a) (ha : (bkAt c hu k).1.2.at_ = a) : lastAt c a = some (bkAt c hu k).1.2.text := by
  rw [lastAt_none_of hu (by omega) h]
  have hi : c.length - 1 - k < c.length := by omega
  have e : c.length - k = c.length - 1 - k + 1 := by omega
  have hv : (bkAt c hu k).1 = _ := bkV_at hk
  rw [hv] at ha ⊢
  rw [e, lastAt_take hi, if_pos ha]

set_option maxRecDepth 100000 in
set_option maxHeartbeats 4000000 in
theorem implReadSector_any (d : Dk) (v : Value) (a : Int) (w : World) (h : DRd w v d) (hs : d.small) (ht : ∀ s ∈ d.sec, s.size ≤ 1099511627776) (hu : ∀ x ∈ d.cache, x.text.size ≤ 1099511627776) :
    Calls Try.prog 25 #[v, .int .i64 a] w fun e w' => e = .returned (rdT d a) ∧ Below w.heap.size w w' := by
  obtain ⟨aa, ab, ca, cb, rfl, ha, hb⟩ := h.form
  obtain ⟨s1, s2⟩ := hs
  by_cases hin : 0 ≤ a ∧ a < d.sec.length
  · refine (callsIn_wide (n := 5)).1 ?_
    refine callsIn_of_wp_marks Try.func25 rfl trivial ?_ rfl
    simp only [Try.ntmps25, List.size_toArray, List.length_cons, List.length_nil, Nat.reduceAdd, Nat.reduceSub, Array.replicate_succ, Array.replicate_zero, List.push_toArray, List.append_toArray, List.nil_append, List.cons_append]
    have hi0 : (0 : Int) ≤ a := hin.1
    have hi1 : a < (d.sec.length : Int) := hin.2
    gi_wp2_with (refine ⟨trivial, ?_⟩; gi_at_call 29; refine (back_in _ _ _ _ _).mono ?_; rintro e w' ⟨rfl, rfl⟩)
    obtain ⟨W0, hW0⟩ : ∃ W0, (((((w.alloc (.cells #[.slice aa d.sec.length ca, .slice ab d.cache.length cb] 32)).alloc (.cells #[.int .i64 a] 3)).alloc (.cells #[.string ⟨#[]⟩] 9)).alloc (.cells #[.bool false] 4)).alloc (.cells #[.slice ab d.cache.length cb] 30)) = W0 := ⟨_, rfl⟩
    have hsz : W0.heap.size = w.heap.size + 5 := by rw [← hW0]; simp
    have hB0 : Below w.heap.size w W0 := by rw [← hW0]; exact (((((Below.refl _ w).alloc (Nat.le_refl _) _).alloc (by simp) _).alloc (by simp; omega) _).alloc (by simp; omega) _).alloc (by simp; omega) _
    have c0 : W0.cell? ⟨w.heap.size, 0, none⟩ = some (.slice aa d.sec.length ca) := by rw [← hW0]; simp [go_sem]
    have bA : Boxed W0 (w.heap.size + 1) 3 (.int .i64 a) := by
      rw [← hW0]
      have := ((((Boxed.new (w.alloc (.cells #[.slice aa d.sec.length ca, .slice ab d.cache.length cb] 32)) 3 (.int .i64 a)).alloc (.cells #[.string ⟨#[]⟩] 9)).alloc (.cells #[.bool false] 4)).alloc (.cells #[.slice ab d.cache.length cb] 30))
      simpa using this
    have bS : Boxed W0 (w.heap.size + 1 + 1) 9 (.string ⟨#[]⟩) := by
      rw [← hW0]
      have := (((Boxed.new ((w.alloc (.cells #[.slice aa d.sec.length ca, .slice ab d.cache.length cb] 32)).alloc (.cells #[.int .i64 a] 3)) 9 (.string ⟨#[]⟩)).alloc (.cells #[.bool false] 4)).alloc (.cells #[.slice ab d.cache.length cb] 30))
      simpa using this
    have bB : Boxed W0 (w.heap.size + 1 + 1 + 1) 4 (.bool false) := by
      rw [← hW0]
      have := ((Boxed.new (((w.alloc (.cells #[.slice aa d.sec.length ca, .slice ab d.cache.length cb] 32)).alloc (.cells #[.int .i64 a] 3)).alloc (.cells #[.string ⟨#[]⟩] 9)) 4 (.bool false)).alloc (.cells #[.slice ab d.cache.length cb] 30))
      simpa using this
    have bC : W0.cell? ⟨w.heap.size + 1 + 1 + 1 + 1, 0, none⟩ = some (.slice ab d.cache.length cb) := by rw [← hW0]; simp [go_sem]
    rw [hW0]
    clear hW0
    refine wpIn_rangeFunc_ownH rfl (by omega) (gf := 32) (lb := #[.pointer (some ⟨w.heap.size + 1 + 1 + 1 + 1, 0, none⟩)]) rfl trivial (enters_of Try.func32 (by kernel_rfl) rfl)
      (back_stops 4 (by omega) (w.heap.size + 1 + 1 + 1 + 1) _ d.cache hu s2 W0 (by omega) bC (hb.later hB0)) belowK_t (belowK_b (Nat.le_refl _)) (Below.refl _ _) (fun _ => rfl)
      (fun pre W => ((∀ p ∈ pre, p.1.2.at_ ≠ a) ∧ w.heap.size + 5 ≤ W.heap.size ∧ W.cell? ⟨w.heap.size, 0, none⟩ = some (.slice aa d.sec.length ca) ∧ Boxed W (w.heap.size + 1) 3 (.int .i64 a) ∧ Boxed W (w.heap.size + 1 + 1) 9 (.string ⟨#[]⟩) ∧ Boxed W (w.heap.size + 1 + 1 + 1) 4 (.bool false)) ∧ Below w.heap.size w W)
      (fun c pre W => (c = .ret ∧ ∃ ini last, pre = ini ++ [last] ∧ (∀ p ∈ ini, p.1.2.at_ ≠ a) ∧ last.1.2.at_ = a ∧ Boxed W (w.heap.size + 1 + 1) 9 (.string last.1.2.text) ∧ Boxed W (w.heap.size + 1 + 1 + 1) 4 (.bool true)) ∧ Below w.heap.size w W)
      ?hI ?hIx ?h0
      (fun x a' W => ∃ Bx, w.heap.size + 5 ≤ Bx ∧ W.cell? ⟨Bx, 0, none⟩ = some (.int .i64 x.1.2.at_) ∧ W.cell? ⟨Bx, 1, none⟩ = some (.string x.1.2.text) ∧ a' = { tmps := #[.agg #[.slice aa d.sec.length ca, .slice ab d.cache.length cb], .int .i64 a, .pointer (some ⟨w.heap.size, 0, none⟩), .pointer (some ⟨w.heap.size + 1, 0, none⟩), .pointer (some ⟨w.heap.size + 1 + 1, 0, none⟩), .pointer (some ⟨w.heap.size + 1 + 1 + 1, 0, none⟩), undef, .pointer (some ⟨Bx, 0, none⟩), .int .i64 a, .bool (decide (a < 0)), .bool (decide (a < 0)), .int .i64 a, .pointer (some ⟨w.heap.size, 0, none⟩), .slice aa d.sec.length ca, .int .i64 (d.sec.length : Int), .bool (decide ((d.sec.length : Int) ≤ a)), .bool (decide (a < 0) || decide ((d.sec.length : Int) ≤ a)), .pointer (some ⟨w.heap.size, 1, none⟩), .slice ab d.cache.length cb, .func (.func 32) #[] #[.pointer (some ⟨w.heap.size + 1 + 1 + 1 + 1, 0, none⟩)], .int .i64 x.1.1, .agg #[.int .i64 x.1.2.at_, .string x.1.2.text], undef, undef, undef, undef, undef, undef, undef, undef, undef, undef, undef, undef, undef], defers := [] })
      ?hAx ?assign ?body ?done ?stop
    case hI =>
      rintro s X Y row ⟨⟨i1, i0, i2, i3, i4, i5⟩, i6⟩ hg hr
      have ne : ∀ b, b < W0.heap.size → some b ≠ row := fun b hb e => by have := (hr b e.symm).1; omega
      exact ⟨⟨i1, Nat.le_trans i0 hg.size, hg.cell i2 (ne _ (by simp; omega)), i3.kept hg (ne _ (by omega)), i4.kept hg (ne _ (by omega)), i5.kept hg (ne _ (by omega))⟩, i6.grown hg i6.size (fun k hk => by have := (hr k hk).1; omega)⟩
    case hIx =>
      rintro c s X Y row ⟨⟨e0, ini, last, e1, e2, e3, e4, e5⟩, i6⟩ hg hr
      have ne : ∀ b, b < W0.heap.size → some b ≠ row := fun b hb e => by have := (hr b e.symm).1; omega
      exact ⟨⟨e0, ini, last, e1, e2, e3, e4.kept hg (ne _ (by omega)), e5.kept hg (ne _ (by omega))⟩, i6.grown hg i6.size (fun k hk => by have := (hr k hk).1; omega)⟩
    case h0 => exact ⟨⟨by simp, by omega, c0, bA, bS, bB⟩, hB0⟩
    case hAx =>
      rintro x a' _ X Y row ⟨Bx, q1, q2, q3, q4⟩ hg hr
      exact ⟨Bx, q1, cell_kept q2 hg (fun r e => (hr r e).2), cell_kept q3 hg (fun r e => (hr r e).2), q4⟩
    case assign =>
      rintro l pre x W K ⟨⟨i1, i0, i2, i3, i4, i5⟩, i6⟩ hK
      simp only [bkE]
      gi_wp2
      have bN := Box.new W #[.int .i64 x.1.2.at_, .string x.1.2.text] 49
      exact hK _ _ ((KeepsOthers.alloc _ _).from _) ((Below.refl _ W).alloc (by omega) _) ⟨⟨i1, by simp; omega, (((Below.refl W.heap.size W).alloc (Nat.le_refl _) _).cell (p := ⟨w.heap.size, 0, none⟩) (World.block_lt_of_cell? _ _ i2)).trans i2, i3.alloc _, i4.alloc _, i5.alloc _⟩, i6.alloc i6.size _⟩ ⟨W.heap.size, i0, bN.cell 0 _ rfl, bN.cell 1 _ rfl, rfl⟩
    case body =>
      rintro l pre x a' W hl ⟨r, hr⟩ ⟨⟨i1, i0, i2, i3, i4, i5⟩, i6⟩ ⟨Bx, hBx, x0, x1, rfl⟩ hlt
      have c3 := i3.cell
      have hxs := x.2
      by_cases hxa : x.1.2.at_ = a
      · have hq : (x.1.2.at_ == a) = true := by simp [hxa]
        have HB1 : Hid (∀ w1 : World, Below W.heap.size W w1 → Boxed w1 (w.heap.size + 1 + 1) 9 (.string ⟨#[]⟩) ∧ Boxed w1 (w.heap.size + 1 + 1 + 1) 4 (.bool false) ∧ Below w.heap.size w w1 ∧ KeepsFrom W0.heap.size W w1) :=
          fun w1 k1 => ⟨(k1.block _ i4.lt).trans i4, (k1.block _ i5.lt).trans i5, i6.trans (k1.mono i6.size), KeepsFrom.of_grownBy (row := none) ⟨k1.os, k1.tape, k1.output, k1.size, fun k hk _ => k1.block k hk⟩ (fun j e => by cases e)⟩
        have HX := Lib.hid hxa
        have HI1 := Lib.hid i1
        clear i4 i5 i6 hxa i1
        gi_wp2_with (refine ⟨trivial, ?_⟩; gi_at_call 30; refine (CallsIn.inRound l (callsIn_wide.2 (clone_any _ _ (by omega)))).mono ?_; rintro e w1 ⟨rfl, k1⟩; obtain ⟨g4, g5, g6, g7⟩ := HB1.out w1 k1; have z4 := g4.cell; have f4 := g4.frozen; have z5 := g5.cell; have f5 := g5.frozen)
        refine ⟨g7.trans (((KeepsOthers.setCell _ _ _).from _).trans ((KeepsOthers.setCell _ _ _).from _)), ⟨rfl, pre, x, rfl, HI1.out, HX.out, ?_, ?_⟩, ?_⟩
        · exact (g4.set _).other (by omega) _
        · exact (g5.other (by omega) _).set _
        · exact (g6.setCell (p := ⟨w.heap.size + 1 + 1, 0, none⟩) (by simp; omega) _).setCell (p := ⟨w.heap.size + 1 + 1 + 1, 0, none⟩) (by simp; omega) _
      · have hq : (x.1.2.at_ == a) = false := by simp [hxa]
        have HX := Lib.hid hxa
        clear hxa
        gi_wp2
        exact ⟨KeepsFrom.refl _ _, Below.refl _ _, ⟨fun p hp => (List.mem_append.1 hp).elim (i1 p) (fun e => by simp at e; subst e; exact HX.out), i0, i2, i3, i4, i5⟩, i6⟩
    case done =>
      rintro D ys W hD rfl ⟨⟨i1, i0, i2, i3, i4, i5⟩, i6⟩ hK
      have hnone : lastAt d.cache a = none := by
        rw [lastAt_none_of hu (Nat.le_refl _) i1]; simp [lastAt]
      obtain ⟨k, rfl⟩ := Int.eq_ofNat_of_zero_le hi0
      have hk : k < d.sec.length := by omega
      obtain ⟨g, rfl, hcs⟩ := (ha.later i6).at k hk
      have HZ := Lib.hid (rdT_sec hk hnone)
      have htz := ht _ (List.getElem_mem hk)
      have c3 := i3.cell
      have HB1 : Hid (∀ w1 : World, Below W.heap.size W w1 → Boxed w1 (w.heap.size + 1 + 1) 9 (.string ⟨#[]⟩) ∧ Boxed w1 (w.heap.size + 1 + 1 + 1) 4 (.bool false) ∧ Below w.heap.size w w1 ∧ w1.heap[D]? = some (.deferred (some []))) :=
        fun w1 k1 => ⟨(k1.block _ i4.lt).trans i4, (k1.block _ i5.lt).trans i5, i6.trans (k1.mono i6.size), (k1.block _ (Array.getElem?_eq_some_iff.1 hK).1).trans hK⟩
      clear i4 i5 i6 i1 hnone hK ht hu
      generalize d.sec[k] = t at *
      gi_wp2_with (refine ⟨trivial, ?_⟩; gi_at_call 30; refine (callsIn_wide.2 (clone_any _ _ (by omega))).mono ?_; rintro e w1 ⟨rfl, k1⟩; obtain ⟨g4, g5, g6, g7⟩ := HB1.out w1 k1; have z4 := g4.cell; have f4 := g4.frozen; have z5 := g5.cell; have f5 := g5.frozen)
      have G4 := (g4.set (.string t)).other (B' := w.heap.size + 1 + 1 + 1) (by omega) (.bool true)
      have G5 := (g5.other (B' := w.heap.size + 1 + 1) (by omega) (.string t)).set (.bool true)
      have GK := (KeepsOthers.setCell (w1.setCell ⟨w.heap.size + 1 + 1, 0, none⟩ (.string t)) ⟨w.heap.size + 1 + 1 + 1, 0, none⟩ (.bool true)).same D _ ((KeepsOthers.setCell w1 ⟨w.heap.size + 1 + 1, 0, none⟩ (.string t)).same D _ g7 rfl) rfl
      refine ⟨by simp, .inl ⟨_, _, rfl, run_takeDeferred GK, ?_⟩⟩
      have q4 := (G4.kept (grownBy_putObj' _ D (.deferred none)) (by simp; omega)).cell
      have q5 := (G5.kept (grownBy_putObj' _ D (.deferred none)) (by simp; omega)).cell
      have b6 := (g6.setCell (p := ⟨w.heap.size + 1 + 1, 0, none⟩) (by simp; omega) (.string t)).setCell (p := ⟨w.heap.size + 1 + 1 + 1, 0, none⟩) (by simp; omega) (.bool true)
      refine ⟨.tuple #[.string t, .bool true], ?_, by rw [HZ.out], b6.trans (belowK_b (w := w) (Nat.le_refl _) _ D _ _ (by omega) GK rfl rfl)⟩
      simp [results, Try.f25, go_sem, q4, q5]
    case stop =>
      rintro D c pre W hD ⟨k, hk, rfl⟩ ⟨⟨rfl, ini, last, e1, e2, e3, e4, e5⟩, i6⟩ hK
      gi_wp2
      refine ⟨by simp, .inl ⟨_, _, rfl, run_takeDeferred hK, ?_⟩⟩
      have q4 := (e4.kept (grownBy_putObj' _ D (.deferred none)) (by simp; omega)).cell
      have q5 := (e5.kept (grownBy_putObj' _ D (.deferred none)) (by simp; omega)).cell
      obtain ⟨k', rfl⟩ : ∃ k', k = k' + 1 := by
        cases k with
        | zero => simp [bkTo] at e1
        | succ k' => exact ⟨k', rfl⟩
      rw [bkTo_succ] at e1
      obtain ⟨rfl, e6⟩ := List.append_inj' e1 rfl
      obtain rfl : bkAt d.cache hu k' = last := by simpa using e6
      have HZ := rdT_last hin (lastAt_of_hit hu (by omega) e2 e3)
      refine ⟨.tuple #[.string (bkAt d.cache hu k').1.2.text, .bool true], ?_, by rw [HZ], i6.trans (belowK_b (w := w) (Nat.le_refl _) W D _ _ (by omega) hK rfl rfl)⟩
      simp [results, Try.f25, go_sem, q4, q5]
  · have HZ := Lib.hid (rdT_no hin)
    have hB0 := Lib.hid ((((((Below.refl _ w).alloc (Nat.le_refl _) (.cells #[.slice aa d.sec.length ca, .slice ab d.cache.length cb] 32)).alloc (by simp) (.cells #[.int .i64 a] 3)).alloc (by simp; omega) (.cells #[.string ⟨#[]⟩] 9)).alloc (by simp; omega) (.cells #[.bool false] 4)))
    clear ha hb h
    go_enter Try.func25, Try.ntmps25
    go_wp2
    all_goals
      refine bodyPost_ret (v := .tuple #[.string ⟨#[]⟩, .bool false]) (by simp [results, Try.results25, go_sem]) rfl ?_
      exact ⟨by rw [HZ.out], hB0.out⟩

end Go.Proofs.Ytmlhpjkijpbinaq
