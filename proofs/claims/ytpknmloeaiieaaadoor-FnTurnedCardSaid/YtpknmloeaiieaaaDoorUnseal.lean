/- Unsealed texts: what Unsealed hands back. -/
import Derived.Test.YtpknmloeaiieaaaDoorSeal
import Derived.Test.YtpknmloeaiieaaaDoorClone
import Derived.Deep.QuietTactic
import Derived.BigQuiet
namespace Go.Proofs.YtpknmloeaiieaaaDoor
open Go.RowKit

/-- What Unsealed hands back. -/
def unT (s : ByteArray) : Value :=
  if 4 ≤ s.size ∧ s.size ≤ 20004 ∧ fourOf (s.extract 0 (s.size - 4)) = s.extract (s.size - 4) s.size then .tuple #[.string (s.extract 0 (s.size - 4)), .bool true] else .tuple #[.string ⟨#[]⟩, .bool false]
theorem unT_yes {s : ByteArray} (h : 4 ≤ s.size ∧ s.size ≤ 20004 ∧ fourOf (s.extract 0 (s.size - 4)) = s.extract (s.size - 4) s.size) : unT s = .tuple #[.string (s.extract 0 (s.size - 4)), .bool true] := by rw [unT, if_pos h]
theorem unT_no {s : ByteArray} (h : ¬ (4 ≤ s.size ∧ s.size ≤ 20004 ∧ fourOf (s.extract 0 (s.size - 4)) = s.extract (s.size - 4) s.size)) : unT s = .tuple #[.string ⟨#[]⟩, .bool false] := by rw [unT, if_neg h]
theorem unT_form (s : ByteArray) : ∃ (t : ByteArray) (f : Bool), unT s = .tuple #[.string t, .bool f] := by
  unfold unT
  split
  · exact ⟨_, _, rfl⟩
  · exact ⟨_, _, rfl⟩

/-- The ways of Unsealed: too short; too long; the sum is there, or it is not. -/
theorem un_ways (s : ByteArray) : (s.size < 4 ∧ unT s = .tuple #[.string ⟨#[]⟩, .bool false]) ∨ (20004 < s.size ∧ unT s = .tuple #[.string ⟨#[]⟩, .bool false]) ∨
    (∃ b c : ByteArray, (∀ wx, (Instr.slice 9 (.string s) none (some (.int .i64 ((s.size : Int) - 4))) none).run Tryd.prog wx = .ok (.string b) wx) ∧
      (∀ wx, (Instr.slice 9 (.string s) (some (.int .i64 ((s.size : Int) - 4))) none none).run Tryd.prog wx = .ok (.string c) wx) ∧ b.size ≤ 20000 ∧ 4 ≤ s.size ∧ s.size ≤ 20004 ∧
      ((fourOf b = c ∧ unT s = .tuple #[.string b, .bool true]) ∨ (fourOf b ≠ c ∧ unT s = .tuple #[.string ⟨#[]⟩, .bool false]))) := by
  by_cases h1 : s.size < 4
  · exact .inl ⟨h1, unT_no (by omega)⟩
  · by_cases h2 : 20004 < s.size
    · exact .inr (.inl ⟨h2, unT_no (by omega)⟩)
    · refine .inr (.inr ⟨s.extract 0 (s.size - 4), s.extract (s.size - 4) s.size, fun wx => ?_, fun wx => ?_, ?_, by omega, by omega, ?_⟩)
      · rw [run_slice_string_h (P := Tryd.prog) (w := wx) (t := 9) (s := s) Tryd.underlying9 .i64 ((s.size : Int) - 4) (by omega) (by omega), show ((s.size : Int) - 4).toNat = s.size - 4 by omega]
      · rw [run_slice_string_l (P := Tryd.prog) (w := wx) (t := 9) (s := s) Tryd.underlying9 .i64 ((s.size : Int) - 4) (by omega) (by omega), show ((s.size : Int) - 4).toNat = s.size - 4 by omega]
      · rw [ByteArray.size_extract]; omega
      · by_cases h3 : fourOf (s.extract 0 (s.size - 4)) = s.extract (s.size - 4) s.size
        · exact .inl ⟨h3, unT_yes ⟨by omega, by omega, h3⟩⟩
        · exact .inr ⟨h3, unT_no fun h => h3 h.2.2⟩

theorem text_ne {a b : ByteArray} (h : a ≠ b) : (a.toList == b.toList) = false := by
  rw [beq_eq_false_iff_ne, ByteArray.toList_eq, ByteArray.toList_eq]
  intro e
  apply h
  cases a; cases b
  exact congrArg ByteArray.mk (Array.toList_inj.1 e)

theorem SumTab.drew {w : World} (h : SumTab w) : SumTab w.drew := h.later (Below.refl _ _).drew

set_option maxRecDepth 100000 in
set_option maxHeartbeats 1000000 in
theorem implUnsealed_any (s : ByteArray) (w : World) (hs : s.size ≤ 1099511627776) (ht : SumTab w) :
    Calls Tryd.prog 19 #[.string s] w fun e w' => e = .returned (unT s) ∧ Below w.heap.size w w' := by
  rcases un_ways s with ⟨h1, hz0⟩ | ⟨h1, hz0⟩ | ⟨b, c, hsb, hsc, hbz, h4, h5, hcase⟩
  · have hz : Hid (unT s = _) := hz0
    clear hz0
    have h2 : (s.size : Int) - 4 < 0 := by omega
    go_enter Tryd.func19, Tryd.ntmps19
    go_wp2
    go_ret2
    exact ⟨by rw [hz.out]; rfl, Below.refl _ _⟩
  · have hz : Hid (unT s = _) := hz0
    clear hz0
    go_enter Tryd.func19, Tryd.ntmps19
    go_wp2
    go_ret2
    exact ⟨by rw [hz.out]; rfl, Below.refl _ _⟩
  · have hl := sumL_lt (s := 4294967295) (by decide) b.data.toList
    have h6 : ¬ (s.size : Int) - 4 < 0 := by omega
    rcases hcase with ⟨h7, hz0⟩ | ⟨h7, hz0⟩
    · have hz : Hid (unT s = _) := hz0
      clear hz0
      go_enter Tryd.func19, Tryd.ntmps19
      go_wp2
      go_region_held3 (fun _ => True) (trivial) (first
        | (go_at_call 21; refine (implSumOf_any _ _ (by omega) ht.drew).mono ?_; rintro e w1 ⟨rfl, hb1⟩)
        | (go_at_call 33; refine (implText_any _ _ hl).mono ?_; rintro e w2 ⟨rfl, hb2⟩; rw [← fourOf]))
      have hcl : b.size ≤ 281474976710656 := by omega
      have hb12 : Below w.heap.size w w2 := ((Below.refl w.heap.size w).drew).trans (hb1.trans (hb2.mono hb1.size) : Below w.drew.heap.size w.drew w2)
      clear hb1 hb2
      go_wp2_with (go_at_call 31; refine (clone_any _ _ hcl).mono ?_; rintro e w3 ⟨rfl, hb3⟩)
      go_ret2
      exact ⟨by rw [hz.out]; rfl, hb12.trans (hb3.mono hb12.size)⟩
    · have hz : Hid (unT s = _) := hz0
      clear hz0
      have h8 := text_ne h7
      go_enter Tryd.func19, Tryd.ntmps19
      go_wp2
      go_region_held3 (fun _ => True) (trivial) (first
        | (go_at_call 21; refine (implSumOf_any _ _ (by omega) ht.drew).mono ?_; rintro e w1 ⟨rfl, hb1⟩)
        | (go_at_call 33; refine (implText_any _ _ hl).mono ?_; rintro e w2 ⟨rfl, hb2⟩; rw [← fourOf]))
      have hb12 : Below w.heap.size w w2 := ((Below.refl w.heap.size w).drew).trans (hb1.trans (hb2.mono hb1.size) : Below w.drew.heap.size w.drew w2)
      clear hb1 hb2
      go_wp2
      go_ret2
      exact ⟨by rw [hz.out]; rfl, hb12⟩


end Go.Proofs.YtpknmloeaiieaaaDoor
