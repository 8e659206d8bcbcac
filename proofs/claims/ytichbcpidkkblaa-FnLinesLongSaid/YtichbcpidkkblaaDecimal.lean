/- The figures of a number: what spec.Decimal hands back. -/
import Derived.Test.YtichbcpidkkblaaPlainDec
import Derived.Test.YtichbcpidkkblaaFigure
import Derived.Laws.Concat
import Derived.WalkSpells
import Derived.WalkSmall
namespace Go.Proofs.Ytichbcpidkkblaa
open Go.RowKit

theorem fig_figD {x : Nat} (h : x < 10) : fig x = figD x := by
  rw [fig, if_pos h, figD]

theorem one_string (w : World) (X : Int) (b : UInt8) (h : X = (b.toNat : Int)) :
    (convert 22 9 (.slice (some ⟨w.heap.size, 0, none⟩) 1 1)).run Try.prog (w.alloc (.cells #[.int .u8 X] 5)) = .ok (.string ⟨[b].toArray⟩) (w.alloc (.cells #[.int .u8 X] 5)) := by
  subst h
  refine run_convert_bytes_back (P := Try.prog) _ 22 9 5 ⟨w.heap.size, 0, none⟩ 1 [b] Try.underlying22 Try.underlying5 Try.underlying9 fun j hj => ?_
  have hj0 : j = 0 := by simpa using hj
  subst hj0
  simp [Addr.add]

theorem string_push (b : UInt8) (acc : List UInt8) (h : acc.length + 1 ≤ 9223372036854775807) (wx : World) :
    (Op.stringOp .add ⟨[b].toArray⟩ ⟨acc.toArray⟩).run Try.prog wx = .ok (.string ⟨(b :: acc).toArray⟩) wx := by
  rw [run_string_add_sum (P := Try.prog) (w := wx) ⟨[b].toArray⟩ ⟨acc.toArray⟩ (by simp [ByteArray.size]; omega), ByteArray.mk_append_mk]
  rfl

set_option maxRecDepth 100000 in
set_option maxHeartbeats 1000000 in
theorem specDecimal_nat (n : Nat) (w : World) (hn : n ≤ 9223372036854775807) :
    Calls Try.prog 46 #[.int .i64 (n : Int)] w fun e w' => e = .returned (.string ⟨(dec n).toArray⟩) ∧ Below w.heap.size w w' := by
  by_cases h0 : n = 0
  · subst h0
    go_enter Try.func46, Try.ntmps46
    go_wp2
    go_ret
    exact ⟨rfl, Below.refl _ _⟩
  · have hd : Hid (dec n = digs n) := by rw [dec, if_neg h0]; exact rfl
    have hz : ((n : Int) == 0) = false := by simp; omega
    have hpos : (0 : Int) < (n : Int) := by omega
    go_enter Try.func46, Try.ntmps46
    go_wp2
    go_loopw [0, 4] (fun nv sv wr => ∃ (m : Nat) (acc : List UInt8), m ≤ n ∧ nv = .int .i64 (m : Int) ∧ sv = .string ⟨acc.toArray⟩ ∧ digs m ++ acc = digs n ∧ Below w.heap.size w wr) (fun nv _ _ => (intOf nv).toNat)
    case atStart => exact ⟨n, [], Nat.le_refl _, rfl, rfl, by simp, Below.refl _ _⟩
    case round =>
      obtain ⟨m, acc, hm, rfl, rfl, he0, hbel⟩ := hrel
      have he : Hid (digs m ++ acc = digs n) := he0
      clear he0
      by_cases hm0 : m = 0
      · subst hm0
        go_wp2
        go_ret
        refine ⟨?_, hbel⟩
        have := he.out
        rw [digs_zero, List.nil_append] at this
        rw [hd.out, ← this]
        rfl
      · have hnz : ((m : Int) != 0) = true := by simp; omega
        obtain ⟨b, hb0⟩ : ∃ b : UInt8, fig (m % 10) = b := ⟨_, rfl⟩
        have hb1 : Hid (b = figD (m % 10)) := by rw [← hb0]; exact fig_figD (by omega)
        have hcv := one_string wr (b.toNat : Int) b rfl
        have hal2 : acc.length + 1 ≤ n := by
          have h1 := congrArg List.length he.out
          have h2 := digs_len n
          have h3 := List.length_pos_iff.2 (digs_head m m (Nat.le_refl _) hm0).2
          simp at h1; omega
        have hsp := string_push b acc (by omega)
        have hfig : Hid (fig ((m : Int) % 10).toNat = b) := by rw [show ((m : Int) % 10).toNat = m % 10 by omega]; exact hb0
        clear hb0
        go_wp2_with (go_at_call 50; refine (figure_any _ _ (by omega) (by omega)).mono ?_; rintro e w1 ⟨rfl, rfl⟩; rw [hfig.out])
        go_roundw
        case rel => exact ⟨m / 10, b :: acc, by omega, by go_num, rfl, by rw [hb1.out]; exact digs_push he.out hm0, hbel.alloc hbel.size _⟩
        case measure => simp [intOf]; omega

end Go.Proofs.Ytichbcpidkkblaa
