/- Two figures for each byte: what spec.Hex and impl.Hex hand back. -/
import Derived.Test.YtpknmloeaiieaamFigure
import Derived.Test.YtpknmloeaiieaamKit2
import Derived.WalkSpells
import Derived.WalkSmall
import Derived.Deep.RegionHeld3
namespace Go.Proofs.Ytpknmloeaiieaam
open Go.RowKit

theorem index_at (s : ByteArray) (k : Nat) (h : k < s.size) (wx : World) :
    (Instr.index 9 (.string s) (.int .i64 (k : Int))).run Try.prog wx = .ok (.int .u8 (s[k].toNat : Int)) wx := by
  have hu := Try.underlying9
  simp [Instr.index, run_underlying hu, go_sem, h]

/-- What Hex hands back. -/
def hexT (s : ByteArray) : Value :=
  if s.size ≤ 20000 then .tuple #[.string ⟨(hexOf s.data.toList).toArray⟩, .bool true] else .tuple #[.string ⟨#[]⟩, .bool false]
theorem hexT_yes {s : ByteArray} (h : s.size ≤ 20000) : hexT s = .tuple #[.string ⟨(hexOf s.data.toList).toArray⟩, .bool true] := by rw [hexT, if_pos h]
theorem hexT_no {s : ByteArray} (h : ¬ s.size ≤ 20000) : hexT s = .tuple #[.string ⟨#[]⟩, .bool false] := by rw [hexT, if_neg h]

theorem hexOf_all {s : ByteArray} {k : Nat} (h : ¬ k < s.size) : hexOf (s.data.toList.take k) = hexOf s.data.toList := by
  rw [List.take_of_length_le (by simp; omega)]

set_option maxRecDepth 100000 in
set_option maxHeartbeats 1000000 in
theorem specHex_any (s : ByteArray) (w : World) (hs : s.size ≤ 1099511627776) :
    Calls Try.prog 17 #[.string s] w fun e w' => e = .returned (hexT s) ∧ Below w.heap.size w w' := by
  by_cases h : s.size ≤ 20000
  · have hz : Hid (hexT s = _) := hexT_yes h
    have hst := Buf.fresh w #[] 0 rfl (by decide)
    go_enter Try.func17, Try.ntmps17
    go_wp2
    go_loopw [4, 5] (fun v iv wr => ∃ k : Nat, k ≤ s.size ∧ iv = .int .i64 k ∧ Buf w.heap.size w wr v (hexOf (s.data.toList.take k))) (fun _ iv _ => s.size - (intOf iv).toNat)
    case atStart => exact ⟨0, by omega, rfl, hst⟩
    case round =>
      obtain ⟨k, hk, rfl, hb⟩ := hrel
      by_cases hlt : k < s.size
      · have hidx0 := index_at s k hlt
        obtain ⟨c, hc0⟩ : ∃ c : Nat, s[k].toNat = c := ⟨_, rfl⟩
        have hc : c < 256 := by rw [← hc0]; exact UInt8.toNat_lt _
        have hidx : ∀ wx, (Instr.index 9 (.string s) (.int .i64 (k : Int))).run Try.prog wx = .ok (.int .u8 (c : Int)) wx := by rw [← hc0]; exact hidx0
        have hn : Hid (hexOf (s.data.toList.take (k + 1)) = hexOf (s.data.toList.take k) ++ [fig (c / 16), fig (c % 16)]) := by
          rw [← hc0]; exact hexOf_take (by simpa using hlt)
        have hlen := hexOf_length (s.data.toList.take k)
        have hl2 : (s.data.toList.take k).length ≤ k := List.length_take_le _ _
        have hL : (hexOf (s.data.toList.take k)).length ≤ 40000 := by omega
        clear hidx0 hc0 hlen hl2
        have hw1 : IntKind.i64.wrap (c : Int) = (c : Int) := IntWalk.i64_in _ ⟨by omega, by omega⟩
        have hw2 : IntKind.i64.wrap ((c : Int).tdiv 16) = (c : Int) / 16 := by rw [Int.tdiv_eq_ediv_of_nonneg (by omega)]; exact IntWalk.i64_in _ ⟨by omega, by omega⟩
        have hw3 : IntKind.i64.wrap ((c : Int).tmod 16) = (c : Int) % 16 := by rw [Int.tmod_eq_emod_of_nonneg (by omega)]; exact IntWalk.i64_in _ ⟨by omega, by omega⟩
        have hw5 : IntKind.i64.wrap ((c : Int) / 16) = (c : Int) / 16 := IntWalk.i64_in _ ⟨by omega, by omega⟩
        have hw6 : IntKind.i64.wrap ((c : Int) % 16) = (c : Int) % 16 := IntWalk.i64_in _ ⟨by omega, by omega⟩
        have hw4 : (c : Int).tmod 16 = (c : Int) % 16 := Int.tmod_eq_emod_of_nonneg (by omega)
        have hi0 : (0 : Int) ≤ (k : Int) := Int.natCast_nonneg _
        have hi1 : (k : Int) < (s.size : Int) := by omega
        go_wp2
        go_region_held3 (fun _ => True) (trivial) (first
          | (go_at_call 25; refine (figure_any _ _ (by omega) (by omega)).mono ?_; rintro e w' ⟨rfl, rfl⟩)
          | (refine step_append_bytes (by rfl) _ _ (by rfl) _ _ _ (by rfl) ((hb.alloc _).drew) ⟨wr.heap.size, 0, none⟩ [fig (c / 16), fig (c % 16)] 2 (by rfl) (two_new _ _ _ _ _ (by rw [show ((c : Int) / 16).toNat = c / 16 by omega]) (by rw [show ((c : Int) % 16).toNat = c % 16 by omega])) (by simp; omega) ?_; intro v' w1 hb' _))
        all_goals
          go_wp2
          go_roundw
          case rel => exact ⟨k + 1, by omega, by go_num, by rw [hn.out]; exact hb'⟩
          case measure => simp [intOf]; omega
      · have hcv := hb.toString
        go_wp2
        go_ret2
        exact ⟨by rw [hz.out, hexOf_all hlt]; rfl, hb.bel⟩
  · have hz : Hid (hexT s = _) := hexT_no h
    go_enter Try.func17, Try.ntmps17
    go_wp2
    go_ret2
    exact ⟨by rw [hz.out]; rfl, Below.refl _ _⟩

end Go.Proofs.Ytpknmloeaiieaam
