/- The text whose figures a text is: what spec.Unhex hands back. -/
import Derived.Test.YtpknmloeaiieaamPlainFig
import Derived.Test.YtpknmloeaiieaamKit2
import Derived.WalkSpells
import Derived.WalkSmall
namespace Go.Proofs.Ytpknmloeaiieaam
open Go.RowKit

theorem value_any (c : Nat) (w : World) (hc : c < 256) :
    Calls Try.prog 26 #[.int .u8 (c : Int)] w fun e w' => e = .returned (.int .i64 (valN c)) ∧ w = w' := by
  by_cases h1 : 48 ≤ c ∧ c ≤ 57
  · have hv : Hid (valN c = (c : Int) - 48) := by rw [valN, if_pos h1]; exact rfl
    have h2 := h1.1; have h3 := h1.2
    go_enter Try.func26, Try.ntmps26
    go_wp2
    go_ret
    exact ⟨by rw [hv.out]; go_num, rfl⟩
  · by_cases h2 : 97 ≤ c ∧ c ≤ 102
    · have hv : Hid (valN c = (c : Int) - 87) := by rw [valN, if_neg h1, if_pos h2]; exact rfl
      have h3 := h2.1; have h4 := h2.2
      go_enter Try.func26, Try.ntmps26
      go_wp2
      go_ret
      exact ⟨by rw [hv.out]; go_num, rfl⟩
    · have hv : Hid (valN c = -1) := by rw [valN, if_neg h1, if_neg h2]; exact rfl
      rcases (show c < 48 ∨ (58 ≤ c ∧ c < 97) ∨ 103 ≤ c by omega) with h3 | ⟨h3, h4⟩ | h3
      all_goals
        go_enter Try.func26, Try.ntmps26
        go_wp2
        go_ret
        exact ⟨by rw [hv.out]; rfl, rfl⟩

/-- What Unhex hands back. -/
def uhT (s : ByteArray) : Value :=
  if isHex s.data.toList then .tuple #[.string ⟨(pairsOf (valsOf true s.data.toList)).toArray⟩, .bool true] else .tuple #[.string ⟨#[]⟩, .bool false]
theorem uhT_yes {s : ByteArray} (h : isHex s.data.toList) : uhT s = .tuple #[.string ⟨(pairsOf (valsOf true s.data.toList)).toArray⟩, .bool true] := by rw [uhT, if_pos h]
theorem uhT_no {s : ByteArray} (h : ¬ isHex s.data.toList) : uhT s = .tuple #[.string ⟨#[]⟩, .bool false] := by rw [uhT, if_neg h]

set_option maxRecDepth 100000 in
set_option maxHeartbeats 1000000 in
theorem specUnhex_any (s : ByteArray) (w : World) (hs : s.size ≤ 1099511627776) :
    Calls Try.prog 19 #[.string s] w fun e w' => e = .returned (uhT s) ∧ Below w.heap.size w w' := by
  by_cases h : s.size ≤ 40000
  · by_cases h2 : s.size % 2 = 0
    · have hlen : s.data.toList.length = s.size := by simp
      obtain ⟨V, hV0⟩ : ∃ V, valsOf true s.data.toList = V := ⟨_, rfl⟩
      have hV : Hid (valsOf true s.data.toList = V) := hV0
      have hVle : V.length ≤ s.size := by rw [← hV0]; simpa using valsOf_le true s.data.toList
      clear hV0
      have hst := Buf.fresh w #[] 0 rfl (by decide)
      have hm : (((s.size : Int) % 2) != 0) = false := by simp; omega
      go_enter Try.func19, Try.ntmps19
      go_wp2
      go_loopw [4, 5] (fun v iv wr => ∃ j : Nat, 2 * j ≤ V.length ∧ iv = .int .i64 ((2 * j : Nat) : Int) ∧ Buf w.heap.size w wr v (pairsOf (V.take (2 * j)))) (fun _ iv _ => s.size - (intOf iv).toNat)
      case atStart => exact ⟨0, by omega, rfl, hst⟩
      case round =>
        obtain ⟨j, hj, rfl, hb⟩ := hrel
        by_cases hlt : 2 * j < s.size
        · have hlt2 : 2 * j + 1 < s.size := by omega
          have hl1 : 2 * j < s.data.toList.length := by simpa using hlt
          have hl2 : 2 * j + 1 < s.data.toList.length := by simpa using hlt2
          rcases hd1 : digV true s.data.toList[2 * j] with _ | v1
          · have hva : valN s[2 * j].toNat = -1 := valN_none hd1
            have hz : Hid (uhT s = _) := uhT_no (fun hh => by have := valsOf_none (x := true) (l := s.data.toList) (by rw [hV.out]; exact hj) hl1 hd1; have := hh.2.2; omega)
            clear hd1
            go_wp2_with (go_at_call 26; refine (value_any _ _ (UInt8.toNat_lt _)).mono ?_; rintro e w1 ⟨rfl, rfl⟩)
            go_ret2
            exact ⟨by rw [hz.out]; rfl, hb.bel⟩
          · have hva : valN s[2 * j].toNat = (v1 : Int) := valN_some hd1
            have hv1 := digV_lt hd1
            have hq1 := valsOf_some (x := true) (l := s.data.toList) (by rw [hV.out]; exact hj) hl1 hd1
            rw [hV.out] at hq1
            have hj1 : 2 * j + 1 ≤ V.length := (List.getElem?_eq_some_iff.1 hq1).1
            rcases hd2 : digV true s.data.toList[2 * j + 1] with _ | v2
            · have hvb : valN s[2 * j + 1].toNat = -1 := valN_none hd2
              have hz : Hid (uhT s = _) := uhT_no (fun hh => by have := valsOf_none (x := true) (l := s.data.toList) (by rw [hV.out]; exact hj1) hl2 hd2; have := hh.2.2; omega)
              clear hd1 hd2 hq1
              go_wp2_with (go_at_call 26; refine (value_any _ _ (UInt8.toNat_lt _)).mono ?_; rintro e w1 ⟨rfl, rfl⟩)
              go_ret2
              exact ⟨by rw [hz.out]; rfl, hb.bel⟩
            · have hvb : valN s[2 * j + 1].toNat = (v2 : Int) := valN_some hd2
              have hv2 := digV_lt hd2
              have hq2 := valsOf_some (x := true) (l := s.data.toList) (by rw [hV.out]; exact hj1) hl2 hd2
              rw [hV.out] at hq2
              have hj2 : 2 * j + 2 ≤ V.length := (List.getElem?_eq_some_iff.1 hq2).1
              have hp0 := pairs_next hq1 hq2
              rw [UInt8.toNat_ofNat', UInt8.toNat_ofNat', Nat.mod_eq_of_lt (by omega), Nat.mod_eq_of_lt (by omega)] at hp0
              obtain ⟨b, hb0⟩ : ∃ b : UInt8, UInt8.ofNat (16 * v1 + v2) = b := ⟨_, rfl⟩
              have hbn : Hid (b.toNat = 16 * v1 + v2) := by rw [← hb0]; exact pair_toNat hv1 hv2
              have hp : Hid (pairsOf (V.take (2 * (j + 1))) = pairsOf (V.take (2 * j)) ++ [b]) := by rw [← hb0]; exact hp0
              have hL : (pairsOf (V.take (2 * j))).length ≤ 40000 := by rw [pairsOf_length j _ (by simp; omega)]; omega
              clear hd1 hd2 hq1 hq2 hp0 hb0
              go_wp2_with (first | (go_at_call 26; refine (value_any _ _ (UInt8.toNat_lt _)).mono ?_; rintro e w1 ⟨rfl, rfl⟩) | (at_builtin; refine wpList_append_bytes rfl _ _ rfl _ _ _ rfl (hb.alloc _) ⟨wr.heap.size, 0, none⟩ [b] 1 rfl ?c1 ?c2 ?_))
              case c1 => exact one_new _ _ _ (by rw [hbn.out]; omega)
              case c2 => simp; omega
              intro v' w1 hb'
              go_wp2
              go_roundw
              case rel => exact ⟨j + 1, by omega, by go_num, by rw [hp.out]; exact hb'⟩
              case measure => simp [intOf]; omega
        · have hz : Hid (uhT s = _) := uhT_yes ⟨by omega, by omega, by rw [hV.out]; omega⟩
          have hcv := hb.toString
          go_wp2
          go_ret2
          refine ⟨?_, hb.bel⟩
          rw [hz.out, hV.out, List.take_of_length_le (by omega)]
          rfl
    · have hz : Hid (uhT s = _) := uhT_no (fun hh => h2 (by have := hh.2.1; simpa using this))
      have hm : (((s.size : Int) % 2) != 0) = true := by simp; omega
      go_enter Try.func19, Try.ntmps19
      go_wp2
      go_ret2
      exact ⟨by rw [hz.out]; rfl, Below.refl _ _⟩
  · have hz : Hid (uhT s = _) := uhT_no (fun hh => h (by have := hh.1; simpa using this))
    go_enter Try.func19, Try.ntmps19
    go_wp2
    go_ret2
    exact ⟨by rw [hz.out]; rfl, Below.refl _ _⟩

end Go.Proofs.Ytpknmloeaiieaam
