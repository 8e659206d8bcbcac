/- Reading a number: what impl.ReadVar and spec.ReadVar hand back. -/
import Derived.Test.YthlbokfajiahpaaRead
import Derived.WalkSpells
import Derived.WalkSmall
import Derived.Deep.RegionHeld3
import Derived.Deep.QuietTactic
import Derived.BigQuiet
namespace Go.Proofs.Ythlbokfajiahpaa
open Go.RowKit

theorem extract_list (s : ByteArray) (k c : Nat) : (s.extract k (k + c)).toList = (s.data.toList.drop k).take c := by
  obtain ⟨⟨l⟩⟩ := s
  have := ByteArray.extract_mk l k (k + c)
  rw [show k + c - k = c by omega] at this
  rw [this, ByteArray.toList_eq]

theorem slice_cut (s : ByteArray) (k i : Nat) (h : k + (i + 1) ≤ s.size) (wx : World) :
    (Instr.slice 9 (.string s) (some (.int .i64 (k : Int))) (some (.int .i64 ((k : Int) + (i : Int) + 1))) none).run Try.prog wx = .ok (.string (s.extract k (k + (i + 1)))) wx := by
  have := run_slice_string (P := Try.prog) (w := wx) 9 s .i64 .i64 (k : Int) ((k : Int) + (i : Int) + 1) Try.underlying9 (by omega) (by omega) (by omega)
  rw [this]
  congr 3

def zeroT : Value := .tuple #[.int .i64 0, .int .i64 0, .bool false]

/-- What ReadVar hands back. -/
def rvT (s : ByteArray) (at' : Int) : Value :=
  if 0 ≤ at' ∧ at' ≤ s.size then
    match rv s.data.toList at'.toNat with
    | some (n, b) => .tuple #[.int .i64 n, .int .i64 b, .bool true]
    | none => zeroT
  else zeroT

theorem rvT_out {s : ByteArray} {at' : Int} (h : ¬ (0 ≤ at' ∧ at' ≤ s.size)) : rvT s at' = zeroT := by rw [rvT, if_neg h]
theorem rvT_some {s : ByteArray} {k n b : Nat} (hk : k ≤ s.size) (h : rv s.data.toList k = some (n, b)) : rvT s k = .tuple #[.int .i64 n, .int .i64 b, .bool true] := by
  rw [rvT, if_pos (by omega), Int.toNat_natCast, h]
theorem rvT_none {s : ByteArray} {k : Nat} (hk : k ≤ s.size) (h : rv s.data.toList k = none) : rvT s k = zeroT := by
  rw [rvT, if_pos (by omega), Int.toNat_natCast, h]

set_option maxRecDepth 100000 in
set_option maxHeartbeats 1000000 in
theorem implReadVar_any (s : ByteArray) (a : Int) (w : World) (hs : s.size ≤ 1099511627776) :
    Calls Try.prog 86 #[.string s, .int .i64 a] w fun e w' => e = .returned (rvT s a) ∧ Below w.heap.size w w' := by
  by_cases h : 0 ≤ a ∧ a ≤ s.size
  · obtain ⟨k, rfl⟩ := Int.eq_ofNat_of_zero_le h.1
    have hk : k ≤ s.size := by omega
    clear h
    rcases hR0 : rg 5 (s.data.toList.drop k) 0 0 with _ | ⟨n, c⟩
    · have hg : Hid (grT s k = _) := grT_none hR0
      have hz : Hid (rvT s k = _) := rvT_none hk (rv_none hR0)
      clear hR0
      go_enter Try.func86, Try.ntmps86
      go_wp2_with (go_at_call 107; refine (readGroups_any _ _ _ hk hs).mono ?_; rintro e w1 ⟨rfl, rfl⟩; rw [hg.out])
      go_ret3
      exact ⟨by rw [hz.out]; exact ret_iib rfl rfl rfl, Below.refl _ _⟩
    · have hg : Hid (grT s k = _) := grT_some hR0
      have hR : Hid (rg 5 (s.data.toList.drop k) 0 0 = some (n, c)) := hR0
      obtain ⟨b1, b2, b3, b4⟩ := rg_bound 5 _ 0 0 n c hR0 (by decide)
      clear hR0
      simp at b1 b4
      have b5 : k + c ≤ s.size := by omega
      by_cases hn : n ≤ 1000000000
      · by_cases hv : vt n = (s.data.toList.drop k).take c
        · have he : (vt n == (s.extract k (k + c)).toList) = true := by rw [extract_list]; simp [hv]
          have hz : Hid (rvT s k = _) := rvT_some hk (rv_yes hR.out hn hv)
          clear hv
          go_enter Try.func86, Try.ntmps86
          go_wp2_with (first | (go_at_call 107; refine (readGroups_any _ _ _ hk hs).mono ?_; rintro e w1 ⟨rfl, rfl⟩; rw [hg.out]) | (go_at_call 48; refine (implVarText_any _ _).mono ?_; rintro e w2 ⟨rfl, hb2⟩; rw [varT_yes (by omega), Int.toNat_natCast]))
          go_ret3
          exact ⟨by rw [hz.out]; exact ret_iib rfl (by omega) rfl, hb2⟩
        · have he : (vt n == (s.extract k (k + c)).toList) = false := by rw [extract_list]; simp [hv]
          have hz : Hid (rvT s k = _) := rvT_none hk (rv_no hR.out (fun h => hv h.2))
          clear hv
          go_enter Try.func86, Try.ntmps86
          go_wp2_with (first | (go_at_call 107; refine (readGroups_any _ _ _ hk hs).mono ?_; rintro e w1 ⟨rfl, rfl⟩; rw [hg.out]) | (go_at_call 48; refine (implVarText_any _ _).mono ?_; rintro e w2 ⟨rfl, hb2⟩; rw [varT_yes (by omega), Int.toNat_natCast]))
          go_ret3
          exact ⟨by rw [hz.out]; exact ret_iib rfl rfl rfl, hb2⟩
      · have hz : Hid (rvT s k = _) := rvT_none hk (rv_no hR.out (fun h => hn h.1))
        go_enter Try.func86, Try.ntmps86
        go_wp2_with (first | (go_at_call 107; refine (readGroups_any _ _ _ hk hs).mono ?_; rintro e w1 ⟨rfl, rfl⟩; rw [hg.out]) | (go_at_call 48; refine (implVarText_any _ _).mono ?_; rintro e w2 ⟨rfl, hb2⟩; rw [varT_no (by omega)]))
        go_ret3
        exact ⟨by rw [hz.out]; exact ret_iib rfl rfl rfl, hb2⟩
  · have hz : Hid (rvT s a = _) := rvT_out h
    by_cases h1 : a < 0
    · go_enter Try.func86, Try.ntmps86
      go_wp2
      go_ret3
      exact ⟨by rw [hz.out]; exact ret_iib rfl rfl rfl, Below.refl _ _⟩
    · have h2 : (s.size : Int) < a := by omega
      go_enter Try.func86, Try.ntmps86
      go_wp2
      go_ret3
      exact ⟨by rw [hz.out]; exact ret_iib rfl rfl rfl, Below.refl _ _⟩

set_option maxRecDepth 100000 in
set_option maxHeartbeats 1000000 in
theorem specReadVar_any (s : ByteArray) (a : Int) (w : World) (hs : s.size ≤ 1099511627776) :
    Calls Try.prog 91 #[.string s, .int .i64 a] w fun e w' => e = .returned (rvT s a) ∧ Below w.heap.size w w' := by
  by_cases h : 0 ≤ a ∧ a ≤ s.size
  · obtain ⟨k, rfl⟩ := Int.eq_ofNat_of_zero_le h.1
    have hk : k ≤ s.size := by omega
    have h1 : decide ((0 : Int) ≤ (k : Int)) = true := by simp
    have h2 : decide ((k : Int) ≤ (s.size : Int)) = true := by simp; omega
    clear h
    obtain ⟨R, hR0⟩ : ∃ R, rg 5 (s.data.toList.drop k) 0 0 = R := ⟨_, rfl⟩
    have hR : Hid (rg 5 (s.data.toList.drop k) 0 0 = R) := hR0
    clear hR0
    go_enter Try.func91, Try.ntmps91
    go_wp2_with (go_at_call 56; refine (l01In_any _ _ _ _).mono ?_; rintro e w1 ⟨rfl, rfl⟩)
    go_loop [7, 8, 9] (fun nv sv iv => ∃ i n : Nat, i ≤ 5 ∧ iv = .int .i64 ((k : Int) + i) ∧ sv = .int .i64 ((128 ^ i : Nat) : Int) ∧ nv = .int .i64 n ∧ n < 128 ^ i ∧ rg (5 - i) (s.data.toList.drop (k + i)) i n = R) (fun _ _ iv => 5 - (intOf iv - k).toNat)
    case atStart => exact ⟨0, 0, by omega, by simp, by simp, rfl, by omega, hR.out⟩
    case round =>
      obtain ⟨i, n, hi, rfl, rfl, rfl, hn, hr0⟩ := hrel
      have hr : Hid (rg (5 - i) (s.data.toList.drop (k + i)) i n = R) := hr0
      clear hr0
      by_cases hlt : i < 5 ∧ k + i < s.size
      · obtain ⟨h1, h2⟩ := hlt
        have hl : k + i < s.data.toList.length := by simpa using h2
        have hb : s[k + i].toNat < 256 := UInt8.toNat_lt _
        by_cases hc : s[k + i].toNat < 128
        · go_wp2
          rw [group_add _ _ _ hn h1]
          have hr1 := rg_lo (l := s.data.toList) (n := n) h1 hl hc
          rw [hr.out, ← hR.out] at hr1
          generalize hm0 : n + s[k + i].toNat % 128 * 128 ^ i = m
          have hr2 : rg 5 (s.data.toList.drop k) 0 0 = some (m, i + 1) := by rw [← hm0]; exact hr1
          have hr3 : Hid (rg 5 (s.data.toList.drop k) 0 0 = some (m, i + 1)) := hr2
          have b5 : k + (i + 1) ≤ s.size := by omega
          clear hr1 hr2 hm0
          by_cases hm : m ≤ 1000000000
          · by_cases hv : vt m = (s.data.toList.drop k).take (i + 1)
            · have he : (vt m == (s.extract k (k + (i + 1))).toList) = true := by rw [extract_list]; simp [hv]
              have hz : Hid (rvT s k = _) := rvT_some hk (rv_yes hr3.out hm hv)
              clear hv
              have g1 : decide ((1000000000 : Int) < (m : Int)) = false := by simp; omega
              have g2 : IntKind.i64.wrap ((k : Int) + (i : Int) + 1) = (k : Int) + (i : Int) + 1 := IntWalk.i64_in _ ⟨by omega, by omega⟩
              have g3 := slice_cut s k i b5
              go_region_held3 (fun _ => True) (trivial) ((go_at_call 88; refine (l01Var_any _ _ hm).mono ?_; rintro e w2 ⟨rfl, hb2⟩))
              go_wp2
              go_ret3
              exact ⟨by rw [hz.out]; exact ret_iib rfl (by omega) rfl, (Below.refl _ _).drew.trans hb2⟩
            · have he : (vt m == (s.extract k (k + (i + 1))).toList) = false := by rw [extract_list]; simp [hv]
              have hz : Hid (rvT s k = _) := rvT_none hk (rv_no hr3.out (fun h => hv h.2))
              clear hv
              have g1 : decide ((1000000000 : Int) < (m : Int)) = false := by simp; omega
              have g2 : IntKind.i64.wrap ((k : Int) + (i : Int) + 1) = (k : Int) + (i : Int) + 1 := IntWalk.i64_in _ ⟨by omega, by omega⟩
              have g3 := slice_cut s k i b5
              go_region_held3 (fun _ => True) (trivial) ((go_at_call 88; refine (l01Var_any _ _ hm).mono ?_; rintro e w2 ⟨rfl, hb2⟩))
              go_wp2
              go_ret3
              exact ⟨by rw [hz.out]; exact ret_iib rfl rfl rfl, (Below.refl _ _).drew.trans hb2⟩
          · have hz : Hid (rvT s k = _) := rvT_none hk (rv_no hr3.out (fun h => hm h.1))
            have g1 : decide ((1000000000 : Int) < (m : Int)) = true := by simp; omega
            go_quiet (fail)
            go_wp2
            go_ret3
            exact ⟨by rw [hz.out]; exact ret_iib rfl rfl rfl, below_drewN (Below.refl _ _) _⟩
        · go_wp2
          go_round
          case rel => exact ⟨i + 1, n + s[k + i].toNat % 128 * 128 ^ i, by omega, by go_num, by rw [scale_next i h1], by rw [group_add _ _ _ hn h1], next_lt hn, (rg_hi (l := s.data.toList) h1 hl hc).symm.trans hr.out⟩
          case measure => simp [intOf]; omega
      · have hz : Hid (rvT s k = _) := rvT_none hk (rv_none (hR.out.trans (hr.out.symm.trans (rg_out (l := s.data.toList) (by simpa using hlt)))))
        by_cases h1 : k + i < s.size
        · have h2 : ¬ i < 5 := fun h => hlt ⟨h, h1⟩
          go_wp2
          go_ret3
          exact ⟨by rw [hz.out]; exact ret_iib rfl rfl rfl, Below.refl _ _⟩
        · go_wp2
          go_ret3
          exact ⟨by rw [hz.out]; exact ret_iib rfl rfl rfl, Below.refl _ _⟩
  · have hz : Hid (rvT s a = _) := rvT_out h
    have h1 : (decide ((0 : Int) ≤ a) && decide (a ≤ (s.size : Int))) = false := by
      simp only [Bool.and_eq_false_iff, decide_eq_false_iff_not]
      omega
    go_enter Try.func91, Try.ntmps91
    go_wp2_with (go_at_call 56; refine (l01In_any _ _ _ _).mono ?_; rintro e w1 ⟨rfl, rfl⟩; simp only [h1])
    go_ret3
    exact ⟨by rw [hz.out]; exact ret_iib rfl rfl rfl, Below.refl _ _⟩

end Go.Proofs.Ythlbokfajiahpaa
