/- Texts of our own, joined. -/
import Derived.Test.YtieenkloiicnkaaGreatDoorJj
import Derived.Test.YtieenkloiicnkaaGreatDoorJn
import Derived.Test.YtieenkloiicnkaaGreatDoorJk
import Derived.WalkSpells
import Derived.WalkSmall
import Derived.Deep.RegionHeld3
import Derived.Deep.QuietTactic
import Derived.BigQuiet
import Derived.Test.YtieenkloiicnkaaGreatDoorJc
import Derived.Laws.Concat
import Derived.Test.YtieenkloiicnkaaGreatDoorJm
import Derived.Test.YtieenkloiicnkaaGreatDoorJa
/- Reading a number: what impl.readGroups, impl.ReadVar and spec.ReadVar hand back. -/
namespace Go.Proofs.YtieenkloiicnkaaGreatDoor
open Go.RowKit

/-- What readGroups hands back. -/
def grT (s : ByteArray) (k : Nat) : Value :=
  match rg 5 (s.data.toList.drop k) 0 0 with
  | some (n, c) => .tuple #[.int .i64 n, .int .i64 ((k : Int) + c), .bool true]
  | none => .tuple #[.int .i64 0, .int .i64 0, .bool false]

theorem grT_some {s : ByteArray} {k n c : Nat} (h : rg 5 (s.data.toList.drop k) 0 0 = some (n, c)) : grT s k = .tuple #[.int .i64 n, .int .i64 ((k : Int) + c), .bool true] := by rw [grT, h]
theorem grT_none {s : ByteArray} {k : Nat} (h : rg 5 (s.data.toList.drop k) 0 0 = none) : grT s k = .tuple #[.int .i64 0, .int .i64 0, .bool false] := by rw [grT, h]

theorem ret_iib {a b a' b' : Int} {c c' : Bool} (h1 : a = a') (h2 : b = b') (h3 : c = c') : Ending.returned (.tuple #[.int .i64 a, .int .i64 b, .bool c]) = .returned (.tuple #[.int .i64 a', .int .i64 b', .bool c']) := by rw [h1, h2, h3]

theorem next_lt {n c i : Nat} (hn : n < 128 ^ i) : n + c % 128 * 128 ^ i < 128 ^ (i + 1) := by
  have hb : c % 128 * 128 ^ i ≤ 127 * 128 ^ i := Nat.mul_le_mul_right _ (by omega)
  have hp : 128 ^ (i + 1) = 128 * 128 ^ i := by rw [Nat.pow_succ, Nat.mul_comm]
  omega

set_option maxRecDepth 100000 in
set_option maxHeartbeats 1000000 in
theorem readGroups_any (s : ByteArray) (k : Nat) (w : World) (hk : k ≤ s.size) (hs : s.size ≤ 1099511627776) :
    Calls Tryz.prog 169 #[.string s, .int .i64 k] w fun e w' => e = .returned (grT s k) ∧ w' = w := by
  obtain ⟨R, hR0⟩ : ∃ R, rg 5 (s.data.toList.drop k) 0 0 = R := ⟨_, rfl⟩
  have hR : Hid (rg 5 (s.data.toList.drop k) 0 0 = R) := hR0
  clear hR0
  go_enter Tryz.func169, Tryz.ntmps169
  go_wp2
  go_loop [7, 8] (fun nv iv => ∃ i n : Nat, i ≤ 5 ∧ iv = .int .i64 i ∧ nv = .int .i64 n ∧ n < 128 ^ i ∧ rg (5 - i) (s.data.toList.drop (k + i)) i n = R) (fun _ iv => 5 - (intOf iv).toNat)
  case atStart => exact ⟨0, 0, by omega, rfl, rfl, by omega, hR.out⟩
  case round =>
    obtain ⟨i, n, hi, rfl, rfl, hn, hr0⟩ := hrel
    have hr : Hid (rg (5 - i) (s.data.toList.drop (k + i)) i n = R) := hr0
    clear hr0
    by_cases hlt : i < 5 ∧ k + i < s.size
    · obtain ⟨h1, h2⟩ := hlt
      have hl : k + i < s.data.toList.length := by simpa using h2
      have hb : s[k + i].toNat < 256 := UInt8.toNat_lt _
      by_cases hc : s[k + i].toNat < 128
      · go_wp2
        go_ret3
        refine ⟨?_, rfl⟩
        rw [grT_some (hR.out.trans (hr.out.symm.trans (rg_lo (l := s.data.toList) h1 hl hc)))]
        exact ret_iib (group_or _ _ _ hn h1 hb) (by omega) rfl
      · go_wp2
        go_round
        case rel => exact ⟨i + 1, n + s[k + i].toNat % 128 * 128 ^ i, by omega, by go_num, by rw [group_or _ _ _ hn h1 hb], next_lt hn, (rg_hi (l := s.data.toList) h1 hl hc).symm.trans hr.out⟩
        case measure => simp [intOf]; omega
    · have hz := grT_none (hR.out.trans (hr.out.symm.trans (rg_out (l := s.data.toList) (by simpa using hlt))))
      have hZ : Hid (grT s k = .tuple #[.int .i64 0, .int .i64 0, .bool false]) := hz
      clear hz
      by_cases h1 : i < 5
      · have h2 : ¬ k + i < s.size := fun h => hlt ⟨h1, h⟩
        go_wp2
        go_ret3
        refine ⟨?_, rfl⟩
        rw [hZ.out]
        exact ret_iib rfl rfl rfl
      · go_wp2
        go_ret3
        refine ⟨?_, rfl⟩
        rw [hZ.out]
        exact ret_iib rfl rfl rfl

end Go.Proofs.YtieenkloiicnkaaGreatDoor

/- Reading a number: what impl.ReadVar and spec.ReadVar hand back. -/
namespace Go.Proofs.YtieenkloiicnkaaGreatDoor
open Go.RowKit

theorem extract_list (s : ByteArray) (k c : Nat) : (s.extract k (k + c)).toList = (s.data.toList.drop k).take c := by
  obtain ⟨⟨l⟩⟩ := s
  have := ByteArray.extract_mk l k (k + c)
  rw [show k + c - k = c by omega] at this
  rw [this, ByteArray.toList_eq]

theorem slice_cut (s : ByteArray) (k i : Nat) (h : k + (i + 1) ≤ s.size) (wx : World) :
    (Instr.slice 9 (.string s) (some (.int .i64 (k : Int))) (some (.int .i64 ((k : Int) + (i : Int) + 1))) none).run Tryz.prog wx = .ok (.string (s.extract k (k + (i + 1)))) wx := by
  have := run_slice_string (P := Tryz.prog) (w := wx) 9 s .i64 .i64 (k : Int) ((k : Int) + (i : Int) + 1) Tryz.underlying9 (by omega) (by omega) (by omega)
  rw [this]
  congr 3

def zeroT : Value := .tuple #[.int .i64 0, .int .i64 0, .bool false]

/-- What ReadVar hands back. -/
def rvT (s : ByteArray) (at' : Int) : Value :=
  if 0 ≤ at' ∧ at' ≤ s.size then
    match rv s.data.toList at'.toNat with
    | some (n, b) => .tuple #[.int .i64 n, .int .i64 b, .bool true]
    | none => zeroT
  else zeroT

theorem rvT_out {s : ByteArray} {at' : Int} (h : ¬ (0 ≤ at' ∧ at' ≤ s.size)) : rvT s at' = zeroT := by rw [rvT, if_neg h]
theorem rvT_some {s : ByteArray} {k n b : Nat} (hk : k ≤ s.size) (h : rv s.data.toList k = some (n, b)) : rvT s k = .tuple #[.int .i64 n, .int .i64 b, .bool true] := by
  rw [rvT, if_pos (by omega), Int.toNat_natCast, h]
theorem rvT_none {s : ByteArray} {k : Nat} (hk : k ≤ s.size) (h : rv s.data.toList k = none) : rvT s k = zeroT := by
  rw [rvT, if_pos (by omega), Int.toNat_natCast, h]

set_option maxRecDepth 100000 in
set_option maxHeartbeats 1000000 in
theorem implReadVar_any (s : ByteArray) (a : Int) (w : World) (hs : s.size ≤ 1099511627776) :
    Calls Tryz.prog 151 #[.string s, .int .i64 a] w fun e w' => e = .returned (rvT s a) ∧ Below w.heap.size w w' := by
  by_cases h : 0 ≤ a ∧ a ≤ s.size
  · obtain ⟨k, rfl⟩ := Int.eq_ofNat_of_zero_le h.1
    have hk : k ≤ s.size := by omega
    clear h
    rcases hR0 : rg 5 (s.data.toList.drop k) 0 0 with _ | ⟨n, c⟩
    · have hg : Hid (grT s k = _) := grT_none hR0
      have hz : Hid (rvT s k = _) := rvT_none hk (rv_none hR0)
      clear hR0
      go_enter Tryz.func151, Tryz.ntmps151
      go_wp2_with (go_at_call 169; refine (readGroups_any _ _ _ hk hs).mono ?_; rintro e w1 ⟨rfl, rfl⟩; rw [hg.out])
      go_ret3
      exact ⟨by rw [hz.out]; exact ret_iib rfl rfl rfl, Below.refl _ _⟩
    · have hg : Hid (grT s k = _) := grT_some hR0
      have hR : Hid (rg 5 (s.data.toList.drop k) 0 0 = some (n, c)) := hR0
      obtain ⟨b1, b2, b3, b4⟩ := rg_bound 5 _ 0 0 n c hR0 (by decide)
      clear hR0
      simp at b1 b4
      have b5 : k + c ≤ s.size := by omega
      by_cases hn : n ≤ 1000000000
      · by_cases hv : vt n = (s.data.toList.drop k).take c
        · have he : (vt n == (s.extract k (k + c)).toList) = true := by rw [extract_list]; simp [hv]
          have hz : Hid (rvT s k = _) := rvT_some hk (rv_yes hR.out hn hv)
          clear hv
          go_enter Tryz.func151, Tryz.ntmps151
          go_wp2_with (first | (go_at_call 169; refine (readGroups_any _ _ _ hk hs).mono ?_; rintro e w1 ⟨rfl, rfl⟩; rw [hg.out]) | (go_at_call 122; refine (implVarText_any _ _).mono ?_; rintro e w2 ⟨rfl, hb2⟩; rw [varT_yes (by omega), Int.toNat_natCast]))
          go_ret3
          exact ⟨by rw [hz.out]; exact ret_iib rfl (by omega) rfl, hb2⟩
        · have he : (vt n == (s.extract k (k + c)).toList) = false := by rw [extract_list]; simp [hv]
          have hz : Hid (rvT s k = _) := rvT_none hk (rv_no hR.out (fun h => hv h.2))
          clear hv
          go_enter Tryz.func151, Tryz.ntmps151
          go_wp2_with (first | (go_at_call 169; refine (readGroups_any _ _ _ hk hs).mono ?_; rintro e w1 ⟨rfl, rfl⟩; rw [hg.out]) | (go_at_call 122; refine (implVarText_any _ _).mono ?_; rintro e w2 ⟨rfl, hb2⟩; rw [varT_yes (by omega), Int.toNat_natCast]))
          go_ret3
          exact ⟨by rw [hz.out]; exact ret_iib rfl rfl rfl, hb2⟩
      · have hz : Hid (rvT s k = _) := rvT_none hk (rv_no hR.out (fun h => hn h.1))
        go_enter Tryz.func151, Tryz.ntmps151
        go_wp2_with (first | (go_at_call 169; refine (readGroups_any _ _ _ hk hs).mono ?_; rintro e w1 ⟨rfl, rfl⟩; rw [hg.out]) | (go_at_call 122; refine (implVarText_any _ _).mono ?_; rintro e w2 ⟨rfl, hb2⟩; rw [varT_no (by omega)]))
        go_ret3
        exact ⟨by rw [hz.out]; exact ret_iib rfl rfl rfl, hb2⟩
  · have hz : Hid (rvT s a = _) := rvT_out h
    by_cases h1 : a < 0
    · go_enter Tryz.func151, Tryz.ntmps151
      go_wp2
      go_ret3
      exact ⟨by rw [hz.out]; exact ret_iib rfl rfl rfl, Below.refl _ _⟩
    · have h2 : (s.size : Int) < a := by omega
      go_enter Tryz.func151, Tryz.ntmps151
      go_wp2
      go_ret3
      exact ⟨by rw [hz.out]; exact ret_iib rfl rfl rfl, Below.refl _ _⟩

set_option maxRecDepth 100000 in
set_option maxHeartbeats 1000000 in
theorem specReadVar_any (s : ByteArray) (a : Int) (w : World) (hs : s.size ≤ 1099511627776) :
    Calls Tryz.prog 143 #[.string s, .int .i64 a] w fun e w' => e = .returned (rvT s a) ∧ Below w.heap.size w w' := by
  by_cases h : 0 ≤ a ∧ a ≤ s.size
  · obtain ⟨k, rfl⟩ := Int.eq_ofNat_of_zero_le h.1
    have hk : k ≤ s.size := by omega
    have h1 : decide ((0 : Int) ≤ (k : Int)) = true := by simp
    have h2 : decide ((k : Int) ≤ (s.size : Int)) = true := by simp; omega
    clear h
    obtain ⟨R, hR0⟩ : ∃ R, rg 5 (s.data.toList.drop k) 0 0 = R := ⟨_, rfl⟩
    have hR : Hid (rg 5 (s.data.toList.drop k) 0 0 = R) := hR0
    clear hR0
    go_enter Tryz.func143, Tryz.ntmps143
    go_wp2_with (go_at_call 56; refine (l01In_any _ _ _ _).mono ?_; rintro e w1 ⟨rfl, rfl⟩)
    go_loop [7, 8, 9] (fun nv sv iv => ∃ i n : Nat, i ≤ 5 ∧ iv = .int .i64 ((k : Int) + i) ∧ sv = .int .i64 ((128 ^ i : Nat) : Int) ∧ nv = .int .i64 n ∧ n < 128 ^ i ∧ rg (5 - i) (s.data.toList.drop (k + i)) i n = R) (fun _ _ iv => 5 - (intOf iv - k).toNat)
    case atStart => exact ⟨0, 0, by omega, by simp, by simp, rfl, by omega, hR.out⟩
    case round =>
      obtain ⟨i, n, hi, rfl, rfl, rfl, hn, hr0⟩ := hrel
      have hr : Hid (rg (5 - i) (s.data.toList.drop (k + i)) i n = R) := hr0
      clear hr0
      by_cases hlt : i < 5 ∧ k + i < s.size
      · obtain ⟨h1, h2⟩ := hlt
        have hl : k + i < s.data.toList.length := by simpa using h2
        have hb : s[k + i].toNat < 256 := UInt8.toNat_lt _
        by_cases hc : s[k + i].toNat < 128
        · go_wp2
          rw [group_add _ _ _ hn h1]
          have hr1 := rg_lo (l := s.data.toList) (n := n) h1 hl hc
          rw [hr.out, ← hR.out] at hr1
          generalize hm0 : n + s[k + i].toNat % 128 * 128 ^ i = m
          have hr2 : rg 5 (s.data.toList.drop k) 0 0 = some (m, i + 1) := by rw [← hm0]; exact hr1
          have hr3 : Hid (rg 5 (s.data.toList.drop k) 0 0 = some (m, i + 1)) := hr2
          have b5 : k + (i + 1) ≤ s.size := by omega
          clear hr1 hr2 hm0
          by_cases hm : m ≤ 1000000000
          · by_cases hv : vt m = (s.data.toList.drop k).take (i + 1)
            · have he : (vt m == (s.extract k (k + (i + 1))).toList) = true := by rw [extract_list]; simp [hv]
              have hz : Hid (rvT s k = _) := rvT_some hk (rv_yes hr3.out hm hv)
              clear hv
              have g1 : decide ((1000000000 : Int) < (m : Int)) = false := by simp; omega
              have g2 : IntKind.i64.wrap ((k : Int) + (i : Int) + 1) = (k : Int) + (i : Int) + 1 := IntWalk.i64_in _ ⟨by omega, by omega⟩
              have g3 := slice_cut s k i b5
              go_region_held3 (fun _ => True) (trivial) ((go_at_call 82; refine (l01Var_any _ _ hm).mono ?_; rintro e w2 ⟨rfl, hb2⟩))
              go_wp2
              go_ret3
              exact ⟨by rw [hz.out]; exact ret_iib rfl (by omega) rfl, (Below.refl _ _).drew.trans hb2⟩
            · have he : (vt m == (s.extract k (k + (i + 1))).toList) = false := by rw [extract_list]; simp [hv]
              have hz : Hid (rvT s k = _) := rvT_none hk (rv_no hr3.out (fun h => hv h.2))
              clear hv
              have g1 : decide ((1000000000 : Int) < (m : Int)) = false := by simp; omega
              have g2 : IntKind.i64.wrap ((k : Int) + (i : Int) + 1) = (k : Int) + (i : Int) + 1 := IntWalk.i64_in _ ⟨by omega, by omega⟩
              have g3 := slice_cut s k i b5
              go_region_held3 (fun _ => True) (trivial) ((go_at_call 82; refine (l01Var_any _ _ hm).mono ?_; rintro e w2 ⟨rfl, hb2⟩))
              go_wp2
              go_ret3
              exact ⟨by rw [hz.out]; exact ret_iib rfl rfl rfl, (Below.refl _ _).drew.trans hb2⟩
          · have hz : Hid (rvT s k = _) := rvT_none hk (rv_no hr3.out (fun h => hm h.1))
            have g1 : decide ((1000000000 : Int) < (m : Int)) = true := by simp; omega
            go_quiet (fail)
            go_wp2
            go_ret3
            exact ⟨by rw [hz.out]; exact ret_iib rfl rfl rfl, below_drewN (Below.refl _ _) _⟩
        · go_wp2
          go_round
          case rel => exact ⟨i + 1, n + s[k + i].toNat % 128 * 128 ^ i, by omega, by go_num, by rw [scale_next i h1], by rw [group_add _ _ _ hn h1], next_lt hn, (rg_hi (l := s.data.toList) h1 hl hc).symm.trans hr.out⟩
          case measure => simp [intOf]; omega
      · have hz : Hid (rvT s k = _) := rvT_none hk (rv_none (hR.out.trans (hr.out.symm.trans (rg_out (l := s.data.toList) (by simpa using hlt)))))
        by_cases h1 : k + i < s.size
        · have h2 : ¬ i < 5 := fun h => hlt ⟨h, h1⟩
          go_wp2
          go_ret3
          exact ⟨by rw [hz.out]; exact ret_iib rfl rfl rfl, Below.refl _ _⟩
        · go_wp2
          go_ret3
          exact ⟨by rw [hz.out]; exact ret_iib rfl rfl rfl, Below.refl _ _⟩
  · have hz : Hid (rvT s a = _) := rvT_out h
    have h1 : (decide ((0 : Int) ≤ a) && decide (a ≤ (s.size : Int))) = false := by
      simp only [Bool.and_eq_false_iff, decide_eq_false_iff_not]
      omega
    go_enter Tryz.func143, Tryz.ntmps143
    go_wp2_with (go_at_call 56; refine (l01In_any _ _ _ _).mono ?_; rintro e w1 ⟨rfl, rfl⟩; simp only [h1])
    go_ret3
    exact ⟨by rw [hz.out]; exact ret_iib rfl rfl rfl, Below.refl _ _⟩

end Go.Proofs.YtieenkloiicnkaaGreatDoor

/- A text behind its length, and read back: what ShortText and ReadShort hand back. -/
namespace Go.Proofs.YtieenkloiicnkaaGreatDoor
open Go.RowKit

/-- What ShortText hands back. -/
def shT (s : ByteArray) : Value :=
  if s.size ≤ 20000 then .tuple #[.string (⟨(vt s.size).toArray⟩ ++ s), .bool true] else .tuple #[.string ⟨#[]⟩, .bool false]
theorem shT_yes {s : ByteArray} (h : s.size ≤ 20000) : shT s = .tuple #[.string (⟨(vt s.size).toArray⟩ ++ s), .bool true] := by rw [shT, if_pos h]
theorem shT_no {s : ByteArray} (h : ¬ s.size ≤ 20000) : shT s = .tuple #[.string ⟨#[]⟩, .bool false] := by rw [shT, if_neg h]

theorem vt_size (n : Nat) : (ByteArray.mk (vt n).toArray).size ≤ n + 1 := by
  have := vt_len n
  simpa [ByteArray.size] using this


theorem implShortText_any (s : ByteArray) (w : World) (hs : s.size ≤ 1099511627776) :
    Calls Tryz.prog 126 #[.string s] w fun e w' => e = .returned (shT s) ∧ Below w.heap.size w w' := by
  by_cases h : s.size ≤ 20000
  · have hv := vt_size s.size
    have hadd := fun wx => run_string_add_sum (P := Tryz.prog) (w := wx) ⟨(vt s.size).toArray⟩ s (by omega)
    go_enter Tryz.func126, Tryz.ntmps126
    go_wp2_with (go_at_call 122; refine (implVarText_any _ _).mono ?_; rintro e w1 ⟨rfl, hb1⟩; rw [varT_yes (by omega), Int.toNat_natCast])
    go_ret2
    exact ⟨by rw [shT_yes h]; rfl, hb1⟩
  · go_enter Tryz.func126, Tryz.ntmps126
    go_wp2
    go_ret2
    exact ⟨by rw [shT_no h]; rfl, Below.refl _ _⟩

def zeroS : Value := .tuple #[.string ⟨#[]⟩, .int .i64 0, .bool false]

/-- What ReadShort hands back. -/
def rsT (s : ByteArray) (a : Int) : Value :=
  if 0 ≤ a ∧ a ≤ s.size then
    match rv s.data.toList a.toNat with
    | some (n, b) => if n ≤ 20000 ∧ n + b ≤ s.size then .tuple #[.string (s.extract b (b + n)), .int .i64 ((b : Int) + n), .bool true] else zeroS
    | none => zeroS
  else zeroS

theorem rsT_out {s : ByteArray} {a : Int} (h : ¬ (0 ≤ a ∧ a ≤ s.size)) : rsT s a = zeroS := by rw [rsT, if_neg h]
theorem rsT_none {s : ByteArray} {k : Nat} (hk : k ≤ s.size) (h : rv s.data.toList k = none) : rsT s k = zeroS := by
  rw [rsT, if_pos (by omega), Int.toNat_natCast, h]
theorem rsT_no {s : ByteArray} {k n b : Nat} (hk : k ≤ s.size) (h : rv s.data.toList k = some (n, b)) (h2 : ¬ (n ≤ 20000 ∧ n + b ≤ s.size)) : rsT s k = zeroS := by
  rw [rsT, if_pos (by omega), Int.toNat_natCast, h]
  simp only [if_neg h2]
theorem rsT_yes {s : ByteArray} {k n b : Nat} (hk : k ≤ s.size) (h : rv s.data.toList k = some (n, b)) (h2 : n ≤ 20000 ∧ n + b ≤ s.size) : rsT s k = .tuple #[.string (s.extract b (b + n)), .int .i64 ((b : Int) + n), .bool true] := by
  rw [rsT, if_pos (by omega), Int.toNat_natCast, h]
  simp only [if_pos h2]

/-- The ways of ReadShort: nothing is read; what is read is too long; it is a text. -/
theorem rs_ways (s : ByteArray) (a : Int) : (rvT s a = zeroT ∧ rsT s a = zeroS) ∨
    (∃ n b : Nat, rvT s a = .tuple #[.int .i64 n, .int .i64 b, .bool true] ∧ n ≤ 1000000000 ∧ b ≤ s.size ∧ ¬ (n ≤ 20000 ∧ n + b ≤ s.size) ∧ rsT s a = zeroS) ∨
    (∃ n b : Nat, rvT s a = .tuple #[.int .i64 n, .int .i64 b, .bool true] ∧ n ≤ 20000 ∧ n + b ≤ s.size ∧ rsT s a = .tuple #[.string (s.extract b (b + n)), .int .i64 ((b : Int) + n), .bool true]) := by
  by_cases h : 0 ≤ a ∧ a ≤ s.size
  · obtain ⟨k, rfl⟩ := Int.eq_ofNat_of_zero_le h.1
    have hk : k ≤ s.size := by omega
    rcases hr : rv s.data.toList k with _ | ⟨n, b⟩
    · exact .inl ⟨rvT_none hk hr, rsT_none hk hr⟩
    · have hle := rv_le (by simpa using hk) hr
      have hb : b ≤ s.size := by have := hle.2.2; simpa using this
      by_cases h2 : n ≤ 20000 ∧ n + b ≤ s.size
      · exact .inr (.inr ⟨n, b, rvT_some hk hr, h2.1, h2.2, rsT_yes hk hr h2⟩)
      · exact .inr (.inl ⟨n, b, rvT_some hk hr, hle.1, hb, h2, rsT_no hk hr h2⟩)
  · exact .inl ⟨rvT_out h, rsT_out h⟩

theorem slice_len (s : ByteArray) (b n : Nat) (h : n + b ≤ s.size) (wx : World) :
    (Instr.slice 9 (.string s) (some (.int .i64 (b : Int))) (some (.int .i64 ((b : Int) + (n : Int)))) none).run Tryz.prog wx = .ok (.string (s.extract b (b + n))) wx := by
  have := run_slice_string (P := Tryz.prog) (w := wx) 9 s .i64 .i64 (b : Int) ((b : Int) + (n : Int)) Tryz.underlying9 (by omega) (by omega) (by omega)
  rw [this]
  congr 3

set_option maxHeartbeats 400000 in
theorem specReadShort_any (s : ByteArray) (a : Int) (w : World) (hs : s.size ≤ 1099511627776) :
    Calls Tryz.prog 144 #[.string s, .int .i64 a] w fun e w' => e = .returned (rsT s a) ∧ Below w.heap.size w w' := by
  rcases rs_ways s a with ⟨hr0, hz0⟩ | ⟨n, b, hr0, h1, h2, h3, hz0⟩ | ⟨n, b, hr0, h1, h2, hz0⟩
  · have hr : Hid (rvT s a = _) := hr0
    have hz : Hid (rsT s a = _) := hz0
    clear hr0 hz0
    go_enter Tryz.func144, Tryz.ntmps144
    go_wp2_with (go_at_call 143; refine (specReadVar_any _ _ _ hs).mono ?_; rintro e w1 ⟨rfl, hb1⟩; rw [hr.out, zeroT])
    go_ret3
    exact ⟨by rw [hz.out]; rfl, hb1⟩
  · have hr : Hid (rvT s a = _) := hr0
    have hz : Hid (rsT s a = _) := hz0
    clear hr0 hz0
    by_cases h4 : n ≤ 20000
    · have h5 : (s.size : Int) - (b : Int) < (n : Int) := by omega
      go_enter Tryz.func144, Tryz.ntmps144
      go_wp2_with (go_at_call 143; refine (specReadVar_any _ _ _ hs).mono ?_; rintro e w1 ⟨rfl, hb1⟩; rw [hr.out])
      go_ret3
      exact ⟨by rw [hz.out]; rfl, hb1⟩
    · go_enter Tryz.func144, Tryz.ntmps144
      go_wp2_with (go_at_call 143; refine (specReadVar_any _ _ _ hs).mono ?_; rintro e w1 ⟨rfl, hb1⟩; rw [hr.out])
      go_ret3
      exact ⟨by rw [hz.out]; rfl, hb1⟩
  · have hr : Hid (rvT s a = _) := hr0
    have hz : Hid (rsT s a = _) := hz0
    clear hr0 hz0
    have hsl := slice_len s b n h2
    have h5 : ¬ (s.size : Int) - (b : Int) < (n : Int) := by omega
    go_enter Tryz.func144, Tryz.ntmps144
    go_wp2_with (go_at_call 143; refine (specReadVar_any _ _ _ hs).mono ?_; rintro e w1 ⟨rfl, hb1⟩; rw [hr.out])
    go_ret3
    exact ⟨by rw [hz.out]; rfl, hb1⟩

set_option maxHeartbeats 400000 in
theorem implReadShort_any (s : ByteArray) (a : Int) (w : World) (hs : s.size ≤ 1099511627776) :
    Calls Tryz.prog 152 #[.string s, .int .i64 a] w fun e w' => e = .returned (rsT s a) ∧ Below w.heap.size w w' := by
  rcases rs_ways s a with ⟨hr0, hz0⟩ | ⟨n, b, hr0, h1, h2, h3, hz0⟩ | ⟨n, b, hr0, h1, h2, hz0⟩
  · have hr : Hid (rvT s a = _) := hr0
    have hz : Hid (rsT s a = _) := hz0
    clear hr0 hz0
    go_enter Tryz.func152, Tryz.ntmps152
    go_wp2_with (go_at_call 151; refine (implReadVar_any _ _ _ hs).mono ?_; rintro e w1 ⟨rfl, hb1⟩; rw [hr.out, zeroT])
    go_ret3
    exact ⟨by rw [hz.out]; rfl, hb1⟩
  · have hr : Hid (rvT s a = _) := hr0
    have hz : Hid (rsT s a = _) := hz0
    clear hr0 hz0
    by_cases h4 : n ≤ 20000
    · have h5 : (s.size : Int) - (b : Int) < (n : Int) := by omega
      go_enter Tryz.func152, Tryz.ntmps152
      go_wp2_with (go_at_call 151; refine (implReadVar_any _ _ _ hs).mono ?_; rintro e w1 ⟨rfl, hb1⟩; rw [hr.out])
      go_ret3
      exact ⟨by rw [hz.out]; rfl, hb1⟩
    · go_enter Tryz.func152, Tryz.ntmps152
      go_wp2_with (go_at_call 151; refine (implReadVar_any _ _ _ hs).mono ?_; rintro e w1 ⟨rfl, hb1⟩; rw [hr.out])
      go_ret3
      exact ⟨by rw [hz.out]; rfl, hb1⟩
  · have hr : Hid (rvT s a = _) := hr0
    have hz : Hid (rsT s a = _) := hz0
    clear hr0 hz0
    have hsl := slice_len s b n h2
    have hcl : (s.extract b (b + n)).size ≤ 281474976710656 := by simp; omega
    have h5 : ¬ (s.size : Int) - (b : Int) < (n : Int) := by omega
    go_enter Tryz.func152, Tryz.ntmps152
    go_wp2_with (first | (go_at_call 151; refine (implReadVar_any _ _ _ hs).mono ?_; rintro e w1 ⟨rfl, hb1⟩; rw [hr.out]) | (go_at_call 95; refine (clone_any _ _ hcl).mono ?_; rintro e w2 ⟨rfl, hb2⟩))
    go_ret3
    exact ⟨by rw [hz.out]; rfl, hb1.trans (hb2.mono hb1.size)⟩

theorem shT_form (s : ByteArray) : ∃ (t : ByteArray) (f : Bool), shT s = .tuple #[.string t, .bool f] := by
  unfold shT
  split
  · exact ⟨_, _, rfl⟩
  · exact ⟨_, _, rfl⟩

theorem rsT_form (s : ByteArray) (a : Int) : ∃ (t : ByteArray) (b : Int) (f : Bool), rsT s a = .tuple #[.string t, .int .i64 b, .bool f] := by
  rcases rs_ways s a with ⟨_, h⟩ | ⟨_, _, _, _, _, _, h⟩ | ⟨_, _, _, _, _, h⟩
  · exact ⟨_, _, _, h⟩
  · exact ⟨_, _, _, h⟩
  · exact ⟨_, _, _, h⟩

end Go.Proofs.YtieenkloiicnkaaGreatDoor

/- CheckText of the program. -/
namespace Go.Proofs.YtieenkloiicnkaaGreatDoor
open Go.RowKit

theorem byteCells_len (l : List UInt8) : (Lib.byteCells l).length = l.length := by rw [show Lib.byteCells l = bytesV l from rfl, bytesV_length]
theorem cell_heap {X Y : World} {g k : Nat} (h : X.heap[g]? = Y.heap[g]?) : X.cell? ⟨g, k, none⟩ = Y.cell? ⟨g, k, none⟩ := by simp [World.cell?, h]

theorem intE_row (l : List Int) : intE.row l = l.map (Value.int .i64) := by
  induction l with
  | nil => rfl
  | cons x t ih => rw [show intE.row (x :: t) = intE.f x ++ intE.row t from rfl, ih]; rfl
theorem RBuf.litI (w : World) (l : List Int) (hl : l.length ≤ 1000) : RBuf intE w.heap.size (w.alloc (.cells (l.map (Value.int .i64)).toArray 3)) (w.alloc (.cells (l.map (Value.int .i64)).toArray 3)) (.slice (some ⟨w.heap.size, 0, none⟩) l.length l.length) l := by
  refine ⟨?_, Below.refl _ _, by simp⟩
  have := World.ownsRow_lit (base := w.heap.size) (e := intE.ty) (size := intE.sz) w (l.map (Value.int .i64)).toArray l.length (Nat.le_refl _) (by unfold maxLen; omega) (by simp [intE])
  rw [intE_row]
  simp only at this
  exact this
theorem Rows'.intsC {w : World} {v : Value} {l : List Int} (h : Rows' intE w v l) : ∃ (ad : Option Addr) (cap : Nat), v = .slice ad l.length cap ∧ ∀ X, Below w.heap.size w X → ∀ (i : Nat) (x : Int), l[i]? = some x → ∃ g off, ad = some ⟨g, off, none⟩ ∧ X.cell? ⟨g, off + i, none⟩ = some (.int .i64 x) := by
  rcases h.ways with ⟨rfl, a, c, rfl⟩ | ⟨hne, g, off, c, rfl, hc, hg, hcl⟩
  · exact ⟨a, c, rfl, fun X _ i x hi => by cases hi⟩
  · refine ⟨_, c, rfl, fun X hb i x hi => ⟨g, off, rfl, ?_⟩⟩
    have h1 := (hb.cell (p := ⟨g, off + i * intE.sz + 0, none⟩) hg).trans (hcl i x hi 0 _ rfl)
    rw [show intE.sz = 1 from rfl, Nat.mul_one, Nat.add_zero] at h1
    exact h1

set_option maxRecDepth 100000 in
set_option maxHeartbeats 4000000 in
theorem numbersOf_any (c : Ck) (a : Option Addr) (cap : Nat) (w : World) (h : Rows' rfE w (.slice a c.refs.length cap) c.refs) (hl : c.refs.length ≤ 1048576) :
    Calls Tryz.prog 121 #[.agg #[.int .i64 c.st, .int .i64 c.ng, .int .i64 c.ns, .int .i64 c.nv, .slice a c.refs.length cap]] w fun e w' => ∃ v', e = .returned v' ∧ RBuf intE w.heap.size w w' v' (ckNs c c.refs.length) := by
  obtain ⟨_, _, hv, hrow⟩ := h.refs
  cases hv
  have HR := Lib.hid hrow
  clear h hrow
  have HST := Lib.hid (fun (i : Nat) (r : Rf) (hr : c.refs[i]? = some r) => ckNs_step hr)
  have HLN := Lib.hid (ckNs_len c)
  have HZ : Hid (ckNs c 0 = [c.st, c.ng, c.ns, c.nv, (c.refs.length : Int)]) := by show _ = _; simp [ckNs]
  obtain ⟨NS, hNS⟩ : ∃ NS, ckNs c = NS := ⟨_, rfl⟩
  rw [hNS] at HST HLN HZ ⊢
  clear hNS
  obtain ⟨st, ng, ns, nv, rs⟩ := c
  simp only at HR HST HLN HZ hl ⊢
  obtain ⟨n, hn⟩ : ∃ n, rs.length = n := ⟨_, rfl⟩
  rw [hn] at hl HLN HZ ⊢
  have HN := Lib.hid hn
  clear hn
  have X0 := Box.new w #[.int .i64 st, .int .i64 ng, .int .i64 ns, .int .i64 nv, .slice a n cap] 48
  have b0 := belNew w (.cells #[.int .i64 st, .int .i64 ng, .int .i64 ns, .int .i64 nv, .slice a n cap] 48)
  obtain ⟨x0, x1, x2, x3, x4, _⟩ := X0.fiveC
  go_enter Tryz.func121, Tryz.ntmps121
  go_upto_region 1 with fail
  generalize w.alloc (.cells #[.int .i64 st, .int .i64 ng, .int .i64 ns, .int .i64 nv, .slice a n cap] 48) = W at X0 b0 x0 x1 x2 x3 x4 ⊢
  have I0 := RBuf.litI W [st, ng, ns, nv, (n : Int)] (by simp)
  have kI := belNew W (.cells #[.int .i64 st, .int .i64 ng, .int .i64 ns, .int .i64 nv, .int .i64 (n : Int)] 3)
  have y4 := (X0.later kI).cell 4 _ rfl
  have HI : Hid (RBuf intE W.heap.size W (W.alloc (.cells #[.int .i64 st, .int .i64 ng, .int .i64 ns, .int .i64 nv, .int .i64 (n : Int)] 3)) (.slice (some ⟨W.heap.size, 0, none⟩) 5 5) (NS 0)) := by
    show RBuf _ _ _ _ _ _
    rw [HZ.out]
    exact I0.down kI (Nat.le_refl _)
  have HB0 := Lib.hid b0
  clear X0 b0 I0 kI
  go_wp2_with fail
  clear x0 x1 x2 x3 x4 y4
  generalize W.alloc (.cells #[.int .i64 st, .int .i64 ng, .int .i64 ns, .int .i64 nv, .int .i64 (n : Int)] 3) = W1 at HI ⊢
  go_loopw [3, 21] (fun v iv wr => ∃ i : Nat, i ≤ n ∧ iv = .int .i64 (i : Int) ∧ RBuf intE W.heap.size W wr v (NS i)) (fun _ iv _ => n - (intOf iv).toNat)
  case atStart => exact ⟨0, by omega, rfl, HI.out⟩
  case round =>
    clear HI
    obtain ⟨i, hi, rfl, I⟩ := hrel
    by_cases hlt : i < n
    · obtain ⟨r, hgr⟩ : ∃ r, rs[i]? = some r := ⟨_, List.getElem?_eq_getElem (by rw [HN.out]; exact hlt)⟩
      have bw := HB0.out.trans (I.bel.mono HB0.out.size)
      obtain ⟨gp, op, rfl, p0, p1⟩ := HR.out _ bw i _ hgr
      have HS := Lib.hid (HST.out i r hgr)
      have hln := HLN.out i hi
      clear hgr bw
      obtain ⟨rN, rG⟩ := r
      simp only at p0 p1 HS
      obtain ⟨L0, hL0⟩ : ∃ L, NS i = L := ⟨_, rfl⟩
      rw [hL0] at I HS hln
      have HLL := Lib.hid hln
      clear hL0 hln
      have hi0 : (0 : Int) ≤ (i : Int) := by omega
      have hi1 : (i : Int) < (n : Int) := by omega
      have XS := Box.new wr #[.int .i64 rN, .int .i64 rG] 124
      have kS := belNew wr (.cells #[.int .i64 rN, .int .i64 rG] 124)
      have I1 := I.later kS
      clear I kS
      go_upto_region 5 with fail
      clear p0 p1
      generalize wr.alloc (.cells #[.int .i64 rN, .int .i64 rG] 124) = wS at XS I1 ⊢
      obtain ⟨gS, hgS⟩ : ∃ gS, wr.heap.size = gS := ⟨_, rfl⟩
      rw [hgS] at XS ⊢
      clear hgS
      have s0 := XS.cell 0 _ rfl
      have s1 := XS.cell 1 _ rfl
      have hb5 := Lib.hid (I1.alloc (.cells #[.int .i64 rN, .int .i64 rG] 3))
      have hL5 := Lib.hid (RBuf.litI wS [rN, rG] (by simp))
      obtain ⟨a5, c5, rfl⟩ := I1.form
      clear XS I1
      go_wp2_with (at_builtin; refine wpList_append_rows rfl _ _ intE rfl W.heap.size _ L0 rfl hb5.out.here wS.heap.size _ [rN, rG] rfl hL5.out (by show _ * 9 ≤ _; simp only [List.length_cons, List.length_nil]; have := HLL.out; omega) ?_; intro v8 w8 r8 g8 at8)
      exact ⟨⟨i + 1, by omega, by simp, by rw [HS.out]; exact ⟨r8.own, hb5.out.bel.grown g8 hb5.out.le (fun q hq => (hb5.out.own.lt q hq).1), r8.le⟩⟩, by first | omega | (simp [intOf]; omega)⟩
    · have hin : i = n := by omega
      subst hin
      have hge : ¬ (i : Int) < (i : Int) := by omega
      have HD := Lib.hid (I.down (HB0.out.trans (I.bel.mono HB0.out.size)) HB0.out.size)
      clear I
      go_wp2
      go_ret
      exact ⟨_, rfl, HD.out⟩

/-- What textOfCheck hands back. -/
def TextC (c : Ck) (e : Ending) : Prop := (c.ok ∧ e = .returned (.tuple #[.string (ckTx c), .nilIface])) ∨ (¬ c.ok ∧ ∃ k : Int, (k = 1 ∨ k = 2) ∧ e = .returned (.tuple #[.string ⟨#[]⟩, .iface 134 (.agg #[.int .i64 k])]))
set_option maxRecDepth 100000 in
set_option maxHeartbeats 8000000 in
theorem textOfCheck_any (c : Ck) (a : Option Addr) (cap : Nat) (w : World) (ht : SumTab w) (h : Rows' rfE w (.slice a c.refs.length cap) c.refs) (hl : c.refs.length ≤ 1048576) :
    Calls Tryz.prog 88 #[.agg #[.int .i64 c.st, .int .i64 c.ng, .int .i64 c.ns, .int .i64 c.nv, .slice a c.refs.length cap]] w fun e w' => TextC c e ∧ Below w.heap.size w w' := by
  have HT : Hid (∀ x, Below w.heap.size w x → SumTab x) := fun x hx => ht.later hx
  have X0 := Box.new w #[.int .i64 c.st, .int .i64 c.ng, .int .i64 c.ns, .int .i64 c.nv, .slice a c.refs.length cap] 48
  have b0 := belNew w (.cells #[.int .i64 c.st, .int .i64 c.ng, .int .i64 c.ns, .int .i64 c.nv, .slice a c.refs.length cap] 48)
  have HW := Lib.hid (wrongWith_any c a cap _ (h.later b0) hl)
  obtain ⟨x0, x1, x2, x3, x4, _⟩ := X0.fiveC
  clear ht
  go_enter Tryz.func88, Tryz.ntmps88
  go_wp2_with fail
  clear x0 x1 x2 x3 x4
  refine HW.out.mono ?_
  rintro e w1 ⟨hw, k1⟩
  have b1 := b0.trans (k1.mono b0.size)
  have X1 := X0.later k1
  clear HW X0 b0 k1
  rcases hw with ⟨hok, rfl⟩ | ⟨hno, k, hk, rfl⟩
  rotate_left
  · have HE := Lib.hid (And.intro hno hk)
    clear hno hk h
    go_wp2
    go_ret2
    exact ⟨.inr ⟨HE.out.1, k, HE.out.2, rfl⟩, b1⟩
  have HZ1 : Hid (w.heap.size ≤ w1.heap.size) := b1.size
  have XB := Box.new w1 #[.pointer none, .slice none 0 0] 164
  have kB := belNew w1 (.cells #[.pointer none, .slice none 0 0] 164)
  have b2 := b1.trans (kB.mono b1.size)
  have X2 := X1.later kB
  have HNB := Lib.hid (numbersOf_any c a cap _ (h.later b2) hl)
  have HIN := Lib.hid (ckNs_in hok)
  have HNL := Lib.hid (ckNs_len c c.refs.length (Nat.le_refl _))
  have HL11 := Lib.hid hok.2.1.2
  obtain ⟨s1, s2, s3⟩ := ckSe_len hok
  have HOK := Lib.hid hok
  have HDE : Hid (ckSe c = ckBd c c.refs.length ++ fourOf (ckBd c c.refs.length) ∧ ckTx c = ⟨(vt (ckSe c).size).toArray⟩ ++ ckSe c ∧ ckBd c c.refs.length = ⟨(numsT (ckNs c c.refs.length)).toArray⟩) := ⟨rfl, rfl, rfl⟩
  obtain ⟨x0, x1, x2, x3, x4, _⟩ := X2.fiveC
  clear X1 hok h b1
  go_wp2_with fail
  clear x0 x1 x2 x3 x4
  generalize w1.alloc (.cells #[.pointer none, .slice none 0 0] 164) = w2 at XB kB b2 X2 HNB ⊢
  obtain ⟨gB, hgB⟩ : ∃ gB, w1.heap.size = gB := ⟨_, rfl⟩
  rw [hgB] at XB ⊢
  have hwB : w.heap.size ≤ gB ∧ gB < w2.heap.size := ⟨by rw [← hgB]; exact HZ1.out, XB.lt⟩
  clear hgB
  refine HNB.out.mono ?_
  rintro e w3 ⟨v3, rfl, R3⟩
  clear HNB kB
  obtain ⟨NS, hNS⟩ : ∃ NS, ckNs c c.refs.length = NS := ⟨_, rfl⟩
  rw [hNS] at R3 HIN HNL HDE
  obtain ⟨BD, hBD⟩ : ∃ BD, ckBd c c.refs.length = BD := ⟨_, rfl⟩
  rw [hBD] at HDE s1
  obtain ⟨SE, hSE⟩ : ∃ SE, ckSe c = SE := ⟨_, rfl⟩
  rw [hSE] at HDE s2
  have HFIN : Hid (∀ TX, ckTx c = TX → TextC c (.returned (.tuple #[.string TX, .nilIface]))) := fun TX e => .inl ⟨HOK.out, by rw [e]⟩
  obtain ⟨TX, hTX⟩ : ∃ TX, ckTx c = TX := ⟨_, rfl⟩
  rw [hTX] at HDE s3
  have HF := Lib.hid (HFIN.out TX hTX)
  clear hNS hBD hSE hTX HFIN HOK
  have bw3 := b2.trans (R3.bel.mono b2.size)
  have B3 : Bld w3.heap.size gB (Lib.byteCells (numsT (NS.take 0))) w3 := by
    refine ⟨by have := R3.bel.size; omega, _, _, .inl rfl, XB.later R3.bel, ?_⟩
    exact World.ownsRow_nil _ _ _ _
  obtain ⟨a3, c3, rfl, g3, o3, ha3, hN3⟩ : ∃ (a3 : Option Addr) (c3 : Nat), v3 = .slice a3 NS.length c3 ∧ ∃ g3 o3, a3 = some ⟨g3, o3, none⟩ ∧ ∀ X, BelBut w3.heap.size gB w3 X → ∀ (i : Nat) (x : Int), NS[i]? = some x → X.cell? ⟨g3, o3 + i, none⟩ = some (.int .i64 x) := by
    rcases R3.rows.ways with ⟨hz, _⟩ | ⟨_, g, off, c', rfl, _, hg, hcl⟩
    · have := HNL.out; rw [hz] at this; simp at this; omega
    · refine ⟨_, _, rfl, g, off, rfl, fun X hX i x hi => ?_⟩
      have hlt := R3.own.lt g rfl
      have h1 := hcl i x hi 0 _ rfl
      rw [show intE.sz = 1 from rfl, Nat.mul_one, Nat.add_zero] at h1
      rw [cell_heap (hX.block g hlt.2 (by have := hlt.1; omega))]
      exact h1
  subst ha3
  have HN3 := Lib.hid hN3
  have HTB : Hid (∀ i, (numsT (NS.take i)).length ≤ 5 * NS.length) := fun i => by
    have h1 := numsT_bound (l := NS.take i) (fun n hn => HIN.out n (List.mem_of_mem_take hn))
    rw [List.length_take] at h1
    omega
  have hm27 : NS.length ≤ 27 := by have := HNL.out; have := HL11.out; omega
  obtain ⟨m, hm⟩ : ∃ m, NS.length = m := ⟨_, rfl⟩
  rw [hm] at hm27 HTB ⊢
  have HM := Lib.hid hm
  clear hm hN3 R3 XB X2 HNL HL11
  have HBW := Lib.hid bw3
  have HB3 := Lib.hid B3
  obtain ⟨BB, hBB⟩ : ∃ BB, w3.heap.size = BB := ⟨_, rfl⟩
  rw [hBB] at HB3 HN3
  have HSZ : Hid (BB ≤ w3.heap.size ∧ gB < BB) := ⟨by omega, by rw [← hBB]; exact B3.1⟩
  clear hBB B3 bw3 b2
  go_wp2_with fail
  go_loopw [22] (fun iv wr => ∃ i : Nat, i ≤ m ∧ iv = .int .i64 (i : Int) ∧ Bld BB gB (Lib.byteCells (numsT (NS.take i))) wr ∧ BelBut BB gB w3 wr) (fun iv _ => m - (intOf iv).toNat)
  case atStart => exact ⟨0, by omega, rfl, HB3.out, BelBut.refl _ _ _⟩
  case round =>
    clear HB3
    obtain ⟨i, hi, rfl, hbd, hbb⟩ := hrel
    by_cases hlt : i < m
    · obtain ⟨N, hgN⟩ : ∃ N, NS[i]? = some N := ⟨_, List.getElem?_eq_getElem (by rw [HM.out]; exact hlt)⟩
      have p0 := HN3.out _ hbb i _ hgN
      have hin := HIN.out N (List.mem_of_getElem? hgN)
      have HS := Lib.hid (numsT_take hgN)
      have hlb := HTB.out i
      clear hgN
      have hv := vt_five (n := N.toNat) (by omega)
      have HV := Lib.hid (varT_yes (n := N) hin)
      obtain ⟨L0, hL0⟩ : ∃ L, numsT (NS.take i) = L := ⟨_, rfl⟩
      rw [hL0] at hbd HS hlb
      obtain ⟨T, hT⟩ : ∃ T, (⟨(vt N.toNat).toArray⟩ : ByteArray) = T := ⟨_, rfl⟩
      rw [hT] at HV
      have HTL : Hid (T.data.toList = vt N.toNat ∧ T.size ≤ 5) := by rw [← hT]; exact ⟨by simp, by show (vt N.toNat).toArray.size ≤ 5; simpa using hv⟩
      have hbl : (Lib.byteCells L0).length + T.size ≤ 140737488355328 := by rw [byteCells_len]; have := HTL.out.2; omega
      have HBL := Lib.hid hbl
      have HBD := Lib.hid hbd
      have HBB := Lib.hid hbb
      clear hL0 hT hbl hbd hbb hv
      have hi0 : (0 : Int) ≤ (i : Int) := by omega
      have hi1 : (i : Int) < (m : Int) := by omega
      go_wp2_with fail
      refine (implVarText_any N _).mono ?_
      rintro e w5 ⟨rfl, k5⟩
      rw [HV.out]
      clear p0
      go_wp2_with fail
      refine (bldWrite2 BB gB (Lib.byteCells L0) T _ (HBD.out.later k5) HBL.out (by have := HSZ.out.1; have := HBB.out.size; have := k5.size; omega)).mono ?_
      rintro e w6 ⟨rfl, bd6, k6⟩
      have es : Lib.byteCells L0 ++ Lib.strCells T = Lib.byteCells (numsT (NS.take (i + 1))) := by rw [HS.out, ← HTL.out.1]; simp [Lib.byteCells, Lib.strCells]
      rw [es] at bd6
      have HF6 := Lib.hid (And.intro bd6 ((HBB.out.trans (BelBut.of_below k5 (by have := HSZ.out.1; have := HBB.out.size; omega))).trans k6))
      clear bd6 k6 k5 es
      go_wp2_with fail
      go_roundw
      case rel => exact ⟨i + 1, by omega, by go_num, HF6.out.1, HF6.out.2⟩
      case measure => simp [intOf]; omega
    · have hge : ¬ (i : Int) < (m : Int) := by omega
      have him : i = NS.length := by rw [HM.out]; omega
      rw [him, List.take_length] at hbd
      have hgs : gB ≤ wr.heap.size := by have := HSZ.out; have := hbb.size; omega
      have HST := Lib.hid (bldString gB gB (numsT NS) _ hbd.is hgs)
      obtain ⟨hd1, hd2, hd3⟩ := HDE.out
      rw [← hd3] at HST
      have bwr := HBW.out.trans (hbb.below (C := w.heap.size) hwB.1 (by have := HSZ.out.2; omega))
      have HBR := Lib.hid bwr
      have HSEL := Lib.hid (seT_yes (s := BD) (by omega))
      rw [← hd1] at HSEL
      have HSS := Lib.hid (fun x hx => implSealed_any BD x (by omega) (HT.out x hx))
      have HSH := Lib.hid (fun x => implShortText_any SE x (by omega))
      have HSHT := Lib.hid (shT_yes (s := SE) (by omega))
      rw [← hd2] at HSHT
      have h128 : ¬ (128 : Int) < (TX.size : Int) := by omega
      have hwg := hwB.1
      clear him hbd hd1 hd2 hd3 bwr hbb HDE HTB HIN HN3 s1 s2 s3
      go_wp2_with (first
        | (go_at_call 125; refine HST.out.mono ?_; rintro e w7 ⟨rfl, k7⟩; have b7 := HBR.out.trans (k7.mono hwg))
        | (go_at_call 124; refine (HSS.out _ b7).mono ?_; rintro e w8 ⟨rfl, k8⟩; rw [HSEL.out])
        | (go_at_call 126; refine (HSH.out _).mono ?_; rintro e w9 ⟨rfl, k9⟩; rw [HSHT.out]))
      go_ret2
      have b8 := b7.trans (k8.mono b7.size)
      exact ⟨HF.out, b8.trans (k9.mono b8.size)⟩


end Go.Proofs.YtieenkloiicnkaaGreatDoor
