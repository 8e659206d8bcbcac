/- Texts of our own, joined. -/
import Derived.WalkKit
import Derived.Laws.BitsAllLaws
import Derived.Test.YthlbokfajiahpaaJa
import Derived.Test.YthlbokfajiahpaaJb
import Derived.WalkSpells
import Derived.WalkSmall
import Derived.Deep.RegionHeld3
import Derived.Deep.QuietTactic
import Derived.BigQuiet
import Derived.Shelf.LaysM
import Derived.Shelf.Strconv.Clone
import Derived.Laws.Concat
import Derived.Test.YthlbokfajiahpaaJd
/- Plain facts on bits, as the walk spells them: groups of seven bits put together. -/
namespace Go.Proofs.Ythlbokfajiahpaa
open Go.RowKit

theorem i64_or_nat (a b : Nat) (ha : a < 9223372036854775808) (hb : b < 9223372036854775808) : bits .or .i64 (a : Int) (b : Int) = ((a ||| b : Nat) : Int) := by
  have h : a ||| b < 2 ^ 63 := Nat.or_lt_two_pow ha hb
  have ea : BitVec.ofInt 64 (a : Int) = BitVec.ofNat 64 a := by simp
  have eb : BitVec.ofInt 64 (b : Int) = BitVec.ofNat 64 b := by simp
  have e : (BitVec.ofNat 64 a ||| BitVec.ofNat 64 b).toNat = a ||| b := by
    rw [BitVec.toNat_or, BitVec.toNat_ofNat, BitVec.toNat_ofNat, Nat.mod_eq_of_lt (by omega), Nat.mod_eq_of_lt (by omega)]
  show IntKind.i64.wrap (((BitVec.ofInt 64 (a : Int) ||| BitVec.ofInt 64 (b : Int)).toNat : Nat) : Int) = _
  rw [ea, eb, e, IntWalk.i64_in _ ⟨by omega, by omega⟩]

theorem or_shifted (n c i : Nat) (hn : n < 128 ^ i) : n ||| c * 128 ^ i = n + c * 128 ^ i := by
  have e : (128 : Nat) ^ i = 2 ^ (7 * i) := by rw [Nat.pow_mul]
  rw [e] at hn ⊢
  have := Nat.shiftLeft_add_eq_or_of_lt hn c
  rw [Nat.shiftLeft_eq] at this
  rw [Nat.or_comm, ← this, Nat.add_comm]

theorem group_or (n c i : Nat) (hn : n < 128 ^ i) (hi : i < 5) (hc : c < 256) :
    bits .or .i64 (n : Int) (wrap64 (wrap64 (bits .and .u8 (c : Int) 127) * 2 ^ (7 * i))) = ((n + c % 128 * 128 ^ i : Nat) : Int) := by
  have h1 : bits .and .u8 (c : Int) 127 = ((c % 128 : Nat) : Int) := by
    have := u8_and_nat c 127 hc (by decide)
    rw [Nat.and_two_pow_sub_one_eq_mod c 7] at this
    exact this
  have hp : (128 : Nat) ^ i ≤ 128 ^ 4 := Nat.pow_le_pow_right (by decide) (by omega)
  have hm : c % 128 * 128 ^ i ≤ 127 * 128 ^ 4 := Nat.mul_le_mul (by omega) hp
  have e : (2 : Int) ^ (7 * i) = ((128 ^ i : Nat) : Int) := by rw [Int.natCast_pow, Int.pow_mul]; rfl
  have w1 : wrap64 ((c % 128 : Nat) : Int) = ((c % 128 : Nat) : Int) := IntWalk.wrap64_in _ ⟨by omega, by omega⟩
  have w2 : wrap64 ((c % 128 * 128 ^ i : Nat) : Int) = ((c % 128 * 128 ^ i : Nat) : Int) := IntWalk.wrap64_in _ ⟨by omega, by omega⟩
  rw [h1, w1, e, ← Int.natCast_mul, w2, i64_or_nat _ _ (by omega) (by omega), or_shifted _ _ _ hn]

theorem group_add (n c i : Nat) (hn : n < 128 ^ i) (hi : i < 5) :
    wrap64 ((n : Int) + wrap64 ((c : Int) % 128 * 128 ^ i)) = ((n + c % 128 * 128 ^ i : Nat) : Int) := by
  have hp : (128 : Nat) ^ i ≤ 128 ^ 4 := Nat.pow_le_pow_right (by decide) (by omega)
  have hm : c % 128 * 128 ^ i ≤ 127 * 128 ^ 4 := Nat.mul_le_mul (by omega) hp
  have e : (c : Int) % 128 * 128 ^ i = ((c % 128 * 128 ^ i : Nat) : Int) := by simp
  have w2 : wrap64 ((c % 128 * 128 ^ i : Nat) : Int) = ((c % 128 * 128 ^ i : Nat) : Int) := IntWalk.wrap64_in _ ⟨by omega, by omega⟩
  have w3 : wrap64 ((n + c % 128 * 128 ^ i : Nat) : Int) = ((n + c % 128 * 128 ^ i : Nat) : Int) := IntWalk.wrap64_in _ ⟨by omega, by omega⟩
  rw [e, w2, ← Int.natCast_add, w3]

theorem scale_next (i : Nat) (hi : i < 5) : wrap64 ((128 : Int) ^ i * 128) = ((128 ^ (i + 1) : Nat) : Int) := by
  have hp : (128 : Nat) ^ (i + 1) ≤ 128 ^ 5 := Nat.pow_le_pow_right (by decide) (by omega)
  have e : (128 : Int) ^ i * 128 = ((128 ^ (i + 1) : Nat) : Int) := by rw [Nat.pow_succ]; simp
  rw [e]
  generalize (128 : Nat) ^ (i + 1) = x at hp ⊢
  exact IntWalk.wrap64_in _ ⟨by omega, by omega⟩

end Go.Proofs.Ythlbokfajiahpaa

/- Reading a number: what impl.readGroups, impl.ReadVar and spec.ReadVar hand back. -/
namespace Go.Proofs.Ythlbokfajiahpaa
open Go.RowKit

/-- What readGroups hands back. -/
def grT (s : ByteArray) (k : Nat) : Value :=
  match rg 5 (s.data.toList.drop k) 0 0 with
  | some (n, c) => .tuple #[.int .i64 n, .int .i64 ((k : Int) + c), .bool true]
  | none => .tuple #[.int .i64 0, .int .i64 0, .bool false]

theorem grT_some {s : ByteArray} {k n c : Nat} (h : rg 5 (s.data.toList.drop k) 0 0 = some (n, c)) : grT s k = .tuple #[.int .i64 n, .int .i64 ((k : Int) + c), .bool true] := by rw [grT, h]
theorem grT_none {s : ByteArray} {k : Nat} (h : rg 5 (s.data.toList.drop k) 0 0 = none) : grT s k = .tuple #[.int .i64 0, .int .i64 0, .bool false] := by rw [grT, h]

theorem ret_iib {a b a' b' : Int} {c c' : Bool} (h1 : a = a') (h2 : b = b') (h3 : c = c') : Ending.returned (.tuple #[.int .i64 a, .int .i64 b, .bool c]) = .returned (.tuple #[.int .i64 a', .int .i64 b', .bool c']) := by rw [h1, h2, h3]

theorem next_lt {n c i : Nat} (hn : n < 128 ^ i) : n + c % 128 * 128 ^ i < 128 ^ (i + 1) := by
  have hb : c % 128 * 128 ^ i ≤ 127 * 128 ^ i := Nat.mul_le_mul_right _ (by omega)
  have hp : 128 ^ (i + 1) = 128 * 128 ^ i := by rw [Nat.pow_succ, Nat.mul_comm]
  omega

set_option maxRecDepth 100000 in
set_option maxHeartbeats 1000000 in
theorem readGroups_any (s : ByteArray) (k : Nat) (w : World) (hk : k ≤ s.size) (hs : s.size ≤ 1099511627776) :
    Calls Try.prog 107 #[.string s, .int .i64 k] w fun e w' => e = .returned (grT s k) ∧ w' = w := by
  obtain ⟨R, hR0⟩ : ∃ R, rg 5 (s.data.toList.drop k) 0 0 = R := ⟨_, rfl⟩
  have hR : Hid (rg 5 (s.data.toList.drop k) 0 0 = R) := hR0
  clear hR0
  go_enter Try.func107, Try.ntmps107
  go_wp2
  go_loop [7, 8] (fun nv iv => ∃ i n : Nat, i ≤ 5 ∧ iv = .int .i64 i ∧ nv = .int .i64 n ∧ n < 128 ^ i ∧ rg (5 - i) (s.data.toList.drop (k + i)) i n = R) (fun _ iv => 5 - (intOf iv).toNat)
  case atStart => exact ⟨0, 0, by omega, rfl, rfl, by omega, hR.out⟩
  case round =>
    obtain ⟨i, n, hi, rfl, rfl, hn, hr0⟩ := hrel
    have hr : Hid (rg (5 - i) (s.data.toList.drop (k + i)) i n = R) := hr0
    clear hr0
    by_cases hlt : i < 5 ∧ k + i < s.size
    · obtain ⟨h1, h2⟩ := hlt
      have hl : k + i < s.data.toList.length := by simpa using h2
      have hb : s[k + i].toNat < 256 := UInt8.toNat_lt _
      by_cases hc : s[k + i].toNat < 128
      · go_wp2
        go_ret3
        refine ⟨?_, rfl⟩
        rw [grT_some (hR.out.trans (hr.out.symm.trans (rg_lo (l := s.data.toList) h1 hl hc)))]
        exact ret_iib (group_or _ _ _ hn h1 hb) (by omega) rfl
      · go_wp2
        go_round
        case rel => exact ⟨i + 1, n + s[k + i].toNat % 128 * 128 ^ i, by omega, by go_num, by rw [group_or _ _ _ hn h1 hb], next_lt hn, (rg_hi (l := s.data.toList) h1 hl hc).symm.trans hr.out⟩
        case measure => simp [intOf]; omega
    · have hz := grT_none (hR.out.trans (hr.out.symm.trans (rg_out (l := s.data.toList) (by simpa using hlt))))
      have hZ : Hid (grT s k = .tuple #[.int .i64 0, .int .i64 0, .bool false]) := hz
      clear hz
      by_cases h1 : i < 5
      · have h2 : ¬ k + i < s.size := fun h => hlt ⟨h1, h⟩
        go_wp2
        go_ret3
        refine ⟨?_, rfl⟩
        rw [hZ.out]
        exact ret_iib rfl rfl rfl
      · go_wp2
        go_ret3
        refine ⟨?_, rfl⟩
        rw [hZ.out]
        exact ret_iib rfl rfl rfl

end Go.Proofs.Ythlbokfajiahpaa

/- Reading a number: what impl.ReadVar and spec.ReadVar hand back. -/
namespace Go.Proofs.Ythlbokfajiahpaa
open Go.RowKit

theorem extract_list (s : ByteArray) (k c : Nat) : (s.extract k (k + c)).toList = (s.data.toList.drop k).take c := by
  obtain ⟨⟨l⟩⟩ := s
  have := ByteArray.extract_mk l k (k + c)
  rw [show k + c - k = c by omega] at this
  rw [this, ByteArray.toList_eq]

theorem slice_cut (s : ByteArray) (k i : Nat) (h : k + (i + 1) ≤ s.size) (wx : World) :
    (Instr.slice 9 (.string s) (some (.int .i64 (k : Int))) (some (.int .i64 ((k : Int) + (i : Int) + 1))) none).run Try.prog wx = .ok (.string (s.extract k (k + (i + 1)))) wx := by
  have := run_slice_string (P := Try.prog) (w := wx) 9 s .i64 .i64 (k : Int) ((k : Int) + (i : Int) + 1) Try.underlying9 (by omega) (by omega) (by omega)
  rw [this]
  congr 3

def zeroT : Value := .tuple #[.int .i64 0, .int .i64 0, .bool false]

/-- What ReadVar hands back. -/
def rvT (s : ByteArray) (at' : Int) : Value :=
  if 0 ≤ at' ∧ at' ≤ s.size then
    match rv s.data.toList at'.toNat with
    | some (n, b) => .tuple #[.int .i64 n, .int .i64 b, .bool true]
    | none => zeroT
  else zeroT

theorem rvT_out {s : ByteArray} {at' : Int} (h : ¬ (0 ≤ at' ∧ at' ≤ s.size)) : rvT s at' = zeroT := by rw [rvT, if_neg h]
theorem rvT_some {s : ByteArray} {k n b : Nat} (hk : k ≤ s.size) (h : rv s.data.toList k = some (n, b)) : rvT s k = .tuple #[.int .i64 n, .int .i64 b, .bool true] := by
  rw [rvT, if_pos (by omega), Int.toNat_natCast, h]
theorem rvT_none {s : ByteArray} {k : Nat} (hk : k ≤ s.size) (h : rv s.data.toList k = none) : rvT s k = zeroT := by
  rw [rvT, if_pos (by omega), Int.toNat_natCast, h]

set_option maxRecDepth 100000 in
set_option maxHeartbeats 1000000 in
theorem implReadVar_any (s : ByteArray) (a : Int) (w : World) (hs : s.size ≤ 1099511627776) :
    Calls Try.prog 86 #[.string s, .int .i64 a] w fun e w' => e = .returned (rvT s a) ∧ Below w.heap.size w w' := by
  by_cases h : 0 ≤ a ∧ a ≤ s.size
  · obtain ⟨k, rfl⟩ := Int.eq_ofNat_of_zero_le h.1
    have hk : k ≤ s.size := by omega
    clear h
    rcases hR0 : rg 5 (s.data.toList.drop k) 0 0 with _ | ⟨n, c⟩
    · have hg : Hid (grT s k = _) := grT_none hR0
      have hz : Hid (rvT s k = _) := rvT_none hk (rv_none hR0)
      clear hR0
      go_enter Try.func86, Try.ntmps86
      go_wp2_with (go_at_call 107; refine (readGroups_any _ _ _ hk hs).mono ?_; rintro e w1 ⟨rfl, rfl⟩; rw [hg.out])
      go_ret3
      exact ⟨by rw [hz.out]; exact ret_iib rfl rfl rfl, Below.refl _ _⟩
    · have hg : Hid (grT s k = _) := grT_some hR0
      have hR : Hid (rg 5 (s.data.toList.drop k) 0 0 = some (n, c)) := hR0
      obtain ⟨b1, b2, b3, b4⟩ := rg_bound 5 _ 0 0 n c hR0 (by decide)
      clear hR0
      simp at b1 b4
      have b5 : k + c ≤ s.size := by omega
      by_cases hn : n ≤ 1000000000
      · by_cases hv : vt n = (s.data.toList.drop k).take c
        · have he : (vt n == (s.extract k (k + c)).toList) = true := by rw [extract_list]; simp [hv]
          have hz : Hid (rvT s k = _) := rvT_some hk (rv_yes hR.out hn hv)
          clear hv
          go_enter Try.func86, Try.ntmps86
          go_wp2_with (first | (go_at_call 107; refine (readGroups_any _ _ _ hk hs).mono ?_; rintro e w1 ⟨rfl, rfl⟩; rw [hg.out]) | (go_at_call 48; refine (implVarText_any _ _).mono ?_; rintro e w2 ⟨rfl, hb2⟩; rw [varT_yes (by omega), Int.toNat_natCast]))
          go_ret3
          exact ⟨by rw [hz.out]; exact ret_iib rfl (by omega) rfl, hb2⟩
        · have he : (vt n == (s.extract k (k + c)).toList) = false := by rw [extract_list]; simp [hv]
          have hz : Hid (rvT s k = _) := rvT_none hk (rv_no hR.out (fun h => hv h.2))
          clear hv
          go_enter Try.func86, Try.ntmps86
          go_wp2_with (first | (go_at_call 107; refine (readGroups_any _ _ _ hk hs).mono ?_; rintro e w1 ⟨rfl, rfl⟩; rw [hg.out]) | (go_at_call 48; refine (implVarText_any _ _).mono ?_; rintro e w2 ⟨rfl, hb2⟩; rw [varT_yes (by omega), Int.toNat_natCast]))
          go_ret3
          exact ⟨by rw [hz.out]; exact ret_iib rfl rfl rfl, hb2⟩
      · have hz : Hid (rvT s k = _) := rvT_none hk (rv_no hR.out (fun h => hn h.1))
        go_enter Try.func86, Try.ntmps86
        go_wp2_with (first | (go_at_call 107; refine (readGroups_any _ _ _ hk hs).mono ?_; rintro e w1 ⟨rfl, rfl⟩; rw [hg.out]) | (go_at_call 48; refine (implVarText_any _ _).mono ?_; rintro e w2 ⟨rfl, hb2⟩; rw [varT_no (by omega)]))
        go_ret3
        exact ⟨by rw [hz.out]; exact ret_iib rfl rfl rfl, hb2⟩
  · have hz : Hid (rvT s a = _) := rvT_out h
    by_cases h1 : a < 0
    · go_enter Try.func86, Try.ntmps86
      go_wp2
      go_ret3
      exact ⟨by rw [hz.out]; exact ret_iib rfl rfl rfl, Below.refl _ _⟩
    · have h2 : (s.size : Int) < a := by omega
      go_enter Try.func86, Try.ntmps86
      go_wp2
      go_ret3
      exact ⟨by rw [hz.out]; exact ret_iib rfl rfl rfl, Below.refl _ _⟩

set_option maxRecDepth 100000 in
set_option maxHeartbeats 1000000 in
theorem specReadVar_any (s : ByteArray) (a : Int) (w : World) (hs : s.size ≤ 1099511627776) :
    Calls Try.prog 91 #[.string s, .int .i64 a] w fun e w' => e = .returned (rvT s a) ∧ Below w.heap.size w w' := by
  by_cases h : 0 ≤ a ∧ a ≤ s.size
  · obtain ⟨k, rfl⟩ := Int.eq_ofNat_of_zero_le h.1
    have hk : k ≤ s.size := by omega
    have h1 : decide ((0 : Int) ≤ (k : Int)) = true := by simp
    have h2 : decide ((k : Int) ≤ (s.size : Int)) = true := by simp; omega
    clear h
    obtain ⟨R, hR0⟩ : ∃ R, rg 5 (s.data.toList.drop k) 0 0 = R := ⟨_, rfl⟩
    have hR : Hid (rg 5 (s.data.toList.drop k) 0 0 = R) := hR0
    clear hR0
    go_enter Try.func91, Try.ntmps91
    go_wp2_with (go_at_call 56; refine (l01In_any _ _ _ _).mono ?_; rintro e w1 ⟨rfl, rfl⟩)
    go_loop [7, 8, 9] (fun nv sv iv => ∃ i n : Nat, i ≤ 5 ∧ iv = .int .i64 ((k : Int) + i) ∧ sv = .int .i64 ((128 ^ i : Nat) : Int) ∧ nv = .int .i64 n ∧ n < 128 ^ i ∧ rg (5 - i) (s.data.toList.drop (k + i)) i n = R) (fun _ _ iv => 5 - (intOf iv - k).toNat)
    case atStart => exact ⟨0, 0, by omega, by simp, by simp, rfl, by omega, hR.out⟩
    case round =>
      obtain ⟨i, n, hi, rfl, rfl, rfl, hn, hr0⟩ := hrel
      have hr : Hid (rg (5 - i) (s.data.toList.drop (k + i)) i n = R) := hr0
      clear hr0
      by_cases hlt : i < 5 ∧ k + i < s.size
      · obtain ⟨h1, h2⟩ := hlt
        have hl : k + i < s.data.toList.length := by simpa using h2
        have hb : s[k + i].toNat < 256 := UInt8.toNat_lt _
        by_cases hc : s[k + i].toNat < 128
        · go_wp2
          rw [group_add _ _ _ hn h1]
          have hr1 := rg_lo (l := s.data.toList) (n := n) h1 hl hc
          rw [hr.out, ← hR.out] at hr1
          generalize hm0 : n + s[k + i].toNat % 128 * 128 ^ i = m
          have hr2 : rg 5 (s.data.toList.drop k) 0 0 = some (m, i + 1) := by rw [← hm0]; exact hr1
          have hr3 : Hid (rg 5 (s.data.toList.drop k) 0 0 = some (m, i + 1)) := hr2
          have b5 : k + (i + 1) ≤ s.size := by omega
          clear hr1 hr2 hm0
          by_cases hm : m ≤ 1000000000
          · by_cases hv : vt m = (s.data.toList.drop k).take (i + 1)
            · have he : (vt m == (s.extract k (k + (i + 1))).toList) = true := by rw [extract_list]; simp [hv]
              have hz : Hid (rvT s k = _) := rvT_some hk (rv_yes hr3.out hm hv)
              clear hv
              have g1 : decide ((1000000000 : Int) < (m : Int)) = false := by simp; omega
              have g2 : IntKind.i64.wrap ((k : Int) + (i : Int) + 1) = (k : Int) + (i : Int) + 1 := IntWalk.i64_in _ ⟨by omega, by omega⟩
              have g3 := slice_cut s k i b5
              go_region_held3 (fun _ => True) (trivial) ((go_at_call 88; refine (l01Var_any _ _ hm).mono ?_; rintro e w2 ⟨rfl, hb2⟩))
              go_wp2
              go_ret3
              exact ⟨by rw [hz.out]; exact ret_iib rfl (by omega) rfl, (Below.refl _ _).drew.trans hb2⟩
            · have he : (vt m == (s.extract k (k + (i + 1))).toList) = false := by rw [extract_list]; simp [hv]
              have hz : Hid (rvT s k = _) := rvT_none hk (rv_no hr3.out (fun h => hv h.2))
              clear hv
              have g1 : decide ((1000000000 : Int) < (m : Int)) = false := by simp; omega
              have g2 : IntKind.i64.wrap ((k : Int) + (i : Int) + 1) = (k : Int) + (i : Int) + 1 := IntWalk.i64_in _ ⟨by omega, by omega⟩
              have g3 := slice_cut s k i b5
              go_region_held3 (fun _ => True) (trivial) ((go_at_call 88; refine (l01Var_any _ _ hm).mono ?_; rintro e w2 ⟨rfl, hb2⟩))
              go_wp2
              go_ret3
              exact ⟨by rw [hz.out]; exact ret_iib rfl rfl rfl, (Below.refl _ _).drew.trans hb2⟩
          · have hz : Hid (rvT s k = _) := rvT_none hk (rv_no hr3.out (fun h => hm h.1))
            have g1 : decide ((1000000000 : Int) < (m : Int)) = true := by simp; omega
            go_quiet (fail)
            go_wp2
            go_ret3
            exact ⟨by rw [hz.out]; exact ret_iib rfl rfl rfl, below_drewN (Below.refl _ _) _⟩
        · go_wp2
          go_round
          case rel => exact ⟨i + 1, n + s[k + i].toNat % 128 * 128 ^ i, by omega, by go_num, by rw [scale_next i h1], by rw [group_add _ _ _ hn h1], next_lt hn, (rg_hi (l := s.data.toList) h1 hl hc).symm.trans hr.out⟩
          case measure => simp [intOf]; omega
      · have hz : Hid (rvT s k = _) := rvT_none hk (rv_none (hR.out.trans (hr.out.symm.trans (rg_out (l := s.data.toList) (by simpa using hlt)))))
        by_cases h1 : k + i < s.size
        · have h2 : ¬ i < 5 := fun h => hlt ⟨h, h1⟩
          go_wp2
          go_ret3
          exact ⟨by rw [hz.out]; exact ret_iib rfl rfl rfl, Below.refl _ _⟩
        · go_wp2
          go_ret3
          exact ⟨by rw [hz.out]; exact ret_iib rfl rfl rfl, Below.refl _ _⟩
  · have hz : Hid (rvT s a = _) := rvT_out h
    have h1 : (decide ((0 : Int) ≤ a) && decide (a ≤ (s.size : Int))) = false := by
      simp only [Bool.and_eq_false_iff, decide_eq_false_iff_not]
      omega
    go_enter Try.func91, Try.ntmps91
    go_wp2_with (go_at_call 56; refine (l01In_any _ _ _ _).mono ?_; rintro e w1 ⟨rfl, rfl⟩; simp only [h1])
    go_ret3
    exact ⟨by rw [hz.out]; exact ret_iib rfl rfl rfl, Below.refl _ _⟩

end Go.Proofs.Ythlbokfajiahpaa

/- strings.Clone hands back the same bytes and changes nothing that was there: out of the library's own theorem on internal/stringslite.Clone, at the numbers of this program. -/
namespace Go.Proofs.Ythlbokfajiahpaa
open Go.Shelf Go.RowKit

def cloneRen : Go.Shelf.Ren := ⟨fun | 316 => 101 | n => n, fun | 9 => 9 | 3 => 3 | 4 => 4 | 37 => 22 | 0 => 0 | 127 => 173 | 5 => 5 | n => n, fun | n => n⟩

theorem cloneLaid : Go.Proofs.LaysM.n316 Try.prog cloneRen := {
  mixed := by kernel_rfl
  f316 := Try.func101.trans (congrArg some (by kernel_rfl))
  t0 := Try.underlying0
  a0 := Try.isAgg0
  z0 := Try.sizeOf0
  v0 := Try.zeroValue0
  t3 := Try.underlying3
  a3 := Try.isAgg3
  z3 := Try.sizeOf3
  v3 := Try.zeroValue3
  t4 := Try.underlying4
  a4 := Try.isAgg4
  z4 := Try.sizeOf4
  v4 := Try.zeroValue4
  t9 := Try.underlying9
  a9 := Try.isAgg9
  z9 := Try.sizeOf9
  v9 := Try.zeroValue9
  t37 := Try.underlying22
  a37 := Try.isAgg22
  z37 := Try.sizeOf22
  v37 := Try.zeroValue22
  t127 := Try.underlying173
  a127 := Try.isAgg173
  z127 := Try.sizeOf173
  v127 := Try.zeroValue173
  t5 := Try.underlying5
  a5 := Try.isAgg5
  z5 := Try.sizeOf5
  v5 := Try.zeroValue5
  i0 := by kernel_rfl
  i3 := by kernel_rfl
  i4 := by kernel_rfl
  i5 := by kernel_rfl
  i9 := by kernel_rfl
  i37 := by kernel_rfl
  i127 := by kernel_rfl }

theorem innerClone_any (s : ByteArray) (w : World) (hlim : s.size ≤ 281474976710656) :
    Calls Try.prog 101 #[.string s] w fun e w' => e = .returned (.string s) ∧ Below w.heap.size w w' := Any.stringslite_Clone cloneLaid s w hlim

theorem clone_any (s : ByteArray) (w : World) (hlim : s.size ≤ 281474976710656) :
    Calls Try.prog 79 #[.string s] w fun e w' => e = .returned (.string s) ∧ Below w.heap.size w w' := by
  go_enter Try.func79, Try.ntmps79
  go_wp2_with (go_at_call 101; refine (innerClone_any _ _ hlim).mono ?_; rintro e w1 ⟨rfl, hb1⟩)
  go_ret
  exact ⟨rfl, hb1⟩

end Go.Proofs.Ythlbokfajiahpaa

/- A text behind its length, and read back: what ShortText and ReadShort hand back. -/
namespace Go.Proofs.Ythlbokfajiahpaa
open Go.RowKit

/-- What ShortText hands back. -/
def shT (s : ByteArray) : Value :=
  if s.size ≤ 20000 then .tuple #[.string (⟨(vt s.size).toArray⟩ ++ s), .bool true] else .tuple #[.string ⟨#[]⟩, .bool false]
theorem shT_yes {s : ByteArray} (h : s.size ≤ 20000) : shT s = .tuple #[.string (⟨(vt s.size).toArray⟩ ++ s), .bool true] := by rw [shT, if_pos h]
theorem shT_no {s : ByteArray} (h : ¬ s.size ≤ 20000) : shT s = .tuple #[.string ⟨#[]⟩, .bool false] := by rw [shT, if_neg h]

theorem vt_size (n : Nat) : (ByteArray.mk (vt n).toArray).size ≤ n + 1 := by
  have := vt_len n
  simpa [ByteArray.size] using this


theorem implShortText_any (s : ByteArray) (w : World) (hs : s.size ≤ 1099511627776) :
    Calls Try.prog 49 #[.string s] w fun e w' => e = .returned (shT s) ∧ Below w.heap.size w w' := by
  by_cases h : s.size ≤ 20000
  · have hv := vt_size s.size
    have hadd := fun wx => run_string_add_sum (P := Try.prog) (w := wx) ⟨(vt s.size).toArray⟩ s (by omega)
    go_enter Try.func49, Try.ntmps49
    go_wp2_with (go_at_call 48; refine (implVarText_any _ _).mono ?_; rintro e w1 ⟨rfl, hb1⟩; rw [varT_yes (by omega), Int.toNat_natCast])
    go_ret2
    exact ⟨by rw [shT_yes h]; rfl, hb1⟩
  · go_enter Try.func49, Try.ntmps49
    go_wp2
    go_ret2
    exact ⟨by rw [shT_no h]; rfl, Below.refl _ _⟩

def zeroS : Value := .tuple #[.string ⟨#[]⟩, .int .i64 0, .bool false]

/-- What ReadShort hands back. -/
def rsT (s : ByteArray) (a : Int) : Value :=
  if 0 ≤ a ∧ a ≤ s.size then
    match rv s.data.toList a.toNat with
    | some (n, b) => if n ≤ 20000 ∧ n + b ≤ s.size then .tuple #[.string (s.extract b (b + n)), .int .i64 ((b : Int) + n), .bool true] else zeroS
    | none => zeroS
  else zeroS

theorem rsT_out {s : ByteArray} {a : Int} (h : ¬ (0 ≤ a ∧ a ≤ s.size)) : rsT s a = zeroS := by rw [rsT, if_neg h]
theorem rsT_none {s : ByteArray} {k : Nat} (hk : k ≤ s.size) (h : rv s.data.toList k = none) : rsT s k = zeroS := by
  rw [rsT, if_pos (by omega), Int.toNat_natCast, h]
theorem rsT_no {s : ByteArray} {k n b : Nat} (hk : k ≤ s.size) (h : rv s.data.toList k = some (n, b)) (h2 : ¬ (n ≤ 20000 ∧ n + b ≤ s.size)) : rsT s k = zeroS := by
  rw [rsT, if_pos (by omega), Int.toNat_natCast, h]
  simp only [if_neg h2]
theorem rsT_yes {s : ByteArray} {k n b : Nat} (hk : k ≤ s.size) (h : rv s.data.toList k = some (n, b)) (h2 : n ≤ 20000 ∧ n + b ≤ s.size) : rsT s k = .tuple #[.string (s.extract b (b + n)), .int .i64 ((b : Int) + n), .bool true] := by
  rw [rsT, if_pos (by omega), Int.toNat_natCast, h]
  simp only [if_pos h2]

/-- The ways of ReadShort: nothing is read; what is read is too long; it is a text. -/
theorem rs_ways (s : ByteArray) (a : Int) : (rvT s a = zeroT ∧ rsT s a = zeroS) ∨
    (∃ n b : Nat, rvT s a = .tuple #[.int .i64 n, .int .i64 b, .bool true] ∧ n ≤ 1000000000 ∧ b ≤ s.size ∧ ¬ (n ≤ 20000 ∧ n + b ≤ s.size) ∧ rsT s a = zeroS) ∨
    (∃ n b : Nat, rvT s a = .tuple #[.int .i64 n, .int .i64 b, .bool true] ∧ n ≤ 20000 ∧ n + b ≤ s.size ∧ rsT s a = .tuple #[.string (s.extract b (b + n)), .int .i64 ((b : Int) + n), .bool true]) := by
  by_cases h : 0 ≤ a ∧ a ≤ s.size
  · obtain ⟨k, rfl⟩ := Int.eq_ofNat_of_zero_le h.1
    have hk : k ≤ s.size := by omega
    rcases hr : rv s.data.toList k with _ | ⟨n, b⟩
    · exact .inl ⟨rvT_none hk hr, rsT_none hk hr⟩
    · have hle := rv_le (by simpa using hk) hr
      have hb : b ≤ s.size := by have := hle.2.2; simpa using this
      by_cases h2 : n ≤ 20000 ∧ n + b ≤ s.size
      · exact .inr (.inr ⟨n, b, rvT_some hk hr, h2.1, h2.2, rsT_yes hk hr h2⟩)
      · exact .inr (.inl ⟨n, b, rvT_some hk hr, hle.1, hb, h2, rsT_no hk hr h2⟩)
  · exact .inl ⟨rvT_out h, rsT_out h⟩

theorem slice_len (s : ByteArray) (b n : Nat) (h : n + b ≤ s.size) (wx : World) :
    (Instr.slice 9 (.string s) (some (.int .i64 (b : Int))) (some (.int .i64 ((b : Int) + (n : Int)))) none).run Try.prog wx = .ok (.string (s.extract b (b + n))) wx := by
  have := run_slice_string (P := Try.prog) (w := wx) 9 s .i64 .i64 (b : Int) ((b : Int) + (n : Int)) Try.underlying9 (by omega) (by omega) (by omega)
  rw [this]
  congr 3

set_option maxHeartbeats 400000 in
theorem specReadShort_any (s : ByteArray) (a : Int) (w : World) (hs : s.size ≤ 1099511627776) :
    Calls Try.prog 92 #[.string s, .int .i64 a] w fun e w' => e = .returned (rsT s a) ∧ Below w.heap.size w w' := by
  rcases rs_ways s a with ⟨hr0, hz0⟩ | ⟨n, b, hr0, h1, h2, h3, hz0⟩ | ⟨n, b, hr0, h1, h2, hz0⟩
  · have hr : Hid (rvT s a = _) := hr0
    have hz : Hid (rsT s a = _) := hz0
    clear hr0 hz0
    go_enter Try.func92, Try.ntmps92
    go_wp2_with (go_at_call 91; refine (specReadVar_any _ _ _ hs).mono ?_; rintro e w1 ⟨rfl, hb1⟩; rw [hr.out, zeroT])
    go_ret3
    exact ⟨by rw [hz.out]; rfl, hb1⟩
  · have hr : Hid (rvT s a = _) := hr0
    have hz : Hid (rsT s a = _) := hz0
    clear hr0 hz0
    by_cases h4 : n ≤ 20000
    · have h5 : (s.size : Int) - (b : Int) < (n : Int) := by omega
      go_enter Try.func92, Try.ntmps92
      go_wp2_with (go_at_call 91; refine (specReadVar_any _ _ _ hs).mono ?_; rintro e w1 ⟨rfl, hb1⟩; rw [hr.out])
      go_ret3
      exact ⟨by rw [hz.out]; rfl, hb1⟩
    · go_enter Try.func92, Try.ntmps92
      go_wp2_with (go_at_call 91; refine (specReadVar_any _ _ _ hs).mono ?_; rintro e w1 ⟨rfl, hb1⟩; rw [hr.out])
      go_ret3
      exact ⟨by rw [hz.out]; rfl, hb1⟩
  · have hr : Hid (rvT s a = _) := hr0
    have hz : Hid (rsT s a = _) := hz0
    clear hr0 hz0
    have hsl := slice_len s b n h2
    have h5 : ¬ (s.size : Int) - (b : Int) < (n : Int) := by omega
    go_enter Try.func92, Try.ntmps92
    go_wp2_with (go_at_call 91; refine (specReadVar_any _ _ _ hs).mono ?_; rintro e w1 ⟨rfl, hb1⟩; rw [hr.out])
    go_ret3
    exact ⟨by rw [hz.out]; rfl, hb1⟩

set_option maxHeartbeats 400000 in
theorem implReadShort_any (s : ByteArray) (a : Int) (w : World) (hs : s.size ≤ 1099511627776) :
    Calls Try.prog 87 #[.string s, .int .i64 a] w fun e w' => e = .returned (rsT s a) ∧ Below w.heap.size w w' := by
  rcases rs_ways s a with ⟨hr0, hz0⟩ | ⟨n, b, hr0, h1, h2, h3, hz0⟩ | ⟨n, b, hr0, h1, h2, hz0⟩
  · have hr : Hid (rvT s a = _) := hr0
    have hz : Hid (rsT s a = _) := hz0
    clear hr0 hz0
    go_enter Try.func87, Try.ntmps87
    go_wp2_with (go_at_call 86; refine (implReadVar_any _ _ _ hs).mono ?_; rintro e w1 ⟨rfl, hb1⟩; rw [hr.out, zeroT])
    go_ret3
    exact ⟨by rw [hz.out]; rfl, hb1⟩
  · have hr : Hid (rvT s a = _) := hr0
    have hz : Hid (rsT s a = _) := hz0
    clear hr0 hz0
    by_cases h4 : n ≤ 20000
    · have h5 : (s.size : Int) - (b : Int) < (n : Int) := by omega
      go_enter Try.func87, Try.ntmps87
      go_wp2_with (go_at_call 86; refine (implReadVar_any _ _ _ hs).mono ?_; rintro e w1 ⟨rfl, hb1⟩; rw [hr.out])
      go_ret3
      exact ⟨by rw [hz.out]; rfl, hb1⟩
    · go_enter Try.func87, Try.ntmps87
      go_wp2_with (go_at_call 86; refine (implReadVar_any _ _ _ hs).mono ?_; rintro e w1 ⟨rfl, hb1⟩; rw [hr.out])
      go_ret3
      exact ⟨by rw [hz.out]; rfl, hb1⟩
  · have hr : Hid (rvT s a = _) := hr0
    have hz : Hid (rsT s a = _) := hz0
    clear hr0 hz0
    have hsl := slice_len s b n h2
    have hcl : (s.extract b (b + n)).size ≤ 281474976710656 := by simp; omega
    have h5 : ¬ (s.size : Int) - (b : Int) < (n : Int) := by omega
    go_enter Try.func87, Try.ntmps87
    go_wp2_with (first | (go_at_call 86; refine (implReadVar_any _ _ _ hs).mono ?_; rintro e w1 ⟨rfl, hb1⟩; rw [hr.out]) | (go_at_call 79; refine (clone_any _ _ hcl).mono ?_; rintro e w2 ⟨rfl, hb2⟩))
    go_ret3
    exact ⟨by rw [hz.out]; rfl, hb1.trans (hb2.mono hb1.size)⟩

theorem shT_form (s : ByteArray) : ∃ (t : ByteArray) (f : Bool), shT s = .tuple #[.string t, .bool f] := by
  unfold shT
  split
  · exact ⟨_, _, rfl⟩
  · exact ⟨_, _, rfl⟩

theorem rsT_form (s : ByteArray) (a : Int) : ∃ (t : ByteArray) (b : Int) (f : Bool), rsT s a = .tuple #[.string t, .int .i64 b, .bool f] := by
  rcases rs_ways s a with ⟨_, h⟩ | ⟨_, _, _, _, _, _, h⟩ | ⟨_, _, _, _, _, h⟩
  · exact ⟨_, _, _, h⟩
  · exact ⟨_, _, _, h⟩
  · exact ⟨_, _, _, h⟩

end Go.Proofs.Ythlbokfajiahpaa

/- Records: the model's reader of a text. -/
namespace Go.Proofs.Ythlbokfajiahpaa
open Go.RowKit

/-- A number read at the cursor: what is handed back, the place behind it, whether it is bad. -/
def cuV (t : ByteArray) (p : Nat) (b : Bool) : Nat × Nat × Bool :=
  if b = true then (0, p, true) else match rv t.data.toList p with
    | some (n, q) => (n, q, false)
    | none => (0, p, true)
/-- A short text read at the cursor. -/
def cuS (t : ByteArray) (p : Nat) (b : Bool) : ByteArray × Nat × Bool :=
  if b = true then (⟨#[]⟩, p, true) else match rsO t p with
    | some (n, q) => (n, q, false)
    | none => (⟨#[]⟩, p, true)

theorem cuV_ways (t : ByteArray) (p : Nat) (b : Bool) (hp : p ≤ t.size) :
    ∃ (x q : Nat) (o : Bool), rvT t p = .tuple #[.int .i64 x, .int .i64 q, .bool o] ∧ (((b = true ∨ o = false) ∧ cuV t p b = (0, p, true)) ∨ ((b = false ∧ o = true) ∧ cuV t p b = (x, q, false))) := by
  rcases h : rv t.data.toList p with _ | ⟨n, q⟩
  · refine ⟨0, 0, false, rvT_none hp h, .inl ⟨.inr rfl, ?_⟩⟩
    cases b <;> simp [cuV, h]
  · refine ⟨n, q, true, rvT_some hp h, ?_⟩
    cases b with
    | false => exact .inr ⟨⟨rfl, rfl⟩, by simp [cuV, h]⟩
    | true => exact .inl ⟨.inl rfl, by simp [cuV]⟩
theorem cuV_le (t : ByteArray) (p : Nat) (b : Bool) (hp : p ≤ t.size) : (cuV t p b).2.1 ≤ t.size ∧ (cuV t p b).1 ≤ 1000000000 := by
  unfold cuV
  split
  · exact ⟨hp, Nat.zero_le _⟩
  · split
    · rename_i h
      have := rv_le (by simpa using hp) h
      refine ⟨?_, this.1⟩
      have := this.2.2
      simpa using this
    · exact ⟨hp, Nat.zero_le _⟩
theorem rsO_le {t : ByteArray} {p : Nat} {x : ByteArray} {q : Nat} (h : rsO t p = some (x, q)) : q ≤ t.size ∧ x.size ≤ t.size := by
  unfold rsO at h
  split at h
  · split at h
    · rename_i h2
      cases h
      refine ⟨by omega, ?_⟩
      rw [ByteArray.size_extract]; omega
    · cases h
  · cases h
theorem cuS_ways (t : ByteArray) (p : Nat) (b : Bool) (hp : p ≤ t.size) :
    ∃ (x : ByteArray) (q : Nat) (o : Bool), rsT t p = .tuple #[.string x, .int .i64 q, .bool o] ∧ (((b = true ∨ o = false) ∧ cuS t p b = (⟨#[]⟩, p, true)) ∨ ((b = false ∧ o = true) ∧ cuS t p b = (x, q, false))) := by
  rcases h : rv t.data.toList p with _ | ⟨n, q⟩
  · refine ⟨⟨#[]⟩, 0, false, rsT_none hp h, .inl ⟨.inr rfl, ?_⟩⟩
    cases b <;> simp [cuS, rsO, h]
  · by_cases h2 : n ≤ 20000 ∧ n + q ≤ t.size
    · refine ⟨t.extract q (q + n), q + n, true, by rw [rsT_yes hp h h2, Int.natCast_add], ?_⟩
      cases b with
      | false => exact .inr ⟨⟨rfl, rfl⟩, by simp [cuS, rsO, h, h2]⟩
      | true => exact .inl ⟨.inl rfl, by simp [cuS]⟩
    · refine ⟨⟨#[]⟩, 0, false, rsT_no hp h h2, .inl ⟨.inr rfl, ?_⟩⟩
      cases b <;> simp [cuS, rsO, h, h2]
theorem cuS_le (t : ByteArray) (p : Nat) (b : Bool) (hp : p ≤ t.size) : (cuS t p b).2.1 ≤ t.size ∧ (cuS t p b).1.size ≤ t.size := by
  unfold cuS
  split
  · exact ⟨hp, Nat.zero_le _⟩
  · split
    · rename_i h
      exact rsO_le h
    · exact ⟨hp, Nat.zero_le _⟩

/-- The reader stands in the block g. -/
def CuB (w : World) (g : Nat) (t : ByteArray) (p : Nat) (b : Bool) : Prop := Box w g #[.string t, .int .i64 (p : Int), .bool b] 85
theorem grown_below {w w' : World} (r : Option Nat) (hb : Below w.heap.size w w') : w.grownBy w' r := ⟨hb.os, hb.tape, hb.output, hb.size, fun k hk _ => hb.block k hk⟩

set_option maxRecDepth 100000 in
set_option maxHeartbeats 2000000 in
theorem l06Var_any (t : ByteArray) (p : Nat) (b : Bool) (g : Nat) (w : World) (hx : CuB w g t p b) (hp : p ≤ t.size) (hs : t.size ≤ 1099511627776) :
    Calls Try.prog 54 #[.pointer (some ⟨g, 0, none⟩)] w fun e w' => e = .returned (.int .i64 ((cuV t p b).1 : Int)) ∧ CuB w' g t (cuV t p b).2.1 (cuV t p b).2.2 ∧ w.grownBy w' (some g) := by
  obtain ⟨x, q, o, hr, hways⟩ := cuV_ways t p b hp
  have HR := Lib.hid hr
  have r0 : ∀ x, Below w.heap.size w x → x.cell? ⟨g, 0, none⟩ = some (.string t) := fun x hb => (Box.later hx hb).cell 0 _ rfl
  have r1 : ∀ x, Below w.heap.size w x → x.cell? ⟨g, 1, none⟩ = some (.int .i64 (p : Int)) := fun x hb => (Box.later hx hb).cell 1 _ rfl
  have HK0 : Hid (Below w.heap.size w w.drew) := (Below.refl _ _).drew
  have HX : Hid (Box w g #[.string t, .int .i64 (p : Int), .bool b] 85) := hx
  unfold CuB
  clear hr hx
  rcases hways with ⟨hb, hc⟩ | ⟨⟨hb, ho⟩, hc⟩
  · have HC := Lib.hid hc
    clear hc
    cases b with
    | true =>
      clear hb
      go_enter Try.func54, Try.ntmps54
      go_upto_region 1 with fail
      go_region_held3 (fun x => Below w.heap.size w x)
        (first | exact HK0.out | exact below_next (by assumption) kT)
        (first | (go_at_call 91; refine (specReadVar_any _ _ _ hs).mono ?_; rintro e wT ⟨rfl, kT⟩; rw [HR.out]))
      all_goals
        rename_i hHeld
        have BH := Lib.hid hHeld
        have yx := HX.out.later hHeld
        obtain ⟨z0, z1, z2, f0, f1, f2⟩ := yx.three
        have YX := Lib.hid yx
        clear r0 r1 hHeld yx kT
        go_wp2
        go_ret
        exact ⟨by rw [HC.out]; rfl, by rw [HC.out]; exact YX.out.set 2 _, (grown_below _ BH.out).trans (stored_grown _ _ _ _)⟩
    | false =>
      have ho : o = false := by rcases hb with h | h; cases h; exact h
      subst ho
      clear hb
      go_enter Try.func54, Try.ntmps54
      go_upto_region 1 with fail
      go_region_held3 (fun x => Below w.heap.size w x)
        (first | exact HK0.out | exact below_next (by assumption) kT)
        (first | (go_at_call 91; refine (specReadVar_any _ _ _ hs).mono ?_; rintro e wT ⟨rfl, kT⟩; rw [HR.out]))
      all_goals
        rename_i hHeld
        have BH := Lib.hid hHeld
        have yx := HX.out.later hHeld
        obtain ⟨z0, z1, z2, f0, f1, f2⟩ := yx.three
        have YX := Lib.hid yx
        clear r0 r1 hHeld yx kT
        go_wp2
        go_ret
        exact ⟨by rw [HC.out]; rfl, by rw [HC.out]; exact YX.out.set 2 _, (grown_below _ BH.out).trans (stored_grown _ _ _ _)⟩
  · have HC := Lib.hid hc
    clear hc
    subst hb
    subst ho
    go_enter Try.func54, Try.ntmps54
    go_upto_region 1 with fail
    go_region_held3 (fun x => Below w.heap.size w x)
      (first | exact HK0.out | exact below_next (by assumption) kT)
      (first | (go_at_call 91; refine (specReadVar_any _ _ _ hs).mono ?_; rintro e wT ⟨rfl, kT⟩; rw [HR.out]))
    all_goals
      rename_i hHeld
      have BH := Lib.hid hHeld
      have yx := HX.out.later hHeld
      obtain ⟨z0, z1, z2, f0, f1, f2⟩ := yx.three
      have YX := Lib.hid yx
      clear r0 r1 hHeld yx kT
      go_wp2
      go_ret
      exact ⟨by rw [HC.out]; rfl, by rw [HC.out]; exact YX.out.set 1 _, (grown_below _ BH.out).trans (stored_grown _ _ _ _)⟩

set_option maxRecDepth 100000 in
set_option maxHeartbeats 2000000 in
theorem l06ReadShort_any (t : ByteArray) (p : Nat) (b : Bool) (g : Nat) (w : World) (hx : CuB w g t p b) (hp : p ≤ t.size) (hs : t.size ≤ 1099511627776) :
    Calls Try.prog 55 #[.pointer (some ⟨g, 0, none⟩)] w fun e w' => e = .returned (.string (cuS t p b).1) ∧ CuB w' g t (cuS t p b).2.1 (cuS t p b).2.2 ∧ w.grownBy w' (some g) := by
  obtain ⟨x, q, o, hr, hways⟩ := cuS_ways t p b hp
  have HR := Lib.hid hr
  have r0 : ∀ x, Below w.heap.size w x → x.cell? ⟨g, 0, none⟩ = some (.string t) := fun x hb => (Box.later hx hb).cell 0 _ rfl
  have r1 : ∀ x, Below w.heap.size w x → x.cell? ⟨g, 1, none⟩ = some (.int .i64 (p : Int)) := fun x hb => (Box.later hx hb).cell 1 _ rfl
  have HK0 : Hid (Below w.heap.size w w.drew) := (Below.refl _ _).drew
  have HX : Hid (Box w g #[.string t, .int .i64 (p : Int), .bool b] 85) := hx
  unfold CuB
  clear hr hx
  rcases hways with ⟨hb, hc⟩ | ⟨⟨hb, ho⟩, hc⟩
  · have HC := Lib.hid hc
    clear hc
    cases b with
    | true =>
      clear hb
      go_enter Try.func55, Try.ntmps55
      go_upto_region 1 with fail
      go_region_held3 (fun x => Below w.heap.size w x)
        (first | exact HK0.out | exact below_next (by assumption) kT)
        (first | (go_at_call 92; refine (specReadShort_any _ _ _ hs).mono ?_; rintro e wT ⟨rfl, kT⟩; rw [HR.out]))
      all_goals
        rename_i hHeld
        have BH := Lib.hid hHeld
        have yx := HX.out.later hHeld
        obtain ⟨z0, z1, z2, f0, f1, f2⟩ := yx.three
        have YX := Lib.hid yx
        clear r0 r1 hHeld yx kT
        go_wp2
        go_ret
        exact ⟨by rw [HC.out]; rfl, by rw [HC.out]; exact YX.out.set 2 _, (grown_below _ BH.out).trans (stored_grown _ _ _ _)⟩
    | false =>
      have ho : o = false := by rcases hb with h | h; cases h; exact h
      subst ho
      clear hb
      go_enter Try.func55, Try.ntmps55
      go_upto_region 1 with fail
      go_region_held3 (fun x => Below w.heap.size w x)
        (first | exact HK0.out | exact below_next (by assumption) kT)
        (first | (go_at_call 92; refine (specReadShort_any _ _ _ hs).mono ?_; rintro e wT ⟨rfl, kT⟩; rw [HR.out]))
      all_goals
        rename_i hHeld
        have BH := Lib.hid hHeld
        have yx := HX.out.later hHeld
        obtain ⟨z0, z1, z2, f0, f1, f2⟩ := yx.three
        have YX := Lib.hid yx
        clear r0 r1 hHeld yx kT
        go_wp2
        go_ret
        exact ⟨by rw [HC.out]; rfl, by rw [HC.out]; exact YX.out.set 2 _, (grown_below _ BH.out).trans (stored_grown _ _ _ _)⟩
  · have HC := Lib.hid hc
    clear hc
    subst hb
    subst ho
    go_enter Try.func55, Try.ntmps55
    go_upto_region 1 with fail
    go_region_held3 (fun x => Below w.heap.size w x)
      (first | exact HK0.out | exact below_next (by assumption) kT)
      (first | (go_at_call 92; refine (specReadShort_any _ _ _ hs).mono ?_; rintro e wT ⟨rfl, kT⟩; rw [HR.out]))
    all_goals
      rename_i hHeld
      have BH := Lib.hid hHeld
      have yx := HX.out.later hHeld
      obtain ⟨z0, z1, z2, f0, f1, f2⟩ := yx.three
      have YX := Lib.hid yx
      clear r0 r1 hHeld yx kT
      go_wp2
      go_ret
      exact ⟨by rw [HC.out]; rfl, by rw [HC.out]; exact YX.out.set 1 _, (grown_below _ BH.out).trans (stored_grown _ _ _ _)⟩

end Go.Proofs.Ythlbokfajiahpaa
