/- The walk of the law on lines that are too long. -/
import Derived.Test.YtichbcpidkkblaaLinQ
import Derived.Test.YtichbcpidkkblaaLinI
import Derived.Test.YtichbcpidkkblaaSectKit
import Derived.WalkSmall
import Derived.Deep.Cut
namespace Go.Proofs.Ytichbcpidkkblaa
open Go.RowKit

/-- The text of so many x, and the line behind it. -/
def lgT (m : Nat) : ByteArray := ⟨(List.replicate m (120 : UInt8) ++ 13 :: 10 :: [110, 101, 120, 116, 13, 10]).toArray⟩
def nxT : ByteArray := ⟨#[110, 101, 120, 116, 13, 10]⟩
def xT (m : Nat) : ByteArray := ⟨(List.replicate m (120 : UInt8)).toArray⟩

theorem xT_next (m : Nat) : xT m ++ ⟨#[120]⟩ = xT (m + 1) := by
  show (⟨(List.replicate m (120 : UInt8)).toArray⟩ : ByteArray) ++ ⟨[(120 : UInt8)].toArray⟩ = ⟨(List.replicate (m + 1) (120 : UInt8)).toArray⟩
  rw [ByteArray.mk_append_mk]
  congr 2
  simp [List.replicate_succ']
theorem xT_line (m : Nat) : xT m ++ ⟨#[13, 10, 110, 101, 120, 116, 13, 10]⟩ = lgT m := ByteArray.mk_append_mk _ _
theorem x_no (m : Nat) : ∀ b ∈ List.replicate m (120 : UInt8), b ≠ 13 := fun b hb => by rw [List.eq_of_mem_replicate hb]; decide
theorem tk_lg {m : Nat} (h : 80 < m) : TkR (lgT m) emp (lgT (m - 80)) 2 := by
  have := tk_long (r := [110, 101, 120, 116, 13, 10]) (x_no m) (by simpa using h)
  rw [List.drop_replicate] at this
  exact this
theorem tk_sh {m : Nat} (h : m ≤ 80) : TkR (lgT m) (xT m) nxT 0 := tk_line (r := [110, 101, 120, 116, 13, 10]) (x_no m) (by simpa using h)
theorem tk_nx : TkR nxT ⟨#[110, 101, 120, 116]⟩ emp 0 := tk_line (x := [110, 101, 120, 116]) (r := []) (by decide) (by decide)
theorem xT_other (m : Nat) : ((xT m).toList == [110, 101, 120, 116]) = false := by
  rw [Go.ByteArray.toList_eq]
  refine beq_eq_false_iff_ne.2 fun e => ?_
  have h : (110 : UInt8) ∈ List.replicate m (120 : UInt8) := by
    have e' : List.replicate m (120 : UInt8) = [110, 101, 120, 116] := by simpa [xT] using e
    rw [e']; decide
  have := List.eq_of_mem_replicate h
  exact absurd this (by decide)
theorem xT_size (m : Nat) : (xT m).size = m := by simp [xT, ByteArray.size]
theorem lgT_size (m : Nat) : (lgT m).size = m + 8 := by simp [lgT, ByteArray.size]

set_option maxRecDepth 100000 in
set_option maxHeartbeats 4000000 in
theorem walk_FnLinesLong (a : Option Addr) (len cap : Nat) (w : World) (hcode : CodeIn w a len) :
    Calls Try.prog 4 #[.slice a len cap] w fun e w' => e = .returned (.bool true) ∧ Below w.heap.size w w' := by
  by_cases hbig : (1048576 : Int) < (len : Int)
  · go_enter Try.func4, Try.ntmps4
    go_wp2_with (go_at_call 6; refine (big_any a len cap _).mono ?_; rintro e w1 ⟨rfl, rfl⟩; rw [decide_eq_true hbig])
    go_ret
    exact ⟨rfl, Below.refl _ _⟩
  have hs : len ≤ 1048576 := by omega
  go_enter Try.func4, Try.ntmps4
  go_wp2_with fail
  refine (big_any a len cap _).mono ?_
  rintro e w0 ⟨rfl, rfl⟩
  rw [decide_eq_false (by omega)]
  go_wp2_with fail
  refine (drawPlaces_any a len cap _ hcode hs).mono ?_
  rintro e w1 ⟨l, v, hl, hlz, rfl, hib⟩
  obtain ⟨gp, cp, z0, z1, rfl, hcp, hgp, p0, p1⟩ := places2 hl hlz hib
  have HB := Lib.hid hib.bel
  have hr : (z0 : Int).tmod 200 = ((z0 % 200 : Nat) : Int) := by rw [IntWalk.rem_in _ _ (by omega)]; omega
  have hr2 : IntKind.i64.wrap (((z0 % 200 : Nat) : Int)) = ((z0 % 200 : Nat) : Int) := IntWalk.i64_in _ ⟨by omega, by omega⟩
  obtain ⟨N, hN⟩ : ∃ N, N = 81 + z0 % 200 := ⟨_, rfl⟩
  have hN1 : 81 ≤ N ∧ N ≤ 280 := by omega
  have hw : IntKind.i64.wrap (81 + ((z0 % 200 : Nat) : Int)) = (N : Int) := (IntWalk.i64_in _ ⟨by omega, by omega⟩).trans (by omega)
  clear hN hl hlz hib p1
  generalize z0 % 200 = r at *
  go_upto_region 5 with fail
  clear p0 hr hr2 hw hgp hcp
  go_wp2
  go_loop [5, 6] (fun sv iv => ∃ i : Nat, i ≤ N ∧ iv = .int .i64 (i : Int) ∧ sv = .string (xT i)) (fun _ iv => N - (intOf iv).toNat)
  case atStart => exact ⟨0, by omega, rfl, rfl⟩
  case round =>
    obtain ⟨i, hi, rfl, rfl⟩ := hrel
    by_cases hlt : i < N
    · have hi1 : (i : Int) < (N : Int) := by omega
      have HX := Lib.hid (xT_next i)
      have hts : (xT i).size ≤ 1000 := by rw [xT_size]; omega
      generalize xT i = t at *
      go_wp2
      go_round
      case rel => exact ⟨i + 1, by omega, by go_num, by rw [HX.out]⟩
      case measure => simp [intOf]; omega
    · obtain rfl : i = N := by omega
      have HL := Lib.hid (xT_line i)
      have hts : (xT i).size ≤ 1000 := by rw [xT_size]; omega
      generalize xT i = t at *
      go_wp2
      rw [HL.out]
      clear HL hts
      go_loopw [5, 7, 8] (fun sv nv iv wr => ∃ k : Nat, k ≤ 9 ∧ iv = .int .i64 (k : Int) ∧ nv = .int .i64 (k : Int) ∧ Below w.heap.size w wr ∧ ((∃ m : Nat, 1 ≤ m ∧ m + 80 * k ≤ 281 ∧ sv = .string (lgT m)) ∨ (sv = .string nxT ∧ 1 ≤ k ∧ k ≤ 5))) (fun _ _ iv _ => 9 - (intOf iv).toNat)
      case atStart => exact ⟨0, by omega, rfl, rfl, HB.out, .inl ⟨i, by omega, by omega, rfl⟩⟩
      case round =>
        obtain ⟨k, hk, rfl, rfl, hb, hst⟩ := hrel
        have hk9 : k < 9 := by rcases hst with ⟨m, h1, h2, _⟩ | ⟨_, _, h⟩ <;> omega
        have hk9i : (k : Int) < 9 := by omega
        have HBB := Lib.hid hb
        clear hb
        rcases hst with ⟨m, h1, h2, rfl⟩ | ⟨rfl, h1, h2⟩
        · by_cases h3 : 80 < m
          · have HT := Lib.hid (tk_lg h3)
            have hsz := lgT_size m
            go_wp2_with fail
            refine (implTakeLine_any _ _ (by omega)).mono ?_
            rintro e w5 ⟨⟨a', b', c', rfl, ht⟩, k5⟩
            obtain ⟨rfl, rfl, rfl⟩ := HT.out.one ht
            have HB5 := Lib.hid (HBB.out.trans (k5.mono HBB.out.size))
            clear ht k5 hsz
            go_wp2
            go_roundw
            case rel => exact ⟨k + 1, by omega, by go_num, by go_num, HB5.out, .inl ⟨m - 80, by omega, by omega, rfl⟩⟩
            case measure => simp [intOf]; omega
          · have HT := Lib.hid (tk_sh (m := m) (by omega))
            have hsz := lgT_size m
            have hno := xT_other m
            go_wp2_with fail
            refine (implTakeLine_any _ _ (by omega)).mono ?_
            rintro e w5 ⟨⟨a', b', c', rfl, ht⟩, k5⟩
            obtain ⟨rfl, rfl, rfl⟩ := HT.out.one ht
            have HB5 := Lib.hid (HBB.out.trans (k5.mono HBB.out.size))
            clear ht k5 hsz
            generalize xT m = t at *
            go_wp2
            go_roundw
            case rel => exact ⟨k + 1, by omega, by go_num, by go_num, HB5.out, .inr ⟨rfl, by omega, by omega⟩⟩
            case measure => simp [intOf]; omega
        · have HT := Lib.hid tk_nx
          have hk1 : (0 : Int) < (k : Int) := by omega
          have hk2 : 0 < k := by omega
          go_wp2_with fail
          refine (implTakeLine_any nxT _ (by decide)).mono ?_
          rintro e w5 ⟨⟨a', b', c', rfl, ht⟩, k5⟩
          obtain ⟨rfl, rfl, rfl⟩ := HT.out.one ht
          have HB5 := Lib.hid (HBB.out.trans (k5.mono HBB.out.size))
          clear ht k5
          unfold emp
          go_wp2
          go_ret
          exact ⟨rfl, HB5.out⟩

end Go.Proofs.Ytichbcpidkkblaa
