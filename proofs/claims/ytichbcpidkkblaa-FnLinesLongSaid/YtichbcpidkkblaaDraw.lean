/- The cursor of a draw: what spec.l01Byte, l01Below, l01Once, l01Text, l01Long and l01New hand back: numbers in their ranges, whatever the bytes are. -/
import Derived.Test.YtichbcpidkkblaaKit2
import Derived.Laws.Bits128
import Derived.Lib.SmallJoins
import Derived.WalkSpells
import Derived.WalkSmall
import Derived.Deep.RegionHeld3
import Derived.Deep.QuietTactic
import Derived.BigQuiet
namespace Go.Proofs.Ytichbcpidkkblaa
open Go.RowKit

theorem i64_and255 (n : Int) : bits .and .i64 n 255 = n % 256 := by
  have h1 : (BitVec.ofInt 64 n &&& BitVec.ofInt 64 255).toNat = (BitVec.ofInt 64 n).toNat % 256 := by
    rw [BitVec.toNat_and]
    have e : (BitVec.ofInt 64 255).toNat = 2 ^ 8 - 1 := by decide
    rw [e, Nat.and_two_pow_sub_one_eq_mod]
  show IntKind.i64.wrap ((BitVec.ofInt 64 n &&& BitVec.ofInt 64 255).toNat : Int) = _
  rw [h1, BitVec.toNat_ofInt, IntWalk.i64_in _ ⟨by omega, by omega⟩]
  omega

/-- The bytes of a code can be read, and lie outside the block pc. -/
def Code (w : World) (pc : Nat) (a : Option Addr) (len : Nat) : Prop :=
  ∀ j, j < len → ∃ b off : Nat, a = some ⟨b, off, none⟩ ∧ b ≠ pc ∧ ∃ x : Nat, x < 256 ∧ w.cell? ⟨b, off + j, none⟩ = some (.int .u8 (x : Int))

/-- A cursor in the block pc over a code of len bytes. -/
structure Cur (w : World) (pc : Nat) (a : Option Addr) (len cap : Nat) : Prop where
  blk : ∃ i h : Int, w.heap[pc]? = some (.cells #[.slice a len cap, .int .i64 i, .int .i64 h] 59 (0, 0)) ∧ 0 ≤ i ∧ i ≤ len ∧ (-9223372036854775808 ≤ h ∧ h ≤ 9223372036854775807)
  code : Code w pc a len
  small : len ≤ 1048576

theorem lt_of_heap {w : World} {g : Nat} {o : Obj} (hg : w.heap[g]? = some o) : g < w.heap.size := by
  by_cases hh : g < w.heap.size
  · exact hh
  · rw [Array.getElem?_eq_none (by omega)] at hg; cases hg

theorem Code.grown {w w' : World} {pc : Nat} {a : Option Addr} {len : Nat} (h : Code w pc a len) (hg : w.grownBy w' (some pc)) : Code w' pc a len := by
  intro j hj
  obtain ⟨b, off, ha, hb, x, hx, hc⟩ := h j hj
  exact ⟨b, off, ha, hb, x, hx, hg.cell hc (fun e => hb (Option.some.inj e))⟩

/-- What a draw of one byte leaves. -/
def ByteR (pc : Nat) (a : Option Addr) (len cap : Nat) (w : World) (e : Ending) (w' : World) : Prop :=
  ∃ x : Nat, x < 256 ∧ e = .returned (.int .i64 (x : Int)) ∧ Cur w' pc a len cap ∧ w.grownBy w' (some pc)

theorem grownBy_setCell (w : World) (pc i : Nat) (v : Value) : w.grownBy (w.setCell ⟨pc, i, none⟩ v) (some pc) :=
  have b := (Below.refl 0 w).setCell (p := ⟨pc, i, none⟩) (Nat.zero_le _) v
  ⟨b.os, b.tape, b.output, b.size, fun k _ hne => Below.heap_setCell w _ _ _ (fun e => hne (by rw [e]))⟩

theorem grownBy_drewN (w : World) (n : Nat) (r : Option Nat) : w.grownBy (w.drewN n) r := ⟨rfl, rfl, rfl, Nat.le_refl _, fun _ _ _ => rfl⟩

theorem wrap64_range (n : Int) : -9223372036854775808 ≤ wrap64 n ∧ wrap64 n ≤ 9223372036854775807 := by
  unfold wrap64; omega

set_option maxRecDepth 100000 in
set_option maxHeartbeats 2000000 in
theorem byte_any (pc : Nat) (a : Option Addr) (len cap : Nat) (w : World) (hc : Cur w pc a len cap) :
    Calls Try.prog 23 #[.pointer (some ⟨pc, 0, none⟩)] w fun e w' => ByteR pc a len cap w e w' := by
  obtain ⟨i, h, hblk, hi0, hi1, hh1, hh2⟩ := hc.blk
  have hcode := hc.code
  have hsm := hc.small
  have c0 : w.cell? ⟨pc, 0, none⟩ = some (.slice a len cap) := by rw [Joins.cell_of_block hblk]; rfl
  have c1 : w.cell? ⟨pc, 1, none⟩ = some (.int .i64 i) := by rw [Joins.cell_of_block hblk]; rfl
  have c2 : w.cell? ⟨pc, 2, none⟩ = some (.int .i64 h) := by rw [Joins.cell_of_block hblk]; rfl
  have f1 : w.frozen? ⟨pc, 1, none⟩ = false := Joins.unfrozen_of_block hblk 1
  have f2 : w.frozen? ⟨pc, 2, none⟩ = false := Joins.unfrozen_of_block hblk 2
  go_enter Try.func23, Try.ntmps23
  go_wp2
  have hHb := wrap64_range (wrap64 (h * 6364136223846793005) + 1442695040888963407)
  generalize wrap64 (wrap64 (h * 6364136223846793005) + 1442695040888963407) = H at hHb ⊢
  have hg1 := grownBy_setCell w pc 2 (.int .i64 H)
  have hblk1 : (w.setCell ⟨pc, 2, none⟩ (.int .i64 H)).heap[pc]? = some (.cells #[.slice a len cap, .int .i64 i, .int .i64 H] 59 (0, 0)) := Joins.block_setCell hblk _
  have hcode1 := hcode.grown hg1
  clear c0 c1 c2 f1 f2
  generalize w.setCell ⟨pc, 2, none⟩ (.int .i64 H) = w1 at *
  have c0 : w1.cell? ⟨pc, 0, none⟩ = some (.slice a len cap) := by rw [Joins.cell_of_block hblk1]; rfl
  have c1 : w1.cell? ⟨pc, 1, none⟩ = some (.int .i64 i) := by rw [Joins.cell_of_block hblk1]; rfl
  have c2 : w1.cell? ⟨pc, 2, none⟩ = some (.int .i64 H) := by rw [Joins.cell_of_block hblk1]; rfl
  have f1 : w1.frozen? ⟨pc, 1, none⟩ = false := Joins.unfrozen_of_block hblk1 1
  have HB : Hid (w1.heap[pc]? = some (.cells #[.slice a len cap, .int .i64 i, .int .i64 H] 59 (0, 0))) := hblk1
  have HC : Hid (Code w1 pc a len) := hcode1
  clear hblk1 hblk hcode1 hcode hc
  go_quiet (fail)
  go_wp2
  rw [i64_and255]
  have hx0 : 0 ≤ bits .xor .i64 (H / 8589934592) (H / 35184372088832) % 256 ∧ bits .xor .i64 (H / 8589934592) (H / 35184372088832) % 256 < 256 := by omega
  generalize bits .xor .i64 (H / 8589934592) (H / 35184372088832) % 256 = x at hx0 ⊢
  obtain ⟨hx1, hx2⟩ := hx0
  by_cases hlt : i < (len : Int)
  · have hij : i.toNat < len := by omega
    obtain ⟨b, off, rfl, hbne, y, hy, hcy⟩ := HC.out i.toNat hij
    obtain ⟨k, rfl⟩ := Int.eq_ofNat_of_zero_le hi0
    rw [Int.toNat_natCast] at hcy
    go_quiet (fail)
    go_wp2
    go_quiet (fail)
    go_wp2
    rw [i64_and255]
    go_ret
    have hg2 := fun n => (grownBy_drewN w1 n (some pc)).trans (grownBy_setCell _ pc 1 (.int .i64 ((k : Int) + 1)))
    exact ⟨((x + (y : Int)) % 256).toNat, by omega, by rw [Int.toNat_of_nonneg (by omega)]; rfl,
      ⟨⟨(k : Int) + 1, H, Joins.block_setCell HB.out _, by omega, by omega, hHb⟩, HC.out.grown (hg2 _), hsm⟩, hg1.trans (hg2 _)⟩
  · go_quiet (fail)
    go_wp2
    go_ret
    have hg2 := fun n => grownBy_drewN w1 n (some pc)
    exact ⟨x.toNat, by omega, by rw [Int.toNat_of_nonneg (by omega)]; rfl, ⟨⟨i, H, HB.out, by omega, by omega, hHb⟩, HC.out.grown (hg2 _), hsm⟩, hg1.trans (hg2 _)⟩

theorem ByteR.after {pc : Nat} {a : Option Addr} {len cap : Nat} {w0 w w' : World} {e : Ending} (h0 : w0.grownBy w (some pc)) (h : ByteR pc a len cap w e w') :
    ∃ x : Nat, x < 256 ∧ e = .returned (.int .i64 (x : Int)) ∧ Cur w' pc a len cap ∧ w0.grownBy w' (some pc) := by
  obtain ⟨x, hx, he, hc, hg⟩ := h
  exact ⟨x, hx, he, hc, h0.trans hg⟩

/-- What a draw of a number below n leaves. -/
def BelowR (n : Int) (pc : Nat) (a : Option Addr) (len cap : Nat) (w : World) (e : Ending) (w' : World) : Prop :=
  ∃ x : Nat, (0 < n → (x : Int) < n) ∧ (n ≤ 0 → x = 0) ∧ e = .returned (.int .i64 (x : Int)) ∧ Cur w' pc a len cap ∧ w.grownBy w' (some pc)

set_option maxRecDepth 100000 in
set_option maxHeartbeats 1000000 in
theorem below_any (n : Int) (pc : Nat) (a : Option Addr) (len cap : Nat) (w : World) (hc : Cur w pc a len cap) (hn : n ≤ 9223372036854775807) :
    Calls Try.prog 24 #[.pointer (some ⟨pc, 0, none⟩), .int .i64 n] w fun e w' => BelowR n pc a len cap w e w' := by
  by_cases h0 : n ≤ 0
  · go_enter Try.func24, Try.ntmps24
    go_wp2
    go_ret
    exact ⟨0, by omega, by omega, rfl, hc, World.grownBy.refl _ _⟩
  · by_cases h1 : n ≤ 256
    · go_enter Try.func24, Try.ntmps24
      go_wp2_with (go_at_call 23; refine (byte_any pc a len cap _ hc).mono ?_; rintro e w1 ⟨x, hx, rfl, hc1, hg1⟩)
      go_ret
      have hm1 := Int.emod_nonneg (x : Int) (show n ≠ 0 by omega)
      have hm2 := Int.emod_lt_of_pos (x : Int) (show 0 < n by omega)
      exact ⟨((x : Int) % n).toNat, by omega, by omega, by rw [Int.toNat_of_nonneg hm1]; rfl, hc1, hg1⟩
    · go_enter Try.func24, Try.ntmps24
      go_wp2_with fail
      refine (byte_any pc a len cap _ hc).mono ?_
      rintro e w1 ⟨x, hx, rfl, hc1, hg1⟩
      go_wp2_with fail
      refine (byte_any pc a len cap _ hc1).mono ?_
      rintro e w2 ⟨y, hy, rfl, hc2, hg2⟩
      go_wp2_with fail
      refine (byte_any pc a len cap _ hc2).mono ?_
      rintro e w3 ⟨z, hz, rfl, hc3, hg3⟩
      go_wp2_with fail
      refine (byte_any pc a len cap _ hc3).mono ?_
      rintro e w4 ⟨u, hu, rfl, hc4, hg4⟩
      go_wp2
      go_ret
      have hg : w.grownBy w4 (some pc) := ((hg1.trans hg2).trans hg3).trans hg4
      generalize hX : (x : Int) * 16777216 + (y : Int) * 65536 + (z : Int) * 256 + (u : Int) = X
      have hX0 : 0 ≤ X := by omega
      have hm1 := Int.emod_nonneg X (show n ≠ 0 by omega)
      have hm2 := Int.emod_lt_of_pos X (show 0 < n by omega)
      exact ⟨(X % n).toNat, by omega, by omega, by rw [Int.toNat_of_nonneg hm1, ← hX]; rfl, hc4, hg⟩

theorem once_any (n : Int) (pc : Nat) (a : Option Addr) (len cap : Nat) (w : World) (hc : Cur w pc a len cap) (hn : n ≤ 9223372036854775807) :
    Calls Try.prog 34 #[.pointer (some ⟨pc, 0, none⟩), .int .i64 n] w fun e w' => (e = .returned (.bool true) ∨ e = .returned (.bool false)) ∧ Cur w' pc a len cap ∧ w.grownBy w' (some pc) := by
  go_enter Try.func34, Try.ntmps34
  go_wp2_with (go_at_call 24; refine (below_any n pc a len cap _ hc hn).mono ?_; rintro e w1 ⟨x, hx, hx2, rfl, hc1, hg1⟩)
  go_ret
  refine ⟨?_, hc1, hg1⟩
  by_cases h0 : x = 0
  · left; rw [h0]; rfl
  · right
    have : ((x : Int) == 0) = false := beq_eq_false_iff_ne.2 (by omega)
    show Ending.returned (.bool ((x : Int) == 0)) = _
    rw [this]

end Go.Proofs.Ytichbcpidkkblaa
