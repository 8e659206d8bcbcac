/- A cursor made, and what is drawn with it: what spec.l01New, l01Text, l01Long and l01PickInt hand back. -/
import Derived.Test.YtichbcpidkkblaaDraw
import Derived.Test.YtichbcpidkkblaaLong
import Derived.OpenShut
namespace Go.Proofs.Ytichbcpidkkblaa
open Go.RowKit

theorem i64_and30 (n : Int) : bits .and .i64 n 1073741823 = n % 1073741824 := by
  have h1 : (BitVec.ofInt 64 n &&& BitVec.ofInt 64 1073741823).toNat = (BitVec.ofInt 64 n).toNat % 2 ^ 30 := by
    rw [BitVec.toNat_and]
    have e : (BitVec.ofInt 64 1073741823).toNat = 2 ^ 30 - 1 := by decide
    rw [e, Nat.and_two_pow_sub_one_eq_mod]
  show IntKind.i64.wrap ((BitVec.ofInt 64 n &&& BitVec.ofInt 64 1073741823).toNat : Int) = _
  rw [h1, BitVec.toNat_ofInt, IntWalk.i64_in _ ⟨by omega, by omega⟩]
  omega

/-- The bytes of a slice that can be read. -/
def CodeIn (w : World) (a : Option Addr) (len : Nat) : Prop :=
  ∀ j, j < len → ∃ b off : Nat, a = some ⟨b, off, none⟩ ∧ b < w.heap.size ∧ ∃ x : Nat, x < 256 ∧ w.cell? ⟨b, off + j, none⟩ = some (.int .u8 (x : Int))

theorem CodeIn.later {w w' : World} {a : Option Addr} {len : Nat} (h : CodeIn w a len) (hb : Below w.heap.size w w') : CodeIn w' a len := by
  intro j hj
  obtain ⟨b, off, ha, hlt, x, hx, hc⟩ := h j hj
  exact ⟨b, off, ha, Nat.lt_of_lt_of_le hlt hb.size, x, hx, (hb.cell (p := ⟨b, off + j, none⟩) hlt).trans hc⟩

theorem codeIn_of_row {W : World} {x : Addr} {len cap : Nat} {zs : List Int} (hl : len ≤ cap) (hz : zs.length = cap) (hcell : ∀ i, i < zs.length → W.cell? (x.add i) = some (.int .u8 (zs.getD i 0)))
    (hwz : ∀ n ∈ zs, (Lit.int .u8 n).wf = true) : CodeIn W (some x) len := by
  intro j hj
  obtain ⟨b, off, spot⟩ := x
  have hc0 := hcell 0 (by omega)
  have hspot : spot = none := by simpa [Addr.add] using World.cell?_spot hc0
  subst hspot
  have hc := hcell j (by omega)
  have hm : zs.getD j 0 ∈ zs := by
    rw [List.getD_eq_getElem?_getD, List.getElem?_eq_getElem (show j < zs.length by omega)]
    exact List.getElem_mem _
  have hb := bounds_u8 (hwz _ hm)
  have hc2 : W.cell? ⟨b, off + j, none⟩ = some (.int .u8 (zs.getD j 0)) := by rw [Addr.add_lit] at hc; exact hc
  refine ⟨b, off, rfl, World.block_lt_of_cell? W _ hc2, (zs.getD j 0).toNat, by omega, ?_⟩
  rw [hc2, Int.toNat_of_nonneg hb.1]

/-- A new cursor. -/
def NewR (a : Option Addr) (len cap : Nat) (w : World) (e : Ending) (w' : World) : Prop :=
  ∃ pc : Nat, w.heap.size ≤ pc ∧ e = .returned (.pointer (some ⟨pc, 0, none⟩)) ∧ Cur w' pc a len cap ∧ Below w.heap.size w w'

theorem newR_mk {a : Option Addr} {len cap : Nat} {w : World} (hcode : CodeIn w a len) (hs : len ≤ 1048576) (h : Int) (h1 : -9223372036854775808 ≤ h ∧ h ≤ 9223372036854775807) :
    NewR a len cap w (.returned (.pointer (some ⟨w.heap.size, 0, none⟩))) (w.alloc (.cells #[.slice a len cap, .int .i64 0, .int .i64 h] 59)) := by
  have hb : Below w.heap.size w (w.alloc (.cells #[.slice a len cap, .int .i64 0, .int .i64 h] 59)) := (Below.refl _ _).alloc (Nat.le_refl _) _
  refine ⟨w.heap.size, Nat.le_refl _, rfl, ⟨⟨0, h, heap_alloc_new w _, by omega, by omega, h1⟩, ?_, hs⟩, hb⟩
  intro j hj
  obtain ⟨b, off, ha, hlt, x, hx, hc⟩ := hcode j hj
  exact ⟨b, off, ha, by omega, x, hx, (hb.cell (p := ⟨b, off + j, none⟩) hlt).trans hc⟩

set_option maxRecDepth 100000 in
set_option maxHeartbeats 1000000 in
theorem new_any (a : Option Addr) (len cap : Nat) (w : World) (hcode : CodeIn w a len) (hs : len ≤ 1048576) :
    Calls Try.prog 22 #[.slice a len cap] w fun e w' => NewR a len cap w e w' := by
  go_enter Try.func22, Try.ntmps22
  go_wp2
  go_loop [3, 4] (fun hv iv => ∃ (k : Nat) (h : Int), k ≤ len ∧ iv = .int .i64 (k : Int) ∧ hv = .int .i64 h ∧ 0 ≤ h ∧ h ≤ 1073741824) (fun _ iv => len - (intOf iv).toNat)
  case atStart => exact ⟨0, _, by omega, rfl, rfl, by omega, by omega⟩
  case round =>
    obtain ⟨k, h, hk, rfl, rfl, hh0, hh1⟩ := hrel
    by_cases hlt : k < len ∧ k < 4000
    · obtain ⟨h1, h2⟩ := hlt
      obtain ⟨b, off, rfl, hb, x, hx, hc⟩ := hcode k h1
      go_wp2
      rw [i64_and30]
      go_round
      case rel => exact ⟨k + 1, _, by omega, by go_num, rfl, by omega, by omega⟩
      case measure => simp [intOf]; omega
    · by_cases h1 : k < len
      · have h2 : ¬ k < 4000 := fun h => hlt ⟨h1, h⟩
        clear hlt
        go_wp2
        go_ret
        exact newR_mk hcode hs h ⟨by omega, by omega⟩
      · clear hlt
        go_wp2
        go_ret
        exact newR_mk hcode hs h ⟨by omega, by omega⟩

theorem grownBy_below {w w1 w2 : World} {r : Option Nat} {B : Nat} (h : w.grownBy w1 r) (hb : Below B w1 w2) (hB : w.heap.size ≤ B) : w.grownBy w2 r :=
  ⟨hb.os.trans h.os, hb.tape.trans h.tape, hb.output.trans h.output, Nat.le_trans h.size hb.size, fun k hk hne => (hb.block k (Nat.lt_of_lt_of_le hk hB)).trans (h.block k hk hne)⟩

theorem Cur.below {w w' : World} {pc : Nat} {a : Option Addr} {len cap B : Nat} (h : Cur w pc a len cap) (hb : Below B w w') (hp : pc < B) (hcb : ∀ b off, a = some ⟨b, off, none⟩ → 0 < len → b < B) : Cur w' pc a len cap := by
  obtain ⟨i, hh, hblk, h1, h2, h3⟩ := h.blk
  refine ⟨⟨i, hh, (hb.block pc hp).trans hblk, h1, h2, h3⟩, ?_, h.small⟩
  intro j hj
  obtain ⟨b, off, ha, hne, x, hx, hc⟩ := h.code j hj
  exact ⟨b, off, ha, hne, x, hx, (hb.cell (p := ⟨b, off + j, none⟩) (hcb b off ha (by omega))).trans hc⟩

theorem Cur.codeLt {w : World} {pc : Nat} {a : Option Addr} {len cap : Nat} (h : Cur w pc a len cap) : ∀ b off, a = some ⟨b, off, none⟩ → 0 < len → b < w.heap.size := by
  intro b off ha h0
  obtain ⟨b', off', ha', _, x, _, hc⟩ := h.code 0 h0
  rw [ha] at ha'
  have e := Option.some.inj ha'
  injection e with e1 e2
  subst e1
  exact World.block_lt_of_cell? w _ hc

theorem Cur.lt {w : World} {pc : Nat} {a : Option Addr} {len cap : Nat} (h : Cur w pc a len cap) : pc < w.heap.size := by
  obtain ⟨i, hh, hblk, _⟩ := h.blk
  exact lt_of_heap hblk

/-- What is built anew stays where it is while the cursor goes on. -/
theorem Buf.cursor {B : Nat} {w w' : World} {v : Value} {l : List UInt8} {pc : Nat} (h : Buf B w w v l) (hg : w.grownBy w' (some pc)) (hp : pc < B) : Buf B w' w' v l := by
  refine ⟨h.own.kept hg ?_, Below.refl _ _, Nat.le_trans h.le hg.size⟩
  cases hv : v.ownBlock with
  | none => exact .inl rfl
  | some k => exact .inr (by intro e; have := (h.own.lt k hv).1; have := Option.some.inj e; omega)

theorem Buf.here {B : Nat} {w0 w : World} {v : Value} {l : List UInt8} (h : Buf B w0 w v l) : Buf B w w v l := ⟨h.own, Below.refl _ _, h.le⟩

/-- A drawn text. -/
def TextR (n : Int) (pc : Nat) (a : Option Addr) (len cap : Nat) (w : World) (e : Ending) (w' : World) : Prop :=
  ∃ s : ByteArray, s.size ≤ 5000 ∧ ((s.size : Int) = n ∨ (n ≤ 0 ∧ s.size = 0)) ∧ e = .returned (.string s) ∧ Cur w' pc a len cap ∧ w.grownBy w' (some pc)


/-- One of a list of numbers. -/
def PickR (g n pc : Nat) (a : Option Addr) (len cap : Nat) (w : World) (e : Ending) (w' : World) : Prop :=
  ∃ (j : Nat) (x : Int), j < n ∧ w.cell? ⟨g, j, none⟩ = some (.int .i64 x) ∧ e = .returned (.int .i64 x) ∧ Cur w' pc a len cap ∧ w.grownBy w' (some pc)


end Go.Proofs.Ytichbcpidkkblaa
