/- A cursor made, and what is drawn with it: what spec.l01New, l01Text, l01Long and l01PickInt hand back. -/
import Derived.Test.YthlbokfajiahpaaDraw
import Derived.Test.YthlbokfajiahpaaLong
import Derived.OpenShut
namespace Go.Proofs.Ythlbokfajiahpaa
open Go.RowKit

theorem i64_and30 (n : Int) : bits .and .i64 n 1073741823 = n % 1073741824 := by
  have h1 : (BitVec.ofInt 64 n &&& BitVec.ofInt 64 1073741823).toNat = (BitVec.ofInt 64 n).toNat % 2 ^ 30 := by
    rw [BitVec.toNat_and]
    have e : (BitVec.ofInt 64 1073741823).toNat = 2 ^ 30 - 1 := by decide
    rw [e, Nat.and_two_pow_sub_one_eq_mod]
  show IntKind.i64.wrap ((BitVec.ofInt 64 n &&& BitVec.ofInt 64 1073741823).toNat : Int) = _
  rw [h1, BitVec.toNat_ofInt, IntWalk.i64_in _ ⟨by omega, by omega⟩]
  omega

/-- The bytes of a slice that can be read. -/
def CodeIn (w : World) (a : Option Addr) (len : Nat) : Prop :=
  ∀ j, j < len → ∃ b off : Nat, a = some ⟨b, off, none⟩ ∧ b < w.heap.size ∧ ∃ x : Nat, x < 256 ∧ w.cell? ⟨b, off + j, none⟩ = some (.int .u8 (x : Int))

theorem CodeIn.later {w w' : World} {a : Option Addr} {len : Nat} (h : CodeIn w a len) (hb : Below w.heap.size w w') : CodeIn w' a len := by
  intro j hj
  obtain ⟨b, off, ha, hlt, x, hx, hc⟩ := h j hj
  exact ⟨b, off, ha, Nat.lt_of_lt_of_le hlt hb.size, x, hx, (hb.cell (p := ⟨b, off + j, none⟩) hlt).trans hc⟩

theorem codeIn_of_row {W : World} {x : Addr} {len cap : Nat} {zs : List Int} (hl : len ≤ cap) (hz : zs.length = cap) (hcell : ∀ i, i < zs.length → W.cell? (x.add i) = some (.int .u8 (zs.getD i 0)))
    (hwz : ∀ n ∈ zs, (Lit.int .u8 n).wf = true) : CodeIn W (some x) len := by
  intro j hj
  obtain ⟨b, off, spot⟩ := x
  have hc0 := hcell 0 (by omega)
  have hspot : spot = none := by simpa [Addr.add] using World.cell?_spot hc0
  subst hspot
  have hc := hcell j (by omega)
  have hm : zs.getD j 0 ∈ zs := by
    rw [List.getD_eq_getElem?_getD, List.getElem?_eq_getElem (show j < zs.length by omega)]
    exact List.getElem_mem _
  have hb := bounds_u8 (hwz _ hm)
  have hc2 : W.cell? ⟨b, off + j, none⟩ = some (.int .u8 (zs.getD j 0)) := by rw [Addr.add_lit] at hc; exact hc
  refine ⟨b, off, rfl, World.block_lt_of_cell? W _ hc2, (zs.getD j 0).toNat, by omega, ?_⟩
  rw [hc2, Int.toNat_of_nonneg hb.1]

/-- A new cursor. -/
def NewR (a : Option Addr) (len cap : Nat) (w : World) (e : Ending) (w' : World) : Prop :=
  ∃ pc : Nat, w.heap.size ≤ pc ∧ e = .returned (.pointer (some ⟨pc, 0, none⟩)) ∧ Cur w' pc a len cap ∧ Below w.heap.size w w'

theorem newR_mk {a : Option Addr} {len cap : Nat} {w : World} (hcode : CodeIn w a len) (hs : len ≤ 1048576) (h : Int) (h1 : -9223372036854775808 ≤ h ∧ h ≤ 9223372036854775807) :
    NewR a len cap w (.returned (.pointer (some ⟨w.heap.size, 0, none⟩))) (w.alloc (.cells #[.slice a len cap, .int .i64 0, .int .i64 h] 129)) := by
  have hb : Below w.heap.size w (w.alloc (.cells #[.slice a len cap, .int .i64 0, .int .i64 h] 129)) := (Below.refl _ _).alloc (Nat.le_refl _) _
  refine ⟨w.heap.size, Nat.le_refl _, rfl, ⟨⟨0, h, heap_alloc_new w _, by omega, by omega, h1⟩, ?_, hs⟩, hb⟩
  intro j hj
  obtain ⟨b, off, ha, hlt, x, hx, hc⟩ := hcode j hj
  exact ⟨b, off, ha, by omega, x, hx, (hb.cell (p := ⟨b, off + j, none⟩) hlt).trans hc⟩

set_option maxRecDepth 100000 in
set_option maxHeartbeats 1000000 in
theorem new_any (a : Option Addr) (len cap : Nat) (w : World) (hcode : CodeIn w a len) (hs : len ≤ 1048576) :
    Calls Try.prog 47 #[.slice a len cap] w fun e w' => NewR a len cap w e w' := by
  go_enter Try.func47, Try.ntmps47
  go_wp2
  go_loop [3, 4] (fun hv iv => ∃ (k : Nat) (h : Int), k ≤ len ∧ iv = .int .i64 (k : Int) ∧ hv = .int .i64 h ∧ 0 ≤ h ∧ h ≤ 1073741824) (fun _ iv => len - (intOf iv).toNat)
  case atStart => exact ⟨0, _, by omega, rfl, rfl, by omega, by omega⟩
  case round =>
    obtain ⟨k, h, hk, rfl, rfl, hh0, hh1⟩ := hrel
    by_cases hlt : k < len ∧ k < 4000
    · obtain ⟨h1, h2⟩ := hlt
      obtain ⟨b, off, rfl, hb, x, hx, hc⟩ := hcode k h1
      go_wp2
      rw [i64_and30]
      go_round
      case rel => exact ⟨k + 1, _, by omega, by go_num, rfl, by omega, by omega⟩
      case measure => simp [intOf]; omega
    · by_cases h1 : k < len
      · have h2 : ¬ k < 4000 := fun h => hlt ⟨h1, h⟩
        clear hlt
        go_wp2
        go_ret
        exact newR_mk hcode hs h ⟨by omega, by omega⟩
      · clear hlt
        go_wp2
        go_ret
        exact newR_mk hcode hs h ⟨by omega, by omega⟩

theorem grownBy_below {w w1 w2 : World} {r : Option Nat} {B : Nat} (h : w.grownBy w1 r) (hb : Below B w1 w2) (hB : w.heap.size ≤ B) : w.grownBy w2 r :=
  ⟨hb.os.trans h.os, hb.tape.trans h.tape, hb.output.trans h.output, Nat.le_trans h.size hb.size, fun k hk hne => (hb.block k (Nat.lt_of_lt_of_le hk hB)).trans (h.block k hk hne)⟩

theorem Cur.below {w w' : World} {pc : Nat} {a : Option Addr} {len cap B : Nat} (h : Cur w pc a len cap) (hb : Below B w w') (hp : pc < B) (hcb : ∀ b off, a = some ⟨b, off, none⟩ → 0 < len → b < B) : Cur w' pc a len cap := by
  obtain ⟨i, hh, hblk, h1, h2, h3⟩ := h.blk
  refine ⟨⟨i, hh, (hb.block pc hp).trans hblk, h1, h2, h3⟩, ?_, h.small⟩
  intro j hj
  obtain ⟨b, off, ha, hne, x, hx, hc⟩ := h.code j hj
  exact ⟨b, off, ha, hne, x, hx, (hb.cell (p := ⟨b, off + j, none⟩) (hcb b off ha (by omega))).trans hc⟩

theorem Cur.codeLt {w : World} {pc : Nat} {a : Option Addr} {len cap : Nat} (h : Cur w pc a len cap) : ∀ b off, a = some ⟨b, off, none⟩ → 0 < len → b < w.heap.size := by
  intro b off ha h0
  obtain ⟨b', off', ha', _, x, _, hc⟩ := h.code 0 h0
  rw [ha] at ha'
  have e := Option.some.inj ha'
  injection e with e1 e2
  subst e1
  exact World.block_lt_of_cell? w _ hc

theorem Cur.lt {w : World} {pc : Nat} {a : Option Addr} {len cap : Nat} (h : Cur w pc a len cap) : pc < w.heap.size := by
  obtain ⟨i, hh, hblk, _⟩ := h.blk
  exact lt_of_heap hblk

/-- What is built anew stays where it is while the cursor goes on. -/
theorem Buf.cursor {B : Nat} {w w' : World} {v : Value} {l : List UInt8} {pc : Nat} (h : Buf B w w v l) (hg : w.grownBy w' (some pc)) (hp : pc < B) : Buf B w' w' v l := by
  refine ⟨h.own.kept hg ?_, Below.refl _ _, Nat.le_trans h.le hg.size⟩
  cases hv : v.ownBlock with
  | none => exact .inl rfl
  | some k => exact .inr (by intro e; have := (h.own.lt k hv).1; have := Option.some.inj e; omega)

theorem Buf.here {B : Nat} {w0 w : World} {v : Value} {l : List UInt8} (h : Buf B w0 w v l) : Buf B w w v l := ⟨h.own, Below.refl _ _, h.le⟩

/-- A drawn text. -/
def TextR (n : Int) (pc : Nat) (a : Option Addr) (len cap : Nat) (w : World) (e : Ending) (w' : World) : Prop :=
  ∃ s : ByteArray, s.size ≤ 5000 ∧ ((s.size : Int) = n ∨ (n ≤ 0 ∧ s.size = 0)) ∧ e = .returned (.string s) ∧ Cur w' pc a len cap ∧ w.grownBy w' (some pc)

set_option maxRecDepth 100000 in
set_option maxHeartbeats 1000000 in
theorem dtext_any (n : Int) (pc : Nat) (a : Option Addr) (len cap : Nat) (w : World) (hc : Cur w pc a len cap) (hn : n ≤ 5000) :
    Calls Try.prog 90 #[.pointer (some ⟨pc, 0, none⟩), .int .i64 n] w fun e w' => TextR n pc a len cap w e w' := by
  have hst := Buf.fresh w #[] 0 rfl (by decide)
  have hpc := hc.lt
  have hcl := hc.codeLt
  go_enter Try.func90, Try.ntmps90
  go_wp2
  go_loopw [5, 6] (fun v iv wr => ∃ (k : Nat) (l : List UInt8), (k : Int) ≤ max n 0 ∧ iv = .int .i64 (k : Int) ∧ l.length = k ∧ Buf w.heap.size wr wr v l ∧ Cur wr pc a len cap ∧ w.grownBy wr (some pc)) (fun _ iv _ => (n - intOf iv).toNat)
  case atStart => exact ⟨0, [], by omega, rfl, rfl, hst.here, hc.below hst.bel hpc hcl, grownBy_below (World.grownBy.refl _ _) hst.bel (Nat.le_refl _)⟩
  case round =>
    obtain ⟨k, l, hk, rfl, hlk, hb, hcr, hgr⟩ := hrel
    by_cases hlt : (k : Int) < n
    · go_wp2_with fail
      refine (byte_any pc a len cap _ hcr).mono ?_
      rintro e w1 ⟨x, hx, rfl, hc1, hg1⟩
      have hb1 := hb.cursor hg1 hpc
      obtain ⟨c, hc0⟩ : ∃ c : UInt8, UInt8.ofNat x = c := ⟨_, rfl⟩
      have hcn : Hid (c.toNat = x) := by rw [← hc0, UInt8.toNat_ofNat']; show x % 2 ^ 8 = x; omega
      clear hc0
      go_wp2_with (at_builtin; refine wpList_append_bytes rfl _ _ rfl _ _ l rfl (hb1.alloc _) ⟨w1.heap.size, 0, none⟩ [c] 1 rfl ?c1 ?c2 ?_)
      case c1 => exact one_new _ _ _ (by rw [hcn.out])
      case c2 => simp; omega
      intro v' w2 hb2
      have hcr2 : Cur w2 pc a len cap := hc1.below hb2.bel hpc hcl
      have hgr2 : w.grownBy w2 (some pc) := grownBy_below (hgr.trans hg1) hb2.bel (Nat.le_refl _)
      have hb3 := hb2.here
      clear hb2 hb1 hc1 hg1 hb hcr hgr
      go_wp2
      go_roundw
      case rel => exact ⟨k + 1, l ++ [c], by omega, by go_num, by simp [hlk], hb3, hcr2, hgr2⟩
      case measure => simp [intOf]; omega
    · have hcv := hb.toString
      go_wp2
      go_ret
      have hsz : (ByteArray.mk l.toArray).size = k := by simp [ByteArray.size, hlk]
      exact ⟨⟨l.toArray⟩, by rw [hsz]; omega, by rw [hsz]; omega, rfl, hcr, hgr⟩

/-- One of a list of numbers. -/
def PickR (g n pc : Nat) (a : Option Addr) (len cap : Nat) (w : World) (e : Ending) (w' : World) : Prop :=
  ∃ (j : Nat) (x : Int), j < n ∧ w.cell? ⟨g, j, none⟩ = some (.int .i64 x) ∧ e = .returned (.int .i64 x) ∧ Cur w' pc a len cap ∧ w.grownBy w' (some pc)

set_option maxRecDepth 100000 in
set_option maxHeartbeats 1000000 in
theorem pickInt_any (g n cp pc : Nat) (a : Option Addr) (len cap : Nat) (w : World) (hc : Cur w pc a len cap) (hn : 0 < n) (_hn2 : n ≤ cp) (hn3 : n ≤ 1048576) (hne : g ≠ pc)
    (hcells : ∀ j, j < n → ∃ x : Int, w.cell? ⟨g, j, none⟩ = some (.int .i64 x)) :
    Calls Try.prog 105 #[.pointer (some ⟨pc, 0, none⟩), .slice (some ⟨g, 0, none⟩) n cp] w fun e w' => PickR g n pc a len cap w e w' := by
  have HC : Hid (∀ j, j < n → ∃ x : Int, w.cell? ⟨g, j, none⟩ = some (.int .i64 x)) := hcells
  clear hcells
  go_enter Try.func105, Try.ntmps105
  go_wp2_with fail
  refine (below_any (n : Int) pc a len cap _ hc (by omega)).mono ?_
  rintro e w1 ⟨j, hj, _, rfl, hc1, hg1⟩
  have hj1 : j < n := by have := hj (by omega); omega
  obtain ⟨x, hx⟩ := HC.out j hj1
  have hx1 : w1.cell? ⟨g, j, none⟩ = some (.int .i64 x) := hg1.cell hx (fun e => hne (Option.some.inj e))
  have hj2 : (j : Int) < (n : Int) := by omega
  clear hj
  go_wp2
  go_ret
  exact ⟨j, x, hj1, hx, rfl, hc1, hg1⟩

end Go.Proofs.Ythlbokfajiahpaa
