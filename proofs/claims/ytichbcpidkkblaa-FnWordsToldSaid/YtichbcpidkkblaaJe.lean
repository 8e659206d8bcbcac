/- Texts of our own, joined. -/
import Derived.Test.YtichbcpidkkblaaJd
import Derived.Lib.ConvBytes
import Derived.WalkSmall
import Derived.Deep.Cut
import Derived.Test.YtichbcpidkkblaaJa
import Derived.Lib.SmallJoins
import Derived.Shelf.Strings.Builder1
import Derived.Shelf.Lays
import Derived.Shelf.Strings.BuilderK
import Derived.Test.YtichbcpidkkblaaJc
import Derived.WalkSpells
import Derived.Lib.Hide
/- Lower letters: LowWord of the model. -/
namespace Go.Proofs.Ytichbcpidkkblaa
open Go.RowKit

/-- The bytes l stand in the block g, and may be written. -/
def BtAt (w : World) (g : Nat) (l : List UInt8) : Prop := ∀ (j : Nat) (b : UInt8), l[j]? = some b → w.cell? ⟨g, j, none⟩ = some (.int .u8 (b.toNat : Int)) ∧ w.frozen? ⟨g, j, none⟩ = false

theorem BtAt.set {w : World} {g : Nat} {l : List UInt8} (h : BtAt w g l) (i : Nat) (hi : i < l.length) (c : UInt8) : BtAt (w.setCell ⟨g, i, none⟩ (.int .u8 (c.toNat : Int))) g (l.set i c) := by
  intro j b hj
  have hlt : j < l.length := by have := (List.getElem?_eq_some_iff.1 hj).1; rwa [List.length_set] at this
  have hfr := (h j l[j] (List.getElem?_eq_getElem hlt)).2
  refine ⟨?_, by rw [World.frozen?_setCell]; exact hfr⟩
  by_cases hij : i = j
  · subst hij
    rw [List.getElem?_set_self hi] at hj
    rw [World.cell?_setCell_same _ _ _ (h i l[i] (List.getElem?_eq_getElem hi)).1, Option.some.inj hj]
  · rw [List.getElem?_set_ne hij] at hj
    rw [World.cell?_setCell_other _ _ _ _ (by intro e; exact hij (by injection e))]
    exact (h j b hj).1

theorem BtAt.toString {w : World} {g : Nat} {l : List UInt8} (h : BtAt w g l) (cap n : Nat) (hn : l.length = n) :
    (convert 22 9 (.slice (some ⟨g, 0, none⟩) n cap)).run Try.prog w = .ok (.string ⟨l.toArray⟩) w := by
  subst hn
  refine run_convert_bytes_back (P := Try.prog) w 22 9 5 ⟨g, 0, none⟩ cap l Try.underlying22 Try.underlying5 Try.underlying9 fun j hj => ?_
  rw [Addr.add_lit, Nat.zero_add]
  have := (h j l[j] (List.getElem?_eq_getElem hj)).1
  simpa [hj] using this

theorem ba_self (s : ByteArray) : (⟨s.data.toList.toArray⟩ : ByteArray) = s := by obtain ⟨⟨l⟩⟩ := s; rfl

/-- The bytes of a text, in the row that []byte makes of it. -/
theorem btAt_new (w : World) (l : List UInt8) : BtAt (Lib.bytesWorld w 5 ⟨l.toArray⟩) w.heap.size l := by
  intro j b hj
  have hlt : j < l.length := (List.getElem?_eq_some_iff.1 hj).1
  refine ⟨?_, ?_⟩
  · have := Lib.bytesWorld_cell w 5 ⟨l.toArray⟩ j (by simpa [ByteArray.size] using hlt)
    rw [this]
    simp [List.getD, hj]
  · have h : j < (Lib.bytesCells w 5 ⟨l.toArray⟩).size := by simp [Lib.bytesCells, ByteArray.size]; omega
    unfold World.frozen?
    rw [Lib.bytesWorld_at_new]
    simp
    have h' := h
    simp [Lib.bytesCells, ByteArray.size] at h' ⊢
    omega

theorem below_bt (w : World) (s : ByteArray) : Below w.heap.size w (Lib.bytesWorld w 5 s) :=
  (Below.refl _ _).grown (⟨rfl, rfl, rfl, by rw [Lib.bytesWorld_size]; omega, fun k hk _ => Lib.bytesWorld_at_old w 5 s k hk⟩ : w.grownBy (Lib.bytesWorld w 5 s) none) (Nat.le_refl _) (fun k hk => by cases hk)

/-- So many bytes are lower letters already. -/
def lowL (l : List UInt8) (i : Nat) : List UInt8 := (l.take i).map lowB ++ l.drop i
theorem lowL_len (l : List UInt8) (i : Nat) (hi : i ≤ l.length) : (lowL l i).length = l.length := by simp [lowL]; omega
theorem lowL_at {l : List UInt8} {i : Nat} (hi : i < l.length) : (lowL l i)[i]? = some l[i] := by
  have h : ((l.take i).map lowB).length = i := by simp; omega
  unfold lowL
  rw [List.getElem?_append_right (by omega), h, Nat.sub_self, List.getElem?_drop, Nat.add_zero]
  exact List.getElem?_eq_getElem hi
theorem lowL_next {l : List UInt8} {i : Nat} (hi : i < l.length) : lowL l (i + 1) = (lowL l i).set i (lowB l[i]) := by
  have h : ((l.take i).map lowB).length = i := by simp; omega
  unfold lowL
  rw [List.set_append_right _ _ (by omega), h, Nat.sub_self, List.take_succ_eq_append_getElem hi, List.map_append, List.append_assoc, List.drop_eq_getElem_cons hi]
  rfl
theorem lowL_all (l : List UInt8) : lowL l l.length = l.map lowB := by simp [lowL]
theorem lowB_up {b : UInt8} (h1 : 65 ≤ b.toNat) (h2 : b.toNat ≤ 90) : ((lowB b).toNat : Int) = (b.toNat : Int) + 32 := by
  rw [lowB, if_pos ⟨h1, h2⟩, UInt8.toNat_add]
  have : (32 : UInt8).toNat = 32 := rfl
  omega

set_option maxRecDepth 100000 in
set_option maxHeartbeats 4000000 in
theorem specLowWord_any (s : ByteArray) (w : World) (hs : s.size ≤ 1099511627776) :
    Calls Try.prog 19 #[.string s] w fun e w' => e = .returned (.string (lowW s)) ∧ Below w.heap.size w w' := by
  have hconv : ∀ wx, (convert 9 22 (.string s)).run Try.prog wx = .ok (.slice (some ⟨wx.heap.size, 0, none⟩) s.size (grownCap wx s.size 0 5)) (Lib.bytesWorld wx 5 s) :=
    fun wx => Lib.run_convert_string_bytes (P := Try.prog) wx 9 22 5 s Try.underlying9 Try.underlying22 Try.underlying5
  have hb := below_bt w s
  have hat := btAt_new w s.data.toList
  rw [ba_self] at hat
  have hlen : s.data.toList.length = s.size := by rw [Array.length_toList]; rfl
  obtain ⟨l, hl⟩ : ∃ l, s.data.toList = l := ⟨_, rfl⟩
  have hlw : lowW s = ⟨(l.map lowB).toArray⟩ := by unfold lowW; rw [hl]
  rw [hlw]
  rw [hl] at hat hlen
  clear hl hlw
  go_enter Try.func19, Try.ntmps19
  go_upto_region 2 with fail
  clear hconv
  generalize grownCap w s.size 0 5 = C
  generalize Lib.bytesWorld w 5 s = w1 at *
  obtain ⟨g, hg⟩ : ∃ g, w.heap.size = g := ⟨_, rfl⟩
  have HG := Lib.hid hg
  rw [hg] at hat hb ⊢
  clear hg
  generalize s.size = n at *
  have HL := Lib.hid hlen
  go_wp2
  go_loopw [4] (fun iv wr => ∃ i : Nat, i ≤ n ∧ iv = .int .i64 (i : Int) ∧ BtAt wr g (lowL l i) ∧ Below g w wr) (fun iv _ => n - (intOf iv).toNat)
  case atStart => exact ⟨0, by omega, rfl, by simpa [lowL] using hat, hb⟩
  case round =>
    obtain ⟨i, hi, rfl, hA, hB⟩ := hrel
    have HA := Lib.hid hA
    have HB := Lib.hid hB
    clear hA hB hat hb
    by_cases hlt : i < n
    · have hi0 : (0 : Int) ≤ (i : Int) := by omega
      have hi1 : (i : Int) < (n : Int) := by omega
      have hil : i < l.length := by have := HL.out; omega
      obtain ⟨p0, f0⟩ := HA.out i _ (lowL_at hil)
      have HST : Hid (BtAt (wr.setCell ⟨g, i, none⟩ (.int .u8 ((lowB l[i]).toNat : Int))) g (lowL l (i + 1))) := by
        rw [lowL_next hil]
        exact HA.out.set i (by rw [lowL_len l i (by omega)]; exact hil) _
      have HNO : Hid (¬ (65 ≤ l[i].toNat ∧ l[i].toNat ≤ 90) → lowL l (i + 1) = lowL l i) := fun h => by
        rw [lowL_next hil, lowB, if_neg h]
        exact List.ext_getElem? fun j => by
          by_cases c : i = j
          · subst c; rw [List.getElem?_set_self (by rw [lowL_len l i (by omega)]; exact hil), lowL_at hil]
          · rw [List.getElem?_set_ne c]
      have HUP : Hid (65 ≤ l[i].toNat → l[i].toNat ≤ 90 → ((lowB l[i]).toNat : Int) = (l[i].toNat : Int) + 32) := fun a b => lowB_up a b
      have HLI := Lib.hid hil
      generalize l[i] = b at *
      generalize lowB b = c at *
      by_cases u1 : 65 ≤ b.toNat
      · have v1 : (65 : Int) ≤ (b.toNat : Int) := by omega
        by_cases u2 : b.toNat ≤ 90
        · have v2 : (b.toNat : Int) ≤ 90 := by omega
          have hc := HUP.out u1 u2
          rw [hc] at HST
          have hw : IntKind.u8.wrap ((b.toNat : Int) + 32) = (b.toNat : Int) + 32 := IntWalk.u8_in _ ⟨by omega, by omega⟩
          have HBS := Lib.hid (HB.out.setCell (p := ⟨g, i, none⟩) (Nat.le_refl _) (.int .u8 ((b.toNat : Int) + 32)))
          clear hc u1 u2 hil
          generalize (b.toNat : Int) = y at *
          go_wp2
          go_roundw
          case rel => exact ⟨i + 1, by omega, by go_num, HST.out, HBS.out⟩
          case measure => simp [intOf]; omega
        · have v2 : ¬ ((b.toNat : Int) ≤ 90) := by omega
          have HK : Hid (BtAt wr g (lowL l (i + 1))) := by show BtAt wr g (lowL l (i + 1)); rw [HNO.out (fun h => u2 h.2)]; exact HA.out
          clear u1 u2 hil
          generalize (b.toNat : Int) = y at *
          go_wp2
          go_roundw
          case rel => exact ⟨i + 1, by omega, by go_num, HK.out, HB.out⟩
          case measure => simp [intOf]; omega
      · have v1 : ¬ ((65 : Int) ≤ (b.toNat : Int)) := by omega
        have HK : Hid (BtAt wr g (lowL l (i + 1))) := by show BtAt wr g (lowL l (i + 1)); rw [HNO.out (fun h => u1 h.1)]; exact HA.out
        clear u1 hil
        generalize (b.toNat : Int) = y at *
        go_wp2
        go_roundw
        case rel => exact ⟨i + 1, by omega, by go_num, HK.out, HB.out⟩
        case measure => simp [intOf]; omega
    · have e : lowL l i = l.map lowB := by rw [← lowL_all, show i = l.length by have := HL.out; omega]
      have hcv := (HA.out.toString C n (by rw [lowL_len l i (by have := HL.out; omega)]; exact HL.out))
      rw [e] at hcv
      clear e
      go_wp2
      go_ret
      exact ⟨rfl, by rw [HG.out]; exact HB.out⟩

end Go.Proofs.Ytichbcpidkkblaa

/- What a value owns: its memory lies between two marks of the heap, and what is written elsewhere leaves it alone. -/
namespace Go.Proofs.Ytichbcpidkkblaa
open Go.RowKit

/-- Whatever was there outside the blocks B .. T-1 is as it was. -/
structure Kept (B T : Nat) (w w' : World) : Prop where
  os : w'.os = w.os
  tape : w'.tape = w.tape
  output : w'.output = w.output
  size : w.heap.size ≤ w'.heap.size
  block : ∀ k, k < w.heap.size → (k < B ∨ T ≤ k) → w'.heap[k]? = w.heap[k]?

theorem Kept.of_below {w w' : World} (hb : Below w.heap.size w w') (B T : Nat) : Kept B T w w' := ⟨hb.os, hb.tape, hb.output, hb.size, fun k hk _ => hb.block k hk⟩
theorem Kept.of_grown {w w' : World} {r : Option Nat} {B T : Nat} (h : w.grownBy w' r) (hr : ∀ k, r = some k → B ≤ k ∧ k < T) : Kept B T w w' :=
  ⟨h.os, h.tape, h.output, h.size, fun k hk hout => h.block k hk (fun e => by have := hr k e.symm; omega)⟩
theorem Kept.trans {B T : Nat} {w w1 w2 : World} (h : Kept B T w w1) (h2 : Kept B T w1 w2) : Kept B T w w2 :=
  ⟨h2.os.trans h.os, h2.tape.trans h.tape, h2.output.trans h.output, Nat.le_trans h.size h2.size, fun k hk hout => (h2.block k (Nat.lt_of_lt_of_le hk h.size) hout).trans (h.block k hk hout)⟩
theorem Kept.below {B T B0 : Nat} {w0 w w' : World} (h : Kept B T w w') (hb : Below B0 w0 w) (h0 : B0 ≤ B) (hs : B0 ≤ w.heap.size) : Below B0 w0 w' :=
  ⟨h.os.trans hb.os, h.tape.trans hb.tape, h.output.trans hb.output, Nat.le_trans hb.size h.size, fun k hk => (h.block k (Nat.lt_of_lt_of_le hk hs) (.inl (Nat.lt_of_lt_of_le hk h0))).trans (hb.block k hk)⟩

variable {α : Type} {E : Enc α} {B T : Nat} {w w' : World} {v : Value} {l : List α}

/-- The slice v holds the elements l in a row of its own, in one of the blocks B .. T-1. -/
def LOwn (E : Enc α) (B T : Nat) (w : World) (v : Value) (l : List α) : Prop := RBuf E B w w v l ∧ T ≤ w.heap.size ∧ ∀ k, v.ownBlock = some k → k < T

theorem RBuf.lown {w0 : World} (h : RBuf E B w0 w v l) : LOwn E B w.heap.size w v l := ⟨h.here, Nat.le_refl _, fun k hk => (h.own.lt k hk).2⟩

theorem LOwn.kept {B' T' : Nat} (h : LOwn E B T w v l) (hk : Kept B' T' w w') (hd : T ≤ B' ∨ T' ≤ B) : LOwn E B T w' v l := by
  refine ⟨⟨⟨h.1.own.1, ?_⟩, Below.refl _ _, Nat.le_trans h.1.le hk.size⟩, Nat.le_trans h.2.1 hk.size, h.2.2⟩
  rcases h.1.own.2 with h1 | ⟨g, cap, cur, h1, h2, h3, h4⟩
  · exact .inl h1
  · have hg := h.2.2 g (by rw [h1]; rfl)
    refine .inr ⟨g, cap, cur, h1, h2, ?_, h4⟩
    rw [hk.block g (Nat.lt_of_lt_of_le hg h.2.1) (by omega)]
    exact h3

theorem LOwn.later (h : LOwn E B T w v l) (hb : Below w.heap.size w w') : LOwn E B T w' v l :=
  h.kept (Kept.of_below hb T T) (.inl (Nat.le_refl _))

theorem LOwn.wider {T' : Nat} (h : LOwn E B T w v l) (hT : T ≤ T') (hs : T' ≤ w.heap.size) : LOwn E B T' w v l := ⟨h.1, hs, fun k hk => Nat.lt_of_lt_of_le (h.2.2 k hk) hT⟩

theorem LOwn.deeper {B' : Nat} (h : LOwn E B T w v l) (hB : B' ≤ B) : LOwn E B' T w v l := ⟨h.1.down (Below.refl _ _) hB, h.2⟩

theorem LOwn.rows (h : LOwn E B T w v l) : Rows' E w v l := h.1.rows

/-- A store by another name leaves a row alone whose block is another. -/
theorem LOwn.grown {r : Option Nat} (h : LOwn E B T w v l) (hg : w.grownBy w' r) (hne : v.ownBlock = none ∨ v.ownBlock ≠ r) : LOwn E B T w' v l :=
  ⟨⟨h.1.own.kept hg hne, Below.refl _ _, Nat.le_trans h.1.le hg.size⟩, Nat.le_trans h.2.1 hg.size, h.2.2⟩

/-- A store below the row's base leaves it alone. -/
theorem LOwn.store (h : LOwn E B T w v l) (g i : Nat) (u : Value) (hg : g < B) : LOwn E B T (w.setCell ⟨g, i, none⟩ u) v l := by
  refine h.grown (stored_grown w g i u) ?_
  cases hv : v.ownBlock with
  | none => exact .inl rfl
  | some k => exact .inr (by intro e; have := (h.1.own.lt k hv).1; have := Option.some.inj e; omega)

theorem LOwn.storeHi (h : LOwn E B T w v l) (g i : Nat) (u : Value) (hg : T ≤ g) : LOwn E B T (w.setCell ⟨g, i, none⟩ u) v l := by
  refine h.grown (stored_grown w g i u) ?_
  cases hv : v.ownBlock with
  | none => exact .inl rfl
  | some k => exact .inr (by intro e; have := h.2.2 k hv; have := Option.some.inj e; omega)

end Go.Proofs.Ytichbcpidkkblaa

/- strings.Builder: what WriteString and String hand back: String out of the library's own theorem, at the numbers of this program; copyCheck and WriteString walked. -/
namespace Go.Proofs.Ytichbcpidkkblaa
open Go.Shelf Go.RowKit

def bldRen : Go.Shelf.Ren := ⟨fun | 169 => 28 | n => n, fun | 70 => 39 | 9 => 9 | 0 => 0 | 72 => 41 | 37 => 22 | 127 => 63 | 3 => 3 | 5 => 5 | n => n, fun | n => n⟩

theorem bldLaid : Go.Proofs.Lays.n169 Try.prog bldRen := {
  mixed := by kernel_rfl
  f169 := Try.func28.trans (congrArg some (by kernel_rfl))
  t0 := Try.underlying0
  a0 := Try.isAgg0
  z0 := Try.sizeOf0
  v0 := Try.zeroValue0
  t3 := Try.underlying3
  a3 := Try.isAgg3
  z3 := Try.sizeOf3
  v3 := Try.zeroValue3
  t9 := Try.underlying9
  a9 := Try.isAgg9
  z9 := Try.sizeOf9
  v9 := Try.zeroValue9
  t37 := Try.underlying22
  a37 := Try.isAgg22
  z37 := Try.sizeOf22
  v37 := Try.zeroValue22
  t70 := Try.underlying39
  a70 := Try.isAgg39
  z70 := Try.sizeOf39
  v70 := Try.zeroValue39
  t72 := Try.underlying41
  a72 := Try.isAgg41
  z72 := Try.sizeOf41
  v72 := Try.zeroValue41
  t127 := Try.underlying63
  a127 := Try.isAgg63
  z127 := Try.sizeOf63
  v127 := Try.zeroValue63 }

theorem bldExtra : Builder.Extra Try.prog bldRen := {
  sizeBuilder := by kernel_rfl
  liesBuilder := by kernel_rfl
  t5 := Try.underlying5
  a5 := Try.isAgg5
  z5 := Try.sizeOf5
  v5 := Try.zeroValue5
  infoByte := by kernel_rfl
  cellsByte := by kernel_rfl
  sizeByte := by kernel_rfl
  neB5 := by decide }

theorem bldString (B b : Nat) (l : List UInt8) (w : World) (h : Lib.IsBuilder 41 5 B b (Lib.byteCells l) w) (hBw : B ≤ w.heap.size) :
    Calls Try.prog 28 #[.pointer (some ⟨b, 0, none⟩)] w fun e w' => e = .returned (.string ⟨l.toArray⟩) ∧ Below B w w' := Any.Builder_String_any bldLaid bldExtra B b l w h hBw

set_option maxHeartbeats 1000000 in
set_option maxRecDepth 100000 in
theorem copyCheck_used (b : Nat) (w : World) (h0 : w.cell? ⟨b, 0, none⟩ = some (.pointer (some ⟨b, 0, none⟩))) :
    Calls Try.prog 40 #[.pointer (some ⟨b, 0, none⟩)] w fun e w' => e = .returned (.tuple #[]) ∧ w' = w := by
  obtain ⟨j, hj, _⟩ := Option.map_eq_some_iff.1 bldExtra.sizeBuilder
  go_enter Try.func40, Try.ntmps40
  go_wp2
  rw [Lib.run_neq_ptr_same w _ Try.underlying39 hj]
  go_wp2
  go_end0
  exact ⟨rfl, rfl⟩

set_option maxHeartbeats 1000000 in
set_option maxRecDepth 100000 in
theorem copyCheck_fresh (b : Nat) (w : World) (h0 : w.cell? ⟨b, 0, none⟩ = some (.pointer none)) (hsh : w.shape? b = some (41, 2)) (hfz : w.frozen? ⟨b, 0, none⟩ = false) :
    Calls Try.prog 40 #[.pointer (some ⟨b, 0, none⟩)] w fun e w' => e = .returned (.tuple #[]) ∧ w' = w.setCell ⟨b, 0, none⟩ (.pointer (some ⟨b, 0, none⟩)) := by
  obtain ⟨j, hj, hjs⟩ := Option.map_eq_some_iff.1 bldExtra.sizeBuilder
  go_enter Try.func40, Try.ntmps40
  go_wp2
  rw [Lib.run_to_unsafe w ⟨b, 0, none⟩ Try.underlying39 Try.underlying68 hj (by rw [hjs]; decide) hsh (Nat.zero_lt_succ 1)]
  simp only [Result.andThen]
  rw [Oper.upon_value]
  go_wp2
  rw [run_callFunc_extern Try.func48 (by kernel_rfl) (by kernel_rfl) (by kernel_rfl) (e := Extern.AbiNoEscape.same) (by kernel_rfl)]
  rw [Lib.run_noEscape]
  simp only [Result.andThen]
  rw [Oper.upon_value]
  go_wp2
  rw [Lib.run_from_unsafe w ⟨b, 0, none⟩ Try.underlying68 Try.underlying39 hj hsh bldExtra.liesBuilder]
  simp only [Result.andThen]
  rw [Oper.upon_value]
  go_wp2
  go_end0
  exact ⟨rfl, rfl⟩

theorem copyCheck_any (B b : Nat) (bs : List Value) (w : World) (h : Lib.IsBuilder 41 5 B b bs w) :
    Calls Try.prog 40 #[.pointer (some ⟨b, 0, none⟩)] w fun e w' => e = .returned (.tuple #[]) ∧ (Lib.BuilderAt 41 5 B b (.pointer (some ⟨b, 0, none⟩)) bs w' ∧ Below B w w') := by
  rcases h with h | h
  · refine (copyCheck_fresh b w h.cell0 h.shape h.frozen0).mono ?_
    rintro e w' ⟨rfl, rfl⟩
    exact ⟨rfl, h.used _, (Below.refl B w).setCell (p := ⟨b, 0, none⟩) h.1 _⟩
  · refine (copyCheck_used b w h.cell0).mono ?_
    rintro e w' ⟨rfl, rfl⟩
    exact ⟨rfl, h, Below.refl B _⟩

end Go.Proofs.Ytichbcpidkkblaa

/- strings.Builder beside other memory: WriteString writes into the builder and its own buffer alone. -/
namespace Go.Proofs.Ytichbcpidkkblaa
open Go.RowKit Go.Shelf

/-- All blocks below B but b are as they were. -/
structure BelBut (B b : Nat) (w w' : World) : Prop where
  os : w'.os = w.os
  tape : w'.tape = w.tape
  output : w'.output = w.output
  size : w.heap.size ≤ w'.heap.size
  block : ∀ k, k < B → k ≠ b → w'.heap[k]? = w.heap[k]?
theorem BelBut.refl (B b : Nat) (w : World) : BelBut B b w w := ⟨rfl, rfl, rfl, Nat.le_refl _, fun _ _ _ => rfl⟩
theorem BelBut.trans {B b : Nat} {u v w : World} (h : BelBut B b u v) (k : BelBut B b v w) : BelBut B b u w :=
  ⟨k.os.trans h.os, k.tape.trans h.tape, k.output.trans h.output, Nat.le_trans h.size k.size, fun q h1 h2 => (k.block q h1 h2).trans (h.block q h1 h2)⟩
theorem BelBut.of_below {B b : Nat} {u v : World} (h : Below u.heap.size u v) (hB : B ≤ u.heap.size) : BelBut B b u v :=
  ⟨h.os, h.tape, h.output, h.size, fun q h1 _ => h.block q (by omega)⟩
theorem BelBut.below {B b C : Nat} {u v : World} (h : BelBut B b u v) (h1 : C ≤ b) (h2 : C ≤ B) : Below C u v :=
  ⟨h.os, h.tape, h.output, h.size, fun q hq => h.block q (by omega) (by omega)⟩
theorem BelBut.grown {B b : Nat} {u v : World} {r : Option Nat} (h : u.grownBy v r) (hB : B ≤ u.heap.size) (hr : ∀ k, r = some k → B ≤ k ∨ k = b) : BelBut B b u v :=
  ⟨h.os, h.tape, h.output, h.size, fun q h1 h2 => h.block q (by omega) (fun e => by rcases hr q e.symm with e1 | e1 <;> omega)⟩

/-- A builder in the block b, its buffer from block B on. -/
def Bld (B b : Nat) (bs : List Value) (w : World) : Prop := b < B ∧ ∃ p v, (p = .pointer none ∨ p = .pointer (some ⟨b, 0, none⟩)) ∧ Box w b #[p, v] 41 ∧ w.ownsRow B 5 1 v bs.length bs
theorem Bld.later {B b : Nat} {bs : List Value} {w w' : World} (h : Bld B b bs w) (hb : Below w.heap.size w w') : Bld B b bs w' := by
  obtain ⟨h1, p, v, h2, h3, h4⟩ := h
  have hg : w.grownBy w' none := ⟨hb.os, hb.tape, hb.output, hb.size, fun k hk _ => hb.block k hk⟩
  refine ⟨h1, p, v, h2, h3.later hb, h4.kept hg ?_⟩
  cases hv : v.ownBlock with
  | none => exact .inl rfl
  | some k => exact .inr (by simp)
/-- As the library has it. -/
theorem Bld.is {B b : Nat} {bs : List Value} {w : World} (h : Bld B b bs w) : Lib.IsBuilder 41 5 b b bs w := by
  obtain ⟨h1, p, v, h2, h3, h4⟩ := h
  have h5 : w.ownsRow b 5 1 v bs.length bs := by
    rcases h4 with ⟨e, h | ⟨g, cap, cur, a, c, d⟩⟩
    · exact ⟨e, .inl h⟩
    · exact ⟨e, .inr ⟨g, cap, cur, a, by omega, d⟩⟩
  have h6 : v.ownBlock ≠ some b := fun e => by have := (h4.lt b e).1; omega
  rcases h2 with rfl | rfl
  · exact .inl ⟨Nat.le_refl _, v, h3, h5, h6⟩
  · exact .inr ⟨Nat.le_refl _, v, h3, h5, h6⟩

end Go.Proofs.Ytichbcpidkkblaa

/- strings.Builder beside other memory: WriteByte, Len and String. -/
namespace Go.Proofs.Ytichbcpidkkblaa
open Go.RowKit Go.Shelf

theorem BelBut.alloc {B b : Nat} {u v : World} (h : BelBut B b u v) (hB : B ≤ v.heap.size) (o : Obj) : BelBut B b u (v.alloc o) :=
  h.trans (BelBut.of_below ((Below.refl _ _).alloc (Nat.le_refl _) o) hB)

set_option maxHeartbeats 2000000 in
set_option maxRecDepth 100000 in
theorem bldByte2 (B b : Nat) (bs : List Value) (c : Int) (w : World) (h : Bld B b bs w) (hlen : bs.length + 1 ≤ 140737488355328) (hBw : B ≤ w.heap.size) :
    Calls Try.prog 26 #[.pointer (some ⟨b, 0, none⟩), .int .u8 c] w fun e w' => e = .returned .nilIface ∧ Bld B b (bs ++ [.int .u8 c]) w' ∧ BelBut B b w w' := by
  obtain ⟨i0, hi, hz0, hz1, hz2⟩ := info_parts bldExtra.infoByte
  have HCC : Calls Try.prog 40 #[.pointer (some ⟨b, 0, none⟩)] w fun e w' => e = .returned (.tuple #[]) ∧ (∃ v, Box w' b #[.pointer (some ⟨b, 0, none⟩), v] 41 ∧ w'.ownsRow B 5 1 v bs.length bs) ∧ BelBut B b w w' := by
    obtain ⟨h1, p, v, h2, h3, h4⟩ := h
    rcases h2 with rfl | rfl
    · refine (copyCheck_fresh b w (h3.cell 0 _ rfl) (by have h3' : w.heap[b]? = some (.cells #[.pointer none, v] 41 (0, 0)) := h3; simp [World.shape?, h3']) (h3.loose 0)).mono ?_
      rintro e w' ⟨rfl, rfl⟩
      exact ⟨rfl, ⟨v, h3.set 0 _, h4.kept (stored_grown w b 0 _) (.inr (fun e => by have := (h4.lt b e).1; omega))⟩, BelBut.grown (stored_grown w b 0 _) hBw (fun k hk => .inr (Option.some.inj hk).symm)⟩
    · refine (copyCheck_used b w (h3.cell 0 _ rfl)).mono ?_
      rintro e w' ⟨rfl, rfl⟩
      exact ⟨rfl, ⟨v, h3, h4⟩, BelBut.refl B b _⟩
  have hbB := h.1
  clear h
  go_enter Try.func26, Try.ntmps26
  go_wp2_with (go_at_call 40; refine HCC.mono ?_)
  rintro e w1 ⟨rfl, ⟨v, hbk, hown⟩, hb1⟩
  have c0 := hbk.cell 0 _ rfl
  have c1 := hbk.cell 1 _ rfl
  have hs1 := hb1.size
  clear HCC
  go_wp2_with (at_builtin; refine wpList_append_own _ rfl _ _ 22 rfl B 5 i0 (.int .u8 0) 1 1 Try.underlying22 hi hz0 hz1 hz2 rfl (by decide) _ _ _ rfl (hown.alloc _) ⟨w1.heap.size, 0, none⟩ 1 1 [.int .u8 c] rfl rfl ?c1 ?c2 ?c3 ?c4 ?c5 ?_)
  case c1 =>
    intro j u hj
    match j, hj with
    | 0, hj => simp at hj; subst hj; simp [Addr.add]
  case c2 => intro u hu; simp at hu; subst hu; rfl
  case c3 => unfold maxLen; omega
  case c4 => omega
  case c5 => simp; omega
  intro v' w2 hown' hgrow _
  have hb2 : Box w2 b #[.pointer (some ⟨b, 0, none⟩), v] 41 := by
    have hlt := hbk.lt
    have h9 : w2.heap[b]? = w1.heap[b]? := by rw [hgrow.block b (by simp; omega) (fun e => by have := (hown.lt b e.symm).1; omega), Lib.alloc_old w1 _ b hlt]
    exact h9.trans hbk
  have d0 := hb2.cell 0 _ rfl
  have d1 := hb2.cell 1 _ rfl
  have f1 := hb2.loose 1
  obtain ⟨ao, n', cap, rfl⟩ : ∃ ao n' cap, v' = .slice ao n' cap := by
    rcases hown'.2 with ⟨hv, _⟩ | ⟨g, cap, cur, hv, _⟩
    · exact ⟨_, _, _, hv⟩
    · exact ⟨_, _, _, hv⟩
  have own2 : w2.ownsRow B 5 1 (.slice ao n' cap) (bs ++ [Value.int .u8 c]).length (bs ++ [.int .u8 c]) := by simpa using hown'
  have HF : Hid (Bld B b (bs ++ [.int .u8 c]) (w2.setCell ⟨b, 1, none⟩ (.slice ao n' cap)) ∧ BelBut B b w (w2.setCell ⟨b, 1, none⟩ (.slice ao n' cap))) := by
    refine ⟨⟨hbB, _, _, .inr rfl, hb2.set 1 _, own2.kept (stored_grown w2 b 1 _) (.inr (fun e => by have := (own2.lt b e).1; omega))⟩, ?_⟩
    have k2 : BelBut B b w w2 := (hb1.alloc (by omega) _).trans (BelBut.grown hgrow (by simp; omega) (fun k hk => .inl (hown.lt k hk).1))
    have k3 : BelBut B b w2 (w2.setCell ⟨b, 1, none⟩ (.slice ao n' cap)) := BelBut.grown (stored_grown w2 b 1 _) (by have := k2.size; omega) (fun k hk => .inr (Option.some.inj hk).symm)
    exact k2.trans k3
  clear own2 hown' hgrow hown hbk hb2 hb1
  go_wp2
  go_ret
  exact ⟨rfl, HF.out.1, HF.out.2⟩

/-- A builder that was read: its text stands. -/
abbrev BldF (b : Nat) (l : List UInt8) (w : World) : Prop := Lib.IsBuilderF 41 5 b b (Lib.byteCells l) w
theorem Bld.toF {B b : Nat} {l : List UInt8} {w : World} (h : Bld B b (Lib.byteCells l) w) : BldF b l w := Lib.IsBuilderF.of h.is

theorem byteC_len (l : List UInt8) : (Lib.byteCells l).length = l.length := by simp [Lib.byteCells]

set_option maxHeartbeats 2000000 in
set_option maxRecDepth 100000 in
theorem bldLen2 (b : Nat) (l : List UInt8) (w : World) (h : BldF b l w) :
    Calls Try.prog 27 #[.pointer (some ⟨b, 0, none⟩)] w fun e w' => e = .returned (.int .i64 (l.length : Int)) ∧ w' = w := by
  obtain ⟨ao, cap, c1⟩ : ∃ ao cap, w.cell? ⟨b, 1, none⟩ = some (.slice ao l.length cap) := by
    have key : ∀ p, Lib.BuilderAtF 41 5 b b p (Lib.byteCells l) w → ∃ ao cap, w.cell? ⟨b, 1, none⟩ = some (.slice ao l.length cap) := by
      rintro p ⟨_, v, hbk, hown, _⟩
      rw [byteC_len] at hown
      rcases hown.2 with ⟨hv, h0⟩ | ⟨g, cap, cur, fz, hv, _⟩
      · exact ⟨none, 0, by rw [Lib.cell_of_heap hbk, hv, h0]; rfl⟩
      · exact ⟨_, _, by rw [Lib.cell_of_heap hbk, hv]; rfl⟩
    rcases h with h | h
    · exact key _ h
    · exact key _ h
  clear h
  go_enter Try.func27, Try.ntmps27
  go_wp2
  go_ret
  exact ⟨rfl, rfl⟩

theorem bldString2 (b : Nat) (l : List UInt8) (w : World) (h : BldF b l w) (hBw : b ≤ w.heap.size) :
    Calls Try.prog 28 #[.pointer (some ⟨b, 0, none⟩)] w fun e w' => e = .returned (.string ⟨l.toArray⟩) ∧ BldF b l w' ∧ Below b w w' :=
  (Any.Builder_String_any_k bldLaid bldExtra b b l w h hBw).mono fun _ _ ⟨h1, h2, h3, _⟩ => ⟨h1, h2, h3⟩

end Go.Proofs.Ytichbcpidkkblaa

/- Lower letters: LowWord of the program. -/
namespace Go.Proofs.Ytichbcpidkkblaa
open Go.RowKit

theorem BtAt.same {w w' : World} {g : Nat} {l : List UInt8} (h : BtAt w g l) (e : w'.heap[g]? = w.heap[g]?) : BtAt w' g l := by
  intro j b hj
  have := h j b hj
  simpa [World.cell?, World.frozen?, e] using this

theorem Bld.new (w : World) : Bld (w.heap.size + 1) w.heap.size [] (w.alloc (.cells #[.pointer none, .slice none 0 0] 41)) :=
  ⟨by omega, _, _, .inl rfl, Box.new w _ _, ⟨rfl, .inl ⟨rfl, rfl⟩⟩⟩

theorem Bld.from {B C b : Nat} {w : World} (h : Bld B b [] w) (hC : B ≤ C) (h0 : w.cell? ⟨b, 1, none⟩ = some (.slice none 0 0)) : Bld C b [] w := by
  obtain ⟨h1, p, v, h2, h3, h4⟩ := h
  have e := h3.cell 1 _ rfl
  rw [h0] at e
  cases Option.some.inj e
  exact ⟨by omega, p, _, h2, h3, ⟨rfl, .inl ⟨rfl, rfl⟩⟩⟩

set_option maxRecDepth 100000 in
set_option maxHeartbeats 4000000 in
theorem implLowWord_any (s : ByteArray) (w : World) (hs : s.size ≤ 1099511627776) :
    Calls Try.prog 18 #[.string s] w fun e w' => e = .returned (.string (lowW s)) ∧ Below w.heap.size w w' := by
  have hconv : ∀ wx, (convert 9 22 (.string s)).run Try.prog wx = .ok (.slice (some ⟨wx.heap.size, 0, none⟩) s.size (grownCap wx s.size 0 5)) (Lib.bytesWorld wx 5 s) :=
    fun wx => Lib.run_convert_string_bytes (P := Try.prog) wx 9 22 5 s Try.underlying9 Try.underlying22 Try.underlying5
  have hb := below_bt (w.alloc (.cells #[.pointer none, .slice none 0 0] 41)) s
  have hbz := Lib.bytesWorld_size (w.alloc (.cells #[.pointer none, .slice none 0 0] 41)) 5 s
  have hat := btAt_new (w.alloc (.cells #[.pointer none, .slice none 0 0] 41)) s.data.toList
  rw [ba_self] at hat
  have hnew := Bld.new w
  have hcell : (w.alloc (.cells #[.pointer none, .slice none 0 0] 41)).cell? ⟨w.heap.size, 1, none⟩ = some (.slice none 0 0) := (Box.new w _ _).cell 1 _ rfl
  have hk0 : Below w.heap.size w (w.alloc (.cells #[.pointer none, .slice none 0 0] 41)) := (Below.refl _ _).alloc (Nat.le_refl _) _
  have hlen : s.data.toList.length = s.size := by rw [Array.length_toList]; rfl
  obtain ⟨l, hl⟩ : ∃ l, s.data.toList = l := ⟨_, rfl⟩
  have hlw : lowW s = ⟨(l.map lowB).toArray⟩ := by unfold lowW; rw [hl]
  rw [hlw]
  rw [hl] at hat hlen
  clear hl hlw
  have hz0 : (w.alloc (.cells #[.pointer none, .slice none 0 0] 41)).heap.size = w.heap.size + 1 := by simp
  go_enter Try.func18, Try.ntmps18
  go_upto_region 2 with fail
  generalize w.alloc (.cells #[.pointer none, .slice none 0 0] 41) = w0 at *
  obtain ⟨g, hg⟩ : ∃ g, w.heap.size = g := ⟨_, rfl⟩
  have HG := Lib.hid hg
  rw [hg] at hnew hcell hz0 hk0 ⊢
  rw [hz0] at hat hb
  have hc0 := hconv w0
  rw [hz0] at hc0
  clear hconv hg
  generalize grownCap w0 s.size 0 5 = C at *
  have hbz' : (Lib.bytesWorld w0 5 s).heap.size = g + 2 := by rw [hbz, hz0]
  clear hbz
  generalize Lib.bytesWorld w0 5 s = w1 at *
  generalize s.size = n at *
  have hB1 : Bld (g + 2) g [] w1 := (hnew.later (by rw [hz0]; exact hb)).from (by omega) (by rw [World.cell?, hb.block g (by omega)]; exact hcell)
  have HK1 : Hid (Below g w w1) := hk0.trans (hb.mono (by omega))
  have HL := Lib.hid hlen
  clear hnew hcell hk0 hb hlen
  go_upto_region 3 with fail
  clear hc0 hz0
  go_loopw [9] (fun iv wr => ∃ i : Nat, i ≤ n ∧ iv = .int .i64 (i : Int) ∧ Bld (g + 2) g (Lib.byteCells ((l.take i).map lowB)) wr ∧ BelBut (g + 2) g w1 wr) (fun iv _ => n - (intOf iv).toNat)
  case atStart => exact ⟨0, by omega, rfl, by simpa [Lib.byteCells] using hB1, BelBut.refl _ _ _⟩
  case round =>
    obtain ⟨i, hi, rfl, hA, hB⟩ := hrel
    have HA := Lib.hid hA
    have HB := Lib.hid hB
    have HBZ := Lib.hid hbz'
    have HAT := Lib.hid hat
    clear hA hB hat hB1 hbz'
    by_cases hlt : i < n
    · have hi0 : (0 : Int) ≤ (i : Int) := by omega
      have hi1 : (i : Int) < (n : Int) := by omega
      have hil : i < l.length := by have := HL.out; omega
      obtain ⟨p0, f0⟩ := (HAT.out.same (HB.out.block (g + 1) (by omega) (by omega))) i _ (List.getElem?_eq_getElem hil)
      have hsz : g + 2 ≤ wr.heap.size := by have := HB.out.size; have := HBZ.out; omega
      have hW := bldByte2 (g + 2) g (Lib.byteCells ((l.take i).map lowB)) ((lowB l[i]).toNat : Int) wr HA.out (by rw [byteC_len, List.length_map, List.length_take]; omega) hsz
      have hnx : Lib.byteCells ((l.take i).map lowB) ++ [Value.int .u8 ((lowB l[i]).toNat : Int)] = Lib.byteCells ((l.take (i + 1)).map lowB) := by
        rw [List.take_succ_eq_append_getElem hil]; simp only [Lib.byteCells, List.map_append, List.map_cons, List.map_nil]
      rw [hnx] at hW
      clear hnx
      have HW := Lib.hid hW
      clear hW f0
      have HUP : Hid (65 ≤ l[i].toNat → l[i].toNat ≤ 90 → ((lowB l[i]).toNat : Int) = (l[i].toNat : Int) + 32) := fun a b => lowB_up a b
      have HNO : Hid (¬ (65 ≤ l[i].toNat ∧ l[i].toNat ≤ 90) → lowB l[i] = l[i]) := fun h => by rw [lowB, if_neg h]
      generalize l[i] = b at *
      generalize lowB b = c at *
      by_cases u1 : 65 ≤ b.toNat
      · have v1 : (65 : Int) ≤ (b.toNat : Int) := by omega
        by_cases u2 : b.toNat ≤ 90
        · have v2 : (b.toNat : Int) ≤ 90 := by omega
          have hc := HUP.out u1 u2
          rw [hc] at HW
          have hw : IntKind.u8.wrap ((b.toNat : Int) + 32) = (b.toNat : Int) + 32 := IntWalk.u8_in _ ⟨by omega, by omega⟩
          clear hc u1 u2 hil
          generalize (b.toNat : Int) = y at *
          go_wp2_with (go_at_call 26; refine HW.out.mono ?_; rintro e w2 ⟨rfl, hb2, hk2⟩; have HB2 := Lib.hid hb2; have HK2 := Lib.hid (HB.out.trans hk2); clear hb2 hk2)
          go_roundw
          case rel => exact ⟨i + 1, by omega, by go_num, HB2.out, HK2.out⟩
          case measure => simp [intOf]; omega
        · have v2 : ¬ ((b.toNat : Int) ≤ 90) := by omega
          have e := HNO.out (fun h => u2 h.2)
          rw [e] at HW
          clear u1 u2 hil e HNO HUP
          generalize (b.toNat : Int) = y at *
          go_wp2_with (go_at_call 26; refine HW.out.mono ?_; rintro e w2 ⟨rfl, hb2, hk2⟩; have HB2 := Lib.hid hb2; have HK2 := Lib.hid (HB.out.trans hk2); clear hb2 hk2)
          go_roundw
          case rel => exact ⟨i + 1, by omega, by go_num, HB2.out, HK2.out⟩
          case measure => simp [intOf]; omega
      · have v1 : ¬ ((65 : Int) ≤ (b.toNat : Int)) := by omega
        have e := HNO.out (fun h => u1 h.1)
        rw [e] at HW
        clear u1 hil e HNO HUP
        generalize (b.toNat : Int) = y at *
        go_wp2_with (go_at_call 26; refine HW.out.mono ?_; rintro e w2 ⟨rfl, hb2, hk2⟩; have HB2 := Lib.hid hb2; have HK2 := Lib.hid (HB.out.trans hk2); clear hb2 hk2)
        go_roundw
        case rel => exact ⟨i + 1, by omega, by go_num, HB2.out, HK2.out⟩
        case measure => simp [intOf]; omega
    · have e : l.take i = l := by rw [List.take_of_length_le]; have := HL.out; omega
      have HA' := HA.out
      rw [e] at HA'
      have HS := Lib.hid (bldString2 g (l.map lowB) wr HA'.toF (by have := HB.out.size; have := HBZ.out; omega))
      have HKB : Hid (Below g w wr) := HK1.out.trans (HB.out.below (by omega) (by omega))
      clear e HA'
      go_wp2_with (go_at_call 28; refine HS.out.mono ?_; rintro e w2 ⟨rfl, _, hk2⟩; have HK2 := Lib.hid (HKB.out.trans hk2); clear hk2)
      go_ret
      exact ⟨rfl, by rw [HG.out]; exact HK2.out⟩

end Go.Proofs.Ytichbcpidkkblaa

/- The values of the figures of a text: what impl.figuresOf hands back. -/
namespace Go.Proofs.Ytichbcpidkkblaa
open Go.RowKit

set_option maxRecDepth 100000 in
set_option maxHeartbeats 2000000 in
theorem figuresOf_any (x : Bool) (bs : Int) (s : ByteArray) (w : World) (hx : (bs == 16) = x) (hs : s.size ≤ 1099511627776) :
    Calls Try.prog 45 #[.string s, .int .i64 bs] w fun e w' => ∃ v, e = .returned (.tuple #[v, .bool (decide ((valsOf x s.data.toList).length = s.size))]) ∧ Buf w.heap.size w w' v (valsOf x s.data.toList) := by
  obtain ⟨V, hV0⟩ : ∃ V, valsOf x s.data.toList = V := ⟨_, rfl⟩
  have hV : Hid (valsOf x s.data.toList = V) := hV0
  have hVle : V.length ≤ s.size := by rw [← hV0]; simpa using valsOf_le x s.data.toList
  rw [hV0]
  clear hV0
  have hconv : ∀ wx, (convert 9 22 (.string s)).run Try.prog wx = .ok (.slice (some ⟨wx.heap.size, 0, none⟩) s.size (grownCap wx s.size 0 5)) (Lib.bytesWorld wx 5 s) :=
    fun wx => Lib.run_convert_string_bytes (P := Try.prog) wx 9 22 5 s Try.underlying9 Try.underlying22 Try.underlying5
  go_enter Try.func45, Try.ntmps45
  go_wp2
  go_step3
  go_wp2_with (at_make; refine wpList_make_bytes rfl _ _ rfl .i64 .i64 _ s.size rfl rfl rfl (by omega) ?_; intro w1 g hb1 hg1)
  go_step3
  go_wp2
  obtain ⟨o, ho1, ho2⟩ := bytes_block w1 s
  have hb2 := hb1.bytesWorld s
  have hne : (Value.slice (some ⟨g, 0, none⟩) 0 s.size).ownBlock ≠ some w1.heap.size := by intro e; have := Option.some.inj e; simp at this; omega
  clear hconv
  generalize hbw : Lib.bytesWorld w1 5 s = w2 at *
  generalize hbb : w1.heap.size = bb at *
  clear hbw hb1 hg1
  go_loopw [6, 15] (fun v iv wr => ∃ k : Nat, k ≤ V.length ∧ iv = .int .i64 k ∧ Buf w.heap.size w wr v (V.take k) ∧ wr.heap[bb]? = some o ∧ v.ownBlock ≠ some bb) (fun _ iv _ => s.size - (intOf iv).toNat)
  case atStart => exact ⟨0, by omega, rfl, hb2, ho1, hne⟩
  case round =>
    obtain ⟨k, hk, rfl, hb, hob, hne⟩ := hrel
    by_cases hlt : k < s.size
    · have hcell0 := ho2 wr hob k hlt
      have hl1 : k < s.data.toList.length := by simpa using hlt
      have hI : Hid (wr.heap[bb]? = some o ∧ u6.ownBlock ≠ some bb) := ⟨hob, hne⟩
      have hc256 : s[k].toNat < 256 := UInt8.toNat_lt _
      clear ho1 ho2 hob hne
      by_cases h1 : 48 ≤ s[k].toNat ∧ s[k].toNat ≤ 57
      · have hq := valsOf_some (x := x) (l := s.data.toList) (k := k) (by rw [hV.out]; exact hk) hl1 (digV_dec (x := x) (c := s.data.toList[k]) h1.1 h1.2)
        rw [hV.out] at hq
        obtain ⟨b, hb0⟩ : ∃ b : UInt8, UInt8.ofNat (s.data.toList[k].toNat - 48) = b := ⟨_, rfl⟩
        rw [hb0] at hq
        have hbn : Hid ((b.toNat : Int) = (s[k].toNat : Int) - 48) := by
          rw [← hb0, UInt8.toNat_ofNat']; show (((s[k].toNat - 48) % 2 ^ 8 : Nat) : Int) = _; omega
        have hT : Hid (V.take (k + 1) = V.take k ++ [b]) := take_next hq
        have hk1 : k + 1 ≤ V.length := (List.getElem?_eq_some_iff.1 hq).1
        have hL : (V.take k).length ≤ k := List.length_take_le _ _
        obtain ⟨h2, h3⟩ := h1
        clear hq hb0
        go_wp2_with (at_builtin; refine wpList_append_kept rfl _ _ rfl _ _ _ rfl (hb.alloc _) ⟨wr.heap.size, 0, none⟩ [b] 1 rfl ?c1 ?c2 ?_)
        case c1 => exact one_new _ _ _ (by rw [hbn.out])
        case c2 => simp; omega
        intro v' w1 hb' hk'
        have hKB : Hid (w1.heap[bb]? = some o ∧ v'.ownBlock ≠ some bb) := hk'.block (heap_alloc_some hI.out.1 _) hI.out.2
        clear hk' hcell0
        go_wp2
        go_roundw
        case rel => exact ⟨k + 1, by omega, by go_num, by rw [hT.out]; exact hb', hKB.out.1, hKB.out.2⟩
        case measure => simp [intOf]; omega
      · by_cases h4 : x = true ∧ 97 ≤ s[k].toNat ∧ s[k].toNat ≤ 102
        · obtain ⟨rfl, h2, h3⟩ := h4
          have hq := valsOf_some (x := true) (l := s.data.toList) (k := k) (by rw [hV.out]; exact hk) hl1 (digV_hex (c := s.data.toList[k]) h2 h3)
          rw [hV.out] at hq
          obtain ⟨b, hb0⟩ : ∃ b : UInt8, UInt8.ofNat (s.data.toList[k].toNat - 87) = b := ⟨_, rfl⟩
          rw [hb0] at hq
          have hbn : Hid ((b.toNat : Int) = (s[k].toNat : Int) - 97 + 10) := by
            rw [← hb0, UInt8.toNat_ofNat']; show (((s[k].toNat - 87) % 2 ^ 8 : Nat) : Int) = _; omega
          have hT : Hid (V.take (k + 1) = V.take k ++ [b]) := take_next hq
          have hk1 : k + 1 ≤ V.length := (List.getElem?_eq_some_iff.1 hq).1
          have hL : (V.take k).length ≤ k := List.length_take_le _ _
          clear hq hb0 h1
          go_wp2_with (at_builtin; refine wpList_append_kept rfl _ _ rfl _ _ _ rfl (hb.alloc _) ⟨wr.heap.size, 0, none⟩ [b] 1 rfl ?d1 ?d2 ?_)
          case d1 => exact one_new _ _ _ (by rw [hbn.out])
          case d2 => simp; omega
          intro v' w1 hb' hk'
          have hKB : Hid (w1.heap[bb]? = some o ∧ v'.ownBlock ≠ some bb) := hk'.block (heap_alloc_some hI.out.1 _) hI.out.2
          clear hk' hcell0
          go_wp2
          go_roundw
          case rel => exact ⟨k + 1, by omega, by go_num, by rw [hT.out]; exact hb', hKB.out.1, hKB.out.2⟩
          case measure => simp [intOf]; omega
        · have hq := valsOf_none (x := x) (l := s.data.toList) (k := k) (by rw [hV.out]; exact hk) hl1 (digV_bad (c := s.data.toList[k]) h1 h4)
          rw [hV.out] at hq
          rw [List.take_of_length_le (by omega)] at hb
          obtain ⟨a, cap, rfl⟩ := hb.form
          have hne2 : ((V.length : Int) == (s.size : Int)) = false := by simp; omega
          have hd : Hid (decide (V.length = s.size) = false) := decide_eq_false (by omega)
          have hq2 : V.length < s.size := by omega
          clear hI hq
          cases x with
          | false =>
            rcases (show s[k].toNat < 48 ∨ 58 ≤ s[k].toNat by omega) with h5 | h5
            all_goals
              clear h1 h4
              go_wp2
              try rw [Exit.noGoto_ret]
              go_ret2
              exact ⟨_, by rw [hd.out]; rfl, hb⟩
          | true =>
            rcases (show s[k].toNat < 48 ∨ (58 ≤ s[k].toNat ∧ s[k].toNat < 97) ∨ 103 ≤ s[k].toNat by simp at h4; omega) with h5 | ⟨h5, h6⟩ | h5
            all_goals
              clear h1 h4
              go_wp2
              try rw [Exit.noGoto_ret]
              go_ret2
              exact ⟨_, by rw [hd.out]; rfl, hb⟩
    · have hq : V.length = s.size := by omega
      rw [List.take_of_length_le (by omega)] at hb
      obtain ⟨a, cap, rfl⟩ := hb.form
      have hne2 : ((V.length : Int) == (s.size : Int)) = true := by simp; omega
      have hd : Hid (decide (V.length = s.size) = true) := decide_eq_true hq
      clear hq ho1 ho2 hob hne
      go_wp2
      try rw [Exit.noGoto_ret]
      go_ret2
      exact ⟨_, by rw [hd.out]; rfl, hb⟩

end Go.Proofs.Ytichbcpidkkblaa

/- Reading decimal figures: what spec.ReadDecimal and impl.ReadDecimal hand back. -/
namespace Go.Proofs.Ytichbcpidkkblaa
open Go.RowKit

/-- Whether a text is the figures of a number within the bound. -/
def isDec (l : List UInt8) : Prop := l.length ≤ 10 ∧ allDig l ∧ val l ≤ 1000000000 ∧ dec (val l) = l

/-- What ReadDecimal hands back: of such a text its number, of another nothing. -/
def RdT (s : ByteArray) (v : Value) : Prop :=
  (isDec s.data.toList ∧ v = .tuple #[.int .i64 (val s.data.toList : Int), .bool true]) ∨ (¬ isDec s.data.toList ∧ v = .tuple #[.int .i64 0, .bool false])

theorem RdT_one {s : ByteArray} {v v' : Value} (h : RdT s v) (h' : RdT s v') : v = v' := by
  rcases h with ⟨a, rfl⟩ | ⟨a, rfl⟩ <;> rcases h' with ⟨b, rfl⟩ | ⟨b, rfl⟩
  · rfl
  · exact absurd a b
  · exact absurd b a
  · rfl

theorem allDig_take {l : List UInt8} {k : Nat} (h : k < l.length) (ha : allDig (l.take k)) (hc : 48 ≤ l[k].toNat ∧ l[k].toNat ≤ 57) : allDig (l.take (k + 1)) := by
  rw [List.take_succ_eq_append_getElem h]
  intro c hcm
  rcases List.mem_append.1 hcm with h1 | h1
  · exact ha c h1
  · simp at h1; subst h1; exact hc

theorem val_take {l : List UInt8} {k : Nat} (h : k < l.length) : val (l.take (k + 1)) = 10 * val (l.take k) + (l[k].toNat - 48) := by
  rw [List.take_succ_eq_append_getElem h, val_snoc]

theorem val_bound {l : List UInt8} {k : Nat} (hl : l.length ≤ 10) (hk : k < l.length) (ha : allDig (l.take k)) : val (l.take k) < 1000000000 := by
  have h1 := val_lt _ (l.take k) rfl ha
  have h2 : (l.take k).length ≤ 9 := by simp; omega
  have h3 : (10 : Nat) ^ (l.take k).length ≤ 10 ^ 9 := Nat.pow_le_pow_right (by decide) h2
  omega

set_option maxRecDepth 100000 in
set_option maxHeartbeats 1000000 in
theorem specReadDecimal_any (s : ByteArray) (w : World) (hs : s.size ≤ 1099511627776) :
    Calls Try.prog 38 #[.string s] w fun e w' => ∃ v, e = .returned v ∧ RdT s v ∧ Below w.heap.size w w' := by
  by_cases h : s.size ≤ 10
  · have hlen : s.data.toList.length = s.size := by simp
    go_enter Try.func38, Try.ntmps38
    go_wp2
    go_loop [4, 5] (fun nv iv => ∃ k : Nat, k ≤ s.size ∧ iv = .int .i64 (k : Int) ∧ nv = .int .i64 (val (s.data.toList.take k) : Int) ∧ allDig (s.data.toList.take k)) (fun _ iv => s.size - (intOf iv).toNat)
    case atStart => exact ⟨0, by omega, rfl, rfl, by intro c hc; simp at hc⟩
    case round =>
      obtain ⟨k, hk, rfl, rfl, ha0⟩ := hrel
      have ha : Hid (allDig (s.data.toList.take k)) := ha0
      clear ha0
      by_cases hlt : k < s.size
      · have hl : k < s.data.toList.length := by omega
        have hvb := val_bound (by omega) hl ha.out
        have hc256 : s[k].toNat < 256 := UInt8.toNat_lt _
        by_cases hc : 48 ≤ s[k].toNat ∧ s[k].toNat ≤ 57
        · have hvt : Hid (val (s.data.toList.take (k + 1)) = 10 * val (s.data.toList.take k) + (s[k].toNat - 48)) := val_take hl
          obtain ⟨hc1, hc2⟩ := hc
          go_wp2
          go_round
          case rel => exact ⟨k + 1, by omega, by go_num, by rw [hvt.out]; go_num, allDig_take hl ha.out ⟨hc1, hc2⟩⟩
          case measure => simp [intOf]; omega
        · have hz : Hid (RdT s (.tuple #[.int .i64 0, .bool false])) := .inr ⟨fun hh => hc (hh.2.1 s.data.toList[k] (List.getElem_mem hl)), rfl⟩
          rcases (show s[k].toNat < 48 ∨ 58 ≤ s[k].toNat by omega) with h5 | h5
          all_goals
            clear hc
            go_wp2
            go_ret2
            exact ⟨_, rfl, hz.out, Below.refl _ _⟩
      · have hT : s.data.toList.take k = s.data.toList := List.take_of_length_le (by omega)
        rw [hT] at ha ⊢
        have hvb := val_lt _ s.data.toList rfl ha.out
        have h10 : (10 : Nat) ^ s.data.toList.length ≤ 10 ^ 10 := Nat.pow_le_pow_right (by decide) (by omega)
        obtain ⟨N, hN0⟩ : ∃ N, val s.data.toList = N := ⟨_, rfl⟩
        have hN : Hid (val s.data.toList = N) := hN0
        rw [hN0] at hvb ⊢
        have hNb : N < 10000000000 := by omega
        clear hN0 hvb h10 hT
        by_cases hm : N ≤ 1000000000
        · by_cases hdv : dec N = s.data.toList
          · have hz : Hid (RdT s (.tuple #[.int .i64 (N : Int), .bool true])) := by
              refine Or.inl ⟨⟨by omega, ha.out, by rw [hN.out]; exact hm, by rw [hN.out]; exact hdv⟩, by rw [hN.out]⟩
            have he : (dec N == s.toList) = true := by rw [ByteArray.toList_eq]; simp [hdv]
            clear hdv
            go_wp2_with (go_at_call 46; refine (specDecimal_nat _ _ (by omega)).mono ?_; rintro e w1 ⟨rfl, hb1⟩)
            go_ret2
            exact ⟨_, rfl, hz.out, hb1⟩
          · have hz : Hid (RdT s (.tuple #[.int .i64 0, .bool false])) := .inr ⟨fun hh => hdv (by have := hh.2.2.2; rw [hN.out] at this; exact this), rfl⟩
            have he : (dec N == s.toList) = false := by rw [ByteArray.toList_eq]; simp [hdv]
            clear hdv
            go_wp2_with (go_at_call 46; refine (specDecimal_nat _ _ (by omega)).mono ?_; rintro e w1 ⟨rfl, hb1⟩)
            go_ret2
            exact ⟨_, rfl, hz.out, hb1⟩
        · have hz : Hid (RdT s (.tuple #[.int .i64 0, .bool false])) := .inr ⟨fun hh => hm (by have := hh.2.2.1; rw [hN.out] at this; exact this), rfl⟩
          go_wp2
          go_ret2
          exact ⟨_, rfl, hz.out, Below.refl _ _⟩
  · have hz : Hid (RdT s (.tuple #[.int .i64 0, .bool false])) := .inr ⟨fun hh => h (by have := hh.1; simpa using this), rfl⟩
    go_enter Try.func38, Try.ntmps38
    go_wp2
    go_ret2
    exact ⟨_, rfl, hz.out, Below.refl _ _⟩

/-- The values of figures are the figures less 48. -/
theorem valsOf_dec : ∀ (l : List UInt8), (valsOf false l).length = l.length ↔ allDig l := by
  intro l
  induction l with
  | nil => simp [valsOf, allDig]
  | cons c cs ih =>
    by_cases hc : 48 ≤ c.toNat ∧ c.toNat ≤ 57
    · rw [show valsOf false (c :: cs) = UInt8.ofNat (c.toNat - 48) :: valsOf false cs by rw [valsOf, digV_dec hc.1 hc.2]]
      simp only [List.length_cons, Nat.add_right_cancel_iff, ih]
      constructor
      · intro h x hx
        rcases List.mem_cons.1 hx with rfl | hx
        · exact hc
        · exact h x hx
      · intro h x hx
        exact h x (by simp [hx])
    · rw [show valsOf false (c :: cs) = [] by rw [valsOf, digV_bad hc (by simp)]]
      constructor
      · intro h; simp at h
      · intro h; exact absurd (h c (by simp)) hc

theorem valsOf_map : ∀ (l : List UInt8), allDig l → valsOf false l = l.map fun c => UInt8.ofNat (c.toNat - 48) := by
  intro l
  induction l with
  | nil => intro _; rfl
  | cons c cs ih =>
    intro h
    have hc := h c (by simp)
    rw [valsOf, digV_dec hc.1 hc.2, ih (fun x hx => h x (by simp [hx]))]
    rfl

theorem valsOf_at {l : List UInt8} {k : Nat} (h : k < l.length) (ha : allDig l) : (valsOf false l)[k]? = some (UInt8.ofNat (l[k].toNat - 48)) := by
  rw [valsOf_map l ha]
  simp [h]

set_option maxRecDepth 100000 in
set_option maxHeartbeats 1000000 in
theorem implReadDecimal_any (s : ByteArray) (w : World) (hs : s.size ≤ 1099511627776) :
    Calls Try.prog 37 #[.string s] w fun e w' => ∃ v, e = .returned v ∧ RdT s v ∧ Below w.heap.size w w' := by
  have hlen : s.data.toList.length = s.size := by simp
  by_cases h : 1 ≤ s.size ∧ s.size ≤ 10
  · obtain ⟨hp, hle⟩ := h
    have hne : s.data.toList ≠ [] := by intro e; rw [e] at hlen; simp at hlen; omega
    have hz0 : ((s.size : Int) == 0) = false := beq_eq_false_iff_ne.2 (by omega)
    have hh : s.data.toList.head? = some s[0] := by
      rw [List.head?_eq_getElem?, List.getElem?_eq_getElem (show 0 < s.data.toList.length by omega)]; rfl
    by_cases hd : s[0].toNat = 48 ∧ 1 < s.size
    · have hz : Hid (RdT s (.tuple #[.int .i64 0, .bool false])) := by
        refine Or.inr ⟨fun hi => ?_, rfl⟩
        rcases (dec_val hi.2.1 hne).1 hi.2.2.2 with h1 | h1
        · apply h1
          rw [hh]
          congr 1
          apply UInt8.toNat_inj.1
          rw [hd.1]; rfl
        · omega
      obtain ⟨hd1, hd2⟩ := hd
      have hd3 : ((s[0].toNat : Int) == 48) = true := by simp; omega
      clear hd1 hh
      go_enter Try.func37, Try.ntmps37
      go_wp2
      go_ret2
      exact ⟨_, rfl, hz.out, Below.refl _ _⟩
    · have hnn : s.data.toList.head? ≠ some 48 ∨ s.data.toList.length = 1 := by
        by_cases h48 : s[0].toNat = 48
        · right
          have : ¬ 1 < s.size := fun h1 => hd ⟨h48, h1⟩
          omega
        · left
          rw [hh]
          intro e
          have e2 := Option.some.inj e
          rw [e2] at h48
          exact h48 rfl
      have HN : Hid (s.data.toList.head? ≠ some 48 ∨ s.data.toList.length = 1) := hnn
      have hsplit : (((s[0].toNat : Int) == 48) = true ∧ s.size = 1) ∨ ((s[0].toNat : Int) == 48) = false := by
        by_cases h48 : s[0].toNat = 48
        · left
          have : ¬ 1 < s.size := fun h1 => hd ⟨h48, h1⟩
          exact ⟨beq_iff_eq.2 (by omega), by omega⟩
        · right
          exact beq_eq_false_iff_ne.2 (by omega)
      clear hnn hd hh
      obtain ⟨V, hV0⟩ : ∃ V, valsOf false s.data.toList = V := ⟨_, rfl⟩
      have hV : Hid (valsOf false s.data.toList = V) := hV0
      by_cases ha0 : allDig s.data.toList
      · have ha : Hid (allDig s.data.toList) := ha0
        have hVl : V.length = s.size := by rw [← hV0]; have := (valsOf_dec _).2 ha0; omega
        have hok : decide (V.length = s.size) = true := decide_eq_true hVl
        have hVl2 : Hid (V.length = s.size) := hVl
        have hVb : V.length ≤ 10 := by omega
        have hVn : V ≠ [] := by intro e; rw [e] at hVl; simp at hVl; omega
        have HVn : Hid (V ≠ []) := hVn
        clear hV0 ha0 hVl hVn
        have hdec : Hid (dec (val s.data.toList) = s.data.toList) := (dec_val ha.out hne).2 HN.out
        rcases hsplit with ⟨hd3, hd4⟩ | hd3
        all_goals
          go_enter Try.func37, Try.ntmps37
          go_wp2_with (go_at_call 45; refine (figuresOf_any false 10 s _ rfl hs).mono ?_; rintro e w1 ⟨v, rfl, hb1⟩; rw [hV.out, hok]; rw [hV.out] at hb1; obtain ⟨g, cap, rfl, hcap, _, hg1, hcl0⟩ := hb1.at HVn.out; have hcl : Hid (∀ j b, V[j]? = some b → w1.cell? ⟨g, j, none⟩ = some (.int .u8 (b.toNat : Int))) := hcl0; clear hcl0)
          go_loop [6, 34] (fun nv iv => ∃ k : Nat, k ≤ V.length ∧ iv = .int .i64 (k : Int) ∧ nv = .int .i64 (val (s.data.toList.take k) : Int)) (fun _ iv => V.length - (intOf iv).toNat)
          case atStart => exact ⟨0, by omega, rfl, rfl⟩
          case round =>
            obtain ⟨k, hk, rfl, rfl⟩ := hrel
            have had : allDig (s.data.toList.take k) := fun c hc => ha.out c (List.mem_of_mem_take hc)
            have hVs := hVl2.out
            by_cases hlt : k < V.length
            · have hl : k < s.data.toList.length := by omega
              have hvb := val_bound (by omega) hl had
              have hdk := ha.out s.data.toList[k] (List.getElem_mem hl)
              have hat := valsOf_at hl ha.out
              rw [hV.out] at hat
              have hcell0 := hcl.out _ _ hat
              have hbn : ((UInt8.ofNat (s.data.toList[k].toNat - 48)).toNat : Int) = (s[k].toNat : Int) - 48 := by
                rw [UInt8.toNat_ofNat']; show (((s[k].toNat - 48) % 2 ^ 8 : Nat) : Int) = _
                have : 48 ≤ s[k].toNat ∧ s[k].toNat ≤ 57 := hdk
                omega
              rw [hbn] at hcell0
              have hc48 : 48 ≤ s[k].toNat ∧ s[k].toNat ≤ 57 := hdk
              obtain ⟨hc1, hc2⟩ := hc48
              have hvt : Hid (val (s.data.toList.take (k + 1)) = 10 * val (s.data.toList.take k) + (s[k].toNat - 48)) := val_take hl
              clear had hdk hat hbn hVs
              go_wp2
              go_round
              case rel => exact ⟨k + 1, by omega, by go_num, by rw [hvt.out]; go_num⟩
              case measure => simp [intOf]; omega
            · have hT : s.data.toList.take k = s.data.toList := List.take_of_length_le (by omega)
              rw [hT] at had ⊢
              have hvb := val_lt _ s.data.toList rfl had
              have h10 : (10 : Nat) ^ s.data.toList.length ≤ 10 ^ 10 := Nat.pow_le_pow_right (by decide) (by omega)
              obtain ⟨N, hN0⟩ : ∃ N, val s.data.toList = N := ⟨_, rfl⟩
              have hN : Hid (val s.data.toList = N) := hN0
              rw [hN0] at hvb ⊢
              have hNb : N < 10000000000 := by omega
              have hdv : dec N = s.data.toList := by rw [← hN0]; exact hdec.out
              have HD : Hid (dec N = s.data.toList) := hdv
              clear hN0 hvb h10 hT had hdv
              by_cases hm : N ≤ 1000000000
              · have hz : Hid (RdT s (.tuple #[.int .i64 (N : Int), .bool true])) := by
                  refine Or.inl ⟨⟨by omega, ha.out, by rw [hN.out]; exact hm, by rw [hN.out]; exact HD.out⟩, by rw [hN.out]⟩
                clear hVs
                go_wp2
                go_ret2
                exact ⟨_, rfl, hz.out, hb1.bel⟩
              · have hz : Hid (RdT s (.tuple #[.int .i64 0, .bool false])) := .inr ⟨fun hh => hm (by have := hh.2.2.1; rw [hN.out] at this; exact this), rfl⟩
                clear hVs
                go_wp2
                go_ret2
                exact ⟨_, rfl, hz.out, hb1.bel⟩
      · have hz : Hid (RdT s (.tuple #[.int .i64 0, .bool false])) := .inr ⟨fun hh => ha0 hh.2.1, rfl⟩
        have hVl : V.length ≠ s.size := by
          intro e
          apply ha0
          rw [← valsOf_dec, hV0]
          omega
        have hok : decide (V.length = s.size) = false := decide_eq_false hVl
        clear hV0 ha0 hVl
        rcases hsplit with ⟨hd3, hd4⟩ | hd3
        all_goals
          go_enter Try.func37, Try.ntmps37
          go_wp2_with (go_at_call 45; refine (figuresOf_any false 10 s _ rfl hs).mono ?_; rintro e w1 ⟨v, rfl, hb1⟩; rw [hV.out, hok])
          go_ret2
          exact ⟨_, rfl, hz.out, hb1.bel⟩
  · by_cases h0 : s.size = 0
    · have hz : Hid (RdT s (.tuple #[.int .i64 0, .bool false])) := by
        refine Or.inr ⟨fun hh => ?_, rfl⟩
        have hnil : s.data.toList = [] := List.length_eq_zero_iff.1 (by omega)
        have := hh.2.2.2
        rw [hnil] at this
        exact dec_nil this
      have hz0 : ((s.size : Int) == 0) = true := beq_iff_eq.2 (by omega)
      clear h0
      go_enter Try.func37, Try.ntmps37
      go_wp2
      go_ret2
      exact ⟨_, rfl, hz.out, Below.refl _ _⟩
    · have hz : Hid (RdT s (.tuple #[.int .i64 0, .bool false])) := .inr ⟨fun hh => h ⟨by omega, by have := hh.1; omega⟩, rfl⟩
      have hz0 : ((s.size : Int) == 0) = false := beq_eq_false_iff_ne.2 (by omega)
      have hbig : 10 < s.size := by omega
      clear h
      go_enter Try.func37, Try.ntmps37
      go_wp2
      go_ret2
      exact ⟨_, rfl, hz.out, Below.refl _ _⟩

end Go.Proofs.Ytichbcpidkkblaa

/- The number that a text is: NumberOf of the model. -/
namespace Go.Proofs.Ytichbcpidkkblaa
open Go.RowKit

/-- What NumberOf hands back. -/
def NumR (s : ByteArray) (n : Int) : Prop := (isDec s.data.toList ∧ n = (val s.data.toList : Int)) ∨ (¬ isDec s.data.toList ∧ n = 0)
theorem NumR.one {s : ByteArray} {n n' : Int} (h : NumR s n) (h' : NumR s n') : n' = n := by
  rcases h with ⟨a, rfl⟩ | ⟨a, rfl⟩ <;> rcases h' with ⟨b, rfl⟩ | ⟨b, rfl⟩
  · rfl
  · exact absurd a b
  · exact absurd b a
  · rfl
theorem NumR.of (s : ByteArray) : ∃ (n : Int) (f : Bool), NumR s n ∧ (f = false → n = 0) ∧ ∀ v, RdT s v → v = .tuple #[.int .i64 n, .bool f] := by
  by_cases h : isDec s.data.toList
  · refine ⟨(val s.data.toList : Int), true, .inl ⟨h, rfl⟩, fun h => absurd h (by simp), fun v hv => ?_⟩
    rcases hv with ⟨_, hv⟩ | ⟨hn, _⟩
    · exact hv
    · exact absurd h hn
  · refine ⟨0, false, .inr ⟨h, rfl⟩, fun _ => rfl, fun v hv => ?_⟩
    rcases hv with ⟨hn, _⟩ | ⟨_, hv⟩
    · exact absurd hn h
    · exact hv

set_option maxRecDepth 100000 in
set_option maxHeartbeats 400000 in
theorem specNumberOf_any (s : ByteArray) (w : World) (hs : s.size ≤ 1099511627776) :
    Calls Try.prog 21 #[.string s] w fun e w' => (∃ n, e = .returned (.int .i64 n) ∧ NumR s n) ∧ Below w.heap.size w w' := by
  obtain ⟨n, f, hn, _, hr⟩ := NumR.of s
  have HN := Lib.hid hn
  have HR := Lib.hid hr
  clear hn hr
  go_enter Try.func21, Try.ntmps21
  go_wp2_with fail
  refine (specReadDecimal_any s _ hs).mono ?_
  rintro e w1 ⟨v, rfl, hv, k1⟩
  rw [HR.out v hv]
  clear hv
  go_wp2
  go_ret
  exact ⟨⟨_, rfl, HN.out⟩, k1⟩

end Go.Proofs.Ytichbcpidkkblaa

/- The number that a text is: NumberOf of the program. -/
namespace Go.Proofs.Ytichbcpidkkblaa
open Go.RowKit

set_option maxRecDepth 100000 in
set_option maxHeartbeats 400000 in
theorem implNumberOf_any (s : ByteArray) (w : World) (hs : s.size ≤ 1099511627776) :
    Calls Try.prog 20 #[.string s] w fun e w' => (∃ n, e = .returned (.int .i64 n) ∧ NumR s n) ∧ Below w.heap.size w w' := by
  obtain ⟨n, f, hn, _, hr⟩ := NumR.of s
  have HN := Lib.hid hn
  have HR := Lib.hid hr
  clear hn hr
  go_enter Try.func20, Try.ntmps20
  go_wp2_with fail
  refine (implReadDecimal_any s _ hs).mono ?_
  rintro e w1 ⟨v, rfl, hv, k1⟩
  rw [HR.out v hv]
  clear hv
  go_wp2
  go_ret
  exact ⟨⟨_, rfl, HN.out⟩, k1⟩

end Go.Proofs.Ytichbcpidkkblaa
