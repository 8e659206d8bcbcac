/- Texts of our own, joined. -/
import Derived.Test.YtlnpegknjhbdnaaDoorJc
import Derived.Test.YtlnpegknjhbdnaaDoorJd
import Derived.Deep.QuietTactic
import Derived.BigQuiet
import Derived.Test.YtlnpegknjhbdnaaDoorJa
import Derived.Test.YtlnpegknjhbdnaaDoorJb
import Derived.Lib.Hide
import Derived.Deep.RegionHeld3
import Derived.Lib.SmallJoins
import Derived.Deep.Cut
import Derived.Shelf.SlSortCmp.WholeK
import Derived.Test.YtlnpegknjhbdnaaDoorProg
import Derived.WalkKit
import Derived.LaidEql
import Derived.Stop.Asserts
import Derived.RowKitTokens
import Derived.Laws.Cells
/- Unsealed texts: what Unsealed hands back. -/
namespace Go.Proofs.YtlnpegknjhbdnaaDoor
open Go.RowKit

/-- What Unsealed hands back. -/
def unT (s : ByteArray) : Value :=
  if 4 ≤ s.size ∧ s.size ≤ 20004 ∧ fourOf (s.extract 0 (s.size - 4)) = s.extract (s.size - 4) s.size then .tuple #[.string (s.extract 0 (s.size - 4)), .bool true] else .tuple #[.string ⟨#[]⟩, .bool false]
theorem unT_yes {s : ByteArray} (h : 4 ≤ s.size ∧ s.size ≤ 20004 ∧ fourOf (s.extract 0 (s.size - 4)) = s.extract (s.size - 4) s.size) : unT s = .tuple #[.string (s.extract 0 (s.size - 4)), .bool true] := by rw [unT, if_pos h]
theorem unT_no {s : ByteArray} (h : ¬ (4 ≤ s.size ∧ s.size ≤ 20004 ∧ fourOf (s.extract 0 (s.size - 4)) = s.extract (s.size - 4) s.size)) : unT s = .tuple #[.string ⟨#[]⟩, .bool false] := by rw [unT, if_neg h]
theorem unT_form (s : ByteArray) : ∃ (t : ByteArray) (f : Bool), unT s = .tuple #[.string t, .bool f] := by
  unfold unT
  split
  · exact ⟨_, _, rfl⟩
  · exact ⟨_, _, rfl⟩

/-- The ways of Unsealed: too short; too long; the sum is there, or it is not. -/
theorem un_ways (s : ByteArray) : (s.size < 4 ∧ unT s = .tuple #[.string ⟨#[]⟩, .bool false]) ∨ (20004 < s.size ∧ unT s = .tuple #[.string ⟨#[]⟩, .bool false]) ∨
    (∃ b c : ByteArray, (∀ wx, (Instr.slice 9 (.string s) none (some (.int .i64 ((s.size : Int) - 4))) none).run Tryd.prog wx = .ok (.string b) wx) ∧
      (∀ wx, (Instr.slice 9 (.string s) (some (.int .i64 ((s.size : Int) - 4))) none none).run Tryd.prog wx = .ok (.string c) wx) ∧ b.size ≤ 20000 ∧ 4 ≤ s.size ∧ s.size ≤ 20004 ∧
      ((fourOf b = c ∧ unT s = .tuple #[.string b, .bool true]) ∨ (fourOf b ≠ c ∧ unT s = .tuple #[.string ⟨#[]⟩, .bool false]))) := by
  by_cases h1 : s.size < 4
  · exact .inl ⟨h1, unT_no (by omega)⟩
  · by_cases h2 : 20004 < s.size
    · exact .inr (.inl ⟨h2, unT_no (by omega)⟩)
    · refine .inr (.inr ⟨s.extract 0 (s.size - 4), s.extract (s.size - 4) s.size, fun wx => ?_, fun wx => ?_, ?_, by omega, by omega, ?_⟩)
      · rw [run_slice_string_h (P := Tryd.prog) (w := wx) (t := 9) (s := s) Tryd.underlying9 .i64 ((s.size : Int) - 4) (by omega) (by omega), show ((s.size : Int) - 4).toNat = s.size - 4 by omega]
      · rw [run_slice_string_l (P := Tryd.prog) (w := wx) (t := 9) (s := s) Tryd.underlying9 .i64 ((s.size : Int) - 4) (by omega) (by omega), show ((s.size : Int) - 4).toNat = s.size - 4 by omega]
      · rw [ByteArray.size_extract]; omega
      · by_cases h3 : fourOf (s.extract 0 (s.size - 4)) = s.extract (s.size - 4) s.size
        · exact .inl ⟨h3, unT_yes ⟨by omega, by omega, h3⟩⟩
        · exact .inr ⟨h3, unT_no fun h => h3 h.2.2⟩

theorem text_ne {a b : ByteArray} (h : a ≠ b) : (a.toList == b.toList) = false := by
  rw [beq_eq_false_iff_ne, ByteArray.toList_eq, ByteArray.toList_eq]
  intro e
  apply h
  cases a; cases b
  exact congrArg ByteArray.mk (Array.toList_inj.1 e)

theorem SumTab.drew {w : World} (h : SumTab w) : SumTab w.drew := h.later (Below.refl _ _).drew


set_option maxRecDepth 100000 in
set_option maxHeartbeats 1000000 in
theorem specUnsealed_any (s : ByteArray) (w : World) (hs : s.size ≤ 1099511627776) :
    Calls Tryd.prog 10 #[.string s] w fun e w' => e = .returned (unT s) ∧ Below w.heap.size w w' := by
  rcases un_ways s with ⟨h1, hz0⟩ | ⟨h1, hz0⟩ | ⟨b, c, hsb, hsc, hbz, h4, h5, hcase⟩
  · have hz : Hid (unT s = _) := hz0
    clear hz0
    have h2 : (s.size : Int) - 4 < 0 := by omega
    have g1 : decide ((s.size : Int) - 4 < 0) = true := decide_eq_true h2
    go_enter Tryd.func10, Tryd.ntmps10
    go_wp2
    go_quiet (fail)
    go_wp2
    go_ret2
    exact ⟨by rw [hz.out]; rfl, (Below.refl w.heap.size w).trans ⟨rfl, rfl, rfl, Nat.le_refl _, fun _ _ => rfl⟩⟩
  · have hz : Hid (unT s = _) := hz0
    clear hz0
    have g1 : decide ((s.size : Int) - 4 < 0) = false := decide_eq_false (by omega)
    have g2 : decide (20000 < (s.size : Int) - 4) = true := decide_eq_true (by omega)
    go_enter Tryd.func10, Tryd.ntmps10
    go_wp2
    go_quiet (fail)
    go_wp2
    go_ret2
    exact ⟨by rw [hz.out]; rfl, (Below.refl w.heap.size w).trans ⟨rfl, rfl, rfl, Nat.le_refl _, fun _ _ => rfl⟩⟩
  · have hl := sumL_lt (s := 4294967295) (by decide) b.data.toList
    have g1 : decide ((s.size : Int) - 4 < 0) = false := decide_eq_false (by omega)
    have g2 : decide (20000 < (s.size : Int) - 4) = false := decide_eq_false (by omega)
    rcases hcase with ⟨h7, hz0⟩ | ⟨h7, hz0⟩
    · have hz : Hid (unT s = _) := hz0
      clear hz0
      go_enter Tryd.func10, Tryd.ntmps10
      go_wp2
      go_region_held3 (fun _ => True) (trivial) (first
        | (go_at_call 20; refine (specSumOf_any _ _ (by omega)).mono ?_; rintro e w1 ⟨rfl, rfl⟩)
        | (go_at_call 19; refine (specFour_any _ _ hl).mono ?_; rintro e w2 ⟨rfl, hb2⟩; rw [← fourOf]))
      go_wp2
      go_ret2
      exact ⟨by rw [hz.out]; rfl, ((Below.refl w.heap.size w).drew).trans hb2⟩
    · have hz : Hid (unT s = _) := hz0
      clear hz0
      have h8 := text_ne (fun h => h7 h.symm : c ≠ fourOf b)
      go_enter Tryd.func10, Tryd.ntmps10
      go_wp2
      go_region_held3 (fun _ => True) (trivial) (first
        | (go_at_call 20; refine (specSumOf_any _ _ (by omega)).mono ?_; rintro e w1 ⟨rfl, rfl⟩)
        | (go_at_call 19; refine (specFour_any _ _ hl).mono ?_; rintro e w2 ⟨rfl, hb2⟩; rw [← fourOf]))
      go_wp2
      go_ret2
      exact ⟨by rw [hz.out]; rfl, ((Below.refl w.heap.size w).drew).trans hb2⟩

end Go.Proofs.YtlnpegknjhbdnaaDoor

/- A sealed text is unsealed as it was; one byte turned, it is not. -/
namespace Go.Proofs.YtlnpegknjhbdnaaDoor
open Go.RowKit

/-- A sealed text as a list. -/
def sealL (l : List UInt8) : List UInt8 := l ++ four (sumL 4294967295 l)
theorem sealL_length (l : List UInt8) : (sealL l).length = l.length + 4 := by simp [sealL, four]

theorem seal_eq (s : ByteArray) : s ++ fourOf s = ⟨(sealL s.data.toList).toArray⟩ := by
  obtain ⟨⟨l⟩⟩ := s
  exact ByteArray.mk_append_mk l _

theorem unT_mk (t l m : List UInt8) (ht : t = l ++ m) (hm : m.length = 4) (hl : l.length ≤ 20000) :
    unT ⟨t.toArray⟩ = if four (sumL 4294967295 l) = m then .tuple #[.string ⟨l.toArray⟩, .bool true] else .tuple #[.string ⟨#[]⟩, .bool false] := by
  have hsz : (ByteArray.mk t.toArray).size = l.length + 4 := by simp [ByteArray.size, ht, hm]
  have e1 : (ByteArray.mk t.toArray).extract 0 (l.length + 4 - 4) = ⟨l.toArray⟩ := by
    rw [ByteArray.extract_mk, ht, show l.length + 4 - 4 - 0 = l.length by omega, List.drop_zero, List.take_left]
  have e2 : (ByteArray.mk t.toArray).extract (l.length + 4 - 4) (l.length + 4) = ⟨m.toArray⟩ := by
    rw [ByteArray.extract_mk, ht, show l.length + 4 - 4 = l.length by omega, show l.length + 4 - l.length = m.length by omega, List.drop_left, List.take_length]
  rw [unT, hsz, e1, e2]
  have e3 : fourOf ⟨l.toArray⟩ = ⟨(four (sumL 4294967295 l)).toArray⟩ := rfl
  rw [e3]
  by_cases h : four (sumL 4294967295 l) = m
  · rw [if_pos h, if_pos ⟨by omega, by omega, by rw [h]⟩]
  · rw [if_neg h, if_neg]
    intro ⟨_, _, h3⟩
    apply h
    have := congrArg (fun b : ByteArray => b.data.toList) h3
    simpa using this

theorem unT_back (s : ByteArray) (h : s.size ≤ 20000) : unT (s ++ fourOf s) = .tuple #[.string s, .bool true] := by
  rw [seal_eq, unT_mk (sealL s.data.toList) s.data.toList (four (sumL 4294967295 s.data.toList)) rfl (four_length _) (by simpa using h), if_pos rfl]

theorem unT_turned (l : List UInt8) (hl : l.length ≤ 20000) (i : Nat) (hi : i < (sealL l).length) (b : UInt8) (hb : b ≠ (sealL l)[i]) :
    unT ⟨((sealL l).set i b).toArray⟩ = .tuple #[.string ⟨#[]⟩, .bool false] := by
  have ht := turned l i hi b hb
  have hlen : ((sealL l).set i b).length = l.length + 4 := by rw [List.length_set, sealL_length]
  have hk : (((sealL l).set i b).take l.length).length = l.length := by rw [List.length_take, hlen]; omega
  rw [unT_mk _ (((sealL l).set i b).take l.length) (((sealL l).set i b).drop l.length) (List.take_append_drop _ _).symm (by rw [List.length_drop, hlen]; omega) (by rw [hk]; exact hl), if_neg]
  intro h
  exact ht h.symm

/-- A byte with something put upon it is another. -/
theorem xor_other (x z : Nat) (hx : x < 256) (hz : 0 < z) (hz2 : z < 256) : ∃ c : UInt8, c.toNat = x ^^^ z ∧ ∀ b : UInt8, b.toNat = x → c ≠ b := by
  have h1 : x ^^^ z < 2 ^ 8 := Nat.xor_lt_two_pow (n := 8) hx hz2
  refine ⟨UInt8.ofNat (x ^^^ z), ?_, ?_⟩
  · rw [UInt8.toNat_ofNat']; omega
  · intro b hb e
    have e2 : x ^^^ z = x := by
      have := congrArg UInt8.toNat e
      rw [UInt8.toNat_ofNat', hb] at this
      omega
    have e3 : x ^^^ z = x ^^^ 0 := by rw [e2, Nat.xor_zero]
    have := xor_left_inj e3
    omega

/-- The bytes l stand in the block g. -/
def BytesAt (w : World) (g : Nat) (l : List UInt8) : Prop := ∀ j b, l[j]? = some b → w.cell? ⟨g, j, none⟩ = some (.int .u8 (b.toNat : Int))

theorem BytesAt.set {w : World} {g : Nat} {l : List UInt8} (h : BytesAt w g l) (i : Nat) (hi : i < l.length) (c : UInt8) : BytesAt (w.setCell ⟨g, i, none⟩ (.int .u8 (c.toNat : Int))) g (l.set i c) := by
  intro j b hj
  by_cases hij : i = j
  · subst hij
    rw [List.getElem?_set_self hi] at hj
    rw [World.cell?_setCell_same _ _ _ (h i l[i] (List.getElem?_eq_getElem hi)), Option.some.inj hj]
  · rw [List.getElem?_set_ne hij] at hj
    rw [World.cell?_setCell_other _ _ _ _ (by intro e; exact hij (by injection e))]
    exact h j b hj

theorem BytesAt.toString {w : World} {g : Nat} {l : List UInt8} (h : BytesAt w g l) (cap : Nat) :
    (convert 66 9 (.slice (some ⟨g, 0, none⟩) l.length cap)).run Tryd.prog w = .ok (.string ⟨l.toArray⟩) w := by
  refine run_convert_bytes_back (P := Tryd.prog) w 66 9 5 ⟨g, 0, none⟩ cap l Tryd.underlying66 Tryd.underlying5 Tryd.underlying9 fun j hj => ?_
  rw [Addr.add_lit, Nat.zero_add]
  have := h j l[j] (List.getElem?_eq_getElem hj)
  simpa [hj] using this

/-- The bytes of a text, in the row that []byte makes of it. -/
theorem bytesAt_new (w : World) (l : List UInt8) : BytesAt (Lib.bytesWorld w 5 ⟨l.toArray⟩) w.heap.size l := by
  intro j b hj
  have hlt : j < l.length := (List.getElem?_eq_some_iff.1 hj).1
  have := Lib.bytesWorld_cell w 5 ⟨l.toArray⟩ j (by simpa [ByteArray.size] using hlt)
  rw [this]
  simp [List.getD, hj]

theorem bytes_loose (w : World) (s : ByteArray) (j : Nat) (hj : j < s.size) : (Lib.bytesWorld w 5 s).frozen? ⟨w.heap.size, j, none⟩ = false := by
  have h : j < (Lib.bytesCells w 5 s).size := by simp [Lib.bytesCells]; omega
  unfold World.frozen?
  rw [Lib.bytesWorld_at_new]
  simp
  omega

theorem below_bytes (w : World) (s : ByteArray) : Below w.heap.size w (Lib.bytesWorld w 5 s) :=
  (Below.refl _ _).grown (⟨rfl, rfl, rfl, by rw [Lib.bytesWorld_size]; omega, fun k hk _ => Lib.bytesWorld_at_old w 5 s k hk⟩ : w.grownBy (Lib.bytesWorld w 5 s) none) (Nat.le_refl _) (fun k hk => by cases hk)

end Go.Proofs.YtlnpegknjhbdnaaDoor

/- Frames: what FrameOk hands back, of the model and of the program. -/
namespace Go.Proofs.YtlnpegknjhbdnaaDoor
open Go.RowKit

/-- A frame as a value. -/
def Fr.v (f : Fr) : Value := .agg #[.int .i64 f.gen, .int .i64 f.seq, .string f.body]
def Fr.numOk (n : Int) : Prop := 1 ≤ n ∧ n ≤ 1000000000
instance (n : Int) : Decidable (Fr.numOk n) := by unfold Fr.numOk; infer_instance

theorem numberOk_any (n : Int) (w : World) : Calls Tryd.prog 48 #[.int .i64 n] w fun e w' => e = .returned (.bool (decide (Fr.numOk n))) ∧ w = w' := by
  by_cases h1 : 1 ≤ n
  · by_cases h2 : n ≤ 1000000000
    all_goals
      have e : decide (Fr.numOk n) = decide (n ≤ 1000000000) := by simp [Fr.numOk, h1]
      rw [e]
      go_enter Tryd.func48, Tryd.ntmps48
      go_wp2
      go_ret
      simp [h2]
  · have e : decide (Fr.numOk n) = false := by simp [Fr.numOk, h1]
    rw [e]
    go_enter Tryd.func48, Tryd.ntmps48
    go_wp2
    go_ret
    simp


theorem in_any (x a b : Int) (w : World) :
    Calls Tryd.prog 30 #[.int .i64 x, .int .i64 a, .int .i64 b] w fun e w' => e = .returned (.bool (decide (a ≤ x ∧ x ≤ b))) ∧ w = w' := by
  refine (l01In_any x a b w).mono ?_
  rintro e w' ⟨rfl, rfl⟩
  exact ⟨by simp, rfl⟩


end Go.Proofs.YtlnpegknjhbdnaaDoor

/- Frames: their texts. -/
namespace Go.Proofs.YtlnpegknjhbdnaaDoor
open Go.RowKit

/-- A frame's text. -/
def Fr.tx (f : Fr) : ByteArray := f.text fourOf
theorem Fr.tx_size (f : Fr) : f.tx.size = f.raw.size + 4 := by simp [Fr.tx, Fr.text, ByteArray.size_append, fourOf_size]
theorem Fr.tx_le {f : Fr} (h : f.ok) : f.tx.size ≤ 196 := by have := f.tx_size; have := Fr.raw_size h; omega

/-- What FrameText hands back. -/
def ftT (f : Fr) : Value := if f.ok then .tuple #[.string f.tx, .bool true] else .tuple #[.string ⟨#[]⟩, .bool false]
theorem ftT_yes {f : Fr} (h : f.ok) : ftT f = .tuple #[.string f.tx, .bool true] := by rw [ftT, if_pos h]
theorem ftT_no {f : Fr} (h : ¬ f.ok) : ftT f = .tuple #[.string ⟨#[]⟩, .bool false] := by rw [ftT, if_neg h]
theorem ftT_form (f : Fr) : ∃ (t : ByteArray) (b : Bool), ftT f = .tuple #[.string t, .bool b] ∧ t.size ≤ 196 := by
  unfold ftT
  split
  · rename_i h; exact ⟨_, _, rfl, Fr.tx_le h⟩
  · exact ⟨_, _, rfl, by decide⟩

end Go.Proofs.YtlnpegknjhbdnaaDoor

/- Frames: what FrameText and FrameSize hand back, of the model and of the program. -/
namespace Go.Proofs.YtlnpegknjhbdnaaDoor
open Go.RowKit

theorem raw_eq (f : Fr) : f.raw = vtB f.gen.toNat ++ vtB f.seq.toNat ++ (vtB f.body.size ++ f.body) := rfl
theorem raw_eq' (f : Fr) : f.raw = vtB f.gen.toNat ++ vtB f.seq.toNat ++ vtB f.body.size ++ f.body := by rw [raw_eq, ByteArray.append_assoc, ByteArray.append_assoc, ByteArray.append_assoc]
theorem seT_raw {f : Fr} (h : f.ok) : seT f.raw = .tuple #[.string f.tx, .bool true] := by
  rw [seT_yes (by have := Fr.raw_size h; omega)]; rfl
theorem varT_num {n : Int} (h : Fr.numOk n) : varT n = .tuple #[.string (vtB n.toNat), .bool true] := by unfold Fr.numOk at h; rw [varT_yes (by omega)]; rfl
theorem shT_body {s : ByteArray} (h : s.size ≤ 180) : shT s = .tuple #[.string (vtB s.size ++ s), .bool true] := by rw [shT_yes (by omega)]; rfl
theorem vtB_le {n : Nat} (h : n ≤ 1000000000) : (vtB n).size ≤ 5 := by rw [vtB_size]; exact vt_five h


theorem l01VarI_any (n : Int) (w : World) (h0 : 0 ≤ n) (hn : n ≤ 1000000000) :
    Calls Tryd.prog 22 #[.int .i64 n] w fun e w' => e = .returned (.string (vtB n.toNat)) ∧ Below w.heap.size w w' := by
  have := l01Var_any n.toNat w (by omega)
  rw [Int.toNat_of_nonneg h0] at this
  exact this


/-- What FrameSize hands back. -/
def fsz (f : Fr) : Nat := if f.ok then f.tx.size else 0
theorem fsz_form (f : Fr) : ∃ (t : ByteArray) (b : Bool), ftT f = .tuple #[.string t, .bool b] ∧ t.size = fsz f ∧ t.size ≤ 196 := by
  unfold fsz
  by_cases h : f.ok
  · exact ⟨f.tx, true, ftT_yes h, by rw [if_pos h], Fr.tx_le h⟩
  · exact ⟨⟨#[]⟩, false, ftT_no h, by rw [if_neg h]; rfl, by decide⟩



end Go.Proofs.YtlnpegknjhbdnaaDoor

/- Frames: what ReadFrame hands back, of the model and of the program. -/
namespace Go.Proofs.YtlnpegknjhbdnaaDoor
open Go.RowKit

def zeroFr : Fr := ⟨0, 0, ⟨#[]⟩⟩
/-- What lies ahead of a sum, at whatever place. -/
def ruA (s : ByteArray) (a : Int) : Option (Fr × Nat) := if 0 ≤ a ∧ a ≤ s.size then ru s a.toNat else none
def rfA (s : ByteArray) (a : Int) : Option (Fr × Nat) := if 0 ≤ a ∧ a ≤ s.size then rf fourOf s a.toNat else none
/-- What ReadFrame hands back. -/
def rfT (s : ByteArray) (a : Int) : Value :=
  match rfA s a with
  | some (f, e) => .tuple #[f.v, .int .i64 e, .bool true]
  | none => .tuple #[zeroFr.v, .int .i64 0, .bool false]
theorem rfT_some {s : ByteArray} {a : Int} {f : Fr} {e : Nat} (h : rfA s a = some (f, e)) : rfT s a = .tuple #[f.v, .int .i64 e, .bool true] := by rw [rfT, h]
theorem rfT_none {s : ByteArray} {a : Int} (h : rfA s a = none) : rfT s a = .tuple #[zeroFr.v, .int .i64 0, .bool false] := by rw [rfT, h]
theorem rfA_none {s : ByteArray} {a : Int} (h : ruA s a = none) : rfA s a = none := by
  unfold ruA at h
  unfold rfA
  split
  · rename_i h1
    rw [if_pos h1] at h
    exact rf_none h
  · rfl
theorem rfA_nat {s : ByteArray} {k : Nat} (h : k ≤ s.size) : rfA s (k : Int) = rf fourOf s k := by rw [rfA, if_pos (by omega), Int.toNat_natCast]
theorem ruA_some {s : ByteArray} {a : Int} {x : Fr × Nat} (h : ruA s a = some x) : ∃ k : Nat, a = (k : Int) ∧ k ≤ s.size ∧ ru s k = some x := by
  unfold ruA at h
  split at h
  · rename_i h1
    refine ⟨a.toNat, ?_, ?_, h⟩
    · rw [Int.toNat_of_nonneg h1.1]
    · omega
  · cases h
theorem rfA_some {s : ByteArray} {a : Int} {f : Fr} {e : Nat} (h : rfA s a = some (f, e)) : ∃ k : Nat, a = (k : Int) ∧ k ≤ s.size ∧ rf fourOf s k = some (f, e) := by
  unfold rfA at h
  split at h
  · rename_i h1
    refine ⟨a.toNat, ?_, ?_, h⟩
    · rw [Int.toNat_of_nonneg h1.1]
    · omega
  · cases h

theorem rv_ways (s : ByteArray) (a : Int) : (rvT s a = zeroT ∧ (¬ (0 ≤ a ∧ a ≤ s.size) ∨ rv s.data.toList a.toNat = none)) ∨
    (∃ n b : Nat, rvT s a = .tuple #[.int .i64 n, .int .i64 b, .bool true] ∧ (0 ≤ a ∧ a ≤ s.size) ∧ rv s.data.toList a.toNat = some (n, b)) := by
  by_cases h : 0 ≤ a ∧ a ≤ s.size
  · obtain ⟨k, rfl⟩ := Int.eq_ofNat_of_zero_le h.1
    have hk : k ≤ s.size := by omega
    cases hr : rv s.data.toList k with
    | none => exact .inl ⟨rvT_none hk hr, .inr (by simpa using hr)⟩
    | some x =>
      obtain ⟨n, b⟩ := x
      exact .inr ⟨n, b, rvT_some hk hr, h, by simpa using hr⟩
  · exact .inl ⟨rvT_out h, .inl h⟩

theorem rvT_form' (s : ByteArray) (a : Int) : ∃ (n b : Nat) (f : Bool), rvT s a = .tuple #[.int .i64 n, .int .i64 b, .bool f] := by
  rcases rv_ways s a with ⟨h, _⟩ | ⟨n, b, h, _⟩
  · exact ⟨0, 0, false, h⟩
  · exact ⟨n, b, true, h⟩
theorem rsT_form' (s : ByteArray) (a : Int) : ∃ (t : ByteArray) (b : Int) (f : Bool), rsT s a = .tuple #[.string t, .int .i64 b, .bool f] := rsT_form s a

/-- The ways of reading what lies ahead of a sum. -/
theorem ru_cases (s : ByteArray) (a : Int) : (rvT s a = zeroT ∧ ruA s a = none) ∨
    (∃ g a1 : Nat, rvT s a = .tuple #[.int .i64 g, .int .i64 a1, .bool true] ∧ rvT s a1 = zeroT ∧ ruA s a = none) ∨
    (∃ g a1 q b1 : Nat, rvT s a = .tuple #[.int .i64 g, .int .i64 a1, .bool true] ∧ rvT s a1 = .tuple #[.int .i64 q, .int .i64 b1, .bool true] ∧ rsT s b1 = zeroS ∧ ruA s a = none) ∨
    (∃ (g a1 q b1 : Nat) (t : ByteArray) (e : Nat), rvT s a = .tuple #[.int .i64 g, .int .i64 a1, .bool true] ∧ rvT s a1 = .tuple #[.int .i64 q, .int .i64 b1, .bool true] ∧ rsT s b1 = .tuple #[.string t, .int .i64 e, .bool true] ∧ ruA s a = some (⟨g, q, t⟩, e)) := by
  rcases rv_ways s a with ⟨h1, h2⟩ | ⟨g, a1, h1, hr, h2⟩
  · refine .inl ⟨h1, ?_⟩
    unfold ruA
    split
    · rename_i h
      rcases h2 with h2 | h2
      · exact absurd h h2
      · exact ru_no1 h2
    · rfl
  · obtain ⟨k, rfl⟩ := Int.eq_ofNat_of_zero_le hr.1
    rw [Int.toNat_natCast] at h2
    have hk : k ≤ s.size := by omega
    obtain ⟨_, _, hA, _⟩ := rv_bytes h2 hk
    have hru : ruA s k = ru s k := by rw [ruA, if_pos hr, Int.toNat_natCast]
    rw [hru]
    rcases rv_ways s (a1 : Int) with ⟨h3, h4⟩ | ⟨q, b1, h3, hr3, h4⟩
    · refine .inr (.inl ⟨g, a1, h1, h3, ?_⟩)
      rcases h4 with h4 | h4
      · omega
      · exact ru_no2 h2 (by simpa using h4)
    · rw [Int.toNat_natCast] at h4
      obtain ⟨_, _, hB, _⟩ := rv_bytes h4 hA
      rcases rv_ways s (b1 : Int) with ⟨h5, h6⟩ | ⟨n, c, h5, hr5, h6⟩
      · refine .inr (.inr (.inl ⟨g, a1, q, b1, h1, h3, ?_, ?_⟩))
        · rcases h6 with h6 | h6
          · omega
          · exact rsT_none hB (by simpa using h6)
        · rcases h6 with h6 | h6
          · omega
          · exact ru_no3 h2 h4 (by simpa using h6)
      · rw [Int.toNat_natCast] at h6
        by_cases hn : n ≤ 20000 ∧ n + c ≤ s.size
        · refine .inr (.inr (.inr ⟨g, a1, q, b1, s.extract c (c + n), c + n, h1, h3, ?_, ru_yes h2 h4 h6 hn⟩))
          rw [rsT_yes hB h6 hn, Int.natCast_add]
        · exact .inr (.inr (.inl ⟨g, a1, q, b1, h1, h3, rsT_no hB h6 hn, ru_no4 h2 h4 h6 hn⟩))

/-- Does p stand at the beginning of s? -/
def isPre (s p : ByteArray) : Bool := decide (p.size ≤ s.size ∧ s.extract 0 p.size = p)
theorem isPre_yes {s p : ByteArray} (h : p.size ≤ s.size) : isPre s p = ((s.extract 0 p.size).toList == p.toList) := by
  unfold isPre
  by_cases he : s.extract 0 p.size = p
  · simp [h, he]
  · have : ¬ (s.extract 0 p.size).toList = p.toList := fun e => he (by rw [ByteArray.toList_eq, ByteArray.toList_eq] at e; exact ba_ext e)
    rw [decide_eq_false (fun x => he x.2)]
    simp [this]
theorem isPre_no {s p : ByteArray} (h : ¬ p.size ≤ s.size) : isPre s p = false := decide_eq_false (fun x => h x.1)

theorem hasPrefix0_any (s p : ByteArray) (w : World) :
    Calls Tryd.prog 41 #[.string s, .string p] w fun e w' => e = .returned (.bool (isPre s p)) ∧ w = w' := by
  by_cases h : p.size ≤ s.size
  · have h2 : (p.size : Int) ≤ (s.size : Int) := by omega
    go_enter Tryd.func41, Tryd.ntmps41
    go_wp2
    go_ret
    exact ⟨by rw [isPre_yes h]; rfl, rfl⟩
  · go_enter Tryd.func41, Tryd.ntmps41
    go_wp2
    go_ret
    exact ⟨by rw [isPre_no h]; rfl, rfl⟩

theorem hasPrefix_any (s p : ByteArray) (w : World) :
    Calls Tryd.prog 27 #[.string s, .string p] w fun e w' => e = .returned (.bool (isPre s p)) ∧ w = w' := by
  go_enter Tryd.func27, Tryd.ntmps27
  go_wp2_with (go_at_call 41; refine (hasPrefix0_any _ _ _).mono ?_; rintro e w1 ⟨rfl, rfl⟩)
  go_ret
  exact ⟨rfl, rfl⟩

/-- What readUnsealedFrame hands back. -/
def RuR (s : ByteArray) (a : Int) (w : World) (e : Ending) (w' : World) : Prop :=
  ((∃ f p, ruA s a = some (f, p) ∧ e = .returned (.tuple #[f.v, .bool true])) ∨ (ruA s a = none ∧ ∃ f : Fr, e = .returned (.tuple #[f.v, .bool false]))) ∧ Below w.heap.size w w'


theorem pre_iff {s : ByteArray} {k e : Nat} {f : Fr} (h : ru s k = some (f, e)) (hk : k ≤ s.size) : isPre (s.extract k s.size) f.tx = decide (e + 4 ≤ s.size ∧ f.tx = s.extract k (e + 4)) := by
  obtain ⟨h1, h2, h3, _⟩ := ru_raw h hk
  have hsz : f.tx.size = e - k + 4 := by rw [Fr.tx_size, h1, ByteArray.size_extract]; omega
  unfold isPre
  apply decide_eq_decide.2
  rw [hsz, ByteArray.size_extract]
  have e1 : ∀ m, k + m ≤ s.size → (s.extract k s.size).extract 0 m = s.extract k (k + m) := by
    intro m hm
    apply ba_ext
    rw [extract_data, extract_data, extract_data, List.drop_zero, List.take_take]
    congr 1
    omega
  constructor
  · rintro ⟨a1, a2⟩
    rw [e1 _ (by omega)] at a2
    refine ⟨by omega, ?_⟩
    rw [show e + 4 = k + (e - k + 4) by omega]
    exact a2.symm
  · rintro ⟨a1, a2⟩
    refine ⟨by omega, ?_⟩
    rw [e1 _ (by omega), a2]
    congr 1
    omega


end Go.Proofs.YtlnpegknjhbdnaaDoor

/- The model's way to read a check, plainly. -/
namespace Go.Proofs.YtlnpegknjhbdnaaDoor

/-- So many numbers at the cursor: the numbers, the place, whether it is bad. -/
def csN (t : ByteArray) : Nat → List Nat × Nat × Bool
  | 0 => ([], 0, false)
  | k + 1 => ((csN t k).1 ++ [(cuV t (csN t k).2.1 (csN t k).2.2).1], (cuV t (csN t k).2.1 (csN t k).2.2).2.1, (cuV t (csN t k).2.1 (csN t k).2.2).2.2)
theorem csN_len (t : ByteArray) : ∀ k, (csN t k).1.length = k
  | 0 => rfl
  | k + 1 => by show ((csN t k).1 ++ _).length = _; rw [List.length_append, csN_len t k]; rfl
theorem csN_le (t : ByteArray) : ∀ k, (csN t k).2.1 ≤ t.size
  | 0 => Nat.zero_le _
  | k + 1 => (cuV_le t _ _ (csN_le t k)).1
theorem csN_step {t : ByteArray} {k : Nat} {ns : List Nat} {p : Nat} {b : Bool} (h : csN t k = (ns, p, b)) : csN t (k + 1) = (ns ++ [(cuV t p b).1], (cuV t p b).2.1, (cuV t p b).2.2) := by
  show ((csN t k).1 ++ _, _, _) = _
  rw [h]
theorem csN_rd {t : ByteArray} : ∀ {k : Nat} {ns : List Nat} {p : Nat}, rdNs t.data.toList 0 k = some (ns, p) → csN t k = (ns, p, false)
  | 0, _, _, h => by cases h; rfl
  | k + 1, ns, p, h => by
    have h' : (match rdNs t.data.toList 0 k with | none => none | some (ns, p) => match rv t.data.toList p with | none => none | some (n, q) => some (ns ++ [n], q)) = some (ns, p) := h
    split at h'
    · cases h'
    · rename_i ns1 p1 h1
      have e := csN_step (csN_rd h1)
      split at h'
      · cases h'
      · rename_i n q h2
        cases h'
        rw [e]
        simp [cuV, h2]

theorem hit_spec {t : ByteArray} {c : Ck} (h : Hit t c) : rsT t 0 = .tuple #[.string (ckSe c), .int .i64 ((ckTx c).size : Int), .bool true] ∧ unT (ckSe c) = .tuple #[.string (ckBd c c.refs.length), .bool true] ∧ (∀ i, i ≤ 5 + 2 * c.refs.length → ∃ p, csN (ckBd c c.refs.length) i = ((ckNat c).take i, p, false)) ∧ t.extract 0 (ckTx c).size = ckTx c := by
  obtain ⟨hok, rest, hr⟩ := h
  obtain ⟨s1, s2, s3⟩ := ckSe_len hok
  have hx : (ckTx c).data.toList = vt (ckSe c).size ++ (ckSe c).data.toList := by
    unfold ckTx
    rw [ByteArray.data_append, Array.toList_append, vtB_list]
  have hl : t.data.toList = vt (ckSe c).size ++ ((ckSe c).data.toList ++ rest) := by rw [← hr, hx, List.append_assoc]
  have hsz : ∀ b : ByteArray, b.size = b.data.toList.length := fun b => by simp
  have hxz : (ckTx c).size = (vt (ckSe c).size).length + (ckSe c).size := by rw [hsz (ckTx c), hx, List.length_append, ← hsz]
  have htz : (ckTx c).size ≤ t.size := by rw [hsz t, ← hr, List.length_append, ← hsz]; omega
  refine ⟨?_, ?_, ?_, ?_⟩
  · have hv := rv_back [] ((ckSe c).data.toList ++ rest) (ckSe c).size (by omega)
    simp only [List.nil_append, List.length_nil, Nat.zero_add] at hv
    rw [← hl] at hv
    have := rsT_yes (k := 0) (Nat.zero_le _) hv ⟨by omega, by omega⟩
    have e : t.extract (vt (ckSe c).size).length ((vt (ckSe c).size).length + (ckSe c).size) = ckSe c := by
      refine ba_ext ?_
      rw [extract_data, hl, List.drop_left, Nat.add_sub_cancel_left, hsz (ckSe c), List.take_left]
    rw [e] at this
    rw [hxz, Int.natCast_add]
    exact this
  · exact unT_back _ (by omega)
  · intro i hi
    have hb : (ckBd c c.refs.length).data.toList = nT (ckNat c) := by rw [ckNat_T]; simp [ckBd]
    have := rdNs_back [] (ckNat c) [] (ckNat_in hok) i (by rw [ckNat_len]; exact hi)
    simp only [List.nil_append, List.append_nil, List.length_nil, Nat.zero_add] at this
    rw [← hb] at this
    exact ⟨_, csN_rd this⟩
  · refine ba_ext ?_
    rw [extract_data, List.drop_zero, Nat.sub_zero, ← hr, hsz (ckTx c), List.take_left]
theorem hit_of {t : ByteArray} {c : Ck} {n : Nat} (h : c.ok) (he : ckTx c = t.extract 0 n) : Hit t c := by
  refine ⟨h, ?_⟩
  rw [he, extract_data, List.drop_zero]
  exact List.take_prefix _ _
theorem rs0_form (t : ByteArray) : ∃ (x : ByteArray) (q : Nat) (o : Bool), rsT t 0 = .tuple #[.string x, .int .i64 (q : Int), .bool o] ∧ q ≤ t.size ∧ x.size ≤ t.size := by
  rcases h : rv t.data.toList 0 with _ | ⟨n, q⟩
  · exact ⟨⟨#[]⟩, 0, false, rsT_none (k := 0) (Nat.zero_le _) h, Nat.zero_le _, Nat.zero_le _⟩
  · by_cases h2 : n ≤ 20000 ∧ n + q ≤ t.size
    · refine ⟨t.extract q (q + n), q + n, true, ?_, by omega, by rw [ByteArray.size_extract]; omega⟩
      rw [Int.natCast_add]
      exact rsT_yes (k := 0) (Nat.zero_le _) h h2
    · exact ⟨⟨#[]⟩, 0, false, rsT_no (k := 0) (Nat.zero_le _) h h2, Nat.zero_le _, Nat.zero_le _⟩
theorem un0_form (s : ByteArray) : ∃ (x : ByteArray) (o : Bool), unT s = .tuple #[.string x, .bool o] ∧ x.size ≤ s.size := by
  by_cases h : 4 ≤ s.size ∧ s.size ≤ 20004 ∧ fourOf (s.extract 0 (s.size - 4)) = s.extract (s.size - 4) s.size
  · exact ⟨_, _, unT_yes h, by rw [ByteArray.size_extract]; omega⟩
  · exact ⟨_, _, unT_no h, Nat.zero_le _⟩
/-- No check where the text or its sum is not right. -/
theorem ahead_none {t x y : ByteArray} {q : Nat} {o f : Bool} (hr : rsT t 0 = .tuple #[.string x, .int .i64 (q : Int), .bool o]) (hu : unT x = .tuple #[.string y, .bool f]) (h : o = false ∨ f = false) : rkO t = none := rkO_none fun c hc => by
  obtain ⟨a, b, _, _⟩ := hit_spec hc
  rw [hr] at a
  simp only [Value.tuple.injEq, Array.mk.injEq, List.cons.injEq, Value.string.injEq, Value.bool.injEq] at a
  rw [← a.1] at b
  rw [hu] at b
  simp only [Value.tuple.injEq, Array.mk.injEq, List.cons.injEq, Value.string.injEq, Value.bool.injEq] at b
  rcases h with h | h
  · rw [h] at a; simp at a
  · rw [h] at b; simp at b
/-- Behind the loop: what a check that stands there must be. -/
theorem exit_hit {t x y : ByteArray} {q i n1 n2 n3 n4 n5 p5 p : Nat} {b5 b : Bool} {ns : List Nat} (hr : rsT t 0 = .tuple #[.string x, .int .i64 (q : Int), .bool true]) (hu : unT x = .tuple #[.string y, .bool true])
    (h5 : csN y 5 = ([n1, n2, n3, n4, n5], p5, b5)) (hi : csN y (5 + 2 * i) = (ns, p, b)) (hex : ¬ (i < n5 ∧ i < 20 ∧ b = false)) (hin : i ≤ n5) {c : Ck} (hc : Hit t c) :
    b = false ∧ c = ⟨(n1 : Int), (n2 : Int), (n3 : Int), (n4 : Int), prsI (ns.drop 5)⟩ ∧ ckTx c = t.extract 0 q := by
  obtain ⟨a, u, k, e⟩ := hit_spec hc
  rw [hr] at a
  simp only [Value.tuple.injEq, Array.mk.injEq, List.cons.injEq, Value.string.injEq, Value.int.injEq, and_true, true_and] at a
  obtain ⟨rfl, hq⟩ := a
  rw [hu] at u
  simp only [Value.tuple.injEq, Array.mk.injEq, List.cons.injEq, Value.string.injEq, and_true] at u
  subst u
  obtain ⟨_, k5⟩ := k 5 (by omega)
  rw [h5] at k5
  have e5 : (ckNat c).take 5 = [c.st.toNat, c.ng.toNat, c.ns.toNat, c.nv.toNat, c.refs.length] := by simp [ckNat]
  rw [e5] at k5
  simp only [Prod.mk.injEq, List.cons.injEq, and_true] at k5
  obtain ⟨⟨rfl, rfl, rfl, rfl, rfl⟩, _, _⟩ := k5
  obtain ⟨_, ki⟩ := k (5 + 2 * i) (by omega)
  rw [hi] at ki
  simp only [Prod.mk.injEq] at ki
  obtain ⟨rfl, _, rfl⟩ := ki
  have hm := hc.1.2.1.2
  have hie : i = c.refs.length := by
    rcases Nat.lt_or_ge i c.refs.length with h | h
    · exact absurd ⟨h, by omega, rfl⟩ hex
    · omega
  subst hie
  refine ⟨rfl, ?_, ?_⟩
  · have e6 : ((ckNat c).take (5 + 2 * c.refs.length)).drop 5 = c.refs.flatMap (fun r => [r.1.toNat, r.2.toNat]) := by
      rw [← ckNat_len, List.take_length]; simp [ckNat]
    rw [e6]
    exact (ck_back hc.1).symm
  · have : q = (ckTx c).size := by omega
    rw [this]; exact e.symm

end Go.Proofs.YtlnpegknjhbdnaaDoor

/- A list of the call's own, sorted by the library. -/
namespace Go.Proofs.YtlnpegknjhbdnaaDoor
open Go.RowKit Go.Sort

/-- A list with room: nothing stands in it yet. -/
theorem wpList_make_cap {α : Type} {w : World} {ops : Array Oper} {rest : List Oper} {o : Oper} {a : Act} {Q : Exit → Act → World → Prop} (hg : o.guard = none) (x c : Operand) (E : Enc α) (hop : o.op = Op.makeSlice E.sty x c)
    (kl kc : IntKind) (C : Int) (n : Nat) (hl : a.eval x = .int kl 0) (hc : a.eval c = .int kc C) (hC : C = (n : Int)) (hn : (E.bytes + 1) * n ≤ 281474976710656)
    (h : ∀ w', RBuf E w.heap.size w w' (.slice (some ⟨w.heap.size, 0, none⟩) 0 n) [] → w.grownBy w' none → wpList Tryd.prog ops Q rest (a.put o.dst (.slice (some ⟨w.heap.size, 0, none⟩) 0 n)) w') : wpList Tryd.prog ops Q (o :: rest) a w := by
  obtain ⟨i0, hi, hz0, hz1, hz2⟩ := info_parts E.info
  have e0 : (E.bytes + 1) * n = E.bytes * n + n := Nat.succ_mul _ _
  refine wpList_make_own w hg x c E.sty hop w.heap.size E.ty i0 E.zero E.sz E.und hi hz0 hz1 kl kc C n hl hc hC (by rw [hz2]; omega) (by unfold maxLen; omega) (Nat.le_refl _) ?_
  intro w' hown hgrow
  exact h w' ⟨hown, (Below.refl _ _).grown hgrow (Nat.le_refl _) (fun k hk => by cases hk), hgrow.size⟩ hgrow

section
variable {α : Type} [Inhabited α] {E : Enc α} {B : Nat} {w0 w : World} {g cap : Nat} {l : List α}

theorem row_flat (E : Enc α) (l : List α) {t : Nat} (h : t < l.length * E.sz) : (E.row l)[t]? = some ((flatK E.f E.sz l.toArray)[t]!) := by
  have hp := E.pos
  have hj : t / E.sz < l.length := (Nat.div_lt_iff_lt_mul hp).2 h
  have hm : t % E.sz < E.sz := Nat.mod_lt _ hp
  have hx : l[t / E.sz]? = some l[t / E.sz] := List.getElem?_eq_getElem hj
  have h1 := E.row_at l (t / E.sz) _ hx (t % E.sz) hm
  rw [Nat.div_add_mod'] at h1
  rw [h1, get_flatK _ _ _ _ (by simpa using h)]
  have h2 : l.toArray[t / E.sz]! = l[t / E.sz] := by
    rw [getElem!_pos l.toArray (t / E.sz) (by simpa using hj)]; simp
  rw [h2, getElem!_pos _ _ (by rw [E.len]; exact hm), List.getElem?_eq_getElem (by rw [E.len]; exact hm)]

/-- What the sort asks of the row. -/
theorem RBuf.holdsK (h : RBuf E B w0 w (.slice (some ⟨g, 0, none⟩) l.length cap) l) : HoldsK E.f E.sz w g 0 l.toArray := by
  intro t ht
  rw [size_flatK] at ht
  have ht' : t < l.length * E.sz := by simpa using ht
  have hp := E.pos
  have hj : t / E.sz < l.length := (Nat.div_lt_iff_lt_mul hp).2 ht'
  have hm : t % E.sz < E.sz := Nat.mod_lt _ hp
  have hx : l[t / E.sz]? = some l[t / E.sz] := List.getElem?_eq_getElem hj
  refine ⟨?_, by rw [Nat.zero_add]; exact h.loose t⟩
  have h0 := row_flat E l ht'
  have h1 := E.row_at l (t / E.sz) _ hx (t % E.sz) hm
  rw [Nat.div_add_mod'] at h1
  rw [h1] at h0
  have h2 := h.cell rfl (t / E.sz) _ hx (t % E.sz) _ h0
  rw [Nat.div_add_mod'] at h2
  rw [Nat.zero_add]
  exact h2

theorem sorted_grown (E : Enc α) (w : World) (g n : Nat) (d : Array α) (os : Array Obj) : w.grownBy (sortWorldK E.f E.sz w g 0 n d os) (some g) := by
  refine ⟨rfl, rfl, rfl, by simp [sortWorldK, putRowK, grow, putRow, mapBlock, Sort.ahead], fun k hk hne => ?_⟩
  have : g ≠ k := fun e => hne (by rw [e])
  unfold sortWorldK putRowK
  rw [heap_grow_old _ _ (by simpa [putRow, mapBlock, Sort.ahead] using hk)]
  simp [putRow, mapBlock, Sort.ahead, Array.getElem?_modify, this]

/-- Behind it the same slice holds the sorted list. -/
theorem RBuf.sorted (h : RBuf E B w0 w (.slice (some ⟨g, 0, none⟩) l.length cap) l) {l' : List α} (hl : l'.length = l.length) (n : Nat) (os : Array Obj) :
    RBuf E B w0 (sortWorldK E.f E.sz w g 0 n l'.toArray os) (.slice (some ⟨g, 0, none⟩) l.length cap) l' := by
  have hg := sorted_grown E w g n l'.toArray os
  have hB : B ≤ g := (h.own.lt g rfl).1
  refine ⟨?_, h.bel.grown hg h.le (fun k hk => by cases hk; exact hB), Nat.le_trans h.le hg.size⟩
  rcases h.own.2 with ⟨e, _⟩ | ⟨g', cap', cur, e, hb', hb, h1, h2, h3, h4⟩
  · cases e
  · cases e
    rw [← hl]
    refine ⟨E.row_length l', .inr ⟨g, cap, putCells id 0 (flatK E.f E.sz l'.toArray) cur, rfl, hb', ?_, by omega, h2, by simp [putCells, h3], ?_⟩⟩
    · have hgl : g < w.heap.size := (Array.getElem?_eq_some_iff.1 hb).1
      unfold sortWorldK putRowK
      rw [heap_grow_old _ _ (by simpa [putRow, mapBlock, Sort.ahead] using hgl)]
      simp [putRow, mapBlock, Sort.ahead, Array.getElem?_modify, hb, onCells]
    · have hle : l'.length * E.sz ≤ cur.size := by rw [h3, hl]; exact Nat.mul_le_mul_right _ h1
      apply List.ext_getElem?
      intro t
      by_cases ht : t < l'.length * E.sz
      · rw [List.getElem?_take_of_lt ht, Array.getElem?_toList, row_flat E l' ht]
        simp [putCells, ht, show t < cur.size by omega]
      · rw [List.getElem?_take_eq_none (by omega), List.getElem?_eq_none (by rw [E.row_length]; omega)]
/-- What the library's sort says of a list. -/
theorem perm_of {d d' : Array α} (h : PermIn 0 d.size d d') : d'.toList.Perm d.toList := by
  have h1 := h.2.2
  have e1 : d'.extract 0 d.size = d' := by rw [← h.1]; simp
  have e2 : d.extract 0 d.size = d := by simp
  rwa [e1, e2] at h1
theorem sorted_of {lt : α → α → Bool} {d d' : Array α} (hs : d'.size = d.size) (h : SortedIn lt 0 d.size d') : d'.toList.Pairwise (fun x y => lt y x = false) := by
  rw [List.pairwise_iff_getElem]
  intro i j hi hj hij
  have hi' : i < d'.size := by simpa using hi
  have hj' : j < d'.size := by simpa using hj
  have := h i j (Nat.zero_le _) hij (by omega)
  rw [getElem!_pos d' j hj', getElem!_pos d' i hi'] at this
  simpa using this
end

end Go.Proofs.YtlnpegknjhbdnaaDoor

/- Whether a reference to a segment is there: refersTo of the program. -/
namespace Go.Proofs.YtlnpegknjhbdnaaDoor
open Go.RowKit

set_option maxRecDepth 100000 in
theorem refers1_any (s : Rf) (k : Int) (g : Nat) (w : World) (h : w.cell? ⟨g, 0, none⟩ = some (.int .i64 k)) :
    Calls Tryd.prog 59 #[.agg #[.int .i64 s.1, .int .i64 s.2], .pointer (some ⟨g, 0, none⟩)] w fun e w' => e = .returned (.bool (decide (s.1 = k))) ∧ Below w.heap.size w w' := by
  have b1 := belNew w (.cells #[.int .i64 s.1, .int .i64 s.2] 39)
  have c0 := (b1.cell (p := ⟨g, 0, none⟩) (World.block_lt_of_cell? _ _ h)).trans h
  have q := (Box.new w #[.int .i64 s.1, .int .i64 s.2] 39).cell 0 _ rfl
  clear h
  obtain ⟨D, hD⟩ : ∃ D, decide (s.1 = k) = D := ⟨_, rfl⟩
  rw [hD]
  have HD := Lib.hid hD
  clear hD
  obtain ⟨s1, s2⟩ := s
  simp only at *
  by_cases hs : s1 = k
  · have HE : Hid (D = true) := by show _ = _; rw [← HD.out]; exact decide_eq_true hs
    clear HD
    subst hs
    go_enter Tryd.func59, Tryd.ntmps59
    go_wp2
    go_ret
    exact ⟨by rw [HE.out]; first | rfl | simp, b1⟩
  · have HE : Hid (D = false) := by show _ = _; rw [← HD.out]; exact decide_eq_false hs
    clear HD
    have hs' : (s1 == k) = false := beq_eq_false_iff_ne.2 hs
    go_enter Tryd.func59, Tryd.ntmps59
    go_wp2
    go_ret
    exact ⟨by rw [HE.out]; first | rfl | simp [hs'], b1⟩

set_option maxRecDepth 100000 in
set_option maxHeartbeats 2000000 in
theorem indexRef_any (l : List Rf) (v : Value) (k : Int) (gr : Nat) (w : World) (h : Rows' rfE w v l) (hl : l.length ≤ 1048576) (h0 : w.cell? ⟨gr, 0, none⟩ = some (.int .i64 k)) :
    Calls Tryd.prog 62 #[v, .func (.func 59) #[] #[.pointer (some ⟨gr, 0, none⟩)]] w fun e w' => (∃ r : Int, e = .returned (.int .i64 r) ∧ ((0 ≤ r ∧ hasR l k = true) ∨ (¬ 0 ≤ r ∧ hasR l k = false))) ∧ Below w.heap.size w w' := by
  obtain ⟨ad, cap, rfl, hrow⟩ := h.refs
  have HR : Hid _ := hrow
  clear h hrow
  obtain ⟨n, hn⟩ : ∃ n, l.length = n := ⟨_, rfl⟩
  rw [hn] at hl ⊢
  have HN := Lib.hid hn
  clear hn
  have l0 := World.block_lt_of_cell? _ _ h0
  have HO : Hid (∀ (y : Rf) x, Below w.heap.size w x → Calls Tryd.prog 59 #[.agg #[.int .i64 y.1, .int .i64 y.2], .pointer (some ⟨gr, 0, none⟩)] x fun e w' => e = .returned (.bool (decide (y.1 = k))) ∧ Below x.heap.size x w') := fun y x hx => refers1_any y k gr x ((hx.cell (p := ⟨gr, 0, none⟩) l0).trans h0)
  clear h0 l0
  obtain ⟨Q, hQ⟩ : ∃ Q, hasR l k = Q := ⟨_, rfl⟩
  rw [hQ]
  have HQ := Lib.hid hQ
  clear hQ
  go_enter Tryd.func62, Tryd.ntmps62
  go_wp2
  go_loopw [8] (fun iv wr => ∃ i : Nat, i ≤ n ∧ iv = .int .i64 (i : Int) ∧ Hid (hasR (l.take i) k = false) ∧ Below w.heap.size w wr) (fun iv _ => n - (intOf iv).toNat)
  case atStart => exact ⟨0, by omega, rfl, show _ = _ by simp [hasR], Below.refl _ _⟩
  case round =>
    obtain ⟨i, hi, rfl, HNO, bq⟩ := hrel
    by_cases hlt : i < n
    · obtain ⟨y, hgy⟩ : ∃ y, l[i]? = some y := ⟨_, List.getElem?_eq_getElem (by rw [HN.out]; omega)⟩
      obtain ⟨ga, oa, rfl, a0, a1⟩ := HR.out _ bq i y hgy
      have HOY := Lib.hid (HO.out y _ bq)
      have HT := Lib.hid (hasR_take hgy k)
      rw [HNO.out, Bool.false_or] at HT
      have HFA : Hid (decide (y.1 = k) = true → Q = true) := fun hy => by rw [← HQ.out]; exact List.any_eq_true.2 ⟨y, List.mem_of_getElem? hgy, hy⟩
      clear hgy
      generalize decide (y.1 = k) = D at HOY HT HFA
      have hi0 : (0 : Int) ≤ (i : Int) := by omega
      have hi1 : (i : Int) < (n : Int) := by omega
      cases D with
      | true =>
        have HF := Lib.hid (HFA.out rfl)
        clear HFA HT
        go_wp2_with (go_at_call 59; refine HOY.out.mono ?_; rintro e w1 ⟨rfl, k1⟩)
        go_ret
        exact ⟨⟨(i : Int), rfl, .inl ⟨hi0, HF.out⟩⟩, bq.trans (k1.mono bq.size)⟩
      | false =>
        clear HFA
        go_wp2_with (go_at_call 59; refine HOY.out.mono ?_; rintro e w1 ⟨rfl, k1⟩)
        exact ⟨⟨i + 1, by omega, by simp, HT, bq.trans (k1.mono bq.size)⟩, by first | omega | (simp [intOf]; omega)⟩
    · have HF : Hid (Q = false) := by
        have h1 := HNO.out
        rw [List.take_of_length_le (by rw [HN.out]; omega)] at h1
        rw [← HQ.out]
        exact h1
      clear HNO
      go_wp2
      go_ret
      exact ⟨⟨-1, rfl, .inr ⟨by omega, HF.out⟩⟩, bq⟩

set_option maxRecDepth 100000 in
theorem containsRef_any (l : List Rf) (v : Value) (k : Int) (gr : Nat) (w : World) (h : Rows' rfE w v l) (hl : l.length ≤ 1048576) (h0 : w.cell? ⟨gr, 0, none⟩ = some (.int .i64 k)) :
    Calls Tryd.prog 58 #[v, .func (.func 59) #[] #[.pointer (some ⟨gr, 0, none⟩)]] w fun e w' => e = .returned (.bool (hasR l k)) ∧ Below w.heap.size w w' := by
  have HI := Lib.hid (indexRef_any l v k gr w h hl h0)
  obtain ⟨ad, cap, rfl, _⟩ := h.refs
  clear h h0
  go_enter Tryd.func58, Tryd.ntmps58
  go_wp2_with fail
  refine HI.out.mono ?_
  rintro e w1 ⟨⟨r, rfl, hr⟩, k1⟩
  clear HI
  rcases hr with ⟨hr, he⟩ | ⟨hr, he⟩
  · have HE := Lib.hid he
    clear he
    go_wp2
    go_ret
    exact ⟨by rw [HE.out]; first | rfl | simp [hr], k1⟩
  · have HE := Lib.hid he
    clear he
    go_wp2
    go_ret
    exact ⟨by rw [HE.out]; first | rfl | simp [hr], k1⟩

set_option maxRecDepth 100000 in
theorem refersTo_any (l : List Rf) (v : Value) (k : Int) (w : World) (h : Rows' rfE w v l) (hl : l.length ≤ 1048576) :
    Calls Tryd.prog 50 #[v, .int .i64 k] w fun e w' => e = .returned (.bool (hasR l k)) ∧ Below w.heap.size w w' := by
  have b1 := belNew w (.cells #[.int .i64 k] 3)
  have q := (Box.new w #[.int .i64 k] 3).cell 0 _ rfl
  have HC := Lib.hid (containsRef_any l v k w.heap.size _ (h.later b1) hl q)
  obtain ⟨ad, cap, rfl, _⟩ := h.refs
  have hmf : ∀ (fn : Fn) (first cap : Array Value) (w : World), (Instr.makeFunc fn first cap).run Tryd.prog w = .ok (.func fn first cap) w := fun _ _ _ _ => rfl
  generalize hasR l k = D at HC
  clear h q
  go_enter Tryd.func50, Tryd.ntmps50
  go_wp2_with (go_at_call 58; refine HC.out.mono ?_; rintro e w1 ⟨rfl, k1⟩)
  go_ret
  exact ⟨rfl, b1.trans (k1.mono b1.size)⟩

end Go.Proofs.YtlnpegknjhbdnaaDoor

/- errors.As at a target of the type fault: of no error it is false; of a fault it is true, and the target has it. -/
namespace Go.Proofs.YtlnpegknjhbdnaaDoor
open Go.RowKit Go.Extern.Stop Go.Stop Go.Extern

/-- The variable that errors.As reads holds the handle of the type error. -/
def ErrTab (w : World) : Prop := w.cell? ⟨0, 0, none⟩ = some (.iface 103 (.agg #[.pointer (some ⟨2, 42, none⟩)]))

theorem as_nil (t : Value) (w : World) :
    Calls Tryd.prog 28 #[.nilIface, t] w fun e w' => e = .returned (.bool false) ∧ w = w' := by
  go_enter Tryd.func28, Tryd.ntmps28
  go_wp2
  go_ret
  exact ⟨rfl, rfl⟩

theorem rl_valueP (t : Addr) (w : World) : (ReflectliteValue.unpack (.iface 62 (.pointer (some t)))).run Tryd.prog w
    = .ok (.agg #[.pointer (some ⟨2, 62, none⟩), .pointer (some ⟨w.heap.size, 0, none⟩), .int .u64 150]) (w.alloc (.cells #[.pointer (some t)] 62)) := by kernel_rfl
theorem rl_typeP (a : Addr) (w : World) : (ReflectliteValue.methodAny (ReflectliteValue.valueError "reflectlite.Value.Type" 0) (fun t _ _ _ => ReflectliteType.toType t) #[.agg #[.pointer (some ⟨2, 62, none⟩), .pointer (some a), .int .u64 150]]).run Tryd.prog w
    = .ok (.iface 103 (.agg #[.pointer (some ⟨2, 62, none⟩)])) w := by kernel_rfl
theorem rl_methodKind (k : Nat) (h : Value) (w : World) : (Go.method (k + 1) 103 (.agg #[h]) "Kind").run Tryd.prog w = .ok (78, h) w := by kernel_rfl
theorem rl_kindP (w : World) : ((ReflectliteType.abiMethod fun t => (fun a : Nat => Value.int IntKind.u8 (a : Int)) <$> Rtype.kind t) #[.pointer (some ⟨2, 62, none⟩)]).run Tryd.prog w = .ok (.int .u8 22) w := by kernel_rfl
theorem rl_kindS (w : World) : ((ReflectliteType.abiMethod fun t => (fun a : Nat => Value.int IntKind.u8 (a : Int)) <$> Rtype.kind t) #[.pointer (some ⟨2, 60, none⟩)]).run Tryd.prog w = .ok (.int .u8 25) w := by kernel_rfl

theorem rlm (z : Sem Value) (f : TypeId → Addr → Nat → Nat → Sem Value) (v : Value) :
    ReflectliteValue.method z f #[v] = (do match ← ReflectliteValue.parts v with | none => z | some (t, a, fl) => f t a fl (fl % 32)) := rfl
theorem rl_partsP (a : Addr) (w : World) : (ReflectliteValue.parts (.agg #[.pointer (some ⟨2, 62, none⟩), .pointer (some a), .int .u64 150])).run Tryd.prog w = .ok (some (62, a, 150)) w := by kernel_rfl
theorem rl_isNil (a p : Addr) (W : World) (ha : W.cell? a = some (.pointer (some p))) :
    (ReflectliteValue.method (ReflectliteValue.valueError "reflectlite.Value.IsNil" 0) ReflectliteValue.isNil #[.agg #[.pointer (some ⟨2, 62, none⟩), .pointer (some a), .int .u64 150]]).run Tryd.prog W = .ok (.bool false) W := by
  rw [rlm]
  simp only [Sem.run_bind, rl_partsP, Result.andThen]
  simp [ReflectliteValue.isNil, loadVar, isAgg, underlying, Tryd.underlying62, ha, Result.andThen]

theorem rl_methodElem (k : Nat) (h : Value) (w : World) : (Go.method (k + 1) 103 (.agg #[h]) "Elem").run Tryd.prog w = .ok (89, .agg #[h]) w := by kernel_rfl
theorem rl_methodImplements (k : Nat) (h : Value) (w : World) : (Go.method (k + 1) 103 (.agg #[h]) "Implements").run Tryd.prog w = .ok (90, .agg #[h]) w := by kernel_rfl
theorem rl_methodAssignableTo (k : Nat) (h : Value) (w : World) : (Go.method (k + 1) 103 (.agg #[h]) "AssignableTo").run Tryd.prog w = .ok (87, .agg #[h]) w := by kernel_rfl
theorem rl_elemP (w : World) : (ReflectliteType.method ReflectliteType.elem #[.agg #[.pointer (some ⟨2, 62, none⟩)]]).run Tryd.prog w = .ok (.iface 103 (.agg #[.pointer (some ⟨2, 60, none⟩)])) w := by kernel_rfl
theorem rl_implements (w : World) : (ReflectliteType.relation "Implements" ReflectliteType.implements_ #[.agg #[.pointer (some ⟨2, 60, none⟩)], .iface 103 (.agg #[.pointer (some ⟨2, 42, none⟩)])]).run Tryd.prog w = .ok (.bool true) w := by kernel_rfl
theorem rl_typeOf (v : Value) (w : World) : (ReflectliteType.typeOf #[.iface 60 v]).run Tryd.prog w = .ok (.iface 103 (.agg #[.pointer (some ⟨2, 60, none⟩)])) w := by kernel_rfl
theorem rl_assignable (w : World) : (ReflectliteType.relation "AssignableTo" ReflectliteType.assignableTo #[.agg #[.pointer (some ⟨2, 60, none⟩)], .iface 103 (.agg #[.pointer (some ⟨2, 60, none⟩)])]).run Tryd.prog w = .ok (.bool true) w := by kernel_rfl
theorem rl_valueS (c : Int) (w : World) : (ReflectliteValue.unpack (.iface 60 (.agg #[.int .i64 c]))).run Tryd.prog w
    = .ok (.agg #[.pointer (some ⟨2, 60, none⟩), .pointer (some ⟨w.heap.size, 0, none⟩), .int .u64 153]) (w.alloc (.cells #[.int .i64 c] 60)) := by kernel_rfl

theorem rl_elemOf (w : World) : (Rtype.elem? 62).run Tryd.prog w = .ok (some 60) w := by kernel_rfl
theorem rl_mk (p : Addr) (w : World) : (ReflectliteValue.mk 60 p ReflectliteValue.flagAddr).run Tryd.prog w = .ok (.agg #[.pointer (some ⟨2, 60, none⟩), .pointer (some p), .int .u64 409]) w := by kernel_rfl
theorem rl_elemV (a p : Addr) (W : World) (ha : W.cell? a = some (.pointer (some p))) :
    (ReflectliteValue.method (ReflectliteValue.valueError "reflectlite.Value.Elem" 0) ReflectliteValue.elem #[.agg #[.pointer (some ⟨2, 62, none⟩), .pointer (some a), .int .u64 150]]).run Tryd.prog W
      = .ok (.agg #[.pointer (some ⟨2, 60, none⟩), .pointer (some p), .int .u64 409]) W := by
  rw [rlm]
  simp only [Sem.run_bind, rl_partsP, Result.andThen]
  simp [ReflectliteValue.elem, loadVar, isAgg, underlying, Tryd.underlying62, ha, Result.andThen, rl_elemOf, rl_mk]
theorem rls (v x : Value) : ReflectliteValue.set #[v, x] = (do
    let (some (dst, a, fl), some (src, b, _)) := (← ReflectliteValue.parts v, ← ReflectliteValue.parts x)
      | unsupported (.noEntry "extern/(internal/reflectlite.Value).Set.zeroValue")
    if fl / ReflectliteValue.flagAddr % 2 == 0 then unsupported (.noEntry "extern/(internal/reflectlite.Value).Set.unaddressable")
    let val ← loadVar src b
    if ← Rtype.directlyAssignable dst src then storeVar dst a val
    else if ← Rtype.implements dst src then
      if (← Rtype.kind src) == 20 then
        match val with
        | .nilIface => unsupported (.noEntry "extern/reflectlite: a nil value of one interface type handed on as a value of another")
        | _ => storeVar dst a val
      else storeVar dst a (.iface src val)
    else panicString ("reflectlite.Set: value of type " ++ (← Rtype.spelt src) ++ " is not assignable to type " ++ (← Rtype.spelt dst))
    pure (.tuple #[])) := rfl
theorem rl_partsSa (a : Addr) (w : World) : (ReflectliteValue.parts (.agg #[.pointer (some ⟨2, 60, none⟩), .pointer (some a), .int .u64 409])).run Tryd.prog w = .ok (some (60, a, 409)) w := by kernel_rfl
theorem rl_partsS (a : Addr) (w : World) : (ReflectliteValue.parts (.agg #[.pointer (some ⟨2, 60, none⟩), .pointer (some a), .int .u64 153])).run Tryd.prog w = .ok (some (60, a, 153)) w := by kernel_rfl
theorem rl_direct (w : World) : (Rtype.directlyAssignable 60 60).run Tryd.prog w = .ok true w := by kernel_rfl
theorem rl_load (b : Addr) (c : Int) (W : World) (hb : W.cell? b = some (.int .i64 c)) : (loadVar 60 b).run Tryd.prog W = .ok (.agg #[.int .i64 c]) W := by
  have hl : (loadCells b 1).run Tryd.prog W = .ok #[.int .i64 c] W := run_loadCells_list W b [.int .i64 c] (fun j v h => by
    cases j with
    | zero => simp at h; subst h; simpa [Addr.add] using hb
    | succ j => simp at h)
  simp [loadVar, isAgg, underlying, Tryd.underlying60, Result.andThen, hl]
theorem rl_store (ta : Addr) (c : Int) (old : Value) (W : World) (ht : W.cell? ta = some old) (hf : W.frozen? ta = false) : (storeVar 60 ta (.agg #[.int .i64 c])).run Tryd.prog W = .ok () (W.setCell ta (.int .i64 c)) := by
  simp [storeVar, Result.andThen, Value.cells, storeCells, Addr.add]
  rw [run_store Tryd.prog W ta _ _ (by rfl)]
  simp [ht, hf]
/-- (Value).Set: the fault at 'ta' gets what the Value's own variable 'b' holds. -/
theorem rl_set (ta b : Addr) (c : Int) (old : Value) (W : World) (hb : W.cell? b = some (.int .i64 c)) (ht : W.cell? ta = some old) (hf : W.frozen? ta = false) :
    (ReflectliteValue.set #[.agg #[.pointer (some ⟨2, 60, none⟩), .pointer (some ta), .int .u64 409], .agg #[.pointer (some ⟨2, 60, none⟩), .pointer (some b), .int .u64 153]]).run Tryd.prog W
      = .ok (.tuple #[]) (W.setCell ta (.int .i64 c)) := by
  rw [rls]
  simp only [Sem.run_bind, rl_partsSa, rl_partsS, Result.andThen]
  simp [ReflectliteValue.flagAddr, rl_load b c W hb, Result.andThen, rl_direct, rl_store ta c old W ht hf]

/-- A pointer's Value that was boxed. -/
def rvP (w : World) : Array Value := #[.pointer (some ⟨2, 62, none⟩), .pointer (some ⟨w.heap.size, 0, none⟩), .int .u64 150]
/-- The world behind errors.As of a fault. -/
def asW (c : Int) (t : Addr) (w : World) : World := ((((w.alloc (.cells #[.pointer (some t)] 62)).alloc (.cells (rvP w) 86)).alloc (.cells (rvP w) 86)).alloc (.cells #[.int .i64 c] 60)).setCell t (.int .i64 c)

set_option maxHeartbeats 4000000 in
theorem as_hit (c : Int) (t : Addr) (old : Value) (w : World) (hg : w.cell? ⟨0, 0, none⟩ = some (.iface 103 (.agg #[.pointer (some ⟨2, 42, none⟩)]))) (ht0 : w.cell? t = some old) (hf0 : w.frozen? t = false) :
    Calls Tryd.prog 28 #[.iface 60 (.agg #[.int .i64 c]), .iface 62 (.pointer (some t))] w fun ev w' => ev = .returned (.bool true) ∧ w' = asW c t w := by
  have h6 := @run_callFunc_extern Tryd.prog 42 _ (fun args => ReflectliteValue.unpack (args.getD 0 (.tuple #[]))) Tryd.func42 (by kernel_rfl) (by kernel_rfl) (by kernel_rfl) (by kernel_rfl)
  have h7 := @run_callFunc_extern Tryd.prog 43 _ (ReflectliteValue.methodAny (ReflectliteValue.valueError "reflectlite.Value.Type" 0) (fun t _ _ _ => ReflectliteType.toType t)) Tryd.func43 (by kernel_rfl) (by kernel_rfl) (by kernel_rfl) (by kernel_rfl)
  have h8 := @run_callFunc_extern Tryd.prog 44 _ (ReflectliteValue.method (ReflectliteValue.valueError "reflectlite.Value.IsNil" 0) ReflectliteValue.isNil) Tryd.func44 (by kernel_rfl) (by kernel_rfl) (by kernel_rfl) (by kernel_rfl)
  have h27 := @run_callFunc_extern Tryd.prog 78 _ (ReflectliteType.abiMethod fun t => do pure (.int .u8 (← Rtype.kind t))) Tryd.func78 (by kernel_rfl) (by kernel_rfl) (by kernel_rfl) (by kernel_rfl)
  have h37 := @run_callFunc_extern Tryd.prog 89 _ (ReflectliteType.method ReflectliteType.elem) Tryd.func89 (by kernel_rfl) (by kernel_rfl) (by kernel_rfl) (by kernel_rfl)
  have h38 := @run_callFunc_extern Tryd.prog 90 _ (ReflectliteType.relation "Implements" ReflectliteType.implements_) Tryd.func90 (by kernel_rfl) (by kernel_rfl) (by kernel_rfl) (by kernel_rfl)
  have h10 := @run_callFunc_extern Tryd.prog 54 _ ReflectliteType.typeOf Tryd.func54 (by kernel_rfl) (by kernel_rfl) (by kernel_rfl) (by kernel_rfl)
  have h35 := @run_callFunc_extern Tryd.prog 87 _ (ReflectliteType.relation "AssignableTo" ReflectliteType.assignableTo) Tryd.func87 (by kernel_rfl) (by kernel_rfl) (by kernel_rfl) (by kernel_rfl)
  have h11 := @run_callFunc_extern Tryd.prog 55 _ (ReflectliteValue.method (ReflectliteValue.valueError "reflectlite.Value.Elem" 0) ReflectliteValue.elem) Tryd.func55 (by kernel_rfl) (by kernel_rfl) (by kernel_rfl) (by kernel_rfl)
  have h12 := @run_callFunc_extern Tryd.prog 56 _ ReflectliteValue.set Tryd.func56 (by kernel_rfl) (by kernel_rfl) (by kernel_rfl) (by kernel_rfl)
  have tO := rl_typeOf
  have mA := rl_methodAssignableTo
  have a25 := rl_assignable
  have v25 := rl_valueS
  have f6 := rl_valueP
  have f7 := rl_typeP
  have mK := rl_methodKind
  have mE := rl_methodElem
  have mI := rl_methodImplements
  have k27 := rl_kindP
  have k25 := rl_kindS
  have e27 := rl_elemP
  have i25 := rl_implements
  have n8 := rl_isNil ⟨w.heap.size, 0, none⟩ t ((w.alloc (.cells #[.pointer (some t)] 62)).alloc (.cells #[.pointer (some ⟨2, 62, none⟩), .pointer (some ⟨w.heap.size, 0, none⟩), .int .u64 150] 86)) (by simp)
  have hlt : 0 < w.heap.size := World.block_lt_of_cell? _ _ hg
  have hg2 : ((w.alloc (.cells #[.pointer (some t)] 62)).alloc (.cells #[.pointer (some ⟨2, 62, none⟩), .pointer (some ⟨w.heap.size, 0, none⟩), .int .u64 150] 86)).cell? ⟨0, 0, none⟩ = some (.iface 103 (.agg #[.pointer (some ⟨2, 42, none⟩)])) := by
    rw [World.cell?_alloc_lt _ _ ⟨0, 0, none⟩ (by simp <;> omega), World.cell?_alloc_lt _ _ ⟨0, 0, none⟩ hlt]; exact hg
  have htl : t.block < w.heap.size := World.block_lt_of_cell? _ _ ht0
  have el := rl_elemV ⟨w.heap.size, 0, none⟩ t (((w.alloc (.cells #[.pointer (some t)] 62)).alloc (.cells #[.pointer (some ⟨2, 62, none⟩), .pointer (some ⟨w.heap.size, 0, none⟩), .int .u64 150] 86)).alloc (.cells #[.pointer (some ⟨2, 62, none⟩), .pointer (some ⟨w.heap.size, 0, none⟩), .int .u64 150] 86)) (by rw [World.cell?_alloc_lt _ _ ⟨w.heap.size, 0, none⟩ (by simp; omega)]; simp)
  have st := rl_set t ⟨w.heap.size + 1 + 1 + 1, 0, none⟩ c old ((((w.alloc (.cells #[.pointer (some t)] 62)).alloc (.cells #[.pointer (some ⟨2, 62, none⟩), .pointer (some ⟨w.heap.size, 0, none⟩), .int .u64 150] 86)).alloc (.cells #[.pointer (some ⟨2, 62, none⟩), .pointer (some ⟨w.heap.size, 0, none⟩), .int .u64 150] 86)).alloc (.cells #[.int .i64 c] 60))
    (by rw [World.cell?_alloc_at _ _ _ _ (by simp)]; rfl)
    (by rw [World.cell?_alloc_lt _ _ t (by simp; omega), World.cell?_alloc_lt _ _ t (by simp; omega), World.cell?_alloc_lt _ _ t (by simp; omega), World.cell?_alloc_lt _ _ t htl]; exact ht0)
    (by rw [World.frozen?_alloc_old _ _ t (by simp; omega), World.frozen?_alloc_old _ _ t (by simp; omega), World.frozen?_alloc_old _ _ t (by simp; omega), World.frozen?_alloc_old _ _ t (Nat.ne_of_lt htl)]; exact hf0)
  go_enter Tryd.func28, Tryd.ntmps28
  go_wp2
  refine wp_loop_rounds 1 ?_
  rw [rounds_succ]
  go_wp2
  go_ret
  exact ⟨rfl, rfl⟩

/-- All that was there below stays: the target is new. -/
theorem asW_below (c : Int) (g : Nat) (w0 w : World) (hb : Below w0.heap.size w0 w) (hg : w0.heap.size ≤ g) : Below w0.heap.size w0 (asW c ⟨g, 0, none⟩ w) := by
  unfold asW
  exact ((((hb.alloc hb.size _).alloc (hb.alloc hb.size _).size _).alloc ((hb.alloc hb.size _).alloc (hb.alloc hb.size _).size _).size _).alloc (((hb.alloc hb.size _).alloc (hb.alloc hb.size _).size _).alloc ((hb.alloc hb.size _).alloc (hb.alloc hb.size _).size _).size _).size _).setCell (p := ⟨g, 0, none⟩) hg _

set_option maxRecDepth 100000 in
theorem codeOf_nil (w : World) : Calls Tryd.prog 14 #[.nilIface] w fun e w' => e = .returned (.int .i64 0) ∧ Below w.heap.size w w' := by
  have b0 := belNew w (.cells #[.int .i64 0] 60)
  go_enter Tryd.func14, Tryd.ntmps14
  go_wp2_with (go_at_call 28; refine (as_nil _ _).mono ?_; rintro e w1 ⟨rfl, rfl⟩)
  go_ret
  exact ⟨rfl, b0⟩

set_option maxRecDepth 100000 in
theorem codeOf_fault (c : Int) (w : World) (h : ErrTab w) : Calls Tryd.prog 14 #[.iface 60 (.agg #[.int .i64 c])] w fun e w' => e = .returned (.int .i64 c) ∧ Below w.heap.size w w' := by
  have b0 := belNew w (.cells #[.int .i64 0] 60)
  have hg : (w.alloc (.cells #[.int .i64 0] 60)).cell? ⟨0, 0, none⟩ = some (.iface 103 (.agg #[.pointer (some ⟨2, 42, none⟩)])) := (b0.cell (p := ⟨0, 0, none⟩) (World.block_lt_of_cell? _ _ h)).trans h
  have X0 := Box.new w #[.int .i64 0] 60
  have HA := Lib.hid (as_hit c ⟨w.heap.size, 0, none⟩ _ _ hg (X0.cell 0 _ rfl) (X0.loose 0))
  have HB := Lib.hid (asW_below c w.heap.size w _ b0 (Nat.le_refl _))
  have HX : Hid ((asW c ⟨w.heap.size, 0, none⟩ (w.alloc (.cells #[.int .i64 0] 60))).cell? ⟨w.heap.size, 0, none⟩ = some (.int .i64 c)) := by
    show _ = _
    unfold asW
    have X4 := (((X0.later (belNew _ (.cells #[.pointer (some ⟨w.heap.size, 0, none⟩)] 62))).later (belNew _ (.cells (rvP (w.alloc (.cells #[.int .i64 0] 60))) 86))).later (belNew _ (.cells (rvP (w.alloc (.cells #[.int .i64 0] 60))) 86))).later (belNew _ (.cells #[.int .i64 c] 60))
    exact (X4.set 0 (.int .i64 c)).cell 0 _ rfl
  clear X0 hg b0 h
  go_enter Tryd.func14, Tryd.ntmps14
  go_wp2_with fail
  refine HA.out.mono ?_
  rintro e w1 ⟨rfl, rfl⟩
  have hx := HX.out
  generalize asW c ⟨w.heap.size, 0, none⟩ (w.alloc (.cells #[.int .i64 0] 60)) = W at hx HB ⊢
  clear HA HX
  go_wp2
  go_ret
  exact ⟨rfl, HB.out⟩

end Go.Proofs.YtlnpegknjhbdnaaDoor
