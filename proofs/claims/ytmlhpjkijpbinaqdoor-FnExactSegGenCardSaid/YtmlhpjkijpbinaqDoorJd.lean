/- Texts of our own, joined. -/
import Derived.Test.YtmlhpjkijpbinaqDoorJc
import Derived.Deep.Cut
import Derived.WalkKit
import Derived.Test.YtmlhpjkijpbinaqDoorJa
import Derived.Laws.Bits128
import Derived.Lib.Hide
import Derived.Deep.RegionHeld3
import Derived.Deep.QuietTactic
import Derived.BigQuiet
/- What SectorText hands back, the model's and the program's. -/
namespace Go.Proofs.YtmlhpjkijpbinaqDoor
open Go.RowKit

/-- What is read of a sector. -/
def rdO (d : Dk) (a : Int) : Option ByteArray := if 0 ≤ a ∧ a < d.sec.length then some ((lastAt d.cache a).getD (d.sec.getD a.toNat ⟨#[]⟩)) else none
theorem rdT_some {d : Dk} {a : Int} {t : ByteArray} (h : rdO d a = some t) : rdT d a = .tuple #[.string t, .bool true] := by
  unfold rdO at h
  unfold rdT
  split at h
  · rename_i hc; rw [if_pos hc, Option.some.inj h]
  · cases h
theorem rdT_none {d : Dk} {a : Int} (h : rdO d a = none) : rdT d a = .tuple #[.string ⟨#[]⟩, .bool false] := by
  unfold rdO at h
  unfold rdT
  split at h
  · cases h
  · rename_i hc; rw [if_neg hc]
theorem rdO_in {d : Dk} {a : Int} {t : ByteArray} (h : rdO d a = some t) : 0 ≤ a ∧ a < d.sec.length := by
  unfold rdO at h
  split at h
  · assumption
  · cases h
theorem lastAt_mem {c : List Wr} {a : Int} {t : ByteArray} (h : lastAt c a = some t) : ∃ x ∈ c, x.text = t := by
  induction c with
  | nil => cases h
  | cons x c ih =>
    unfold lastAt at h
    split at h
    · rename_i t' ht
      cases h
      obtain ⟨y, hy, e⟩ := ih ht
      exact ⟨y, List.mem_cons_of_mem _ hy, e⟩
    · split at h
      · cases h; exact ⟨x, by simp, rfl⟩
      · cases h
theorem rdO_size {d : Dk} {a : Int} {t : ByteArray} (h : rdO d a = some t) (ht : ∀ s ∈ d.sec, s.size ≤ 1099511627776) (hu : ∀ x ∈ d.cache, x.text.size ≤ 1099511627776) : t.size ≤ 1099511627776 := by
  have hin := rdO_in h
  unfold rdO at h
  rw [if_pos hin] at h
  cases hl : lastAt d.cache a with
  | some u =>
    rw [hl] at h
    obtain ⟨x, hx, e⟩ := lastAt_mem hl
    cases h
    rw [← e]; exact hu x hx
  | none =>
    rw [hl] at h
    have hk : a.toNat < d.sec.length := by omega
    simp [List.getD_eq_getElem?_getD, List.getElem?_eq_getElem hk] at h
    rw [← h]; exact ht _ (List.getElem_mem hk)

/-- The texts of the first i sectors from there on. -/
def stL (d : Dk) (a : Int) : Nat → Option (List UInt8)
  | 0 => some []
  | i + 1 => match stL d a i with
    | none => none
    | some l => match rdO d (a + (i : Int)) with
      | some t => some (l ++ t.data.toList)
      | none => none
theorem stL_none {d : Dk} {a : Int} {i : Nat} (h : stL d a i = none) : ∀ j, i ≤ j → stL d a j = none := by
  intro j hj
  induction j with
  | zero => have : i = 0 := by omega
            subst this; exact h
  | succ j ih =>
    by_cases e : i = j + 1
    · subst e; exact h
    · unfold stL; rw [ih (by omega)]
theorem stL_go {d : Dk} {a : Int} {i : Nat} {l : List UInt8} {t : ByteArray} (h : stL d a i = some l) (ht : rdO d (a + (i : Int)) = some t) : stL d a (i + 1) = some (l ++ t.data.toList) := by unfold stL; rw [h, ht]
theorem stL_stop {d : Dk} {a : Int} {i n : Nat} {l : List UInt8} (h : stL d a i = some l) (ht : rdO d (a + (i : Int)) = none) (hn : i < n) : stL d a n = none :=
  stL_none (i := i + 1) (by unfold stL; rw [h, ht]) n hn

/-- What SectorText hands back. -/
def stT (d : Dk) (a n : Int) : Value := if 0 ≤ n ∧ n ≤ 100 then (match stL d a n.toNat with
  | some l => .tuple #[.string ⟨l.toArray⟩, .bool true]
  | none => .tuple #[.string ⟨#[]⟩, .bool false]) else .tuple #[.string ⟨#[]⟩, .bool false]
theorem stT_form (d : Dk) (a n : Int) : ∃ (t : ByteArray) (f : Bool), stT d a n = .tuple #[.string t, .bool f] := by
  unfold stT
  split
  · split
    · exact ⟨_, _, rfl⟩
    · exact ⟨_, _, rfl⟩
  · exact ⟨_, _, rfl⟩
theorem stT_no {d : Dk} {a n : Int} (h : ¬ (0 ≤ n ∧ n ≤ 100)) : stT d a n = .tuple #[.string ⟨#[]⟩, .bool false] := by rw [stT, if_neg h]
theorem stT_none {d : Dk} {a : Int} {n : Nat} (h : stL d a n = none) : stT d a (n : Int) = .tuple #[.string ⟨#[]⟩, .bool false] := by
  unfold stT
  split
  · rw [Int.toNat_natCast, h]
  · rfl
theorem stT_some {d : Dk} {a : Int} {n : Nat} {l : List UInt8} (hn : n ≤ 100) (h : stL d a n = some l) : stT d a (n : Int) = .tuple #[.string ⟨l.toArray⟩, .bool true] := by
  unfold stT
  rw [if_pos ⟨by omega, by omega⟩, Int.toNat_natCast, h]

theorem byteCells_bytesV (l : List UInt8) : Lib.byteCells l = bytesV l := rfl

theorem builder_later {T e : TypeId} {B b : Nat} {bs : List Value} {w w' : World} (h : Lib.IsBuilder T e B b bs w) (hb : Below w.heap.size w w') : Lib.IsBuilder T e B b bs w' := by
  have hg : w.grownBy w' none := ⟨hb.os, hb.tape, hb.output, hb.size, fun k hk _ => hb.block k hk⟩
  have one : ∀ p, Lib.BuilderAt T e B b p bs w → Lib.BuilderAt T e B b p bs w' := by
    rintro p ⟨hB, v, hk, ho, hn⟩
    refine ⟨hB, v, (hb.block b (Array.getElem?_eq_some_iff.1 hk).1).trans hk, ho.kept hg ?_, hn⟩
    cases hv : v.ownBlock with
    | none => exact .inl rfl
    | some k => exact .inr (by simp)
  rcases h with h | h
  · exact .inl (one _ h)
  · exact .inr (one _ h)

set_option maxRecDepth 100000 in
set_option maxHeartbeats 4000000 in
theorem implSectorText_any (d : Dk) (v : Value) (a n : Int) (w : World) (h : DRd w v d) (hs : d.small) (ht : ∀ s ∈ d.sec, s.size ≤ 1099511627776) (hu : ∀ x ∈ d.cache, x.text.size ≤ 1099511627776)
    (ha : -9223372036854775808 ≤ a ∧ a ≤ 9223372036854775807) :
    Calls Tryd.prog 58 #[v, .int .i64 a, .int .i64 n] w fun e w' => e = .returned (stT d a n) ∧ Below w.heap.size w w' := by
  obtain ⟨aa, ab, ca, cb, rfl, _, _⟩ := h.form
  have hx := Box.new w #[.slice aa d.sec.length ca, .slice ab d.cache.length cb] 43
  have b0 : Below w.heap.size w (w.alloc (.cells #[.slice aa d.sec.length ca, .slice ab d.cache.length cb] 43)) := (Below.refl _ _).alloc (Nat.le_refl _) _
  by_cases hin : 0 ≤ n ∧ n ≤ 100
  · obtain ⟨N, rfl⟩ := Int.eq_ofNat_of_zero_le hin.1
    have hN : N ≤ 100 := by omega
    obtain ⟨hx0, hx1, bT, hsz⟩ := two_boxes w #[.slice aa d.sec.length ca, .slice ab d.cache.length cb] #[.pointer none, .slice none 0 0] 43 96
    clear hx b0
    go_enter Tryd.func58, Tryd.ntmps58
    go_wp2
    generalize ((w.alloc (.cells #[.slice aa d.sec.length ca, .slice ab d.cache.length cb] 43)).alloc (.cells #[.pointer none, .slice none 0 0] 96)) = W at hx0 hx1 bT hsz ⊢
    have B0 : Hid (Lib.IsBuilder 96 5 (w.heap.size + 1) (w.heap.size + 1) (Lib.byteCells []) W ∧ Box W w.heap.size #[.slice aa d.sec.length ca, .slice ab d.cache.length cb] 43 ∧ Below w.heap.size w W ∧ w.heap.size + 1 ≤ W.heap.size) :=
      ⟨.inl ⟨Nat.le_refl _, .slice none 0 0, hx1, World.ownsRow_nil _ _ _ _, by simp [Value.ownBlock]⟩, hx0, bT, by omega⟩
    have HD := Lib.hid h
    clear hx0 hx1 bT hsz h
    go_loopw [19] (fun iv wr => ∃ i : Nat, i ≤ N ∧ iv = .int .i64 (i : Int) ∧ (i = 0 ∨ (0 ≤ a ∧ a < d.sec.length)) ∧ ∃ l : List UInt8, stL d a i = some l ∧ l.length ≤ i * 1099511627776 ∧ Lib.IsBuilder 96 5 (w.heap.size + 1) (w.heap.size + 1) (Lib.byteCells l) wr ∧ Box wr w.heap.size #[.slice aa d.sec.length ca, .slice ab d.cache.length cb] 43 ∧ Below w.heap.size w wr ∧ w.heap.size + 1 ≤ wr.heap.size) (fun iv _ => N - (intOf iv).toNat)
    case atStart => exact ⟨0, by omega, rfl, .inl rfl, [], rfl, by simp, B0.out⟩
    case round =>
      obtain ⟨i, hi, rfl, hor, l, hst, hll, hbd, hbx, hbl, hsz⟩ := hrel
      by_cases hlt : i < N
      · have c0 := hbx.cell 0 (.slice aa d.sec.length ca) rfl
        have c1 := hbx.cell 1 (.slice ab d.cache.length cb) rfl
        have hs1 := hs.1
        have hwr : IntKind.i64.wrap (a + (i : Int)) = a + (i : Int) := IntWalk.i64_in _ ⟨by rcases hor with e | e <;> omega, by rcases hor with e | e <;> omega⟩
        have hD := HD.out.later hbl
        cases hrd : rdO d (a + (i : Int)) with
        | none =>
          have HZ := Lib.hid (stT_none (stL_stop hst hrd hlt))
          have HR := Lib.hid (rdT_none hrd)
          have HB := Lib.hid hbl
          clear hst hrd hbd hor
          go_wp2_with (go_at_call 69; refine (implReadSector_any d _ (a + (i : Int)) _ hD hs ht hu).mono ?_; rintro e w1 ⟨rfl, k1⟩; rw [HR.out])
          go_ret2
          exact ⟨by rw [HZ.out]; rfl, HB.out.trans (k1.mono HB.out.size)⟩
        | some t =>
          have htz := rdO_size hrd ht hu
          have hin2 := rdO_in hrd
          have HS := Lib.hid (stL_go hst hrd)
          have HR := Lib.hid (rdT_some hrd)
          have HO : Hid (0 ≤ a ∧ a < d.sec.length ∨ i = 0) := by rcases hor with e | e; exact .inr e; exact .inl e
          have HB := Lib.hid hbl
          have HBX := Lib.hid hbx
          have HBD := Lib.hid hbd
          clear hst hrd hbd hor hbx
          have hlc : (Lib.byteCells l).length = l.length := by rw [byteCells_bytesV, bytesV_length]
          have hlen : l.length + t.size ≤ 140737488355328 := by
            have : i * 1099511627776 ≤ 99 * 1099511627776 := Nat.mul_le_mul_right _ (by omega)
            omega
          have HLN := Lib.hid hlen
          have HLC := Lib.hid hlc
          have HLL := Lib.hid hll
          clear hlen hlc hll
          go_wp2_with (first
            | (go_at_call 69; refine (implReadSector_any d _ (a + (i : Int)) _ hD hs ht hu).mono ?_; rintro e w1 ⟨rfl, k1⟩; rw [HR.out])
            | (go_at_call 70; refine (bldWrite (w.heap.size + 1) (w.heap.size + 1) (Lib.byteCells l) t _ (builder_later HBD.out k1) (by rw [HLC.out]; exact HLN.out) (Nat.le_trans hsz k1.size)).mono ?_; rintro e w2 ⟨rfl, bd2, k2⟩))
          have bF : Below w.heap.size w w2 := (HB.out.trans (k1.mono HB.out.size)).trans (k2.mono (by omega))
          have bx2 := (HBX.out.later k1).under k2 (by omega)
          have es : Lib.byteCells l ++ Lib.strCells t = Lib.byteCells (l ++ t.data.toList) := by simp [Lib.byteCells, Lib.strCells]
          rw [es] at bd2
          have hsz2 : w.heap.size + 1 ≤ w2.heap.size := Nat.le_trans (Nat.le_trans hsz k1.size) k2.size
          have hl2 : (l ++ t.data.toList).length ≤ (i + 1) * 1099511627776 := by
            have : t.data.toList.length = t.size := by rw [Array.length_toList]; rfl
            have := HLL.out
            rw [List.length_append, Nat.succ_mul]; omega
          have hor2 : i + 1 = 0 ∨ (0 ≤ a ∧ a < d.sec.length) := by
            rcases HO.out with e | e
            · exact .inr e
            · subst e; exact .inr (by simpa using hin2)
          have FIN := Lib.hid (show ∃ l : List UInt8, stL d a (i + 1) = some l ∧ l.length ≤ (i + 1) * 1099511627776 ∧ Lib.IsBuilder 96 5 (w.heap.size + 1) (w.heap.size + 1) (Lib.byteCells l) w2 ∧ _ ∧ _ ∧ _ from ⟨_, HS.out, hl2, .inr bd2, bx2, bF, hsz2⟩)
          clear bd2 bx2 bF es hl2
          go_roundw
          case rel => exact ⟨i + 1, by omega, by go_num, hor2, FIN.out⟩
          case measure => simp [intOf]; omega
      · have hie : i = N := by omega
        subst hie
        have HZ := Lib.hid (stT_some hN hst)
        have HB := Lib.hid hbl
        have HBD := Lib.hid hbd
        clear hst hbd hor
        go_wp2_with (go_at_call 71; refine (bldString (w.heap.size + 1) (w.heap.size + 1) l _ HBD.out hsz).mono ?_; rintro e w1 ⟨rfl, k1⟩)
        go_ret2
        exact ⟨by rw [HZ.out]; rfl, HB.out.trans (k1.mono (by omega))⟩
  · have HZ := Lib.hid (stT_no (d := d) (a := a) hin)
    clear h
    go_enter Tryd.func58, Tryd.ntmps58
    go_wp2
    all_goals
      go_ret2
      exact ⟨by rw [HZ.out]; rfl, b0⟩

theorem bytes_append (l : List UInt8) (t : ByteArray) : (⟨l.toArray⟩ : ByteArray) ++ t = ⟨(l ++ t.data.toList).toArray⟩ := by
  obtain ⟨⟨r⟩⟩ := t
  apply ByteArray.ext
  simp

set_option maxRecDepth 100000 in
set_option maxHeartbeats 4000000 in
theorem specSectorText_any (d : Dk) (v : Value) (a n : Int) (w : World) (h : DRd w v d) (hs : d.small) (ht : ∀ s ∈ d.sec, s.size ≤ 1099511627776) (hu : ∀ x ∈ d.cache, x.text.size ≤ 1099511627776) :
    Calls Tryd.prog 54 #[v, .int .i64 a, .int .i64 n] w fun e w' => e = .returned (stT d a n) ∧ Below w.heap.size w w' := by
  obtain ⟨aa, ab, ca, cb, rfl, _, _⟩ := h.form
  have hx := Box.new w #[.slice aa d.sec.length ca, .slice ab d.cache.length cb] 43
  have b0 : Below w.heap.size w (w.alloc (.cells #[.slice aa d.sec.length ca, .slice ab d.cache.length cb] 43)) := (Below.refl _ _).alloc (Nat.le_refl _) _
  by_cases hin : 0 ≤ n ∧ n ≤ 100
  · obtain ⟨N, rfl⟩ := Int.eq_ofNat_of_zero_le hin.1
    have hN : N ≤ 100 := by omega
    go_enter Tryd.func54, Tryd.ntmps54
    go_wp2_with (go_at_call 53; refine (in_yes _ _ _ _ (by omega) (by omega)).mono ?_; rintro e w5 ⟨rfl, rfl⟩)
    generalize w.alloc (.cells #[.slice aa d.sec.length ca, .slice ab d.cache.length cb] 43) = W at hx b0 ⊢
    have HD := Lib.hid h
    have HX := Lib.hid hx
    have B0 := Lib.hid b0
    clear hx b0 h
    go_loopw [8, 9] (fun sv iv wr => ∃ i : Nat, i ≤ N ∧ iv = .int .i64 (i : Int) ∧ (i = 0 ∨ (0 ≤ a ∧ a < d.sec.length)) ∧ ∃ l : List UInt8, stL d a i = some l ∧ l.length ≤ i * 1099511627776 ∧ sv = .string ⟨l.toArray⟩ ∧ Below W.heap.size W wr) (fun _ iv _ => N - (intOf iv).toNat)
    case atStart => exact ⟨0, by omega, rfl, .inl rfl, [], rfl, by simp, rfl, Below.refl _ _⟩
    case round =>
      obtain ⟨i, hi, rfl, hor, l, hst, hll, rfl, hbr⟩ := hrel
      have hbl : Below w.heap.size w wr := B0.out.trans (hbr.mono B0.out.size)
      by_cases hlt : i < N
      · have hbx := HX.out.later hbr
        have c0 := hbx.cell 0 (.slice aa d.sec.length ca) rfl
        have c1 := hbx.cell 1 (.slice ab d.cache.length cb) rfl
        have hs1 := hs.1
        by_cases hg : 0 ≤ a ∧ a ≤ d.sec.length
        · have hg0 : (0 : Int) ≤ a := hg.1
          have hg1 : a ≤ (d.sec.length : Int) := hg.2
          have hD := HD.out.later hbl
          cases hrd : rdO d (a + (i : Int)) with
          | none =>
            have HZ := Lib.hid (stT_none (stL_stop hst hrd hlt))
            have HR := Lib.hid (rdT_none hrd)
            have HB := Lib.hid hbl
            clear hst hrd hor
            go_wp2_with (go_at_call 68; refine (specReadSector_any d _ (a + (i : Int)) _ hD hs).mono ?_; rintro e w1 ⟨rfl, k1⟩; rw [HR.out])
            go_ret2
            exact ⟨by rw [HZ.out]; rfl, HB.out.trans (k1.mono HB.out.size)⟩
          | some t =>
            have htz := rdO_size hrd ht hu
            have hin2 := rdO_in hrd
            have HS := Lib.hid (stL_go hst hrd)
            have HR := Lib.hid (rdT_some hrd)
            have HO : Hid (0 ≤ a ∧ a < d.sec.length ∨ i = 0) := by rcases hor with e | e; exact .inr e; exact .inl e
            clear hst hrd hor
            go_wp2_with (go_at_call 68; refine (specReadSector_any d _ (a + (i : Int)) _ hD hs).mono ?_; rintro e w1 ⟨rfl, k1⟩; rw [HR.out])
            have hl2 : (l ++ t.data.toList).length ≤ (i + 1) * 1099511627776 := by
              have : t.data.toList.length = t.size := by rw [Array.length_toList]; rfl
              rw [List.length_append, Nat.succ_mul]; omega
            have hor2 : i + 1 = 0 ∨ (0 ≤ a ∧ a < d.sec.length) := by
              rcases HO.out with e | e
              · exact .inr e
              · subst e; exact .inr (by simpa using hin2)
            go_roundw
            case rel => exact ⟨i + 1, by omega, by go_num, hor2, _, HS.out, hl2, congrArg Value.string (bytes_append l t), hbr.trans (k1.mono hbr.size)⟩
            case measure => simp [intOf]; omega
        · have hrd : rdO d (a + (i : Int)) = none := by
            rcases hor with e | e
            · subst e; unfold rdO; rw [if_neg]; simp; omega
            · omega
          have HZ := Lib.hid (stT_none (stL_stop hst hrd hlt))
          have HB := Lib.hid hbl
          clear hst hrd hor
          go_wp2
          all_goals
            go_ret2
            exact ⟨by rw [HZ.out]; rfl, HB.out⟩
      · have hie : i = N := by omega
        subst hie
        have HZ := Lib.hid (stT_some hN hst)
        have HB := Lib.hid hbl
        clear hst hor
        go_wp2
        go_ret2
        exact ⟨by rw [HZ.out]; rfl, HB.out⟩
  · have HZ := Lib.hid (stT_no (d := d) (a := a) hin)
    clear h
    go_enter Tryd.func54, Tryd.ntmps54
    go_wp2_with (go_at_call 53; refine (in_no _ _ _ _ hin).mono ?_; rintro e w5 ⟨rfl, rfl⟩)
    go_ret2
    exact ⟨by rw [HZ.out]; rfl, b0⟩

end Go.Proofs.YtmlhpjkijpbinaqDoor

/- Segments: where they lie, and their texts: SegFirst, SegText, the model's and the program's. -/
namespace Go.Proofs.YtmlhpjkijpbinaqDoor
open Go.RowKit

/-- The first sector of a segment. -/
def sgF (s : Int) : Int := if 0 ≤ s ∧ s ≤ 10 then 8 + 8 * s else 0
theorem sgF_yes {s : Int} (h : 0 ≤ s ∧ s ≤ 10) : sgF s = 8 + 8 * s := if_pos h
theorem sgF_no {s : Int} (h : ¬ (0 ≤ s ∧ s ≤ 10)) : sgF s = 0 := if_neg h

/-- The text of a segment. -/
def sgT (d : Dk) (s : Int) : ByteArray := if 0 ≤ s ∧ s ≤ 10 then (match stL d (8 + 8 * s) 8 with
  | some l => ⟨l.toArray⟩
  | none => ⟨#[]⟩) else ⟨#[]⟩
theorem sgT_no {d : Dk} {s : Int} (h : ¬ (0 ≤ s ∧ s ≤ 10)) : sgT d s = ⟨#[]⟩ := if_neg h
theorem sgT_yes {d : Dk} {s : Int} (h : 0 ≤ s ∧ s ≤ 10) : ∃ f : Bool, stT d (8 + 8 * s) 8 = .tuple #[.string (sgT d s), .bool f] := by
  unfold sgT
  rw [if_pos h]
  cases hl : stL d (8 + 8 * s) 8 with
  | some l => exact ⟨true, stT_some (n := 8) (by omega) hl⟩
  | none => exact ⟨false, stT_none (n := 8) hl⟩

theorem rdO_sizeM {d : Dk} {a : Int} {t : ByteArray} {M : Nat} (h : rdO d a = some t) (ht : ∀ s ∈ d.sec, s.size ≤ M) (hu : ∀ x ∈ d.cache, x.text.size ≤ M) : t.size ≤ M := by
  have hin := rdO_in h
  unfold rdO at h
  rw [if_pos hin] at h
  cases hl : lastAt d.cache a with
  | some u =>
    rw [hl] at h
    obtain ⟨x, hx, e⟩ := lastAt_mem hl
    cases h
    rw [← e]; exact hu x hx
  | none =>
    rw [hl] at h
    have hk : a.toNat < d.sec.length := by omega
    simp [List.getD_eq_getElem?_getD, List.getElem?_eq_getElem hk] at h
    rw [← h]; exact ht _ (List.getElem_mem hk)

theorem stL_size {d : Dk} {a : Int} {M : Nat} (ht : ∀ s ∈ d.sec, s.size ≤ M) (hu : ∀ x ∈ d.cache, x.text.size ≤ M) : ∀ (n : Nat) (l : List UInt8), stL d a n = some l → l.length ≤ n * M := by
  intro n
  induction n with
  | zero => intro l h; unfold stL at h; cases h; simp
  | succ n ih =>
    intro l h
    unfold stL at h
    cases hl : stL d a n with
    | none => rw [hl] at h; cases h
    | some l0 =>
      rw [hl] at h
      cases hr : rdO d (a + (n : Int)) with
      | none => simp only [hr] at h; cases h
      | some t =>
        simp only [hr] at h
        cases h
        have h1 := ih l0 hl
        have h2 := rdO_sizeM hr ht hu
        have h3 : t.data.toList.length = t.size := by rw [Array.length_toList]; rfl
        rw [List.length_append, Nat.succ_mul]; omega

theorem sgT_size {d : Dk} {M : Nat} (ht : ∀ s ∈ d.sec, s.size ≤ M) (hu : ∀ x ∈ d.cache, x.text.size ≤ M) (s : Int) : (sgT d s).size ≤ 8 * M := by
  unfold sgT
  split
  · cases hl : stL d (8 + 8 * s) 8 with
    | some l => exact stL_size ht hu 8 l hl
    | none => exact Nat.zero_le _
  · exact Nat.zero_le _

theorem segNumberOk_any (s : Int) (w : World) :
    Calls Tryd.prog 57 #[.int .i64 s] w fun e w' => e = .returned (.bool (decide (0 ≤ s ∧ s ≤ 10))) ∧ w = w' := by
  by_cases h1 : 0 ≤ s
  · have g2 : decide (s < 11) = decide (0 ≤ s ∧ s ≤ 10) := decide_eq_decide.2 ⟨fun h => ⟨h1, by omega⟩, fun h => by omega⟩
    rw [← g2]
    clear g2
    go_enter Tryd.func57, Tryd.ntmps57
    go_wp2
    go_ret
    exact ⟨rfl, rfl⟩
  · rw [decide_eq_false (show ¬ (0 ≤ s ∧ s ≤ 10) by omega)]
    go_enter Tryd.func57, Tryd.ntmps57
    go_wp2
    go_ret
    exact ⟨rfl, rfl⟩

theorem implSegFirst_any (s : Int) (w : World) :
    Calls Tryd.prog 59 #[.int .i64 s] w fun e w' => e = .returned (.int .i64 (sgF s)) ∧ w = w' := by
  by_cases h : 0 ≤ s ∧ s ≤ 10
  · rw [sgF_yes h]
    have hd := decide_eq_true h
    go_enter Tryd.func59, Tryd.ntmps59
    go_wp2_with (go_at_call 57; refine (segNumberOk_any _ _).mono ?_; rintro e w1 ⟨rfl, rfl⟩; rw [hd])
    go_ret
    exact ⟨rfl, rfl⟩
  · rw [sgF_no h]
    have hd := decide_eq_false h
    go_enter Tryd.func59, Tryd.ntmps59
    go_wp2_with (go_at_call 57; refine (segNumberOk_any _ _).mono ?_; rintro e w1 ⟨rfl, rfl⟩; rw [hd])
    go_ret
    exact ⟨rfl, rfl⟩

theorem specSegFirst_any (s : Int) (w : World) :
    Calls Tryd.prog 55 #[.int .i64 s] w fun e w' => e = .returned (.int .i64 (sgF s)) ∧ w = w' := by
  by_cases h : 0 ≤ s ∧ s ≤ 10
  · rw [sgF_yes h]
    go_enter Tryd.func55, Tryd.ntmps55
    go_wp2_with (go_at_call 53; refine (in_yes _ _ _ _ (by omega) (by omega)).mono ?_; rintro e w5 ⟨rfl, rfl⟩)
    go_ret
    exact ⟨congrArg (fun z => Ending.returned (.int .i64 z)) (by omega), rfl⟩
  · rw [sgF_no h]
    go_enter Tryd.func55, Tryd.ntmps55
    go_wp2_with (go_at_call 53; refine (in_no _ _ _ _ h).mono ?_; rintro e w5 ⟨rfl, rfl⟩)
    go_ret
    exact ⟨rfl, rfl⟩

set_option maxRecDepth 100000 in
set_option maxHeartbeats 1000000 in
theorem implSegText_any (d : Dk) (v : Value) (s : Int) (w : World) (h : DRd w v d) (hs : d.small) (ht : ∀ s ∈ d.sec, s.size ≤ 1099511627776) (hu : ∀ x ∈ d.cache, x.text.size ≤ 1099511627776) :
    Calls Tryd.prog 36 #[v, .int .i64 s] w fun e w' => e = .returned (.string (sgT d s)) ∧ Below w.heap.size w w' := by
  obtain ⟨aa, ab, ca, cb, rfl, _, _⟩ := h.form
  have hx := Box.new w #[.slice aa d.sec.length ca, .slice ab d.cache.length cb] 43
  have b0 : Below w.heap.size w (w.alloc (.cells #[.slice aa d.sec.length ca, .slice ab d.cache.length cb] 43)) := (Below.refl _ _).alloc (Nat.le_refl _) _
  have h' := h.later b0
  by_cases hin : 0 ≤ s ∧ s ≤ 10
  · have hd := decide_eq_true hin
    obtain ⟨f, hf⟩ := sgT_yes (d := d) hin
    have HF := Lib.hid hf
    have hsf := sgF_yes hin
    clear hf h
    go_enter Tryd.func36, Tryd.ntmps36
    go_upto_region 3 with (go_at_call 57; refine (segNumberOk_any _ _).mono ?_; rintro e w1 ⟨rfl, rfl⟩; rw [hd])
    generalize w.alloc (.cells #[.slice aa d.sec.length ca, .slice ab d.cache.length cb] 43) = W at hx b0 h' ⊢
    have hD := h'.later ((Below.refl W.heap.size W).drew)
    have c0 := hx.cell 0 (.slice aa d.sec.length ca) rfl
    have c1 := hx.cell 1 (.slice ab d.cache.length cb) rfl
    have HS : Hid (∀ x, Below W.drew.heap.size W.drew x → x.cell? ⟨w.heap.size, 0, none⟩ = some (.slice aa d.sec.length ca) ∧ x.cell? ⟨w.heap.size, 1, none⟩ = some (.slice ab d.cache.length cb) ∧ Below w.heap.size w x) := by
      intro x hb
      have hb2 : Below W.heap.size W x := ((Below.refl W.heap.size W).drew).trans hb
      exact ⟨(hx.later hb2).cell 0 _ rfl, (hx.later hb2).cell 1 _ rfl, b0.trans (hb2.mono b0.size)⟩
    clear hx h'
    go_region_held3 (fun x => x.cell? ⟨w.heap.size, 0, none⟩ = some (.slice aa d.sec.length ca) ∧ x.cell? ⟨w.heap.size, 1, none⟩ = some (.slice ab d.cache.length cb))
      (first | go_keep | exact ⟨(HS.out _ k2).1, (HS.out _ k2).2.1⟩)
      (first
        | (go_at_call 59; refine (implSegFirst_any _ _).mono ?_; rintro e w1 ⟨rfl, rfl⟩; rw [hsf])
        | (go_at_call 58; refine (implSectorText_any d _ (8 + 8 * s) 8 _ hD hs ht hu (by omega)).mono ?_; rintro e w2 ⟨rfl, k2⟩; rw [HF.out]))
    all_goals
      go_wp2
      go_ret
      exact ⟨rfl, (HS.out _ k2).2.2⟩
  · rw [sgT_no hin]
    have hd := decide_eq_false hin
    clear h h'
    go_enter Tryd.func36, Tryd.ntmps36
    go_wp2_with (go_at_call 57; refine (segNumberOk_any _ _).mono ?_; rintro e w1 ⟨rfl, rfl⟩; rw [hd])
    go_ret
    exact ⟨rfl, b0⟩

set_option maxRecDepth 100000 in
set_option maxHeartbeats 1000000 in
theorem specSegText_any (d : Dk) (v : Value) (s : Int) (w : World) (h : DRd w v d) (hs : d.small) (ht : ∀ s ∈ d.sec, s.size ≤ 1099511627776) (hu : ∀ x ∈ d.cache, x.text.size ≤ 1099511627776) :
    Calls Tryd.prog 32 #[v, .int .i64 s] w fun e w' => e = .returned (.string (sgT d s)) ∧ Below w.heap.size w w' := by
  obtain ⟨aa, ab, ca, cb, rfl, _, _⟩ := h.form
  have hx := Box.new w #[.slice aa d.sec.length ca, .slice ab d.cache.length cb] 43
  have b0 : Below w.heap.size w (w.alloc (.cells #[.slice aa d.sec.length ca, .slice ab d.cache.length cb] 43)) := (Below.refl _ _).alloc (Nat.le_refl _) _
  have h' := h.later b0
  by_cases hin : 0 ≤ s ∧ s ≤ 10
  · obtain ⟨f, hf⟩ := sgT_yes (d := d) hin
    have HF := Lib.hid hf
    have hsf := sgF_yes hin
    clear hf h
    go_enter Tryd.func32, Tryd.ntmps32
    go_upto_region 3 with (go_at_call 53; refine (in_yes _ _ _ _ (by omega) (by omega)).mono ?_; rintro e w5 ⟨rfl, rfl⟩)
    generalize w.alloc (.cells #[.slice aa d.sec.length ca, .slice ab d.cache.length cb] 43) = W at hx b0 h' ⊢
    have hD := h'.later ((Below.refl W.heap.size W).drew)
    have c0 := hx.cell 0 (.slice aa d.sec.length ca) rfl
    have c1 := hx.cell 1 (.slice ab d.cache.length cb) rfl
    have HS : Hid (∀ x, Below W.drew.heap.size W.drew x → x.cell? ⟨w.heap.size, 0, none⟩ = some (.slice aa d.sec.length ca) ∧ x.cell? ⟨w.heap.size, 1, none⟩ = some (.slice ab d.cache.length cb) ∧ Below w.heap.size w x) := by
      intro x hb
      have hb2 : Below W.heap.size W x := ((Below.refl W.heap.size W).drew).trans hb
      exact ⟨(hx.later hb2).cell 0 _ rfl, (hx.later hb2).cell 1 _ rfl, b0.trans (hb2.mono b0.size)⟩
    clear hx h'
    go_region_held3 (fun x => x.cell? ⟨w.heap.size, 0, none⟩ = some (.slice aa d.sec.length ca) ∧ x.cell? ⟨w.heap.size, 1, none⟩ = some (.slice ab d.cache.length cb))
      (first | go_keep | exact ⟨(HS.out _ k2).1, (HS.out _ k2).2.1⟩)
      (first
        | (go_at_call 55; refine (specSegFirst_any _ _).mono ?_; rintro e w1 ⟨rfl, rfl⟩; rw [hsf])
        | (go_at_call 54; refine (specSectorText_any d _ (8 + 8 * s) 8 _ hD hs ht hu).mono ?_; rintro e w2 ⟨rfl, k2⟩; rw [HF.out]))
    all_goals
      go_wp2
      go_ret
      exact ⟨rfl, (HS.out _ k2).2.2⟩
  · rw [sgT_no hin]
    clear h h'
    go_enter Tryd.func32, Tryd.ntmps32
    go_wp2_with (go_at_call 53; refine (in_no _ _ _ _ hin).mono ?_; rintro e w5 ⟨rfl, rfl⟩)
    go_ret
    exact ⟨rfl, b0⟩

end Go.Proofs.YtmlhpjkijpbinaqDoor

/- Plain facts on the bytes of a number, with no program in them: the groups of seven bits of a number, the lowest first. -/
namespace Go.Proofs.YtmlhpjkijpbinaqDoor

/-- A byte that more follows: the lowest seven bits of m, and 128. -/
def hiByte (m : Nat) : UInt8 := UInt8.ofNat (m % 128 + 128)
/-- The last byte. -/
def loByte (m : Nat) : UInt8 := UInt8.ofNat m

theorem hiByte_toNat (m : Nat) : (hiByte m).toNat = m % 128 + 128 := by
  rw [hiByte, UInt8.toNat_ofNat']
  omega

theorem loByte_toNat {m : Nat} (h : m < 256) : (loByte m).toNat = m := by
  rw [loByte, UInt8.toNat_ofNat']
  omega

def vtF : Nat → Nat → List UInt8
  | 0, n => [loByte n]
  | f + 1, n => if 127 < n then hiByte n :: vtF f (n / 128) else [loByte n]

def vt (n : Nat) : List UInt8 := vtF n n

theorem vtF_more : ∀ (f g n : Nat), n ≤ f → n ≤ g → vtF f n = vtF g n := by
  intro f
  induction f with
  | zero =>
    intro g n hf hg
    obtain rfl : n = 0 := by omega
    cases g <;> simp [vtF]
  | succ f ih =>
    intro g n hf hg
    cases g with
    | zero => obtain rfl : n = 0 := by omega
              simp [vtF]
    | succ g =>
      simp only [vtF]
      split
      · rw [ih g (n / 128) (by omega) (by omega)]
      · rfl

theorem vt_big {n : Nat} (h : 127 < n) : vt n = hiByte n :: vt (n / 128) := by
  unfold vt
  cases n with
  | zero => omega
  | succ n =>
    rw [vtF, if_pos h, vtF_more n ((n + 1) / 128) ((n + 1) / 128) (by omega) (Nat.le_refl _)]

theorem vt_small {n : Nat} (h : n ≤ 127) : vt n = [loByte n] := by
  unfold vt
  cases n with
  | zero => rfl
  | succ n => rw [vtF, if_neg (by omega)]

theorem vtF_len : ∀ (f n : Nat), (vtF f n).length ≤ f + 1 := by
  intro f
  induction f with
  | zero => intro n; simp [vtF]
  | succ f ih =>
    intro n
    simp only [vtF]
    split
    · simp; exact ih _
    · simp

theorem vt_len (n : Nat) : (vt n).length ≤ n + 1 := vtF_len n n

/-- What has been written and what is still to be written are together what is asked for. -/
theorem vt_step {acc : List UInt8} {m n : Nat} (h : acc ++ vt m = vt n) (hm : 127 < m) : (acc ++ [hiByte m]) ++ vt (m / 128) = vt n := by
  rw [vt_big hm] at h
  simpa using h

theorem vt_end {acc : List UInt8} {m n : Nat} (h : acc ++ vt m = vt n) (hm : m ≤ 127) : acc ++ [loByte m] = vt n := by
  rw [vt_small hm] at h
  exact h

theorem vt_acc {acc : List UInt8} {m n : Nat} (h : acc ++ vt m = vt n) : acc.length ≤ n + 1 := by
  have h1 := congrArg List.length h
  have h2 := vt_len n
  simp at h1
  omega

end Go.Proofs.YtmlhpjkijpbinaqDoor

/- Plain facts on reading a number in groups of seven bits, with no program in them. -/
namespace Go.Proofs.YtmlhpjkijpbinaqDoor

/-- The groups from the first byte of a list on, the i-th of them next: the number, and how many bytes there were. -/
def rg : Nat → List UInt8 → Nat → Nat → Option (Nat × Nat)
  | 0, _, _, _ => none
  | _ + 1, [], _, _ => none
  | f + 1, c :: cs, i, n => if c.toNat < 128 then some (n + c.toNat % 128 * 128 ^ i, i + 1) else rg f cs (i + 1) (n + c.toNat % 128 * 128 ^ i)

theorem rg_lo {l : List UInt8} {k i n : Nat} (hi : i < 5) (hlt : k + i < l.length) (hc : l[k + i].toNat < 128) :
    rg (5 - i) (l.drop (k + i)) i n = some (n + l[k + i].toNat % 128 * 128 ^ i, i + 1) := by
  rw [List.drop_eq_getElem_cons hlt, show 5 - i = (4 - i) + 1 by omega, rg, if_pos hc]

theorem rg_hi {l : List UInt8} {k i n : Nat} (hi : i < 5) (hlt : k + i < l.length) (hc : ¬ l[k + i].toNat < 128) :
    rg (5 - i) (l.drop (k + i)) i n = rg (5 - (i + 1)) (l.drop (k + (i + 1))) (i + 1) (n + l[k + i].toNat % 128 * 128 ^ i) := by
  rw [List.drop_eq_getElem_cons hlt, show 5 - i = (4 - i) + 1 by omega, rg, if_neg hc, show 5 - (i + 1) = 4 - i by omega, show k + (i + 1) = k + i + 1 by omega]

theorem rg_out {l : List UInt8} {k i n : Nat} (h : ¬ (i < 5 ∧ k + i < l.length)) : rg (5 - i) (l.drop (k + i)) i n = none := by
  by_cases hi : i < 5
  · have : l.drop (k + i) = [] := by apply List.drop_eq_nil_of_le; omega
    rw [this, show 5 - i = (4 - i) + 1 by omega, rg]
  · rw [show 5 - i = 0 by omega, rg]

theorem rg_bound : ∀ (f : Nat) (l : List UInt8) (i n m c : Nat), rg f l i n = some (m, c) → n < 128 ^ i → m < 128 ^ (i + f) ∧ i < c ∧ c ≤ i + f ∧ c ≤ i + l.length := by
  intro f
  induction f with
  | zero => intro l i n m c h; simp [rg] at h
  | succ f ih =>
    intro l i n m c h hn
    cases l with
    | nil => simp [rg] at h
    | cons b bs =>
      have hb : b.toNat % 128 * 128 ^ i ≤ 127 * 128 ^ i := Nat.mul_le_mul_right _ (by omega)
      have hp : 128 ^ (i + 1) = 128 * 128 ^ i := by rw [Nat.pow_succ, Nat.mul_comm]
      rw [rg] at h
      split at h
      · simp at h
        obtain ⟨rfl, rfl⟩ := h
        have hq : 128 ^ (i + 1) ≤ 128 ^ (i + (f + 1)) := Nat.pow_le_pow_right (by omega) (by omega)
        simp
        omega
      · obtain ⟨h1, h2, h3, h4⟩ := ih bs (i + 1) _ m c h (by omega)
        rw [show i + 1 + f = i + (f + 1) by omega] at h1
        simp
        omega

/-- The number whose bytes stand in l from k on, and the place behind it. -/
def rv (l : List UInt8) (k : Nat) : Option (Nat × Nat) :=
  match rg 5 (l.drop k) 0 0 with
  | some (n, c) => if n ≤ 1000000000 ∧ vt n = (l.drop k).take c then some (n, k + c) else none
  | none => none

theorem rv_none {l : List UInt8} {k : Nat} (h : rg 5 (l.drop k) 0 0 = none) : rv l k = none := by rw [rv, h]
theorem rv_yes {l : List UInt8} {k n c : Nat} (h : rg 5 (l.drop k) 0 0 = some (n, c)) (h1 : n ≤ 1000000000) (h2 : vt n = (l.drop k).take c) : rv l k = some (n, k + c) := by rw [rv, h]; simp [h1, h2]
theorem rv_no {l : List UInt8} {k n c : Nat} (h : rg 5 (l.drop k) 0 0 = some (n, c)) (h1 : ¬ (n ≤ 1000000000 ∧ vt n = (l.drop k).take c)) : rv l k = none := by rw [rv, h]; simp only [if_neg h1]

theorem rv_le {l : List UInt8} {k n b : Nat} (hk : k ≤ l.length) (h : rv l k = some (n, b)) : n ≤ 1000000000 ∧ k < b ∧ b ≤ l.length := by
  unfold rv at h
  split at h
  · rename_i m c hR
    split at h
    · rename_i h2
      simp at h
      obtain ⟨rfl, rfl⟩ := h
      obtain ⟨_, b2, _, b4⟩ := rg_bound 5 _ 0 0 _ _ hR (by decide)
      simp at b4
      omega
    · simp at h
  · simp at h

end Go.Proofs.YtmlhpjkijpbinaqDoor

/- Plain facts on rows of bytes. -/
namespace Go.Proofs.YtmlhpjkijpbinaqDoor

theorem extract_data (s : ByteArray) (i j : Nat) : (s.extract i j).data.toList = (s.data.toList.drop i).take (j - i) := by
  obtain ⟨⟨l⟩⟩ := s
  have := ByteArray.extract_mk l i j
  rw [this]

theorem ba_ext {a b : ByteArray} (h : a.data.toList = b.data.toList) : a = b := by
  obtain ⟨⟨a⟩⟩ := a
  obtain ⟨⟨b⟩⟩ := b
  simp at h
  rw [h]

theorem ba_len (s : ByteArray) : s.data.toList.length = s.size := by rw [Array.length_toList]; rfl

theorem ba_append_list (a b : ByteArray) : (a ++ b).data.toList = a.data.toList ++ b.data.toList := by simp

theorem extract_join (s : ByteArray) {i j k : Nat} (h1 : i ≤ j) (h2 : j ≤ k) : s.extract i j ++ s.extract j k = s.extract i k := by
  apply ba_ext
  rw [ba_append_list, extract_data, extract_data, extract_data]
  have e : k - i = (j - i) + (k - j) := by omega
  have e2 : j = i + (j - i) := by omega
  rw [e, List.take_add, List.drop_drop, ← e2]

theorem extract_all (s : ByteArray) : s.extract 0 s.size = s := by
  apply ba_ext
  rw [extract_data, List.drop_zero, Nat.sub_zero, ← ba_len, List.take_length]

theorem ba_nil : (⟨#[]⟩ : ByteArray) = ByteArray.empty := rfl

end Go.Proofs.YtmlhpjkijpbinaqDoor

/- Plain facts, with no program in them: frames, their texts, and what is read of a text. -/
namespace Go.Proofs.YtmlhpjkijpbinaqDoor

theorem vt_short : ∀ (k n : Nat), n < 128 ^ (k + 1) → (vt n).length ≤ k + 1 := by
  intro k
  induction k with
  | zero =>
    intro n h
    rw [vt_small (by simpa using Nat.le_of_lt_succ h)]
    simp
  | succ k ih =>
    intro n h
    by_cases hn : n ≤ 127
    · rw [vt_small hn]; simp
    · rw [vt_big (by omega)]
      have := ih (n / 128) (by rw [Nat.pow_succ] at h; omega)
      simpa using this

theorem vt_five {n : Nat} (h : n ≤ 1000000000) : (vt n).length ≤ 5 := vt_short 4 n (by omega)
theorem vt_two {n : Nat} (h : n ≤ 180) : (vt n).length ≤ 2 := vt_short 1 n (by omega)

/-- The bytes of a number. -/
def vtB (n : Nat) : ByteArray := ⟨(vt n).toArray⟩
theorem vtB_size (n : Nat) : (vtB n).size = (vt n).length := by simp [vtB, ByteArray.size]
theorem vtB_list (n : Nat) : (vtB n).data.toList = vt n := by simp [vtB]

structure Fr where
  gen : Int
  seq : Int
  body : ByteArray

def Fr.ok (f : Fr) : Prop := (1 ≤ f.gen ∧ f.gen ≤ 1000000000) ∧ (1 ≤ f.seq ∧ f.seq ≤ 1000000000) ∧ 1 ≤ f.body.size ∧ f.body.size ≤ 180
instance decFrOk (f : Fr) : Decidable f.ok := by unfold Fr.ok; infer_instance

/-- What is sealed of a frame. -/
def Fr.raw (f : Fr) : ByteArray := vtB f.gen.toNat ++ vtB f.seq.toNat ++ (vtB f.body.size ++ f.body)
/-- Its text, of whatever sum. -/
def Fr.text (f : Fr) (four : ByteArray → ByteArray) : ByteArray := f.raw ++ four f.raw

theorem Fr.raw_size {f : Fr} (h : f.ok) : f.raw.size ≤ 192 := by
  obtain ⟨h1, h2, h3, h4⟩ := h
  have a := vt_five (n := f.gen.toNat) (by omega)
  have b := vt_five (n := f.seq.toNat) (by omega)
  have c := vt_two h4
  simp only [Fr.raw, ByteArray.size_append, vtB_size]
  omega

/-- What a number is read from is its bytes. -/
theorem rv_bytes {s : ByteArray} {k n b : Nat} (h : rv s.data.toList k = some (n, b)) (hk : k ≤ s.size) : n ≤ 1000000000 ∧ k < b ∧ b ≤ s.size ∧ s.extract k b = vtB n := by
  have h0 : k ≤ s.data.toList.length := by rw [ba_len]; exact hk
  obtain ⟨h1, h2, h3⟩ := rv_le h0 h
  rw [ba_len] at h3
  refine ⟨h1, h2, h3, ?_⟩
  apply ba_ext
  rw [extract_data, vtB_list]
  unfold rv at h
  split at h
  · split at h
    · rename_i m c hR h4
      simp at h
      obtain ⟨rfl, rfl⟩ := h
      rw [h4.2]
      congr 1
      omega
    · simp at h
  · simp at h

/-- What lies ahead of a frame's sum, and the place behind it. -/
def ru (s : ByteArray) (k : Nat) : Option (Fr × Nat) :=
  match rv s.data.toList k with
  | none => none
  | some (g, a) =>
    match rv s.data.toList a with
    | none => none
    | some (q, b) =>
      match rv s.data.toList b with
      | none => none
      | some (n, c) => if n ≤ 20000 ∧ n + c ≤ s.size then some (⟨g, q, s.extract c (c + n)⟩, c + n) else none

theorem ru_no1 {s : ByteArray} {k : Nat} (h : rv s.data.toList k = none) : ru s k = none := by rw [ru, h]
theorem ru_no2 {s : ByteArray} {k g a : Nat} (h : rv s.data.toList k = some (g, a)) (h2 : rv s.data.toList a = none) : ru s k = none := by rw [ru, h]; simp only [h2]
theorem ru_no3 {s : ByteArray} {k g a q b : Nat} (h : rv s.data.toList k = some (g, a)) (h2 : rv s.data.toList a = some (q, b)) (h3 : rv s.data.toList b = none) : ru s k = none := by rw [ru, h]; simp only [h2, h3]
theorem ru_no4 {s : ByteArray} {k g a q b n c : Nat} (h : rv s.data.toList k = some (g, a)) (h2 : rv s.data.toList a = some (q, b)) (h3 : rv s.data.toList b = some (n, c)) (h4 : ¬ (n ≤ 20000 ∧ n + c ≤ s.size)) : ru s k = none := by rw [ru, h]; simp only [h2, h3, if_neg h4]
theorem ru_yes {s : ByteArray} {k g a q b n c : Nat} (h : rv s.data.toList k = some (g, a)) (h2 : rv s.data.toList a = some (q, b)) (h3 : rv s.data.toList b = some (n, c)) (h4 : n ≤ 20000 ∧ n + c ≤ s.size) : ru s k = some (⟨g, q, s.extract c (c + n)⟩, c + n) := by rw [ru, h]; simp only [h2, h3, if_pos h4]

theorem ru_ways {s : ByteArray} {k e : Nat} {f : Fr} (h : ru s k = some (f, e)) : ∃ g a q b n c : Nat, rv s.data.toList k = some (g, a) ∧ rv s.data.toList a = some (q, b) ∧ rv s.data.toList b = some (n, c) ∧ n ≤ 20000 ∧ n + c ≤ s.size ∧ f = ⟨g, q, s.extract c (c + n)⟩ ∧ e = c + n := by
  unfold ru at h
  split at h
  · simp at h
  · rename_i g a h1
    split at h
    · simp at h
    · rename_i q b h2
      split at h
      · simp at h
      · rename_i n c h3
        split at h
        · rename_i h4
          simp at h
          exact ⟨g, a, q, b, n, c, h1, h2, h3, h4.1, h4.2, h.1.symm, h.2.symm⟩
        · simp at h

theorem ru_raw {s : ByteArray} {k e : Nat} {f : Fr} (h : ru s k = some (f, e)) (hk : k ≤ s.size) : f.raw = s.extract k e ∧ k + 3 ≤ e ∧ e ≤ s.size ∧ (0 ≤ f.gen ∧ f.gen ≤ 1000000000) ∧ (0 ≤ f.seq ∧ f.seq ≤ 1000000000) ∧ f.body.size ≤ 20000 := by
  obtain ⟨g, a, q, b, n, c, h1, h2, h3, h4, h5, rfl, rfl⟩ := ru_ways h
  obtain ⟨g1, g2, g3, g4⟩ := rv_bytes h1 hk
  obtain ⟨q1, q2, q3, q4⟩ := rv_bytes h2 g3
  obtain ⟨n1, n2, n3, n4⟩ := rv_bytes h3 q3
  have hsz : (s.extract c (c + n)).size = n := by rw [ByteArray.size_extract]; omega
  refine ⟨?_, by omega, by omega, by simp only; omega, by simp only; omega, by rw [hsz]; exact h4⟩
  simp only [Fr.raw, hsz, Int.toNat_natCast]
  rw [← g4, ← q4, ← n4, extract_join s (by omega) (by omega), extract_join s (by omega) (by omega), extract_join s (by omega) (by omega)]

/-- The frame whose text stands in s from k on, and the place behind it. -/
def rf (four : ByteArray → ByteArray) (s : ByteArray) (k : Nat) : Option (Fr × Nat) :=
  match ru s k with
  | some (f, e) => if f.ok ∧ e + 4 ≤ s.size ∧ f.text four = s.extract k (e + 4) then some (f, e + 4) else none
  | none => none

variable {four : ByteArray → ByteArray}

theorem rf_none {s : ByteArray} {k : Nat} (h : ru s k = none) : rf four s k = none := by rw [rf, h]
theorem rf_no {s : ByteArray} {k e : Nat} {f : Fr} (h : ru s k = some (f, e)) (h2 : ¬ (f.ok ∧ e + 4 ≤ s.size ∧ f.text four = s.extract k (e + 4))) : rf four s k = none := by rw [rf, h]; simp only [if_neg h2]
theorem rf_yes {s : ByteArray} {k e : Nat} {f : Fr} (h : ru s k = some (f, e)) (h2 : f.ok ∧ e + 4 ≤ s.size ∧ f.text four = s.extract k (e + 4)) : rf four s k = some (f, e + 4) := by rw [rf, h]; simp only [if_pos h2]

theorem rf_some {s : ByteArray} {k e : Nat} {f : Fr} (h : rf four s k = some (f, e)) (hk : k ≤ s.size) : f.ok ∧ k < e ∧ e ≤ s.size ∧ f.text four = s.extract k e := by
  unfold rf at h
  split at h
  · rename_i f' e' hu
    split at h
    · rename_i h2
      simp at h
      obtain ⟨rfl, rfl⟩ := h
      have := (ru_raw hu hk).2.1
      exact ⟨h2.1, by omega, h2.2.1, h2.2.2⟩
    · simp at h
  · simp at h

/-- Frames of a Gen, one behind the other, each with the place behind it. -/
def sqF (four : ByteArray → ByteArray) : Nat → ByteArray → Int → Nat → List (Fr × Nat)
  | 0, _, _, _ => []
  | n + 1, s, g, k =>
    match rf four s k with
    | some (f, e) => if f.gen = g then (f, e) :: sqF four n s g e else []
    | none => []
def sq (four : ByteArray → ByteArray) (s : ByteArray) (g : Int) (k : Nat) : List (Fr × Nat) := sqF four (s.size + 1 - k) s g k

theorem sqF_more : ∀ (n m : Nat) (s : ByteArray) (g : Int) (k : Nat), k ≤ s.size → s.size < n + k → s.size < m + k → sqF four n s g k = sqF four m s g k := by
  intro n
  induction n with
  | zero => intro m s g k h0 h1; omega
  | succ n ih =>
    intro m s g k h0 h1 h2
    cases m with
    | zero => omega
    | succ m =>
      rw [sqF, sqF]
      split
      · rename_i f e hr
        obtain ⟨_, h3, h4, _⟩ := rf_some hr h0
        rw [ih m s g e h4 (by omega) (by omega)]
      · rfl

theorem sq_yes {s : ByteArray} {g : Int} {k e : Nat} {f : Fr} (hk : k ≤ s.size) (h : rf four s k = some (f, e)) (hg : f.gen = g) : sq four s g k = (f, e) :: sq four s g e := by
  obtain ⟨_, h3, h4, _⟩ := rf_some h hk
  rw [sq, show s.size + 1 - k = (s.size - k) + 1 by omega, sqF, h]
  simp only [if_pos hg]
  rw [sq, sqF_more (s.size - k) (s.size + 1 - e) s g e h4 (by omega) (by omega)]
theorem sq_no {s : ByteArray} {g : Int} {k e : Nat} {f : Fr} (h : rf four s k = some (f, e)) (hg : ¬ f.gen = g) : sq four s g k = [] := by
  rw [sq]
  cases s.size + 1 - k with
  | zero => rfl
  | succ n => rw [sqF, h]; simp only [if_neg hg]
theorem sq_none {s : ByteArray} {g : Int} {k : Nat} (h : rf four s k = none) : sq four s g k = [] := by
  rw [sq]
  cases s.size + 1 - k with
  | zero => rfl
  | succ n => rw [sqF, h]

/-- The place behind the last one. -/
def behind : Nat → List (Fr × Nat) → Nat
  | k, [] => k
  | _, x :: l => behind x.2 l

theorem behind_append : ∀ (l m : List (Fr × Nat)) (k : Nat), behind k (l ++ m) = behind (behind k l) m := by
  intro l
  induction l with
  | nil => intro m k; rfl
  | cons x l ih => intro m k; exact ih m x.2
theorem behind_snoc (l : List (Fr × Nat)) (x : Fr × Nat) (k : Nat) : behind k (l ++ [x]) = x.2 := by rw [behind_append]; rfl

/-- Every one of them is right, and short; and there are no more than bytes. -/
theorem sqF_all : ∀ (n : Nat) (s : ByteArray) (g : Int) (k : Nat), k ≤ s.size → (∀ x ∈ sqF four n s g k, x.1.ok ∧ x.2 ≤ s.size) ∧ (sqF four n s g k).length + k ≤ s.size ∧ behind k (sqF four n s g k) ≤ s.size := by
  intro n
  induction n with
  | zero => intro s g k hk; exact ⟨by simp [sqF], by simpa [sqF] using hk, by simpa [sqF, behind] using hk⟩
  | succ n ih =>
    intro s g k hk
    rw [sqF]
    split
    · rename_i f e hr
      obtain ⟨h1, h3, h4, _⟩ := rf_some hr hk
      split
      · obtain ⟨i1, i2, i3⟩ := ih s g e h4
        refine ⟨?_, by simp; omega, i3⟩
        intro x hx
        rcases List.mem_cons.1 hx with rfl | hx
        · exact ⟨h1, h4⟩
        · exact i1 x hx
      · exact ⟨by simp, by simpa using hk, hk⟩
    · exact ⟨by simp, by simpa using hk, hk⟩

theorem sq_all {s : ByteArray} {g : Int} {k : Nat} (hk : k ≤ s.size) : (∀ x ∈ sq four s g k, x.1.ok ∧ x.2 ≤ s.size) ∧ (sq four s g k).length + k ≤ s.size ∧ behind k (sq four s g k) ≤ s.size := sqF_all _ s g k hk

end Go.Proofs.YtmlhpjkijpbinaqDoor

/- The bytes of a number: what spec.l01Var, spec.VarText and impl.VarText hand back. -/
namespace Go.Proofs.YtmlhpjkijpbinaqDoor
open Go.RowKit

set_option maxHeartbeats 400000 in
theorem l01Var_any (n : Nat) (w : World) (hn : n ≤ 1000000000) :
    Calls Tryd.prog 47 #[.int .i64 n] w fun e w' => e = .returned (.string ⟨(vt n).toArray⟩) ∧ Below w.heap.size w w' := by
  have hst := Buf.fresh w #[] 0 rfl (by decide)
  go_enter Tryd.func47, Tryd.ntmps47
  go_wp2
  go_loopw [0, 3] (fun nv v wr => ∃ (m : Nat) (acc : List UInt8), m ≤ n ∧ nv = .int .i64 m ∧ acc ++ vt m = vt n ∧ Buf w.heap.size w wr v acc) (fun nv _ _ => (intOf nv).toNat)
  case atStart => exact ⟨n, [], Nat.le_refl _, rfl, rfl, hst⟩
  case round =>
    obtain ⟨m, acc, hm, rfl, hv0, hb⟩ := hrel
    have hv : Hid (acc ++ vt m = vt n) := hv0
    have hacc := vt_acc hv0
    clear hv0
    by_cases hlt : 127 < m
    · go_wp2_with (at_builtin; refine wpList_append_bytes rfl _ _ rfl _ _ acc rfl (hb.alloc _) ⟨wr.heap.size, 0, none⟩ [hiByte m] 1 rfl ?c1 ?c2 ?_)
      case c1 => exact one_new _ _ _ (by rw [hiByte_toNat]; omega)
      case c2 => simp; omega
      intro v' w1 hb'
      go_wp2
      go_roundw
      case rel => exact ⟨m / 128, acc ++ [hiByte m], by omega, by go_num, vt_step hv.out hlt, hb'⟩
      case measure => simp [intOf]; omega
    · go_wp2_with (at_builtin; refine wpList_append_bytes rfl _ _ rfl _ _ acc rfl (hb.alloc _) ⟨wr.heap.size, 0, none⟩ [loByte m] 1 rfl ?d1 ?d2 ?_)
      case d1 => exact one_new _ _ _ (by rw [loByte_toNat (by omega)])
      case d2 => simp; omega
      intro v' w1 hb'
      have hcv := hb'.toString
      go_wp2
      go_ret
      exact ⟨by rw [vt_end hv.out (by omega)]; rfl, hb'.bel⟩

theorem l01In_any (x a b : Int) (w : World) :
    Calls Tryd.prog 53 #[.int .i64 x, .int .i64 a, .int .i64 b] w fun e w' => e = .returned (.bool (decide (a ≤ x) && decide (x ≤ b))) ∧ w' = w := by
  by_cases h1 : a ≤ x
  · by_cases h2 : x ≤ b
    all_goals
      go_enter Tryd.func53, Tryd.ntmps53
      go_wp2
      go_ret
      exact ⟨by simp [h1, h2], rfl⟩
  · have h3 : decide (a ≤ x) = false := decide_eq_false h1
    go_enter Tryd.func53, Tryd.ntmps53
    go_wp2
    go_ret
    exact ⟨by simp, rfl⟩

/-- What VarText hands back, of every number. -/
def varT (n : Int) : Value := if 0 ≤ n ∧ n ≤ 1000000000 then .tuple #[.string ⟨(vt n.toNat).toArray⟩, .bool true] else .tuple #[.string ⟨#[]⟩, .bool false]

theorem varT_yes {n : Int} (h : 0 ≤ n ∧ n ≤ 1000000000) : varT n = .tuple #[.string ⟨(vt n.toNat).toArray⟩, .bool true] := by rw [varT, if_pos h]
theorem varT_no {n : Int} (h : ¬ (0 ≤ n ∧ n ≤ 1000000000)) : varT n = .tuple #[.string ⟨#[]⟩, .bool false] := by rw [varT, if_neg h]


set_option maxHeartbeats 400000 in
theorem implVarText_any (n : Int) (w : World) :
    Calls Tryd.prog 49 #[.int .i64 n] w fun e w' => e = .returned (varT n) ∧ Below w.heap.size w w' := by
  by_cases h : 0 ≤ n ∧ n ≤ 1000000000
  · obtain ⟨k, rfl⟩ := Int.eq_ofNat_of_zero_le h.1
    have hk : k ≤ 1000000000 := by omega
    have hmk : ∀ w, (Instr.makeSlice 71 (.int .i64 0) (.int .i64 5)).run Tryd.prog w = .ok (.slice (some ⟨w.heap.size, 0, none⟩) 0 5) (w.alloc (.cells #[.int .u8 0, .int .u8 0, .int .u8 0, .int .u8 0, .int .u8 0] 5)) := fun _ => by kernel_rfl
    have hst := Buf.fresh w #[.int .u8 0, .int .u8 0, .int .u8 0, .int .u8 0, .int .u8 0] 5 rfl (by decide)
    go_enter Tryd.func49, Tryd.ntmps49
    go_wp2
    go_loopw [0, 4] (fun nv v wr => ∃ (m : Nat) (acc : List UInt8), m ≤ k ∧ nv = .int .i64 m ∧ acc ++ vt m = vt k ∧ Buf w.heap.size w wr v acc) (fun nv _ _ => (intOf nv).toNat)
    case atStart => exact ⟨k, [], Nat.le_refl _, rfl, rfl, hst⟩
    case round =>
      obtain ⟨m, acc, hm, rfl, hv0, hb⟩ := hrel
      have hv : Hid (acc ++ vt m = vt k) := hv0
      have hacc := vt_acc hv0
      clear hv0 hmk
      by_cases hlt : 127 < m
      · go_wp2_with (at_builtin; refine wpList_append_bytes rfl _ _ rfl _ _ acc rfl (hb.alloc _) ⟨wr.heap.size, 0, none⟩ [hiByte m] 1 rfl ?c1 ?c2 ?_)
        case c1 => exact one_new _ _ _ (by rw [u8_or128_right _ (by omega) (by omega), hiByte_toNat]; omega)
        case c2 => simp; omega
        intro v' w1 hb'
        go_wp2
        go_roundw
        case rel => exact ⟨m / 128, acc ++ [hiByte m], by omega, by go_num, vt_step hv.out hlt, hb'⟩
        case measure => simp [intOf]; omega
      · go_wp2_with (at_builtin; refine wpList_append_bytes rfl _ _ rfl _ _ acc rfl (hb.alloc _) ⟨wr.heap.size, 0, none⟩ [loByte m] 1 rfl ?d1 ?d2 ?_)
        case d1 => exact one_new _ _ _ (by rw [loByte_toNat (by omega)])
        case d2 => simp; omega
        intro v' w1 hb'
        have hcv := hb'.toString
        go_wp2
        go_ret2
        exact ⟨by simp [varT, h, vt_end hv.out (show m ≤ 127 by omega)], hb'.bel⟩
  · have h0 : (decide (n < 0) || decide (1000000000 < n)) = true := by
      simp only [Bool.or_eq_true, decide_eq_true_eq]
      omega
    by_cases h1 : n < 0
    all_goals
      go_enter Tryd.func49, Tryd.ntmps49
      go_wp2
      go_ret2
      exact ⟨by simp [varT, h], Below.refl _ _⟩

end Go.Proofs.YtmlhpjkijpbinaqDoor

/- Frames: what FrameOk hands back, of the model and of the program. -/
namespace Go.Proofs.YtmlhpjkijpbinaqDoor
open Go.RowKit

/-- A frame as a value. -/
def Fr.v (f : Fr) : Value := .agg #[.int .i64 f.gen, .int .i64 f.seq, .string f.body]
def Fr.numOk (n : Int) : Prop := 1 ≤ n ∧ n ≤ 1000000000
instance (n : Int) : Decidable (Fr.numOk n) := by unfold Fr.numOk; infer_instance

theorem numberOk_any (n : Int) (w : World) : Calls Tryd.prog 65 #[.int .i64 n] w fun e w' => e = .returned (.bool (decide (Fr.numOk n))) ∧ w = w' := by
  by_cases h1 : 1 ≤ n
  · by_cases h2 : n ≤ 1000000000
    all_goals
      have e : decide (Fr.numOk n) = decide (n ≤ 1000000000) := by simp [Fr.numOk, h1]
      rw [e]
      go_enter Tryd.func65, Tryd.ntmps65
      go_wp2
      go_ret
      simp [h2]
  · have e : decide (Fr.numOk n) = false := by simp [Fr.numOk, h1]
    rw [e]
    go_enter Tryd.func65, Tryd.ntmps65
    go_wp2
    go_ret
    simp

theorem box3_cells (w : World) (f : Fr) : (w.alloc (.cells #[.int .i64 f.gen, .int .i64 f.seq, .string f.body] 32)).cell? ⟨w.heap.size, 0, none⟩ = some (.int .i64 f.gen) ∧
    (w.alloc (.cells #[.int .i64 f.gen, .int .i64 f.seq, .string f.body] 32)).cell? ⟨w.heap.size, 1, none⟩ = some (.int .i64 f.seq) ∧
    (w.alloc (.cells #[.int .i64 f.gen, .int .i64 f.seq, .string f.body] 32)).cell? ⟨w.heap.size, 2, none⟩ = some (.string f.body) := by
  refine ⟨?_, ?_, ?_⟩ <;> simp [go_sem]

set_option maxRecDepth 100000 in
set_option maxHeartbeats 1000000 in
theorem implFrameOk_any (f : Fr) (w : World) (hs : f.body.size ≤ 1099511627776) :
    Calls Tryd.prog 48 #[f.v] w fun e w' => e = .returned (.bool (decide f.ok)) ∧ Below w.heap.size w w' := by
  obtain ⟨c0, c1, c2⟩ := box3_cells w f
  have b0 : Below w.heap.size w (w.alloc (.cells #[.int .i64 f.gen, .int .i64 f.seq, .string f.body] 32)) := (Below.refl _ _).alloc (Nat.le_refl _) _
  unfold Fr.v
  by_cases hg : Fr.numOk f.gen
  · by_cases hq : Fr.numOk f.seq
    · have e : decide f.ok = (decide (1 ≤ f.body.size) && decide (f.body.size ≤ 180)) := by
        have h1 := hg; have h2 := hq
        unfold Fr.numOk at h1 h2
        simp [Fr.ok, h1, h2]
      rw [e]
      by_cases h1 : 1 ≤ f.body.size
      · by_cases h2 : f.body.size ≤ 180
        all_goals
          have HG := Lib.hid hg; have HQ := Lib.hid hq
          clear hg hq e
          go_enter Tryd.func48, Tryd.ntmps48
          go_wp2_with (first
            | (go_at_call 65; refine (numberOk_any _ _).mono ?_; rintro e w1 ⟨rfl, rfl⟩; first | rw [decide_eq_true HG.out] | rw [decide_eq_true HQ.out]))
          go_ret
          exact ⟨by simp [h1, h2]; try omega, b0⟩
      · have HG := Lib.hid hg; have HQ := Lib.hid hq
        clear hg hq e
        go_enter Tryd.func48, Tryd.ntmps48
        go_wp2_with (first
          | (go_at_call 65; refine (numberOk_any _ _).mono ?_; rintro e w1 ⟨rfl, rfl⟩; first | rw [decide_eq_true HG.out] | rw [decide_eq_true HQ.out]))
        go_ret
        exact ⟨by simp, b0⟩
    · have e : decide f.ok = false := by
        apply decide_eq_false
        intro h
        exact hq h.2.1
      rw [e]
      have HG := Lib.hid hg; have HQ := Lib.hid hq
      clear hg hq e
      go_enter Tryd.func48, Tryd.ntmps48
      go_wp2_with (first
        | (go_at_call 65; refine (numberOk_any _ _).mono ?_; rintro e w1 ⟨rfl, rfl⟩; first | rw [decide_eq_true HG.out] | rw [decide_eq_false HQ.out]))
      go_ret
      exact ⟨rfl, b0⟩
  · have e : decide f.ok = false := by
      apply decide_eq_false
      intro h
      exact hg h.1
    rw [e]
    have HG := Lib.hid hg
    clear hg e
    go_enter Tryd.func48, Tryd.ntmps48
    go_wp2_with (first
      | (go_at_call 65; refine (numberOk_any _ _).mono ?_; rintro e w1 ⟨rfl, rfl⟩; rw [decide_eq_false HG.out]))
    go_ret
    exact ⟨rfl, b0⟩

theorem in_any (x a b : Int) (w : World) :
    Calls Tryd.prog 53 #[.int .i64 x, .int .i64 a, .int .i64 b] w fun e w' => e = .returned (.bool (decide (a ≤ x ∧ x ≤ b))) ∧ w = w' := by
  refine (l01In_any x a b w).mono ?_
  rintro e w' ⟨rfl, rfl⟩
  exact ⟨by simp, rfl⟩

set_option maxRecDepth 100000 in
set_option maxHeartbeats 1000000 in
theorem specFrameOk_any (f : Fr) (w : World) (hs : f.body.size ≤ 1099511627776) :
    Calls Tryd.prog 45 #[f.v] w fun e w' => e = .returned (.bool (decide f.ok)) ∧ Below w.heap.size w w' := by
  obtain ⟨c0, c1, c2⟩ := box3_cells w f
  have b0 : Below w.heap.size w (w.alloc (.cells #[.int .i64 f.gen, .int .i64 f.seq, .string f.body] 32)) := (Below.refl _ _).alloc (Nat.le_refl _) _
  unfold Fr.v
  by_cases hg : 1 ≤ f.gen ∧ f.gen ≤ 1000000000
  · by_cases hq : 1 ≤ f.seq ∧ f.seq ≤ 1000000000
    · have e : decide f.ok = decide ((1 : Int) ≤ (f.body.size : Int) ∧ (f.body.size : Int) ≤ 180) := by
        apply decide_eq_decide.2
        unfold Fr.ok
        constructor
        · intro h; omega
        · intro h; exact ⟨hg, hq, by omega⟩
      rw [e]
      have HG := Lib.hid hg; have HQ := Lib.hid hq
      clear hg hq e
      go_enter Tryd.func45, Tryd.ntmps45
      go_wp2_with (first
        | (go_at_call 53; refine (in_any _ _ _ _).mono ?_; rintro e w1 ⟨rfl, rfl⟩; first | rw [decide_eq_true HG.out] | rw [decide_eq_true HQ.out] | skip))
      go_ret
      exact ⟨by simp, b0⟩
    · have e : decide f.ok = false := by
        apply decide_eq_false
        intro h
        exact hq h.2.1
      rw [e]
      have HG := Lib.hid hg; have HQ := Lib.hid hq
      clear hg hq e
      go_enter Tryd.func45, Tryd.ntmps45
      go_wp2_with (first
        | (go_at_call 53; refine (in_any _ _ _ _).mono ?_; rintro e w1 ⟨rfl, rfl⟩; first | rw [decide_eq_true HG.out] | rw [decide_eq_false HQ.out]))
      go_ret
      exact ⟨rfl, b0⟩
  · have e : decide f.ok = false := by
      apply decide_eq_false
      intro h
      exact hg h.1
    rw [e]
    have HG := Lib.hid hg
    clear hg e
    go_enter Tryd.func45, Tryd.ntmps45
    go_wp2_with (first
      | (go_at_call 53; refine (in_any _ _ _ _).mono ?_; rintro e w1 ⟨rfl, rfl⟩; rw [decide_eq_false HG.out]))
    go_ret
    exact ⟨rfl, b0⟩

end Go.Proofs.YtmlhpjkijpbinaqDoor
