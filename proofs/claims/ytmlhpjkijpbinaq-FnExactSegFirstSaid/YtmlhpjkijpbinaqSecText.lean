/- What SectorText hands back, the model's and the program's. -/
import Derived.Test.YtmlhpjkijpbinaqReadSec
import Derived.Test.YtmlhpjkijpbinaqBuilder
import Derived.Test.YtmlhpjkijpbinaqSector
namespace Go.Proofs.Ytmlhpjkijpbinaq
open Go.RowKit

/-- What is read of a sector. -/
def rdO (d : Dk) (a : Int) : Option ByteArray := if 0 ≤ a ∧ a < d.sec.length then some ((lastAt d.cache a).getD (d.sec.getD a.toNat ⟨#[]⟩)) else none
theorem rdT_some {d : Dk} {a : Int} {t : ByteArray} (h : rdO d a = some t) : rdT d a = .tuple #[.string t, .bool true] := by
  unfold rdO at h
  unfold rdT
  split at h
  · rename_i hc; rw [if_pos hc, Option.some.inj h]
  · cases h
theorem rdT_none {d : Dk} {a : Int} (h : rdO d a = none) : rdT d a = .tuple #[.string ⟨#[]⟩, .bool false] := by
  unfold rdO at h
  unfold rdT
  split at h
  · cases h
  · rename_i hc; rw [if_neg hc]
theorem rdO_in {d : Dk} {a : Int} {t : ByteArray} (h : rdO d a = some t) : 0 ≤ a ∧ a < d.sec.length := by
  unfold rdO at h
  split at h
  · assumption
  · cases h
theorem lastAt_mem {c : List Wr} {a : Int} {t : ByteArray} (h : lastAt c a = some t) : ∃ x ∈ c, x.text = t := by
  induction c with
  | nil => cases h
  | cons x c ih =>
    unfold lastAt at h
    split at h
    · rename_i t' ht
      cases h
      obtain ⟨y, hy, e⟩ := ih ht
      exact ⟨y, List.mem_cons_of_mem _ hy, e⟩
    · split at h
      · cases h; exact ⟨x, by simp, rfl⟩
      · cases h
theorem rdO_size {d : Dk} {a : Int} {t : ByteArray} (h : rdO d a = some t) (ht : ∀ s ∈ d.sec, s.size ≤ 1099511627776) (hu : ∀ x ∈ d.cache, x.text.size ≤ 1099511627776) : t.size ≤ 1099511627776 := by
  have hin := rdO_in h
  unfold rdO at h
  rw [if_pos hin] at h
  cases hl : lastAt d.cache a with
  | some u =>
    rw [hl] at h
    obtain ⟨x, hx, e⟩ := lastAt_mem hl
    cases h
    rw [← e]; exact hu x hx
  | none =>
    rw [hl] at h
    have hk : a.toNat < d.sec.length := by omega
    simp [List.getD_eq_getElem?_getD, List.getElem?_eq_getElem hk] at h
    rw [← h]; exact ht _ (List.getElem_mem hk)

/-- The texts of the first i sectors from there on. -/
def stL (d : Dk) (a : Int) : Nat → Option (List UInt8)
  | 0 => some []
  | i + 1 => match stL d a i with
    | none => none
    | some l => match rdO d (a + (i : Int)) with
      | some t => some (l ++ t.data.toList)
      | none => none
theorem stL_none {d : Dk} {a : Int} {i : Nat} (h : stL d a i = none) : ∀ j, i ≤ j → stL d a j = none := by
  intro j hj
  induction j with
  | zero => have : i = 0 := by omega
            subst this; exact h
  | succ j ih =>
    by_cases e : i = j + 1
    · subst e; exact h
    · unfold stL; rw [ih (by omega)]
theorem stL_go {d : Dk} {a : Int} {i : Nat} {l : List UInt8} {t : ByteArray} (h : stL d a i = some l) (ht : rdO d (a + (i : Int)) = some t) : stL d a (i + 1) = some (l ++ t.data.toList) := by unfold stL; rw [h, ht]
theorem stL_stop {d : Dk} {a : Int} {i n : Nat} {l : List UInt8} (h : stL d a i = some l) (ht : rdO d (a + (i : Int)) = none) (hn : i < n) : stL d a n = none :=
  stL_none (i := i + 1) (by unfold stL; rw [h, ht]) n hn

/-- What SectorText hands back. -/
def stT (d : Dk) (a n : Int) : Value := if 0 ≤ n ∧ n ≤ 100 then (match stL d a n.toNat with
  | some l => .tuple #[.string ⟨l.toArray⟩, .bool true]
  | none => .tuple #[.string ⟨#[]⟩, .bool false]) else .tuple #[.string ⟨#[]⟩, .bool false]
theorem stT_form (d : Dk) (a n : Int) : ∃ (t : ByteArray) (f : Bool), stT d a n = .tuple #[.string t, .bool f] := by
  unfold stT
  split
  · split
    · exact ⟨_, _, rfl⟩
    · exact ⟨_, _, rfl⟩
  · exact ⟨_, _, rfl⟩
theorem stT_no {d : Dk} {a n : Int} (h : ¬ (0 ≤ n ∧ n ≤ 100)) : stT d a n = .tuple #[.string ⟨#[]⟩, .bool false] := by rw [stT, if_neg h]
theorem stT_none {d : Dk} {a : Int} {n : Nat} (h : stL d a n = none) : stT d a (n : Int) = .tuple #[.string ⟨#[]⟩, .bool false] := by
  unfold stT
  split
  · rw [Int.toNat_natCast, h]
  · rfl
theorem stT_some {d : Dk} {a : Int} {n : Nat} {l : List UInt8} (hn : n ≤ 100) (h : stL d a n = some l) : stT d a (n : Int) = .tuple #[.string ⟨l.toArray⟩, .bool true] := by
  unfold stT
  rw [if_pos ⟨by omega, by omega⟩, Int.toNat_natCast, h]

theorem byteCells_bytesV (l : List UInt8) : Lib.byteCells l = bytesV l := rfl

theorem builder_later {T e : TypeId} {B b : Nat} {bs : List Value} {w w' : World} (h : Lib.IsBuilder T e B b bs w) (hb : Below w.heap.size w w') : Lib.IsBuilder T e B b bs w' := by
  have hg : w.grownBy w' none := ⟨hb.os, hb.tape, hb.output, hb.size, fun k hk _ => hb.block k hk⟩
  have one : ∀ p, Lib.BuilderAt T e B b p bs w → Lib.BuilderAt T e B b p bs w' := by
    rintro p ⟨hB, v, hk, ho, hn⟩
    refine ⟨hB, v, (hb.block b (Array.getElem?_eq_some_iff.1 hk).1).trans hk, ho.kept hg ?_, hn⟩
    cases hv : v.ownBlock with
    | none => exact .inl rfl
    | some k => exact .inr (by simp)
  rcases h with h | h
  · exact .inl (one _ h)
  · exact .inr (one _ h)

set_option maxRecDepth 100000 in
set_option maxHeartbeats 4000000 in
theorem implSectorText_any (d : Dk) (v : Value) (a n : Int) (w : World) (h : DRd w v d) (hs : d.small) (ht : ∀ s ∈ d.sec, s.size ≤ 1099511627776) (hu : ∀ x ∈ d.cache, x.text.size ≤ 1099511627776)
    (ha : -9223372036854775808 ≤ a ∧ a ≤ 9223372036854775807) :
    Calls Try.prog 19 #[v, .int .i64 a, .int .i64 n] w fun e w' => e = .returned (stT d a n) ∧ Below w.heap.size w w' := by
  obtain ⟨aa, ab, ca, cb, rfl, _, _⟩ := h.form
  have hx := Box.new w #[.slice aa d.sec.length ca, .slice ab d.cache.length cb] 32
  have b0 : Below w.heap.size w (w.alloc (.cells #[.slice aa d.sec.length ca, .slice ab d.cache.length cb] 32)) := (Below.refl _ _).alloc (Nat.le_refl _) _
  by_cases hin : 0 ≤ n ∧ n ≤ 100
  · obtain ⟨N, rfl⟩ := Int.eq_ofNat_of_zero_le hin.1
    have hN : N ≤ 100 := by omega
    obtain ⟨hx0, hx1, bT, hsz⟩ := two_boxes w #[.slice aa d.sec.length ca, .slice ab d.cache.length cb] #[.pointer none, .slice none 0 0] 32 54
    clear hx b0
    go_enter Try.func19, Try.ntmps19
    go_wp2
    generalize ((w.alloc (.cells #[.slice aa d.sec.length ca, .slice ab d.cache.length cb] 32)).alloc (.cells #[.pointer none, .slice none 0 0] 54)) = W at hx0 hx1 bT hsz ⊢
    have B0 : Hid (Lib.IsBuilder 54 5 (w.heap.size + 1) (w.heap.size + 1) (Lib.byteCells []) W ∧ Box W w.heap.size #[.slice aa d.sec.length ca, .slice ab d.cache.length cb] 32 ∧ Below w.heap.size w W ∧ w.heap.size + 1 ≤ W.heap.size) :=
      ⟨.inl ⟨Nat.le_refl _, .slice none 0 0, hx1, World.ownsRow_nil _ _ _ _, by simp [Value.ownBlock]⟩, hx0, bT, by omega⟩
    have HD := Lib.hid h
    clear hx0 hx1 bT hsz h
    go_loopw [19] (fun iv wr => ∃ i : Nat, i ≤ N ∧ iv = .int .i64 (i : Int) ∧ (i = 0 ∨ (0 ≤ a ∧ a < d.sec.length)) ∧ ∃ l : List UInt8, stL d a i = some l ∧ l.length ≤ i * 1099511627776 ∧ Lib.IsBuilder 54 5 (w.heap.size + 1) (w.heap.size + 1) (Lib.byteCells l) wr ∧ Box wr w.heap.size #[.slice aa d.sec.length ca, .slice ab d.cache.length cb] 32 ∧ Below w.heap.size w wr ∧ w.heap.size + 1 ≤ wr.heap.size) (fun iv _ => N - (intOf iv).toNat)
    case atStart => exact ⟨0, by omega, rfl, .inl rfl, [], rfl, by simp, B0.out⟩
    case round =>
      obtain ⟨i, hi, rfl, hor, l, hst, hll, hbd, hbx, hbl, hsz⟩ := hrel
      by_cases hlt : i < N
      · have c0 := hbx.cell 0 (.slice aa d.sec.length ca) rfl
        have c1 := hbx.cell 1 (.slice ab d.cache.length cb) rfl
        have hs1 := hs.1
        have hwr : IntKind.i64.wrap (a + (i : Int)) = a + (i : Int) := IntWalk.i64_in _ ⟨by rcases hor with e | e <;> omega, by rcases hor with e | e <;> omega⟩
        have hD := HD.out.later hbl
        cases hrd : rdO d (a + (i : Int)) with
        | none =>
          have HZ := Lib.hid (stT_none (stL_stop hst hrd hlt))
          have HR := Lib.hid (rdT_none hrd)
          have HB := Lib.hid hbl
          clear hst hrd hbd hor
          go_wp2_with (go_at_call 25; refine (implReadSector_any d _ (a + (i : Int)) _ hD hs ht hu).mono ?_; rintro e w1 ⟨rfl, k1⟩; rw [HR.out])
          go_ret2
          exact ⟨by rw [HZ.out]; rfl, HB.out.trans (k1.mono HB.out.size)⟩
        | some t =>
          have htz := rdO_size hrd ht hu
          have hin2 := rdO_in hrd
          have HS := Lib.hid (stL_go hst hrd)
          have HR := Lib.hid (rdT_some hrd)
          have HO : Hid (0 ≤ a ∧ a < d.sec.length ∨ i = 0) := by rcases hor with e | e; exact .inr e; exact .inl e
          have HB := Lib.hid hbl
          have HBX := Lib.hid hbx
          have HBD := Lib.hid hbd
          clear hst hrd hbd hor hbx
          have hlc : (Lib.byteCells l).length = l.length := by rw [byteCells_bytesV, bytesV_length]
          have hlen : l.length + t.size ≤ 140737488355328 := by
            have : i * 1099511627776 ≤ 99 * 1099511627776 := Nat.mul_le_mul_right _ (by omega)
            omega
          have HLN := Lib.hid hlen
          have HLC := Lib.hid hlc
          have HLL := Lib.hid hll
          clear hlen hlc hll
          go_wp2_with (first
            | (go_at_call 25; refine (implReadSector_any d _ (a + (i : Int)) _ hD hs ht hu).mono ?_; rintro e w1 ⟨rfl, k1⟩; rw [HR.out])
            | (go_at_call 26; refine (bldWrite (w.heap.size + 1) (w.heap.size + 1) (Lib.byteCells l) t _ (builder_later HBD.out k1) (by rw [HLC.out]; exact HLN.out) (Nat.le_trans hsz k1.size)).mono ?_; rintro e w2 ⟨rfl, bd2, k2⟩))
          have bF : Below w.heap.size w w2 := (HB.out.trans (k1.mono HB.out.size)).trans (k2.mono (by omega))
          have bx2 := (HBX.out.later k1).under k2 (by omega)
          have es : Lib.byteCells l ++ Lib.strCells t = Lib.byteCells (l ++ t.data.toList) := by simp [Lib.byteCells, Lib.strCells]
          rw [es] at bd2
          have hsz2 : w.heap.size + 1 ≤ w2.heap.size := Nat.le_trans (Nat.le_trans hsz k1.size) k2.size
          have hl2 : (l ++ t.data.toList).length ≤ (i + 1) * 1099511627776 := by
            have : t.data.toList.length = t.size := by rw [Array.length_toList]; rfl
            have := HLL.out
            rw [List.length_append, Nat.succ_mul]; omega
          have hor2 : i + 1 = 0 ∨ (0 ≤ a ∧ a < d.sec.length) := by
            rcases HO.out with e | e
            · exact .inr e
            · subst e; exact .inr (by simpa using hin2)
          have FIN := Lib.hid (show ∃ l : List UInt8, stL d a (i + 1) = some l ∧ l.length ≤ (i + 1) * 1099511627776 ∧ Lib.IsBuilder 54 5 (w.heap.size + 1) (w.heap.size + 1) (Lib.byteCells l) w2 ∧ _ ∧ _ ∧ _ from ⟨_, HS.out, hl2, .inr bd2, bx2, bF, hsz2⟩)
          clear bd2 bx2 bF es hl2
          go_roundw
          case rel => exact ⟨i + 1, by omega, by go_num, hor2, FIN.out⟩
          case measure => simp [intOf]; omega
      · have hie : i = N := by omega
        subst hie
        have HZ := Lib.hid (stT_some hN hst)
        have HB := Lib.hid hbl
        have HBD := Lib.hid hbd
        clear hst hbd hor
        go_wp2_with (go_at_call 27; refine (bldString (w.heap.size + 1) (w.heap.size + 1) l _ HBD.out hsz).mono ?_; rintro e w1 ⟨rfl, k1⟩)
        go_ret2
        exact ⟨by rw [HZ.out]; rfl, HB.out.trans (k1.mono (by omega))⟩
  · have HZ := Lib.hid (stT_no (d := d) (a := a) hin)
    clear h
    go_enter Try.func19, Try.ntmps19
    go_wp2
    all_goals
      go_ret2
      exact ⟨by rw [HZ.out]; rfl, b0⟩

theorem bytes_append (l : List UInt8) (t : ByteArray) : (⟨l.toArray⟩ : ByteArray) ++ t = ⟨(l ++ t.data.toList).toArray⟩ := by
  obtain ⟨⟨r⟩⟩ := t
  apply ByteArray.ext
  simp

set_option maxRecDepth 100000 in
set_option maxHeartbeats 4000000 in
theorem specSectorText_any (d : Dk) (v : Value) (a n : Int) (w : World) (h : DRd w v d) (hs : d.small) (ht : ∀ s ∈ d.sec, s.size ≤ 1099511627776) (hu : ∀ x ∈ d.cache, x.text.size ≤ 1099511627776) :
    Calls Try.prog 16 #[v, .int .i64 a, .int .i64 n] w fun e w' => e = .returned (stT d a n) ∧ Below w.heap.size w w' := by
  obtain ⟨aa, ab, ca, cb, rfl, _, _⟩ := h.form
  have hx := Box.new w #[.slice aa d.sec.length ca, .slice ab d.cache.length cb] 32
  have b0 : Below w.heap.size w (w.alloc (.cells #[.slice aa d.sec.length ca, .slice ab d.cache.length cb] 32)) := (Below.refl _ _).alloc (Nat.le_refl _) _
  by_cases hin : 0 ≤ n ∧ n ≤ 100
  · obtain ⟨N, rfl⟩ := Int.eq_ofNat_of_zero_le hin.1
    have hN : N ≤ 100 := by omega
    go_enter Try.func16, Try.ntmps16
    go_wp2_with (go_at_call 12; refine (in_yes _ _ _ _ (by omega) (by omega)).mono ?_; rintro e w5 ⟨rfl, rfl⟩)
    generalize w.alloc (.cells #[.slice aa d.sec.length ca, .slice ab d.cache.length cb] 32) = W at hx b0 ⊢
    have HD := Lib.hid h
    have HX := Lib.hid hx
    have B0 := Lib.hid b0
    clear hx b0 h
    go_loopw [8, 9] (fun sv iv wr => ∃ i : Nat, i ≤ N ∧ iv = .int .i64 (i : Int) ∧ (i = 0 ∨ (0 ≤ a ∧ a < d.sec.length)) ∧ ∃ l : List UInt8, stL d a i = some l ∧ l.length ≤ i * 1099511627776 ∧ sv = .string ⟨l.toArray⟩ ∧ Below W.heap.size W wr) (fun _ iv _ => N - (intOf iv).toNat)
    case atStart => exact ⟨0, by omega, rfl, .inl rfl, [], rfl, by simp, rfl, Below.refl _ _⟩
    case round =>
      obtain ⟨i, hi, rfl, hor, l, hst, hll, rfl, hbr⟩ := hrel
      have hbl : Below w.heap.size w wr := B0.out.trans (hbr.mono B0.out.size)
      by_cases hlt : i < N
      · have hbx := HX.out.later hbr
        have c0 := hbx.cell 0 (.slice aa d.sec.length ca) rfl
        have c1 := hbx.cell 1 (.slice ab d.cache.length cb) rfl
        have hs1 := hs.1
        by_cases hg : 0 ≤ a ∧ a ≤ d.sec.length
        · have hg0 : (0 : Int) ≤ a := hg.1
          have hg1 : a ≤ (d.sec.length : Int) := hg.2
          have hD := HD.out.later hbl
          cases hrd : rdO d (a + (i : Int)) with
          | none =>
            have HZ := Lib.hid (stT_none (stL_stop hst hrd hlt))
            have HR := Lib.hid (rdT_none hrd)
            have HB := Lib.hid hbl
            clear hst hrd hor
            go_wp2_with (go_at_call 23; refine (specReadSector_any d _ (a + (i : Int)) _ hD hs).mono ?_; rintro e w1 ⟨rfl, k1⟩; rw [HR.out])
            go_ret2
            exact ⟨by rw [HZ.out]; rfl, HB.out.trans (k1.mono HB.out.size)⟩
          | some t =>
            have htz := rdO_size hrd ht hu
            have hin2 := rdO_in hrd
            have HS := Lib.hid (stL_go hst hrd)
            have HR := Lib.hid (rdT_some hrd)
            have HO : Hid (0 ≤ a ∧ a < d.sec.length ∨ i = 0) := by rcases hor with e | e; exact .inr e; exact .inl e
            clear hst hrd hor
            go_wp2_with (go_at_call 23; refine (specReadSector_any d _ (a + (i : Int)) _ hD hs).mono ?_; rintro e w1 ⟨rfl, k1⟩; rw [HR.out])
            have hl2 : (l ++ t.data.toList).length ≤ (i + 1) * 1099511627776 := by
              have : t.data.toList.length = t.size := by rw [Array.length_toList]; rfl
              rw [List.length_append, Nat.succ_mul]; omega
            have hor2 : i + 1 = 0 ∨ (0 ≤ a ∧ a < d.sec.length) := by
              rcases HO.out with e | e
              · exact .inr e
              · subst e; exact .inr (by simpa using hin2)
            go_roundw
            case rel => exact ⟨i + 1, by omega, by go_num, hor2, _, HS.out, hl2, congrArg Value.string (bytes_append l t), hbr.trans (k1.mono hbr.size)⟩
            case measure => simp [intOf]; omega
        · have hrd : rdO d (a + (i : Int)) = none := by
            rcases hor with e | e
            · subst e; unfold rdO; rw [if_neg]; simp; omega
            · omega
          have HZ := Lib.hid (stT_none (stL_stop hst hrd hlt))
          have HB := Lib.hid hbl
          clear hst hrd hor
          go_wp2
          all_goals
            go_ret2
            exact ⟨by rw [HZ.out]; rfl, HB.out⟩
      · have hie : i = N := by omega
        subst hie
        have HZ := Lib.hid (stT_some hN hst)
        have HB := Lib.hid hbl
        clear hst hor
        go_wp2
        go_ret2
        exact ⟨by rw [HZ.out]; rfl, HB.out⟩
  · have HZ := Lib.hid (stT_no (d := d) (a := a) hin)
    clear h
    go_enter Try.func16, Try.ntmps16
    go_wp2_with (go_at_call 12; refine (in_no _ _ _ _ hin).mono ?_; rintro e w5 ⟨rfl, rfl⟩)
    go_ret2
    exact ⟨by rw [HZ.out]; rfl, b0⟩

end Go.Proofs.Ytmlhpjkijpbinaq
