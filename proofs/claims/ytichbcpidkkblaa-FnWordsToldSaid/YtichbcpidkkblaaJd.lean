/- Texts of our own, joined. -/
import Derived.Test.YtichbcpidkkblaaJc
import Derived.Test.YtichbcpidkkblaaJa
import Derived.WalkKit
import Derived.Maps.AppendAt
import Derived.Test.YtichbcpidkkblaaJb
import Derived.WalkSpells
import Derived.WalkSmall
import Derived.Laws.Concat
import Derived.Deep.QuietTactic
import Derived.BigQuiet
import Derived.Deep.RegionHeld3
import Derived.Lib.Hide
/- What is drawn for the chapter on lines. -/
namespace Go.Proofs.Ytichbcpidkkblaa
open Go.RowKit

/-- A text is drawn with a cursor: it is small, and only the cursor has moved. -/
def DrT (n pc : Nat) (a : Option Addr) (len cap : Nat) (w : World) (e : Ending) (w' : World) : Prop := ∃ t : ByteArray, t.size ≤ n ∧ e = .returned (.string t) ∧ Cur w' pc a len cap ∧ w.grownBy w' (some pc)

set_option maxRecDepth 100000 in
set_option maxHeartbeats 1000000 in
theorem l16Line_any (pc : Nat) (a : Option Addr) (len cap : Nat) (w : World) (hc : Cur w pc a len cap) :
    Calls Try.prog 31 #[.pointer (some ⟨pc, 0, none⟩)] w fun e w' => DrT 40 pc a len cap w e w' := by
  go_enter Try.func31, Try.ntmps31
  go_wp2_with fail
  have hpk := pickStr_any [⟨#[104, 101, 108, 111, 32, 97, 110, 110]⟩, ⟨#[109, 97, 105, 108, 32, 98, 111, 98]⟩, ⟨#[114, 99, 112, 116, 32, 97, 110, 110]⟩, ⟨#[100, 97, 116, 97]⟩, ⟨#[113, 117, 105, 116]⟩, ⟨#[117, 115, 101, 114, 32, 97, 110, 110]⟩, ⟨#[112, 97, 115, 115, 32, 97, 110, 110, 120]⟩, ⟨#[115, 116, 97, 116]⟩, ⟨#[97, 32, 108, 111, 103, 105, 110, 32, 97, 110, 110, 32, 97, 110, 110, 120]⟩, ⟨#[97, 32, 115, 101, 108, 101, 99, 116, 32, 105, 110, 98, 111, 120]⟩, ⟨#[]⟩, ⟨#[78, 111, 111, 112]⟩, ⟨#[46]⟩, ⟨#[46, 46, 120]⟩] 14 pc a len cap _ hc rfl (by omega) (by omega)
  simp only [List.map_cons, List.map_nil] at hpk
  refine hpk.mono ?_
  clear hpk
  rintro e w2 ⟨t, ht2, rfl, hc2, hg2⟩
  have hsz2 : t.size ≤ 40 := by
    simp only [List.mem_cons, List.not_mem_nil, or_false] at ht2
    rcases ht2 with rfl | rfl | rfl | rfl | rfl | rfl | rfl | rfl | rfl | rfl | rfl | rfl | rfl | rfl <;> decide
  clear ht2
  go_wp2
  go_ret
  exact ⟨t, hsz2, rfl, hc2, hg2⟩

set_option maxRecDepth 100000 in
set_option maxHeartbeats 4000000 in
theorem drawLowWord_any (a : Option Addr) (len cap : Nat) (w : World) (hcode : CodeIn w a len) (hs : len ≤ 1048576) :
    Calls Try.prog 13 #[.slice a len cap] w fun e w' => ∃ t : ByteArray, t.size ≤ 1000 ∧ e = .returned (.string t) ∧ Below w.heap.size w w' := by
  go_enter Try.func13, Try.ntmps13
  go_wp2_with fail
  refine (new_any a len cap _ hcode hs).mono ?_
  rintro e w1 ⟨pc, hp, rfl, hc1, hb1⟩
  have D1 : Drw w pc a len cap w1 := ⟨hc1, hb1, hp⟩
  clear hc1 hb1 hp
  go_wp2_with fail
  have hpk := pickStr_any [⟨#[]⟩, ⟨#[81, 85, 73, 84]⟩, ⟨#[78, 111, 111, 112]⟩, ⟨#[97, 49, 90]⟩, ⟨#[192]⟩] 5 pc a len cap _ D1.cur rfl (by omega) (by omega)
  simp only [List.map_cons, List.map_nil] at hpk
  refine hpk.mono ?_
  clear hpk
  rintro e w2 ⟨t, ht2, rfl, hc2, hg2⟩
  have hsz2 : t.size ≤ 40 := by
    simp only [List.mem_cons, List.not_mem_nil, or_false] at ht2
    rcases ht2 with rfl | rfl | rfl | rfl | rfl <;> decide
  clear ht2
  have D2 := D1.step hc2 hg2
  have HB := Lib.hid D2.bel
  clear D1 D2 hc2 hg2
  go_wp2
  go_ret
  exact ⟨t, by omega, rfl, HB.out⟩

set_option maxRecDepth 100000 in
set_option maxHeartbeats 4000000 in
theorem drawNumberOf_any (a : Option Addr) (len cap : Nat) (w : World) (hcode : CodeIn w a len) (hs : len ≤ 1048576) :
    Calls Try.prog 14 #[.slice a len cap] w fun e w' => ∃ t : ByteArray, t.size ≤ 1000 ∧ e = .returned (.string t) ∧ Below w.heap.size w w' := by
  go_enter Try.func14, Try.ntmps14
  go_wp2_with fail
  refine (new_any a len cap _ hcode hs).mono ?_
  rintro e w1 ⟨pc, hp, rfl, hc1, hb1⟩
  have D1 : Drw w pc a len cap w1 := ⟨hc1, hb1, hp⟩
  clear hc1 hb1 hp
  go_wp2_with fail
  have hpk := pickStr_any [⟨#[]⟩, ⟨#[48]⟩, ⟨#[55]⟩, ⟨#[48, 55]⟩, ⟨#[120]⟩, ⟨#[49, 56, 53, 48, 48, 48, 48, 48, 48, 48, 48, 48, 48, 48, 48, 48, 48, 48, 48, 48]⟩, ⟨#[49, 48, 48, 48, 48, 48, 48, 48, 48, 48]⟩] 7 pc a len cap _ D1.cur rfl (by omega) (by omega)
  simp only [List.map_cons, List.map_nil] at hpk
  refine hpk.mono ?_
  clear hpk
  rintro e w2 ⟨t, ht2, rfl, hc2, hg2⟩
  have hsz2 : t.size ≤ 40 := by
    simp only [List.mem_cons, List.not_mem_nil, or_false] at ht2
    rcases ht2 with rfl | rfl | rfl | rfl | rfl | rfl | rfl <;> decide
  clear ht2
  have D2 := D1.step hc2 hg2
  have HB := Lib.hid D2.bel
  clear D1 D2 hc2 hg2
  go_wp2
  go_ret
  exact ⟨t, by omega, rfl, HB.out⟩

set_option maxRecDepth 100000 in
set_option maxHeartbeats 4000000 in
theorem drawWordsOf_any (a : Option Addr) (len cap : Nat) (w : World) (hcode : CodeIn w a len) (hs : len ≤ 1048576) :
    Calls Try.prog 12 #[.slice a len cap] w fun e w' => ∃ t : ByteArray, t.size ≤ 1000 ∧ e = .returned (.string t) ∧ Below w.heap.size w w' := by
  go_enter Try.func12, Try.ntmps12
  go_wp2_with fail
  refine (new_any a len cap _ hcode hs).mono ?_
  rintro e w1 ⟨pc, hp, rfl, hc1, hb1⟩
  have D1 : Drw w pc a len cap w1 := ⟨hc1, hb1, hp⟩
  clear hc1 hb1 hp
  go_wp2_with fail
  refine (once_any 6 pc a len cap _ D1.cur (by omega)).mono ?_
  rintro e w2 ⟨he, hc2, hg2⟩
  have D2 := D1.step hc2 hg2
  clear D1 hc2 hg2
  rcases he with rfl | rfl
  · go_wp2_with fail
    have hpk := pickStr_any [⟨#[32, 32, 97, 32, 32, 98, 32]⟩, ⟨#[7]⟩, ⟨#[97, 9, 98]⟩] 3 pc a len cap _ D2.cur rfl (by omega) (by omega)
    simp only [List.map_cons, List.map_nil] at hpk
    refine hpk.mono ?_
    clear hpk
    rintro e w3 ⟨t, ht3, rfl, hc3, hg3⟩
    have hsz3 : t.size ≤ 40 := by
      simp only [List.mem_cons, List.not_mem_nil, or_false] at ht3
      rcases ht3 with rfl | rfl | rfl <;> decide
    clear ht3
    have D3 := D2.step hc3 hg3
    have HB := Lib.hid D3.bel
    clear D2 D3 hc3 hg3
    go_wp2
    go_ret
    exact ⟨t, by omega, rfl, HB.out⟩
  · go_wp2_with fail
    refine (l16Line_any pc a len cap _ D2.cur).mono ?_
    rintro e w3 ⟨t, ht, rfl, hc3, hg3⟩
    have D3 := D2.step hc3 hg3
    have HB := Lib.hid D3.bel
    clear D2 D3 hc3 hg3
    go_wp2
    go_ret
    exact ⟨t, by omega, rfl, HB.out⟩

set_option maxRecDepth 100000 in
set_option maxHeartbeats 4000000 in
theorem drawTakeLine_any (a : Option Addr) (len cap : Nat) (w : World) (hcode : CodeIn w a len) (hs : len ≤ 1048576) :
    Calls Try.prog 10 #[.slice a len cap] w fun e w' => ∃ t : ByteArray, t.size ≤ 1000 ∧ e = .returned (.string t) ∧ Below w.heap.size w w' := by
  go_enter Try.func10, Try.ntmps10
  go_wp2_with fail
  refine (new_any a len cap _ hcode hs).mono ?_
  rintro e w1 ⟨pc, hp, rfl, hc1, hb1⟩
  have D1 : Drw w pc a len cap w1 := ⟨hc1, hb1, hp⟩
  clear hc1 hb1 hp
  go_wp2_with fail
  refine (l16Line_any pc a len cap _ D1.cur).mono ?_
  rintro e w2 ⟨t, ht, rfl, hc2, hg2⟩
  have D2 := D1.step hc2 hg2
  clear D1 hc2 hg2
  go_wp2_with fail
  refine (l16Line_any pc a len cap _ D2.cur).mono ?_
  rintro e w3 ⟨u, hu, rfl, hc3, hg3⟩
  have D3 := D2.step hc3 hg3
  clear D2 hc3 hg3
  go_wp2_with fail
  refine (below_any 8 pc a len cap _ D3.cur (by omega)).mono ?_
  rintro e w4 ⟨x, hx, hx2, rfl, hc4, hg4⟩
  have D4 := D3.step hc4 hg4
  clear D3 hc4 hg4
  have hsz : (t ++ (⟨#[13, 10]⟩ : ByteArray) ++ u).size ≤ 1000 := by
    rw [ByteArray.size_append, ByteArray.size_append]
    have : (⟨#[13, 10]⟩ : ByteArray).size = 2 := rfl
    omega
  have HSZ := Lib.hid hsz
  clear hsz
  by_cases x0 : x = 0
  · have x0' : ((x : Int) == 0) = true := by simp [x0]
    subst x0
    go_wp2_with fail
    refine (l16Line_any pc a len cap _ D4.cur).mono ?_
    rintro e w5 ⟨v, hv, rfl, hc5, hg5⟩
    have D5 := D4.step hc5 hg5
    have HB := Lib.hid D5.bel
    clear D4 D5 hc5 hg5
    go_wp2
    go_ret
    exact ⟨v, by omega, rfl, HB.out⟩
  by_cases x1 : x = 1
  · subst x1
    go_wp2_with fail
    refine (below_any 5 pc a len cap _ D4.cur (by omega)).mono ?_
    rintro e w5 ⟨y, hy, hy2, rfl, hc5, hg5⟩
    have D5 := D4.step hc5 hg5
    clear D4 hc5 hg5
    have hy5 : y < 5 := by have := hy (by omega); omega
    have hw : IntKind.i64.wrap (78 + (y : Int)) = ((78 + y : Nat) : Int) := (IntWalk.i64_in _ ⟨by omega, by omega⟩).trans (by omega)
    go_wp2_with fail
    refine (long_any (78 + y) 97 _ (by omega)).mono ?_
    rintro e w6 ⟨rfl, k6⟩
    have D6 := D5.later k6
    clear D5 k6
    have hsl : (⟨(List.replicate (78 + y) (97 : UInt8)).toArray⟩ : ByteArray).size ≤ 82 := by simp [ByteArray.size]; omega
    generalize (⟨(List.replicate (78 + y) (97 : UInt8)).toArray⟩ : ByteArray) = v at *
    go_wp2_with fail
    have hpk := pickStr_any [⟨#[]⟩, ⟨#[13]⟩, ⟨#[13, 10]⟩, ⟨#[120]⟩] 4 pc a len cap _ D6.cur rfl (by omega) (by omega)
    simp only [List.map_cons, List.map_nil] at hpk
    refine hpk.mono ?_
    clear hpk
    rintro e w7 ⟨z, ht7, rfl, hc7, hg7⟩
    have hsz7 : z.size ≤ 40 := by
      simp only [List.mem_cons, List.not_mem_nil, or_false] at ht7
      rcases ht7 with rfl | rfl | rfl | rfl <;> decide
    clear ht7
    have D7 := D6.step hc7 hg7
    have HB := Lib.hid D7.bel
    have hsz : (v ++ z).size ≤ 1000 := by rw [ByteArray.size_append]; omega
    have HSZ := Lib.hid hsz
    clear D6 D7 hc7 hg7 hsz
    go_wp2
    go_ret
    exact ⟨_, HSZ.out, rfl, HB.out⟩
  by_cases x2 : x = 2
  · subst x2
    have HB := Lib.hid D4.bel
    clear D4
    go_wp2
    go_ret
    exact ⟨_, (show (⟨#[97, 10, 98, 13, 13, 10]⟩ : ByteArray).size ≤ 1000 by decide), rfl, HB.out⟩
  have HB := Lib.hid D4.bel
  clear D4
  go_wp2
  go_ret
  exact ⟨_, HSZ.out, rfl, HB.out⟩

end Go.Proofs.Ytichbcpidkkblaa

/- Plain facts on the parts of a line, with no program in them. -/
namespace Go.Proofs.Ytichbcpidkkblaa

/-- The parts that end ahead of the place i (each from one place to another), and where the next one may begin. -/
def cutSt (l : List UInt8) : Nat → List (Nat × Nat) × Nat
  | 0 => ([], 0)
  | i + 1 =>
    if (l[i]?).any (fun c => c.toNat != 32) then cutSt l i
    else (if (cutSt l i).2 < i then (cutSt l i).1 ++ [((cutSt l i).2, i)] else (cutSt l i).1, i + 1)

theorem cutSt_le (l : List UInt8) : ∀ i, (cutSt l i).2 ≤ i ∧ (cutSt l i).1.length ≤ i := by
  intro i
  induction i with
  | zero => simp [cutSt]
  | succ i ih =>
    rw [cutSt]
    split
    · omega
    · split
      · simp; omega
      · simp; omega

theorem cutSt_go {l : List UInt8} {i : Nat} (h : i < l.length) (hc : l[i].toNat ≠ 32) : cutSt l (i + 1) = cutSt l i := by
  rw [cutSt, if_pos]
  simp [List.getElem?_eq_getElem h, hc]

theorem cutSt_part {l : List UInt8} {i : Nat} (hc : ∀ h : i < l.length, l[i].toNat = 32) (hf : (cutSt l i).2 < i) : cutSt l (i + 1) = ((cutSt l i).1 ++ [((cutSt l i).2, i)], i + 1) := by
  rw [cutSt, if_neg, if_pos hf]
  by_cases h : i < l.length
  · simp [List.getElem?_eq_getElem h, hc h]
  · simp [List.getElem?_eq_none (by omega : l.length ≤ i)]

theorem cutSt_none {l : List UInt8} {i : Nat} (hc : ∀ h : i < l.length, l[i].toNat = 32) (hf : ¬ (cutSt l i).2 < i) : cutSt l (i + 1) = ((cutSt l i).1, i + 1) := by
  rw [cutSt, if_neg, if_neg hf]
  by_cases h : i < l.length
  · simp [List.getElem?_eq_getElem h, hc h]
  · simp [List.getElem?_eq_none (by omega : l.length ≤ i)]

def printed (l : List UInt8) : Prop := ∀ c ∈ l, 32 ≤ c.toNat ∧ c.toNat ≤ 126

/-- The texts of the parts. -/
def cutTexts (s : ByteArray) (i : Nat) : List ByteArray := (cutSt s.data.toList i).1.map fun p => s.extract p.1 p.2

theorem cutTexts_len (s : ByteArray) (i : Nat) : (cutTexts s i).length ≤ i := by
  have := (cutSt_le s.data.toList i).2
  simpa [cutTexts] using this

/-- All parts. -/
def partsOf (s : ByteArray) : List ByteArray := cutTexts s (s.size + 1)

/-- Whether a line has parts. -/
def isLine (s : ByteArray) : Prop := s.size ≤ 600 ∧ printed s.data.toList ∧ (partsOf s).length ≤ 10

end Go.Proofs.Ytichbcpidkkblaa

/- What a list of texts is that a call builds in memory of its own, and the laws by which it grows, is read and is written. -/
namespace Go.Proofs.Ytichbcpidkkblaa
open Go.RowKit

theorem Try.info_str : (Try.prog.info? 9).map (fun i => (i.zero, i.size, i.bytes)) = some (some (.string ⟨#[]⟩), 1, 16) := by kernel_rfl

def strV (l : List ByteArray) : List Value := l.map fun c => .string c
theorem strV_length (l : List ByteArray) : (strV l).length = l.length := by simp [strV]

/-- The slice v holds the texts l in memory that the call made itself (blocks from B on); below B all is as it was in w0. -/
structure SBuf (B : Nat) (w0 w : World) (v : Value) (l : List ByteArray) : Prop where
  own : w.ownsRow B 9 1 v l.length (strV l)
  bel : Below B w0 w
  le : B ≤ w.heap.size

theorem SBuf.alloc {B : Nat} {w0 w : World} {v : Value} {l : List ByteArray} (h : SBuf B w0 w v l) (o : Obj) : SBuf B w0 (w.alloc o) v l :=
  ⟨h.own.alloc o, h.bel.alloc h.le o, by have := h.le; simp; omega⟩
theorem SBuf.drew {B : Nat} {w0 w : World} {v : Value} {l : List ByteArray} (h : SBuf B w0 w v l) : SBuf B w0 w.drew v l :=
  ⟨h.own.drew, h.bel.drew, h.le⟩
theorem SBuf.fresh (w : World) : SBuf w.heap.size w (w.alloc (.cells #[] 9)) (.slice (some ⟨w.heap.size, 0, none⟩) 0 0) [] :=
  ⟨World.ownsRow_made w #[] 0 (Nat.le_refl _) (by decide) rfl, (Below.refl _ _).alloc (Nat.le_refl _) _, by simp⟩

/-- What is laid behind the heap's end, and nothing else, leaves the texts where they are. -/
theorem SBuf.later {B : Nat} {w0 w w' : World} {v : Value} {l : List ByteArray} (h : SBuf B w0 w v l) (hb : Below w.heap.size w w') : SBuf B w0 w' v l := by
  have hg : w.grownBy w' none := ⟨hb.os, hb.tape, hb.output, hb.size, fun k hk _ => hb.block k hk⟩
  refine ⟨h.own.kept hg ?_, h.bel.trans (hb.mono h.le), Nat.le_trans h.le hb.size⟩
  cases hv : v.ownBlock with
  | none => exact .inl rfl
  | some k => exact .inr (by simp)

theorem wpList_append_str {w0 w : World} {ops : Array Oper} {rest : List Oper} {o : Oper} {a : Act} {Q : Exit → Act → World → Prop} (hgd : o.guard = none) (s x : Operand)
    (ho : o.op = .call { callee := .builtin .append, args := #[s, x], argTypes := #[24, 24] })
    (B : Nat) (v : Value) (l : List ByteArray) (hs : a.eval s = v) (hb : SBuf B w0 w v l)
    (ad : Addr) (t : ByteArray) (hx : a.eval x = .slice (some ad) 1 1)
    (hnews : ∀ j u, [Value.string t][j]? = some u → w.cell? (ad.add j) = some u)
    (hlen : l.length + 1 ≤ 8796093022208)
    (h : ∀ v' w', SBuf B w0 w' v' (l ++ [t]) → wpList Try.prog ops Q rest (a.put o.dst v') w') : wpList Try.prog ops Q (o :: rest) a w := by
  obtain ⟨i0, hi, hz0, hz1, hz2⟩ := info_parts Try.info_str
  refine wpList_append_own _ hgd s x 24 ho B 9 i0 (.string ⟨#[]⟩) 1 16 Try.underlying24 hi hz0 hz1 hz2 rfl (by decide) v l.length (strV l) hs hb.own ad 1 1 [.string t] hx (by simp) hnews ?_ (by unfold maxLen; omega) (by omega) hb.le ?_
  · intro u hu
    simp at hu
    subst hu
    rfl
  · intro v' w' hown hgrow _
    refine h v' w' ⟨?_, hb.bel.grown hgrow hb.le (fun k hk => (hb.own.lt k hk).1), Nat.le_trans hb.le hgrow.size⟩
    have e1 : (l ++ [t]).length = l.length + 1 := by simp
    have e2 : strV (l ++ [t]) = strV l ++ [.string t] := by simp [strV]
    rw [e1, e2]
    exact hown

theorem SBuf.form {B : Nat} {w0 w : World} {v : Value} {l : List ByteArray} (h : SBuf B w0 w v l) : ∃ (a : Option Addr) (cap : Nat), v = .slice a l.length cap := by
  rcases h.own.2 with ⟨rfl, h0⟩ | ⟨g, cap, cur, rfl, _⟩
  · exact ⟨none, 0, by rw [h0]⟩
  · exact ⟨_, _, rfl⟩

/-- Texts that can be read: each in its cell of a row; nothing where there is none. -/
def Strs (w : World) (v : Value) (l : List ByteArray) : Prop :=
  (l = [] ∧ ∃ (a : Option Addr) (cap : Nat), v = .slice a 0 cap) ∨
  ∃ g cap : Nat, v = .slice (some ⟨g, 0, none⟩) l.length cap ∧ l.length ≤ cap ∧ g < w.heap.size ∧ ∀ j b, l[j]? = some b → w.cell? ⟨g, j, none⟩ = some (.string b)

theorem SBuf.strs {B : Nat} {w0 w : World} {v : Value} {l : List ByteArray} (h : SBuf B w0 w v l) : Strs w v l := by
  rcases h.own.2 with ⟨rfl, h0⟩ | ⟨g, cap, cur, rfl, hg, hh, hnc, hcp, hcs, htake⟩
  · exact .inl ⟨List.length_eq_zero_iff.1 h0, _, _, rfl⟩
  · refine .inr ⟨g, cap, rfl, hnc, (h.own.lt g rfl).2, fun j b hj => ?_⟩
    have hlt : j < l.length := (List.getElem?_eq_some_iff.1 hj).1
    rw [h.own.cellAt j (by omega)]
    simp [strV, hj]

theorem Strs.later {w w' : World} {v : Value} {l : List ByteArray} (h : Strs w v l) (hb : Below w.heap.size w w') : Strs w' v l := by
  rcases h with h | ⟨g, cap, hv, hc, hg, hcl⟩
  · exact .inl h
  · exact .inr ⟨g, cap, hv, hc, Nat.lt_of_lt_of_le hg hb.size, fun j b hj => (hb.cell (p := ⟨g, j, none⟩) hg).trans (hcl j b hj)⟩

/-- A store into the row. -/
theorem SBuf.stored {B : Nat} {w0 w : World} {g cap : Nat} {l : List ByteArray} (h : SBuf B w0 w (.slice (some ⟨g, 0, none⟩) l.length cap) l) (j : Nat) (t : ByteArray) :
    SBuf B w0 (w.setCell ⟨g, j, none⟩ (.string t)) (.slice (some ⟨g, 0, none⟩) l.length cap) (l.set j t) := by
  have hst := h.own.stored j (.string t)
  have e : strV (l.set j t) = (strV l).set j (.string t) := by simp [strV, List.map_set]
  refine ⟨?_, h.bel.setCell (h.own.lt g rfl).1 _, by have := h.le; simpa using this⟩
  have hl : (l.set j t).length = l.length := by simp
  rw [hl, e]
  exact hst.1

theorem SBuf.under {w0 w1 w : World} {v : Value} {l : List ByteArray} (hb : Below w0.heap.size w0 w1) (h : SBuf w1.heap.size w1 w v l) : SBuf w0.heap.size w0 w v l := by
  refine ⟨⟨h.own.1, ?_⟩, hb.trans (h.bel.mono hb.size), Nat.le_trans hb.size h.le⟩
  rcases h.own.2 with h1 | ⟨g, cap, cur, h1, h2, h3⟩
  · exact .inl h1
  · exact .inr ⟨g, cap, cur, h1, Nat.le_trans hb.size h2, h3⟩

end Go.Proofs.Ytichbcpidkkblaa

/- The parts of a line: what spec.PartsOf, impl.allPrinted, impl.cutAtBlanks and impl.PartsOf hand back. -/
namespace Go.Proofs.Ytichbcpidkkblaa
open Go.RowKit

/-- What PartsOf hands back: the parts and true of a line, else nothing and false. -/
def PoT (s : ByteArray) (l : List ByteArray) (f : Bool) : Prop := (isLine s ∧ l = partsOf s ∧ f = true) ∨ (¬ isLine s ∧ l = [] ∧ f = false)

theorem slice_ab (s : ByteArray) (a b : Nat) (h1 : a ≤ b) (h2 : b ≤ s.size) (wx : World) :
    (Instr.slice 9 (.string s) (some (.int .i64 (a : Int))) (some (.int .i64 (b : Int))) none).run Try.prog wx = .ok (.string (s.extract a b)) wx := by
  have := run_slice_string (P := Try.prog) (w := wx) 9 s .i64 .i64 (a : Int) (b : Int) Try.underlying9 (by omega) (by omega) (by omega)
  rw [this]
  congr 3

set_option maxRecDepth 100000 in
set_option maxHeartbeats 1000000 in
theorem cutAtBlanks_any (s : ByteArray) (w : World) (hs : s.size ≤ 600) :
    Calls Try.prog 44 #[.string s] w fun e w' => ∃ v, e = .returned v ∧ SBuf w.heap.size w w' v (partsOf s) := by
  have hlen : s.data.toList.length = s.size := by simp
  have hst := SBuf.fresh w
  go_enter Try.func44, Try.ntmps44
  go_wp2
  go_loopw [3, 4, 10] (fun v fv iv wr => ∃ i f : Nat, i ≤ s.size + 1 ∧ iv = .int .i64 (i : Int) ∧ fv = .int .i64 (f : Int) ∧ f = (cutSt s.data.toList i).2 ∧ SBuf w.heap.size w wr v (cutTexts s i)) (fun _ _ iv _ => s.size + 1 - (intOf iv).toNat)
  case atStart => exact ⟨0, 0, by omega, rfl, rfl, rfl, hst⟩
  case round =>
    obtain ⟨i, f, hi, rfl, rfl, hf0, hb⟩ := hrel
    have hf : Hid (f = (cutSt s.data.toList i).2) := hf0
    have hfi : f ≤ i := by rw [hf0]; exact (cutSt_le _ _).1
    have hcl := cutTexts_len s i
    clear hf0
    by_cases hlt : i < s.size + 1
    · by_cases h1 : i < s.size ∧ ∀ h : i < s.size, s[i].toNat ≠ 32
      · obtain ⟨h2, h3⟩ := h1
        have h4 := h3 h2
        have hstep : Hid (cutSt s.data.toList (i + 1) = cutSt s.data.toList i) := cutSt_go (by omega) h4
        have h5 : ((s[i].toNat : Int) != 32) = true := by rw [bne_iff_ne]; omega
        clear h3 h4
        go_wp2
        go_roundw
        case rel => exact ⟨i + 1, f, by omega, by go_num, rfl, by rw [hstep.out]; exact hf.out, by rw [cutTexts, hstep.out]; exact hb⟩
        case measure => simp [intOf]; omega
      · have h3 : ∀ h : i < s.data.toList.length, s.data.toList[i].toNat = 32 := by
          intro h
          by_cases h4 : s.data.toList[i].toNat = 32
          · exact h4
          · exact absurd ⟨by omega, fun h' => h4⟩ h1
        have H3 : Hid (∀ h : i < s.data.toList.length, s.data.toList[i].toNat = 32) := h3
        clear h1 h3
        by_cases hfi2 : f < i
        · have hstep : Hid (cutSt s.data.toList (i + 1) = _) := cutSt_part H3.out (by rw [← hf.out]; exact hfi2)
          have hsl := slice_ab s f i (by omega) (by omega)
          have hsz : (s.extract f i).size ≤ 281474976710656 := by simp; omega
          have hnew : Hid (cutTexts s (i + 1) = cutTexts s i ++ [s.extract f i]) := by
            show cutTexts s (i + 1) = cutTexts s i ++ [s.extract f i]
            rw [cutTexts, hstep.out, ← hf.out]; simp [cutTexts]
          by_cases h6 : i < s.size
          · have h7 : ((s[i].toNat : Int) != 32) = false := by
              have h8 : s[i].toNat = 32 := H3.out (by omega)
              simp [h8]
            go_wp2_with (first | (go_at_call 29; refine (clone_any _ _ hsz).mono ?_; rintro e w1 ⟨rfl, hb1⟩) | (at_builtin; refine wpList_append_str rfl _ _ rfl _ _ _ rfl ((hb.later hb1).alloc _) ⟨w1.heap.size, 0, none⟩ (s.extract f i) rfl (cell_one_new _ _ _) ?c1 ?_))
            case c1 => omega
            intro v' w2 hb'
            go_wp2
            go_roundw
            case rel => exact ⟨i + 1, i + 1, by omega, by go_num, by go_num, by rw [hstep.out], by rw [hnew.out]; exact hb'⟩
            case measure => simp [intOf]; omega
          · go_wp2_with (first | (go_at_call 29; refine (clone_any _ _ hsz).mono ?_; rintro e w1 ⟨rfl, hb1⟩) | (at_builtin; refine wpList_append_str rfl _ _ rfl _ _ _ rfl ((hb.later hb1).alloc _) ⟨w1.heap.size, 0, none⟩ (s.extract f i) rfl (cell_one_new _ _ _) ?d1 ?_))
            case d1 => omega
            intro v' w2 hb'
            go_wp2
            go_roundw
            case rel => exact ⟨i + 1, i + 1, by omega, by go_num, by go_num, by rw [hstep.out], by rw [hnew.out]; exact hb'⟩
            case measure => simp [intOf]; omega
        · have hstep : Hid (cutSt s.data.toList (i + 1) = _) := cutSt_none H3.out (by rw [← hf.out]; exact hfi2)
          have hnew : Hid (cutTexts s (i + 1) = cutTexts s i) := by
            show cutTexts s (i + 1) = cutTexts s i
            rw [cutTexts, hstep.out]; simp [cutTexts]
          by_cases h6 : i < s.size
          · have h7 : ((s[i].toNat : Int) != 32) = false := by
              have h8 : s[i].toNat = 32 := H3.out (by omega)
              simp [h8]
            go_wp2
            go_roundw
            case rel => exact ⟨i + 1, i + 1, by omega, by go_num, by go_num, by rw [hstep.out], by rw [hnew.out]; exact hb⟩
            case measure => simp [intOf]; omega
          · go_wp2
            go_roundw
            case rel => exact ⟨i + 1, i + 1, by omega, by go_num, by go_num, by rw [hstep.out], by rw [hnew.out]; exact hb⟩
            case measure => simp [intOf]; omega
    · have hfin : Hid (i = s.size + 1) := by show i = s.size + 1; omega
      go_wp2
      go_ret
      exact ⟨_, rfl, by rw [partsOf, ← hfin.out]; exact hb⟩

set_option maxRecDepth 100000 in
set_option maxHeartbeats 1000000 in
theorem allPrinted_any (s : ByteArray) (w : World) (hs : s.size ≤ 600) :
    Calls Try.prog 43 #[.string s] w fun e w' => ∃ f, e = .returned (.bool f) ∧ (f = true ↔ printed s.data.toList) ∧ Below w.heap.size w w' := by
  have hlen : s.data.toList.length = s.size := by simp
  have hconv : ∀ wx, (convert 9 22 (.string s)).run Try.prog wx = .ok (.slice (some ⟨wx.heap.size, 0, none⟩) s.size (grownCap wx s.size 0 5)) (Lib.bytesWorld wx 5 s) :=
    fun wx => Lib.run_convert_string_bytes (P := Try.prog) wx 9 22 5 s Try.underlying9 Try.underlying22 Try.underlying5
  obtain ⟨o, ho1, ho2⟩ := bytes_block w s
  have hbw : Below w.heap.size w (Lib.bytesWorld w 5 s) := ⟨rfl, rfl, rfl, by rw [Lib.bytesWorld_size]; omega, fun k hk => Lib.bytesWorld_at_old w 5 s k hk⟩
  have hcells := ho2 _ ho1
  have HC : Hid (∀ j (hj : j < s.size), (Lib.bytesWorld w 5 s).cell? ⟨w.heap.size, j, none⟩ = some (.int .u8 (s[j].toNat : Int))) := hcells
  clear ho1 ho2 hcells
  go_enter Try.func43, Try.ntmps43
  go_wp2
  generalize Lib.bytesWorld w 5 s = w1 at *
  go_loop [8] (fun iv => ∃ k : Nat, k ≤ s.size ∧ iv = .int .i64 (k : Int) ∧ printed (s.data.toList.take k)) (fun iv => s.size - (intOf iv).toNat)
  case atStart => exact ⟨0, by omega, rfl, by intro c hc; simp at hc⟩
  case round =>
    obtain ⟨k, hk, rfl, hp0⟩ := hrel
    have hp : Hid (printed (s.data.toList.take k)) := hp0
    clear hp0 hconv
    by_cases hlt : k < s.size
    · have hcell := HC.out k hlt
      have hl : k < s.data.toList.length := by omega
      by_cases hc : 32 ≤ s[k].toNat ∧ s[k].toNat ≤ 126
      · have hp1 : Hid (printed (s.data.toList.take (k + 1))) := by
          show printed (s.data.toList.take (k + 1))
          rw [List.take_succ_eq_append_getElem hl]
          intro c hcm
          rcases List.mem_append.1 hcm with h1 | h1
          · exact hp.out c h1
          · simp at h1; subst h1; exact hc
        obtain ⟨hc1, hc2⟩ := hc
        go_wp2
        go_round
        case rel => exact ⟨k + 1, by omega, by go_num, hp1.out⟩
        case measure => simp [intOf]; omega
      · have hno : Hid (¬ printed s.data.toList) := fun h => hc (h s.data.toList[k] (List.getElem_mem hl))
        rcases (show s[k].toNat < 32 ∨ 127 ≤ s[k].toNat by omega) with h5 | h5
        all_goals
          clear hc
          go_wp2
          go_ret
          exact .inl ⟨rfl, hno.out, hbw⟩
    · have hyes : Hid (printed s.data.toList) := by
        have := hp.out
        rw [List.take_of_length_le (by omega)] at this
        exact this
      go_wp2
      go_ret
      exact .inr ⟨rfl, hyes.out, hbw⟩

/-- How a call of PartsOf ends. -/
def PoR (s : ByteArray) (w : World) (e : Ending) (w' : World) : Prop := ∃ v l f, e = .returned (.tuple #[v, .bool f]) ∧ PoT s l f ∧ SBuf w.heap.size w w' v l

theorem PoR_no {s : ByteArray} {w w' : World} {v : Value} (h : ¬ isLine s) (hb : SBuf w.heap.size w w' v []) : PoR s w (.returned (.tuple #[v, .bool false])) w' :=
  ⟨v, [], false, rfl, .inr ⟨h, rfl, rfl⟩, hb⟩
theorem PoR_yes {s : ByteArray} {w w' : World} {v : Value} (h : isLine s) (hb : SBuf w.heap.size w w' v (partsOf s)) : PoR s w (.returned (.tuple #[v, .bool true])) w' :=
  ⟨v, _, true, rfl, .inl ⟨h, rfl, rfl⟩, hb⟩

/-- An empty list behind whatever else was laid. -/
theorem SBuf.freshLater {w0 w : World} (hb : Below w0.heap.size w0 w) : SBuf w0.heap.size w0 (w.alloc (.cells #[] 9)) (.slice (some ⟨w.heap.size, 0, none⟩) 0 0) [] :=
  ⟨World.ownsRow_made w #[] 0 hb.size (by decide) rfl, hb.alloc hb.size _, by have := hb.size; simp; omega⟩

set_option maxRecDepth 100000 in
set_option maxHeartbeats 1000000 in
theorem implPartsOf_any (s : ByteArray) (w : World) (hs : s.size ≤ 1099511627776) :
    Calls Try.prog 35 #[.string s] w fun e w' => PoR s w e w' := by
  by_cases h : s.size ≤ 600
  · by_cases hp : printed s.data.toList
    · by_cases hn : (partsOf s).length ≤ 10
      · have hy : Hid (isLine s) := ⟨h, hp, hn⟩
        have HP : Hid (printed s.data.toList) := hp
        obtain ⟨L, hL0⟩ : ∃ L, partsOf s = L := ⟨_, rfl⟩
        have hL : Hid (partsOf s = L) := hL0
        rw [hL0] at hn
        clear hp hL0
        go_enter Try.func35, Try.ntmps35
        go_wp2_with (first | (go_at_call 43; refine (allPrinted_any _ _ h).mono ?_; rintro e w1 ⟨f, rfl, hf, hb1⟩; rw [hf.2 HP.out]; clear hf) | (go_at_call 44; refine (cutAtBlanks_any _ _ h).mono ?_; rintro e w2 ⟨v, rfl, hb2⟩; rw [hL.out] at hb2; obtain ⟨ao, cap, rfl⟩ := hb2.form))
        go_ret2
        exact PoR_yes hy.out (by rw [hL.out]; exact SBuf.under hb1 hb2)
      · have hno : Hid (¬ isLine s) := fun hh => hn hh.2.2
        have HP : Hid (printed s.data.toList) := hp
        obtain ⟨L, hL0⟩ : ∃ L, partsOf s = L := ⟨_, rfl⟩
        have hL : Hid (partsOf s = L) := hL0
        rw [hL0] at hn
        clear hp hL0
        go_enter Try.func35, Try.ntmps35
        go_wp2_with (first | (go_at_call 43; refine (allPrinted_any _ _ h).mono ?_; rintro e w1 ⟨f, rfl, hf, hb1⟩; rw [hf.2 HP.out]; clear hf) | (go_at_call 44; refine (cutAtBlanks_any _ _ h).mono ?_; rintro e w2 ⟨v, rfl, hb2⟩; rw [hL.out] at hb2; obtain ⟨ao, cap, rfl⟩ := hb2.form))
        go_ret2
        exact PoR_no hno.out (SBuf.freshLater (hb1.trans (hb2.bel.mono hb1.size)))
    · have hno : Hid (¬ isLine s) := fun hh => hp hh.2.1
      have HP : Hid (¬ printed s.data.toList) := hp
      clear hp
      go_enter Try.func35, Try.ntmps35
      go_wp2_with (go_at_call 43; refine (allPrinted_any _ _ h).mono ?_; rintro e w1 ⟨f, rfl, hf, hb1⟩; rw [show f = false from by cases f with | false => rfl | true => exact absurd (hf.1 rfl) HP.out]; clear hf)
      go_ret2
      exact PoR_no hno.out (SBuf.freshLater hb1)
  · have hno : Hid (¬ isLine s) := fun hh => h hh.1
    have hfr := SBuf.fresh w
    go_enter Try.func35, Try.ntmps35
    go_wp2
    go_ret2
    exact PoR_no hno.out hfr

theorem printed_next {l : List UInt8} {k : Nat} (h : k < l.length) (hp : printed (l.take k)) (hc : 32 ≤ l[k].toNat ∧ l[k].toNat ≤ 126) : printed (l.take (k + 1)) := by
  rw [List.take_succ_eq_append_getElem h]
  intro c hcm
  rcases List.mem_append.1 hcm with h1 | h1
  · exact hp c h1
  · simp at h1; subst h1; exact hc

theorem printed_past {l : List UInt8} {k : Nat} (h : ¬ k < l.length) (hp : printed (l.take k)) : printed (l.take (k + 1)) := by
  rw [List.take_of_length_le (by omega)] at hp ⊢
  exact hp

set_option maxRecDepth 100000 in
set_option maxHeartbeats 2000000 in
theorem specPartsOf_any (s : ByteArray) (w : World) (hs : s.size ≤ 1099511627776) :
    Calls Try.prog 36 #[.string s] w fun e w' => PoR s w e w' := by
  have hfr := SBuf.fresh w
  by_cases h : s.size ≤ 600
  · have hlen : s.data.toList.length = s.size := by simp
    go_enter Try.func36, Try.ntmps36
    go_wp2
    go_loopw [4, 5, 6] (fun v fv iv wr => ∃ i f : Nat, i ≤ s.size + 1 ∧ iv = .int .i64 (i : Int) ∧ fv = .int .i64 (f : Int) ∧ f = (cutSt s.data.toList i).2 ∧ SBuf w.heap.size w wr v (cutTexts s i) ∧ printed (s.data.toList.take i)) (fun _ _ iv _ => s.size + 1 - (intOf iv).toNat)
    case atStart => exact ⟨0, 0, by omega, rfl, rfl, rfl, hfr, by intro c hc; simp at hc⟩
    case round =>
      obtain ⟨i, f, hi, rfl, rfl, hf0, hb, hp0⟩ := hrel
      have hf : Hid (f = (cutSt s.data.toList i).2) := hf0
      have hp : Hid (printed (s.data.toList.take i)) := hp0
      have hfi : f ≤ i := by rw [hf0]; exact (cutSt_le _ _).1
      have hcl := cutTexts_len s i
      clear hf0 hp0 hfr
      by_cases hlt : i < s.size + 1
      · by_cases hin : i < s.size
        · have hl : i < s.data.toList.length := by omega
          have hc256 : s[i].toNat < 256 := UInt8.toNat_lt _
          by_cases hc : 32 ≤ s[i].toNat ∧ s[i].toNat ≤ 126
          · have hp1 : Hid (printed (s.data.toList.take (i + 1))) := printed_next hl hp.out hc
            obtain ⟨hc1, hc2⟩ := hc
            by_cases h32 : s[i].toNat = 32
            · have H3 : Hid (∀ h : i < s.data.toList.length, s.data.toList[i].toNat = 32) := fun _ => h32
              have h7 : ((s[i].toNat : Int) != 32) = false := by simp [h32]
              clear h32
              by_cases hfi2 : f < i
              · have hstep : Hid (cutSt s.data.toList (i + 1) = _) := cutSt_part H3.out (by rw [← hf.out]; exact hfi2)
                have hsl := slice_ab s f i (by omega) (by omega)
                have hnew : Hid (cutTexts s (i + 1) = cutTexts s i ++ [s.extract f i]) := by
                  show cutTexts s (i + 1) = cutTexts s i ++ [s.extract f i]
                  rw [cutTexts, hstep.out, ← hf.out]; simp [cutTexts]
                go_wp2_with (at_builtin; refine wpList_append_str rfl _ _ rfl _ _ _ rfl (hb.alloc _) ⟨wr.heap.size, 0, none⟩ (s.extract f i) rfl (cell_one_new _ _ _) ?c1 ?_)
                case c1 => omega
                intro v' w2 hb'
                go_wp2
                go_roundw
                case rel => exact ⟨i + 1, i + 1, by omega, by go_num, by go_num, by rw [hstep.out], by rw [hnew.out]; exact hb', hp1.out⟩
                case measure => simp [intOf]; omega
              · have hstep : Hid (cutSt s.data.toList (i + 1) = _) := cutSt_none H3.out (by rw [← hf.out]; exact hfi2)
                have hnew : Hid (cutTexts s (i + 1) = cutTexts s i) := by
                  show cutTexts s (i + 1) = cutTexts s i
                  rw [cutTexts, hstep.out]; simp [cutTexts]
                go_wp2
                go_roundw
                case rel => exact ⟨i + 1, i + 1, by omega, by go_num, by go_num, by rw [hstep.out], by rw [hnew.out]; exact hb, hp1.out⟩
                case measure => simp [intOf]; omega
            · have hstep : Hid (cutSt s.data.toList (i + 1) = cutSt s.data.toList i) := cutSt_go hl h32
              have h7 : ((s[i].toNat : Int) != 32) = true := by rw [bne_iff_ne]; omega
              clear h32
              go_wp2
              go_roundw
              case rel => exact ⟨i + 1, f, by omega, by go_num, rfl, by rw [hstep.out]; exact hf.out, by rw [cutTexts, hstep.out]; exact hb, hp1.out⟩
              case measure => simp [intOf]; omega
          · have hno : Hid (¬ isLine s) := fun hh => hc (hh.2.1 s.data.toList[i] (List.getElem_mem hl))
            rcases (show s[i].toNat < 32 ∨ 127 ≤ s[i].toNat by omega) with h5 | h5
            all_goals
              clear hc
              go_wp2
              go_ret2
              exact PoR_no hno.out (SBuf.freshLater hb.bel)
        · have H3 : Hid (∀ h : i < s.data.toList.length, s.data.toList[i].toNat = 32) := fun h => absurd h (by omega)
          have hp1 : Hid (printed (s.data.toList.take (i + 1))) := printed_past (by omega) hp.out
          by_cases hfi2 : f < i
          · have hstep : Hid (cutSt s.data.toList (i + 1) = _) := cutSt_part H3.out (by rw [← hf.out]; exact hfi2)
            have hsl := slice_ab s f i (by omega) (by omega)
            have hnew : Hid (cutTexts s (i + 1) = cutTexts s i ++ [s.extract f i]) := by
              show cutTexts s (i + 1) = cutTexts s i ++ [s.extract f i]
              rw [cutTexts, hstep.out, ← hf.out]; simp [cutTexts]
            go_wp2_with (at_builtin; refine wpList_append_str rfl _ _ rfl _ _ _ rfl (hb.alloc _) ⟨wr.heap.size, 0, none⟩ (s.extract f i) rfl (cell_one_new _ _ _) ?d1 ?_)
            case d1 => omega
            intro v' w2 hb'
            go_wp2
            go_roundw
            case rel => exact ⟨i + 1, i + 1, by omega, by go_num, by go_num, by rw [hstep.out], by rw [hnew.out]; exact hb', hp1.out⟩
            case measure => simp [intOf]; omega
          · have hstep : Hid (cutSt s.data.toList (i + 1) = _) := cutSt_none H3.out (by rw [← hf.out]; exact hfi2)
            have hnew : Hid (cutTexts s (i + 1) = cutTexts s i) := by
              show cutTexts s (i + 1) = cutTexts s i
              rw [cutTexts, hstep.out]; simp [cutTexts]
            go_wp2
            go_roundw
            case rel => exact ⟨i + 1, i + 1, by omega, by go_num, by go_num, by rw [hstep.out], by rw [hnew.out]; exact hb, hp1.out⟩
            case measure => simp [intOf]; omega
      · have hfin : Hid (i = s.size + 1) := by show i = s.size + 1; omega
        have hpr : Hid (printed s.data.toList) := by
          have := hp.out
          rw [List.take_of_length_le (by omega)] at this
          exact this
        have hpo : Hid (partsOf s = cutTexts s i) := by show partsOf s = cutTexts s i; rw [partsOf, ← hfin.out]
        obtain ⟨L, hL0⟩ : ∃ L, cutTexts s i = L := ⟨_, rfl⟩
        rw [hL0] at hb hcl
        have hL : Hid (partsOf s = L) := hpo.out.trans hL0
        clear hL0
        obtain ⟨ao, cap, rfl⟩ := hb.form
        by_cases hn : L.length ≤ 10
        · have hy : Hid (isLine s) := ⟨h, hpr.out, by rw [hL.out]; exact hn⟩
          go_wp2
          go_ret2
          exact PoR_yes hy.out (by rw [hL.out]; exact hb)
        · have hno : Hid (¬ isLine s) := fun hh => hn (by have := hh.2.2; rw [hL.out] at this; exact this)
          go_wp2
          go_ret2
          exact PoR_no hno.out (SBuf.freshLater hb.bel)
  · have hno : Hid (¬ isLine s) := fun hh => h hh.1
    go_enter Try.func36, Try.ntmps36
    go_wp2
    go_ret2
    exact PoR_no hno.out hfr

end Go.Proofs.Ytichbcpidkkblaa

/- One figure: what spec.l01Figure hands back. -/
namespace Go.Proofs.Ytichbcpidkkblaa
open Go.RowKit

theorem figure_any (x : Int) (w : World) (h0 : 0 ≤ x) (h1 : x < 16) :
    Calls Try.prog 50 #[.int .i64 x] w fun e w' => e = .returned (.int .u8 ((fig x.toNat).toNat : Int)) ∧ w = w' := by
  have hf : Hid ((fig x.toNat).toNat = _) := fig_toNat (x := x.toNat) (by omega)
  by_cases h : x < 10
  · go_enter Try.func50, Try.ntmps50
    go_wp2
    go_ret
    exact ⟨by rw [hf.out, if_pos (by omega)]; go_num, rfl⟩
  · go_enter Try.func50, Try.ntmps50
    go_wp2
    go_ret
    exact ⟨by rw [hf.out, if_neg (by omega)]; go_num, rfl⟩

theorem figure_at_nat (X : Int) (x : Nat) (w : World) (hX : X = (x : Int)) (h1 : x < 16) :
    Calls Try.prog 50 #[.int .i64 X] w fun e w' => e = .returned (.int .u8 ((fig x).toNat : Int)) ∧ w = w' := by
  subst hX
  have := figure_any (x : Int) w (by omega) (by omega)
  rw [Int.toNat_natCast] at this
  exact this

end Go.Proofs.Ytichbcpidkkblaa

/- The figures of a number: what spec.Decimal hands back. -/
namespace Go.Proofs.Ytichbcpidkkblaa
open Go.RowKit

theorem fig_figD {x : Nat} (h : x < 10) : fig x = figD x := by
  rw [fig, if_pos h, figD]

theorem one_string (w : World) (X : Int) (b : UInt8) (h : X = (b.toNat : Int)) :
    (convert 22 9 (.slice (some ⟨w.heap.size, 0, none⟩) 1 1)).run Try.prog (w.alloc (.cells #[.int .u8 X] 5)) = .ok (.string ⟨[b].toArray⟩) (w.alloc (.cells #[.int .u8 X] 5)) := by
  subst h
  refine run_convert_bytes_back (P := Try.prog) _ 22 9 5 ⟨w.heap.size, 0, none⟩ 1 [b] Try.underlying22 Try.underlying5 Try.underlying9 fun j hj => ?_
  have hj0 : j = 0 := by simpa using hj
  subst hj0
  simp [Addr.add]

theorem string_push (b : UInt8) (acc : List UInt8) (h : acc.length + 1 ≤ 9223372036854775807) (wx : World) :
    (Op.stringOp .add ⟨[b].toArray⟩ ⟨acc.toArray⟩).run Try.prog wx = .ok (.string ⟨(b :: acc).toArray⟩) wx := by
  rw [run_string_add_sum (P := Try.prog) (w := wx) ⟨[b].toArray⟩ ⟨acc.toArray⟩ (by simp [ByteArray.size]; omega), ByteArray.mk_append_mk]
  rfl

set_option maxRecDepth 100000 in
set_option maxHeartbeats 1000000 in
theorem specDecimal_nat (n : Nat) (w : World) (hn : n ≤ 9223372036854775807) :
    Calls Try.prog 46 #[.int .i64 (n : Int)] w fun e w' => e = .returned (.string ⟨(dec n).toArray⟩) ∧ Below w.heap.size w w' := by
  by_cases h0 : n = 0
  · subst h0
    go_enter Try.func46, Try.ntmps46
    go_wp2
    go_ret
    exact ⟨rfl, Below.refl _ _⟩
  · have hd : Hid (dec n = digs n) := by rw [dec, if_neg h0]; exact rfl
    have hz : ((n : Int) == 0) = false := by simp; omega
    have hpos : (0 : Int) < (n : Int) := by omega
    go_enter Try.func46, Try.ntmps46
    go_wp2
    go_loopw [0, 4] (fun nv sv wr => ∃ (m : Nat) (acc : List UInt8), m ≤ n ∧ nv = .int .i64 (m : Int) ∧ sv = .string ⟨acc.toArray⟩ ∧ digs m ++ acc = digs n ∧ Below w.heap.size w wr) (fun nv _ _ => (intOf nv).toNat)
    case atStart => exact ⟨n, [], Nat.le_refl _, rfl, rfl, by simp, Below.refl _ _⟩
    case round =>
      obtain ⟨m, acc, hm, rfl, rfl, he0, hbel⟩ := hrel
      have he : Hid (digs m ++ acc = digs n) := he0
      clear he0
      by_cases hm0 : m = 0
      · subst hm0
        go_wp2
        go_ret
        refine ⟨?_, hbel⟩
        have := he.out
        rw [digs_zero, List.nil_append] at this
        rw [hd.out, ← this]
        rfl
      · have hnz : ((m : Int) != 0) = true := by simp; omega
        obtain ⟨b, hb0⟩ : ∃ b : UInt8, fig (m % 10) = b := ⟨_, rfl⟩
        have hb1 : Hid (b = figD (m % 10)) := by rw [← hb0]; exact fig_figD (by omega)
        have hcv := one_string wr (b.toNat : Int) b rfl
        have hal2 : acc.length + 1 ≤ n := by
          have h1 := congrArg List.length he.out
          have h2 := digs_len n
          have h3 := List.length_pos_iff.2 (digs_head m m (Nat.le_refl _) hm0).2
          simp at h1; omega
        have hsp := string_push b acc (by omega)
        have hfig : Hid (fig ((m : Int) % 10).toNat = b) := by rw [show ((m : Int) % 10).toNat = m % 10 by omega]; exact hb0
        clear hb0
        go_wp2_with (go_at_call 50; refine (figure_any _ _ (by omega) (by omega)).mono ?_; rintro e w1 ⟨rfl, rfl⟩; rw [hfig.out])
        go_roundw
        case rel => exact ⟨m / 10, b :: acc, by omega, by go_num, rfl, by rw [hb1.out]; exact digs_push he.out hm0, hbel.alloc hbel.size _⟩
        case measure => simp [intOf]; omega

end Go.Proofs.Ytichbcpidkkblaa

/- The marks by which a law tells whose memory a list of texts is: what laws.markText, eqStringS, markStringS and heldStringS hand back. -/
namespace Go.Proofs.Ytichbcpidkkblaa
open Go.RowKit

/-- The k-th mark. -/
def mark (k : Nat) : ByteArray := ⟨(109 :: digs k).toArray⟩

theorem Strs.ways {w : World} {v : Value} {l : List ByteArray} (h : Strs w v l) : (l = [] ∧ ∃ (a : Option Addr) (cap : Nat), v = .slice a 0 cap) ∨
    (l ≠ [] ∧ ∃ g cap : Nat, v = .slice (some ⟨g, 0, none⟩) l.length cap ∧ l.length ≤ cap ∧ g < w.heap.size ∧ ∀ j b, l[j]? = some b → w.cell? ⟨g, j, none⟩ = some (.string b)) := by
  by_cases hl : l = []
  · subst hl
    rcases h with h | ⟨g, cap, hv, _⟩
    · exact .inl h
    · exact .inl ⟨rfl, _, _, hv⟩
  · rcases h with ⟨h, _⟩ | h
    · exact absurd h hl
    · exact .inr ⟨hl, h⟩

end Go.Proofs.Ytichbcpidkkblaa

/- A list of texts marked and looked at again: what laws.markStringS and laws.heldStringS hand back. -/
namespace Go.Proofs.Ytichbcpidkkblaa
open Go.RowKit

/-- The first i texts of l marked, from the k-th mark on. -/
def markTo (k : Nat) (l : List ByteArray) (i : Nat) : List ByteArray := (List.range i).map (fun j => mark (k + j)) ++ l.drop i

theorem markTo_length {k i : Nat} {l : List ByteArray} (h : i ≤ l.length) : (markTo k l i).length = l.length := by
  simp [markTo]; omega

theorem markTo_set {k i : Nat} {l : List ByteArray} (h : i < l.length) : (markTo k l i).set i (mark (k + i)) = markTo k l (i + 1) := by
  unfold markTo
  rw [List.set_append_right _ _ (by simp)]
  simp only [List.length_map, List.length_range, Nat.sub_self]
  rw [List.drop_eq_getElem_cons h, List.set_cons_zero, List.range_succ, List.map_append, List.append_assoc]
  rfl

theorem markTo_zero (k : Nat) (l : List ByteArray) : markTo k l 0 = l := by simp [markTo]

/-- All marked. -/
def marksOf (k n : Nat) : List ByteArray := (List.range n).map (fun j => mark (k + j))
theorem markTo_all (k : Nat) (l : List ByteArray) : markTo k l l.length = marksOf k l.length := by simp [markTo, marksOf]
theorem marksOf_length (k n : Nat) : (marksOf k n).length = n := by simp [marksOf]
theorem marksOf_at {k n i : Nat} (h : i < n) : (marksOf k n)[i]? = some (mark (k + i)) := by simp [marksOf, h]

end Go.Proofs.Ytichbcpidkkblaa

/- How numbers, texts and writes lie in memory. -/
namespace Go.Proofs.Ytichbcpidkkblaa
open Go.RowKit

def strE : Enc ByteArray where
  ty := 9
  sty := 24
  sz := 1
  bytes := 16
  zero := .string ⟨#[]⟩
  f := fun s => [.string s]
  len := fun _ => rfl
  pos := by decide
  one := fun _ u hu => by simp at hu; subst hu; rfl
  und := Try.underlying24
  info := by kernel_rfl
  zc := rfl
  z0 := ⟨#[]⟩
  zf := rfl

def intE : Enc Int where
  ty := 3
  sty := 25
  sz := 1
  bytes := 8
  zero := .int .i64 0
  f := fun n => [.int .i64 n]
  len := fun _ => rfl
  pos := by decide
  one := fun _ u hu => by simp at hu; subst hu; rfl
  und := Try.underlying25
  info := by kernel_rfl
  zc := rfl
  z0 := 0
  zf := rfl

/-- A write: where, and what. -/
structure Wr where
  at_ : Int
  text : ByteArray



end Go.Proofs.Ytichbcpidkkblaa

/- Lists that can be read, and lists put anew element by element. -/
namespace Go.Proofs.Ytichbcpidkkblaa
open Go.RowKit

theorem Rows'.ways {α : Type} {E : Enc α} {w : World} {v : Value} {l : List α} (h : Rows' E w v l) : (l = [] ∧ ∃ (a : Option Addr) (cap : Nat), v = .slice a 0 cap) ∨
    (l ≠ [] ∧ ∃ g off cap : Nat, v = .slice (some ⟨g, off, none⟩) l.length cap ∧ l.length ≤ cap ∧ g < w.heap.size ∧ ∀ j x, l[j]? = some x → ∀ k u, (E.f x)[k]? = some u → w.cell? ⟨g, off + j * E.sz + k, none⟩ = some u) := by
  by_cases hl : l = []
  · subst hl
    rcases h with h | ⟨g, off, cap, hv, _⟩
    · exact .inl h
    · exact .inl ⟨rfl, _, _, hv⟩
  · rcases h with ⟨h, _⟩ | h
    · exact absurd h hl
    · exact .inr ⟨hl, h⟩

theorem grownBy_of_below {w w' : World} (hb : Below w.heap.size w w') (r : Option Nat) : w.grownBy w' r := ⟨hb.os, hb.tape, hb.output, hb.size, fun k hk _ => hb.block k hk⟩

theorem grownBy_store (w : World) (g i : Nat) (v : Value) : w.grownBy (w.setCell ⟨g, i, none⟩ v) (some g) :=
  have b := (Below.refl 0 w).setCell (p := ⟨g, i, none⟩) (Nat.zero_le _) v
  ⟨b.os, b.tape, b.output, b.size, fun k _ hne => Below.heap_setCell w _ _ _ (fun e => hne (by rw [e]))⟩

/-- The first i elements of l put anew. -/
def putTo {α : Type} (m : Nat → α) (l : List α) (i : Nat) : List α := (List.range i).map m ++ l.drop i
theorem putTo_length {α : Type} {m : Nat → α} {i : Nat} {l : List α} (h : i ≤ l.length) : (putTo m l i).length = l.length := by simp [putTo]; omega
theorem putTo_set {α : Type} {m : Nat → α} {i : Nat} {l : List α} (h : i < l.length) : (putTo m l i).set i (m i) = putTo m l (i + 1) := by
  unfold putTo
  rw [List.set_append_right _ _ (by simp)]
  simp only [List.length_map, List.length_range, Nat.sub_self]
  rw [List.drop_eq_getElem_cons h, List.set_cons_zero, List.range_succ, List.map_append, List.append_assoc]
  rfl
theorem putTo_zero {α : Type} (m : Nat → α) (l : List α) : putTo m l 0 = l := by simp [putTo]
theorem putTo_all {α : Type} (m : Nat → α) (l : List α) : putTo m l l.length = (List.range l.length).map m := by simp [putTo]
theorem putTo_at {α : Type} {m : Nat → α} {i : Nat} {l : List α} (h : i < l.length) : (putTo m l i)[i]? = some l[i] := by
  unfold putTo
  rw [List.getElem?_append_right (by simp)]
  simp [h]

end Go.Proofs.Ytichbcpidkkblaa

/- The helpers of the exact laws over lists of writes: two alike are alike; each is marked, and the marks are held. -/
namespace Go.Proofs.Ytichbcpidkkblaa
open Go.RowKit

/-- The marks of a list of writes. -/
def markW (k : Nat) (j : Nat) : Wr := ⟨((k + 2 * j : Nat) : Int), mark (k + 2 * j + 1)⟩
def marksW (k n : Nat) : List Wr := (List.range n).map (markW k)
theorem marksW_length (k n : Nat) : (marksW k n).length = n := by simp [marksW]
theorem marksW_at {k n i : Nat} (h : i < n) : (marksW k n)[i]? = some (markW k i) := by simp [marksW, h]

/-! Lists of texts as rows. -/

theorem strE_row (l : List ByteArray) : strE.row l = strV l := by
  induction l with
  | nil => rfl
  | cons x l ih =>
    have : strE.row (x :: l) = .string x :: strE.row l := rfl
    rw [this, ih]; rfl

theorem RBuf.toS {B : Nat} {w0 w : World} {v : Value} {l : List ByteArray} (h : RBuf strE B w0 w v l) : SBuf B w0 w v l :=
  ⟨by have := h.own; rw [strE_row] at this; exact this, h.bel, h.le⟩
theorem SBuf.toR {B : Nat} {w0 w : World} {v : Value} {l : List ByteArray} (h : SBuf B w0 w v l) : RBuf strE B w0 w v l :=
  ⟨by rw [strE_row]; exact h.own, h.bel, h.le⟩

end Go.Proofs.Ytichbcpidkkblaa

/- The words of a line: WordsOf of the model. -/
namespace Go.Proofs.Ytichbcpidkkblaa
open Go.RowKit

/-- What WordsOf hands back. -/
def WdR (s : ByteArray) (l : List ByteArray) : Prop := (isLine s ∧ l = partsOf s) ∨ (¬ isLine s ∧ l = [])
theorem WdR.one {s : ByteArray} {l l' : List ByteArray} (h : WdR s l) (h' : WdR s l') : l' = l := by
  rcases h with ⟨a, rfl⟩ | ⟨a, rfl⟩ <;> rcases h' with ⟨b, rfl⟩ | ⟨b, rfl⟩
  · rfl
  · exact absurd a b
  · exact absurd b a
  · rfl
theorem WdR.len {s : ByteArray} {l : List ByteArray} (h : WdR s l) : l.length ≤ 10 := by
  rcases h with ⟨a, rfl⟩ | ⟨_, rfl⟩
  · exact a.2.2
  · simp
theorem WdR.of {s : ByteArray} {l : List ByteArray} {f : Bool} (h : PoT s l f) : (f = true → WdR s l) ∧ (f = false → WdR s []) := by
  rcases h with ⟨a, rfl, rfl⟩ | ⟨a, rfl, rfl⟩
  · exact ⟨fun _ => .inl ⟨a, rfl⟩, fun h => absurd h (by simp)⟩
  · exact ⟨fun h => absurd h (by simp), fun _ => .inr ⟨a, rfl⟩⟩

set_option maxRecDepth 100000 in
set_option maxHeartbeats 1000000 in
theorem specWordsOf_any (s : ByteArray) (w : World) (hs : s.size ≤ 1099511627776) :
    Calls Try.prog 17 #[.string s] w fun e w' => ∃ v l, e = .returned v ∧ WdR s l ∧ SBuf w.heap.size w w' v l := by
  go_enter Try.func17, Try.ntmps17
  go_wp2_with fail
  refine (specPartsOf_any s _ hs).mono ?_
  rintro e w1 ⟨v1, l, f, rfl, hp, hb⟩
  have hl : l.length ≤ 10 := by
    rcases hp with ⟨a, rfl, _⟩ | ⟨_, rfl, _⟩
    · exact a.2.2
    · simp
  obtain ⟨hp1, hp2⟩ := WdR.of hp
  cases f with
  | false =>
    have HP := Lib.hid (hp2 rfl)
    have HF := Lib.hid ((SBuf.fresh w1).under hb.bel)
    clear hp1 hp2 hp hb
    go_wp2
    go_ret
    exact ⟨_, _, rfl, HP.out, HF.out⟩
  | true =>
    have HP := Lib.hid (hp1 rfl)
    have hx := hb.toR.here
    have hk : Below w1.heap.size w1 (w1.alloc (.cells #[] 9)) := (Below.refl _ _).alloc (Nat.le_refl _) _
    have HX := Lib.hid (hx.later hk).here
    have HW := Lib.hid (hb.bel)
    have HF := Lib.hid (RBuf.fresh strE w1)
    clear hp1 hp2 hp hb hx
    go_wp2_with (at_builtin; refine wpList_append_rows rfl _ _ strE rfl w1.heap.size _ [] rfl HF.out.here _ _ l rfl HX.out (by show _ * 17 ≤ _; simp only [List.length_nil]; omega) ?_; intro v' w2 hr hg ho)
    go_ret
    rw [List.nil_append] at hr
    have hb2 : Below w1.heap.size w1 w2 := hk.grown hg (by simp) (fun k e => by have h9 : w1.heap.size = k := Option.some.inj e; omega)
    exact ⟨_, _, rfl, HP.out, ((⟨hr.own, hb2, hr.le⟩ : RBuf strE w1.heap.size w1 w2 v' l).toS).under HW.out⟩

end Go.Proofs.Ytichbcpidkkblaa

/- The words of a line: WordsOf of the program. -/
namespace Go.Proofs.Ytichbcpidkkblaa
open Go.RowKit

theorem WdR.both {s : ByteArray} {l : List ByteArray} {f : Bool} (h : PoT s l f) : WdR s l := by
  rcases h with ⟨a, rfl, _⟩ | ⟨a, rfl, _⟩
  · exact .inl ⟨a, rfl⟩
  · exact .inr ⟨a, rfl⟩

set_option maxRecDepth 100000 in
set_option maxHeartbeats 1000000 in
theorem implWordsOf_any (s : ByteArray) (w : World) (hs : s.size ≤ 1099511627776) :
    Calls Try.prog 16 #[.string s] w fun e w' => ∃ v l, e = .returned v ∧ WdR s l ∧ SBuf w.heap.size w w' v l := by
  go_enter Try.func16, Try.ntmps16
  go_wp2_with fail
  refine (implPartsOf_any s _ hs).mono ?_
  rintro e w1 ⟨v1, l, f, rfl, hp, hb⟩
  have HP := Lib.hid (WdR.both hp)
  have HB := Lib.hid hb
  clear hp hb
  go_wp2
  go_ret
  exact ⟨_, _, rfl, HP.out, HB.out⟩

end Go.Proofs.Ytichbcpidkkblaa

/- Lines: what TakeLine, LowWord hand back. -/
namespace Go.Proofs.Ytichbcpidkkblaa
open Go.RowKit

/-- A line ends at i: the bytes 13 and 10 stand there. -/
def CrAt (s : ByteArray) (i : Nat) : Prop := ∃ h : i + 1 < s.size, s[i].toNat = 13 ∧ s[i + 1].toNat = 10
/-- What is longer than a line, but not by a byte 13 alone. -/
def OverL (s : ByteArray) : Prop := 80 < s.size ∧ ¬ (s.size = 81 ∧ ∀ h : 80 < s.size, s[80].toNat = 13)
/-- What TakeLine hands back. -/
def TkR (s a b : ByteArray) (c : Int) : Prop :=
  (∃ i, i ≤ 80 ∧ CrAt s i ∧ (∀ j, j < i → ¬ CrAt s j) ∧ a = s.extract 0 i ∧ b = s.extract (i + 2) s.size ∧ c = 0) ∨
  ((∀ j, j ≤ 80 → ¬ CrAt s j) ∧ a = emp ∧ ((OverL s ∧ b = s.extract 80 s.size ∧ c = 2) ∨ (¬ OverL s ∧ b = s ∧ c = 1)))

theorem TkR.one {s a b a' b' : ByteArray} {c c' : Int} (h : TkR s a b c) (h' : TkR s a' b' c') : a' = a ∧ b' = b ∧ c' = c := by
  rcases h with ⟨i, hi, hc, hn, rfl, rfl, rfl⟩ | ⟨hn, rfl, h⟩
  · rcases h' with ⟨j, hj, hc', hn', rfl, rfl, rfl⟩ | ⟨hn', _⟩
    · have : j = i := by
        rcases Nat.lt_trichotomy i j with h | h | h
        · exact absurd hc (hn' i h)
        · exact h.symm
        · exact absurd hc' (hn j h)
      subst this
      exact ⟨rfl, rfl, rfl⟩
    · exact absurd hc (hn' i hi)
  · rcases h' with ⟨j, hj, hc', _⟩ | ⟨_, rfl, h'⟩
    · exact absurd hc' (hn j hj)
    · rcases h with ⟨o, rfl, rfl⟩ | ⟨o, rfl, rfl⟩ <;> rcases h' with ⟨o', rfl, rfl⟩ | ⟨o', rfl, rfl⟩
      · exact ⟨rfl, rfl, rfl⟩
      · exact absurd o o'
      · exact absurd o' o
      · exact ⟨rfl, rfl, rfl⟩

/-- A byte's lower letter. -/
def lowB (b : UInt8) : UInt8 := if 65 ≤ b.toNat ∧ b.toNat ≤ 90 then b + 32 else b
/-- What LowWord hands back. -/
def lowW (s : ByteArray) : ByteArray := ⟨(s.data.toList.map lowB).toArray⟩

end Go.Proofs.Ytichbcpidkkblaa
