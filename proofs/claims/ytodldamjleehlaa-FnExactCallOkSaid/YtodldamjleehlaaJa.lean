/- Texts of our own, joined. -/
import Derived.WalkKit
import Derived.Laws.BitsAllLaws
import Derived.Laws.BitsLemmas
import Derived.Test.YtodldamjleehlaaRows
import Derived.Laws.BytesArg
import Derived.Laws.Bits128
import Derived.Maps.AppendAt
import Derived.Lib.ConvBytes
import Derived.Lib.Buffer
import Derived.Lib.SmallJoins
import Derived.Laws.Concat
import Derived.Lib.Hide
import Derived.Deep.RegionHeld3
import Derived.Deep.RegionLaw
import Derived.Deep.QuietTactic
import Derived.BigQuiet
import Derived.WalkSpells
import Derived.WalkSmall
import Derived.Laws.OwnMore
import Derived.Deep.Cut
import Derived.Shelf.LaysM
import Derived.Shelf.Strconv.Clone
import Derived.Deep.DeepCutAuto
import Derived.Laws.StructEq
import Derived.Deep.Slices
import Derived.ProofKit
import Derived.Deep.SlicePairs
/- Plain facts on the bytes of a number, with no program in them: the groups of seven bits of a number, the lowest first. -/
namespace Go.Proofs.Ytodldamjleehlaa

def hiByte (m : Nat) : UInt8 := UInt8.ofNat (m % 128 + 128)
def loByte (m : Nat) : UInt8 := UInt8.ofNat m

def vtF : Nat → Nat → List UInt8
  | 0, n => [loByte n]
  | f + 1, n => if 127 < n then hiByte n :: vtF f (n / 128) else [loByte n]

def vt (n : Nat) : List UInt8 := vtF n n

end Go.Proofs.Ytodldamjleehlaa

/- Plain facts on reading a number in groups of seven bits, with no program in them. -/
namespace Go.Proofs.Ytodldamjleehlaa

end Go.Proofs.Ytodldamjleehlaa

/- Plain facts on rows of bytes. -/
namespace Go.Proofs.Ytodldamjleehlaa

end Go.Proofs.Ytodldamjleehlaa

/- Plain facts, with no program in them: frames, their texts, and what is read of a text. -/
namespace Go.Proofs.Ytodldamjleehlaa

def vtB (n : Nat) : ByteArray := ⟨(vt n).toArray⟩
structure Fr where
  gen : Int
  seq : Int
  body : ByteArray

def Fr.ok (f : Fr) : Prop := (1 ≤ f.gen ∧ f.gen ≤ 1000000000) ∧ (1 ≤ f.seq ∧ f.seq ≤ 1000000000) ∧ 1 ≤ f.body.size ∧ f.body.size ≤ 180
instance decFrOk (f : Fr) : Decidable f.ok := by unfold Fr.ok; infer_instance

def Fr.raw (f : Fr) : ByteArray := vtB f.gen.toNat ++ vtB f.seq.toNat ++ (vtB f.body.size ++ f.body)
def Fr.text (f : Fr) (four : ByteArray → ByteArray) : ByteArray := f.raw ++ four f.raw

variable {four : ByteArray → ByteArray}

def behind : Nat → List (Fr × Nat) → Nat
  | k, [] => k
  | _, x :: l => behind x.2 l

end Go.Proofs.Ytodldamjleehlaa

/- Plain facts on hexadecimal figures, with no program in them. -/
namespace Go.Proofs.Ytodldamjleehlaa

end Go.Proofs.Ytodldamjleehlaa

/- Plain facts on the values of figures, with no program in them. -/
namespace Go.Proofs.Ytodldamjleehlaa

end Go.Proofs.Ytodldamjleehlaa

/- Plain facts on decimal figures, with no program in them. -/
namespace Go.Proofs.Ytodldamjleehlaa

end Go.Proofs.Ytodldamjleehlaa

/- Plain facts, with no program in them: what is written is read back. -/
namespace Go.Proofs.Ytodldamjleehlaa

end Go.Proofs.Ytodldamjleehlaa

/- Plain facts on records: what is right, their texts, and that they come back from them. -/
namespace Go.Proofs.Ytodldamjleehlaa

structure Rc where
  kind : Int
  valid : Int
  uid : Int
  next : Int
  flags : Int
  user : ByteArray
  name : ByteArray
  text : ByteArray

def wdOk (s : ByteArray) : Prop := (1 ≤ s.size ∧ s.size ≤ 8) ∧ ∀ b ∈ s.data.toList, 97 ≤ b.toNat ∧ b.toNat ≤ 122
instance decWdOk (s : ByteArray) : Decidable (wdOk s) := by unfold wdOk; infer_instance

def emp : ByteArray := ⟨#[]⟩

def Rc.ok (r : Rc) : Prop := (1 ≤ r.kind ∧ r.kind ≤ 5) ∧ (1 ≤ r.valid ∧ r.valid ≤ 9999) ∧
  (if r.kind = 1 then wdOk r.user ∧ wdOk r.name ∧ 1 ≤ r.next ∧ r.next ≤ 10000 else r.user = emp ∧ r.name = emp ∧ r.next = 0) ∧
  (if 3 ≤ r.kind then 1 ≤ r.uid ∧ r.uid ≤ 9999 else r.uid = 0) ∧
  (if r.kind = 3 ∨ r.kind = 4 then 0 ≤ r.flags ∧ r.flags ≤ 7 else r.flags = 0) ∧
  (if r.kind = 3 then r.text.size ≤ 100 else r.text = emp)
instance decRcOk (r : Rc) : Decidable r.ok := by unfold Rc.ok; infer_instance

def Rc.tl (r : Rc) : List UInt8 := UInt8.ofNat r.kind.toNat :: (vt r.valid.toNat ++ (vt r.uid.toNat ++ (vt r.next.toNat ++ (vt r.flags.toNat ++ ((vt r.user.size ++ r.user.data.toList) ++ ((vt r.name.size ++ r.name.data.toList) ++ (vt r.text.size ++ r.text.data.toList)))))))
def Rc.tx (r : Rc) : ByteArray := ⟨r.tl.toArray⟩
theorem tl_len (s : ByteArray) : s.data.toList.length = s.size := by rw [Array.length_toList]; rfl

end Go.Proofs.Ytodldamjleehlaa

/- What a list of bytes is that a call builds in memory of its own, and the laws by which it grows and becomes a string. -/
namespace Go.Proofs.Ytodldamjleehlaa
open Go.RowKit

def bytesV (l : List UInt8) : List Value := l.map fun c => .int .u8 (c.toNat : Int)

structure Buf (B : Nat) (w0 w : World) (v : Value) (l : List UInt8) : Prop where
  own : w.ownsRow B 5 1 v l.length (bytesV l)
  bel : Below B w0 w
  le : B ≤ w.heap.size

theorem Buf.alloc {B : Nat} {w0 w : World} {v : Value} {l : List UInt8} (h : Buf B w0 w v l) (o : Obj) : Buf B w0 (w.alloc o) v l :=
  ⟨h.own.alloc o, h.bel.alloc h.le o, by have := h.le; simp; omega⟩

theorem Buf.drew {B : Nat} {w0 w : World} {v : Value} {l : List UInt8} (h : Buf B w0 w v l) : Buf B w0 w.drew v l :=
  ⟨h.own.drew, h.bel.drew, h.le⟩

end Go.Proofs.Ytodldamjleehlaa

/- The bytes of a number: what spec.l01Var, spec.VarText and impl.VarText hand back. -/
namespace Go.Proofs.Ytodldamjleehlaa
open Go.RowKit


theorem l01In_any (x a b : Int) (w : World) :
    Calls Try.prog 10 #[.int .i64 x, .int .i64 a, .int .i64 b] w fun e w' => e = .returned (.bool (decide (a ≤ x) && decide (x ≤ b))) ∧ w' = w := by
  by_cases h1 : a ≤ x
  · by_cases h2 : x ≤ b
    all_goals
      go_enter Try.func10, Try.ntmps10
      go_wp2
      go_ret
      exact ⟨by simp [h1, h2], rfl⟩
  · have h3 : decide (a ≤ x) = false := decide_eq_false h1
    go_enter Try.func10, Try.ntmps10
    go_wp2
    go_ret
    exact ⟨by simp, rfl⟩

end Go.Proofs.Ytodldamjleehlaa

/- Appends to a list of bytes beside other memory of the call's own: what else lies there stays; inside a region that draws its order too; and the bytes of a string laid in a row of their own. -/
namespace Go.Proofs.Ytodldamjleehlaa
open Go.RowKit

structure Keeps (w w' : World) (v v' : Value) : Prop where
  place : v'.ownBlock = v.ownBlock ∨ v'.ownBlock = some w.heap.size
  other : ∀ g, g < w.heap.size → some g ≠ v.ownBlock → w'.heap[g]? = w.heap[g]?
  size : w.heap.size ≤ w'.heap.size

theorem Keeps.block {w w' : World} {v v' : Value} (h : Keeps w w' v v') {g : Nat} {o : Obj} (hg : w.heap[g]? = some o) (ha : v.ownBlock ≠ some g) : w'.heap[g]? = some o ∧ v'.ownBlock ≠ some g := by
  have hlt : g < w.heap.size := by
    by_cases hh : g < w.heap.size
    · exact hh
    · rw [Array.getElem?_eq_none (by omega)] at hg; cases hg
  refine ⟨(h.other g hlt (Ne.symm ha)).trans hg, ?_⟩
  rcases h.place with e | e
  · rw [e]; exact ha
  · rw [e]; intro e2; have := Option.some.inj e2; omega

theorem bytes_block (w : World) (s : ByteArray) : ∃ o : Obj, (Lib.bytesWorld w 5 s).heap[w.heap.size]? = some o ∧
    ∀ wx : World, wx.heap[w.heap.size]? = some o → ∀ j (hj : j < s.size), wx.cell? ⟨w.heap.size, j, none⟩ = some (.int .u8 (s[j].toNat : Int)) := by
  refine ⟨_, Lib.bytesWorld_at_new w 5 s, fun wx hx j hj => ?_⟩
  have h1 := Lib.bytesWorld_cell w 5 s j hj
  rw [World.cell?_of_block (w := Lib.bytesWorld w 5 s) (a := ⟨w.heap.size, j, none⟩) (by rw [hx, Lib.bytesWorld_at_new]), h1]
  have : s.data.toList.getD j 0 = s[j] := by
    rw [List.getD_eq_getElem?_getD, List.getElem?_eq_getElem (by simpa using hj)]; rfl
  rw [this]

theorem Buf.bytesWorld {B : Nat} {w0 w : World} {v : Value} {l : List UInt8} (h : Buf B w0 w v l) (s : ByteArray) : Buf B w0 (Lib.bytesWorld w 5 s) v l := by
  have hg : w.grownBy (Lib.bytesWorld w 5 s) none := ⟨rfl, rfl, rfl, by rw [Lib.bytesWorld_size]; omega, fun k hk _ => Lib.bytesWorld_at_old w 5 s k hk⟩
  refine ⟨h.own.kept hg ?_, h.bel.grown hg h.le (fun k hk => by cases hk), Nat.le_trans h.le hg.size⟩
  cases hv : v.ownBlock with
  | none => exact .inl rfl
  | some k => exact .inr (by simp)

theorem Buf.form {B : Nat} {w0 w : World} {v : Value} {l : List UInt8} (h : Buf B w0 w v l) : ∃ (a : Option Addr) (cap : Nat), v = .slice a l.length cap := by
  rcases h.own.2 with ⟨rfl, h0⟩ | ⟨g, cap, cur, rfl, _⟩
  · exact ⟨none, 0, by rw [h0]⟩
  · exact ⟨_, _, rfl⟩

theorem Buf.at {B : Nat} {w0 w : World} {v : Value} {l : List UInt8} (h : Buf B w0 w v l) (hl : l ≠ []) : ∃ g cap : Nat, v = .slice (some ⟨g, 0, none⟩) l.length cap ∧ l.length ≤ cap ∧ B ≤ g ∧ g < w.heap.size ∧
    ∀ j b, l[j]? = some b → w.cell? ⟨g, j, none⟩ = some (.int .u8 (b.toNat : Int)) := by
  rcases h.own.2 with ⟨rfl, h0⟩ | ⟨g, cap, cur, rfl, hg, hh, hnc, hcp, hcs, htake⟩
  · exact absurd (List.length_eq_zero_iff.1 h0) hl
  · refine ⟨g, cap, rfl, hnc, hg, (h.own.lt g rfl).2, fun j b hj => ?_⟩
    have hlt : j < l.length := (List.getElem?_eq_some_iff.1 hj).1
    rw [h.own.cellAt j (by omega)]
    simp [bytesV, hj]

end Go.Proofs.Ytodldamjleehlaa

/- A variable of the call's own. -/
namespace Go.Proofs.Ytodldamjleehlaa
open Go.RowKit

theorem stored_grown (w : World) (g i : Nat) (v : Value) : w.grownBy (w.setCell ⟨g, i, none⟩ v) (some g) :=
  have b := (Below.refl 0 w).setCell (p := ⟨g, i, none⟩) (Nat.zero_le _) v
  ⟨b.os, b.tape, b.output, b.size, fun k _ hne => Below.heap_setCell w _ _ _ (fun e => hne (by rw [e]))⟩

variable {w w' : World}

def Box (w : World) (b : Nat) (cs : Array Value) (t : TypeId) : Prop := w.heap[b]? = some (.cells cs t (0, 0))

theorem Box.new (w : World) (cs : Array Value) (t : TypeId) : Box (w.alloc (.cells cs t)) w.heap.size cs t := heap_alloc_new w _
theorem Box.lt {b : Nat} {cs : Array Value} {t : TypeId} (h : Box w b cs t) : b < w.heap.size := (Array.getElem?_eq_some_iff.1 h).1
theorem Box.cell {b : Nat} {cs : Array Value} {t : TypeId} (h : Box w b cs t) (j : Nat) (u : Value) (hu : cs[j]? = some u) : w.cell? ⟨b, j, none⟩ = some u := by
  rw [Joins.cell_of_block h, hu]
theorem Box.loose {b : Nat} {cs : Array Value} {t : TypeId} (h : Box w b cs t) (j : Nat) : w.frozen? ⟨b, j, none⟩ = false := Joins.unfrozen_of_block h j
theorem Box.later {b : Nat} {cs : Array Value} {t : TypeId} (h : Box w b cs t) (hb : Below w.heap.size w w') : Box w' b cs t := (hb.block b h.lt).trans h
theorem Box.set {b : Nat} {cs : Array Value} {t : TypeId} (h : Box w b cs t) (j : Nat) (u : Value) : Box (w.setCell ⟨b, j, none⟩ u) b (cs.setIfInBounds j u) t := Joins.block_setCell h u
theorem Box.other {b g : Nat} {cs : Array Value} {t : TypeId} (h : Box w b cs t) (hne : b ≠ g) (j : Nat) (u : Value) : Box (w.setCell ⟨g, j, none⟩ u) b cs t :=
  ((stored_grown w g j u).block b h.lt (fun e => hne (Option.some.inj e))).trans h

end Go.Proofs.Ytodldamjleehlaa

/- Records: what the model's WordOk, RecOk, RecText hand back. -/
namespace Go.Proofs.Ytodldamjleehlaa
open Go.RowKit

def Rc.v (r : Rc) : Value := .agg #[.int .i64 r.kind, .int .i64 r.valid, .int .i64 r.uid, .int .i64 r.next, .int .i64 r.flags, .string r.user, .string r.name, .string r.text]
def Rc.cs (r : Rc) : Array Value := #[.int .i64 r.kind, .int .i64 r.valid, .int .i64 r.uid, .int .i64 r.next, .int .i64 r.flags, .string r.user, .string r.name, .string r.text]

theorem index_atW (s : ByteArray) (k : Nat) (h : k < s.size) (wx : World) :
    (Instr.index 9 (.string s) (.int .i64 (k : Int))).run Try.prog wx = .ok (.int .u8 (s[k].toNat : Int)) wx := by
  have hu := Try.underlying9
  simp [Instr.index, run_underlying hu, go_sem, h]

theorem l01In_yes (n lo hi : Int) (w : World) (h1 : lo ≤ n) (h2 : n ≤ hi) :
    Calls Try.prog 10 #[.int .i64 n, .int .i64 lo, .int .i64 hi] w fun e w' => e = .returned (.bool true) ∧ w = w' :=
  (l01In_any n lo hi w).mono fun _ _ h => ⟨by rw [h.1]; simp [h1, h2], h.2.symm⟩
theorem l01In_no (n lo hi : Int) (w : World) (h : ¬ (lo ≤ n ∧ n ≤ hi)) :
    Calls Try.prog 10 #[.int .i64 n, .int .i64 lo, .int .i64 hi] w fun e w' => e = .returned (.bool false) ∧ w = w' :=
  (l01In_any n lo hi w).mono fun _ _ h' => ⟨by rw [h'.1]; simp; omega, h'.2.symm⟩

set_option maxRecDepth 100000 in
theorem specWordOk_any (s : ByteArray) (w : World) (hs : s.size ≤ 1099511627776) :
    Calls Try.prog 11 #[.string s] w fun e w' => e = .returned (.bool (decide (wdOk s))) ∧ w = w' := by
  go_enter Try.func11, Try.ntmps11
  go_wp2
  go_loop [3] (fun iv => ∃ i : Nat, i ≤ s.size ∧ iv = .int .i64 (i : Int) ∧ ∀ j (hj : j < s.size), j < i → 97 ≤ s[j].toNat ∧ s[j].toNat ≤ 122) (fun iv => s.size - (intOf iv).toNat)
  case atStart => exact ⟨0, by omega, rfl, fun j _ hj => by omega⟩
  case round =>
    obtain ⟨i, hi, rfl, hall⟩ := hrel
    have HA := Lib.hid hall
    clear hall
    by_cases hlt : i < s.size
    · have hlt' : (i : Int) < (s.size : Int) := by omega
      have hix := index_atW s i hlt
      have HB : Hid (¬ (97 ≤ s[i].toNat ∧ s[i].toNat ≤ 122) → decide (wdOk s) = false) := fun h => decide_eq_false (fun hw => h (hw.2 _ (by
        show s.data[i] ∈ s.data.toList
        exact Array.getElem_mem_toList _)))
      have HN : Hid (97 ≤ s[i].toNat ∧ s[i].toNat ≤ 122 → ∀ j (hj : j < s.size), j < i + 1 → 97 ≤ s[j].toNat ∧ s[j].toNat ≤ 122) := by
        intro h j hj hji
        by_cases e : j = i
        · subst e; exact h
        · exact HA.out j hj (by omega)
      generalize s[i].toNat = c at hix HB HN
      by_cases h1 : c < 97
      · have h1' : (c : Int) < 97 := by omega
        go_wp2
        go_ret
        exact ⟨by rw [HB.out (by omega)]; rfl, rfl⟩
      · have h1' : ¬ (c : Int) < 97 := by omega
        by_cases h2 : 122 < c
        · have h2' : (122 : Int) < (c : Int) := by omega
          go_wp2
          go_ret
          exact ⟨by rw [HB.out (by omega)]; rfl, rfl⟩
        · have h2' : ¬ (122 : Int) < (c : Int) := by omega
          go_wp2
          go_round
          case rel => exact ⟨i + 1, by omega, by go_num, HN.out ⟨by omega, by omega⟩⟩
          case measure => simp [intOf]; omega
    · have hge : ¬ (i : Int) < (s.size : Int) := by omega
      have HE : Hid (decide (wdOk s) = decide (1 ≤ s.size ∧ s.size ≤ 8)) := show _ = _ from decide_eq_decide.2 ⟨fun h => h.1, fun h => ⟨h, fun b hb => by
        obtain ⟨j, hj, rfl⟩ := List.getElem_of_mem hb
        have hj2 : j < s.size := by rw [← tl_len]; exact hj
        exact HA.out j hj2 (by omega)⟩⟩
      by_cases hin : 1 ≤ s.size ∧ s.size ≤ 8
      · go_wp2_with (go_at_call 10; refine (l01In_yes _ _ _ _ (by omega) (by omega)).mono ?_; rintro e w5 ⟨rfl, rfl⟩)
        go_ret
        exact ⟨by rw [HE.out, decide_eq_true hin]; rfl, rfl⟩
      · go_wp2_with (go_at_call 10; refine (l01In_no _ _ _ _ (by omega)).mono ?_; rintro e w5 ⟨rfl, rfl⟩)
        go_ret
        exact ⟨by rw [HE.out, decide_eq_false hin]; rfl, rfl⟩

theorem emp_beq (s : ByteArray) : (s.toList == []) = decide (s = emp) := by
  rw [Go.ByteArray.toList_eq]
  by_cases h : s = emp
  · rw [decide_eq_true h, h]; rfl
  · rw [decide_eq_false h]
    refine beq_eq_false_iff_ne.2 fun e => h ?_
    obtain ⟨⟨l⟩⟩ := s
    simp at e
    rw [e]; rfl


end Go.Proofs.Ytodldamjleehlaa

/- One figure: what spec.l01Figure hands back. -/
namespace Go.Proofs.Ytodldamjleehlaa
open Go.RowKit



end Go.Proofs.Ytodldamjleehlaa

/- The figures of a number: what spec.Decimal hands back. -/
namespace Go.Proofs.Ytodldamjleehlaa
open Go.RowKit

end Go.Proofs.Ytodldamjleehlaa

/- What a list of texts is that a call builds in memory of its own, and the laws by which it grows, is read and is written. -/
namespace Go.Proofs.Ytodldamjleehlaa
open Go.RowKit

def strV (l : List ByteArray) : List Value := l.map fun c => .string c
structure SBuf (B : Nat) (w0 w : World) (v : Value) (l : List ByteArray) : Prop where
  own : w.ownsRow B 9 1 v l.length (strV l)
  bel : Below B w0 w
  le : B ≤ w.heap.size

theorem SBuf.alloc {B : Nat} {w0 w : World} {v : Value} {l : List ByteArray} (h : SBuf B w0 w v l) (o : Obj) : SBuf B w0 (w.alloc o) v l :=
  ⟨h.own.alloc o, h.bel.alloc h.le o, by have := h.le; simp; omega⟩
theorem SBuf.drew {B : Nat} {w0 w : World} {v : Value} {l : List ByteArray} (h : SBuf B w0 w v l) : SBuf B w0 w.drew v l :=
  ⟨h.own.drew, h.bel.drew, h.le⟩
theorem SBuf.later {B : Nat} {w0 w w' : World} {v : Value} {l : List ByteArray} (h : SBuf B w0 w v l) (hb : Below w.heap.size w w') : SBuf B w0 w' v l := by
  have hg : w.grownBy w' none := ⟨hb.os, hb.tape, hb.output, hb.size, fun k hk _ => hb.block k hk⟩
  refine ⟨h.own.kept hg ?_, h.bel.trans (hb.mono h.le), Nat.le_trans h.le hb.size⟩
  cases hv : v.ownBlock with
  | none => exact .inl rfl
  | some k => exact .inr (by simp)

theorem SBuf.form {B : Nat} {w0 w : World} {v : Value} {l : List ByteArray} (h : SBuf B w0 w v l) : ∃ (a : Option Addr) (cap : Nat), v = .slice a l.length cap := by
  rcases h.own.2 with ⟨rfl, h0⟩ | ⟨g, cap, cur, rfl, _⟩
  · exact ⟨none, 0, by rw [h0]⟩
  · exact ⟨_, _, rfl⟩

def Strs (w : World) (v : Value) (l : List ByteArray) : Prop :=
  (l = [] ∧ ∃ (a : Option Addr) (cap : Nat), v = .slice a 0 cap) ∨
  ∃ g cap : Nat, v = .slice (some ⟨g, 0, none⟩) l.length cap ∧ l.length ≤ cap ∧ g < w.heap.size ∧ ∀ j b, l[j]? = some b → w.cell? ⟨g, j, none⟩ = some (.string b)

theorem Strs.later {w w' : World} {v : Value} {l : List ByteArray} (h : Strs w v l) (hb : Below w.heap.size w w') : Strs w' v l := by
  rcases h with h | ⟨g, cap, hv, hc, hg, hcl⟩
  · exact .inl h
  · exact .inr ⟨g, cap, hv, hc, Nat.lt_of_lt_of_le hg hb.size, fun j b hj => (hb.cell (p := ⟨g, j, none⟩) hg).trans (hcl j b hj)⟩

theorem SBuf.stored {B : Nat} {w0 w : World} {g cap : Nat} {l : List ByteArray} (h : SBuf B w0 w (.slice (some ⟨g, 0, none⟩) l.length cap) l) (j : Nat) (t : ByteArray) :
    SBuf B w0 (w.setCell ⟨g, j, none⟩ (.string t)) (.slice (some ⟨g, 0, none⟩) l.length cap) (l.set j t) := by
  have hst := h.own.stored j (.string t)
  have e : strV (l.set j t) = (strV l).set j (.string t) := by simp [strV, List.map_set]
  refine ⟨?_, h.bel.setCell (h.own.lt g rfl).1 _, by have := h.le; simpa using this⟩
  have hl : (l.set j t).length = l.length := by simp
  rw [hl, e]
  exact hst.1

end Go.Proofs.Ytodldamjleehlaa

/- The marks by which a law tells whose memory a list of texts is: what laws.markText, eqStringS, markStringS and heldStringS hand back. -/
namespace Go.Proofs.Ytodldamjleehlaa
open Go.RowKit

theorem Strs.ways {w : World} {v : Value} {l : List ByteArray} (h : Strs w v l) : (l = [] ∧ ∃ (a : Option Addr) (cap : Nat), v = .slice a 0 cap) ∨
    (l ≠ [] ∧ ∃ g cap : Nat, v = .slice (some ⟨g, 0, none⟩) l.length cap ∧ l.length ≤ cap ∧ g < w.heap.size ∧ ∀ j b, l[j]? = some b → w.cell? ⟨g, j, none⟩ = some (.string b)) := by
  by_cases hl : l = []
  · subst hl
    rcases h with h | ⟨g, cap, hv, _⟩
    · exact .inl h
    · exact .inl ⟨rfl, _, _, hv⟩
  · rcases h with ⟨h, _⟩ | h
    · exact absurd h hl
    · exact .inr ⟨hl, h⟩

end Go.Proofs.Ytodldamjleehlaa

/- A list of texts marked and looked at again: what laws.markStringS and laws.heldStringS hand back. -/
namespace Go.Proofs.Ytodldamjleehlaa
open Go.RowKit

end Go.Proofs.Ytodldamjleehlaa

/- What a list is that a call builds in memory of its own, whatever its elements are (each of so many cells), and the laws by which it grows, is read and is written; and a list that can be read. -/
namespace Go.Proofs.Ytodldamjleehlaa
open Go.RowKit

structure Enc (α : Type) where
  ty : TypeId
  sty : TypeId
  sz : Nat
  bytes : Nat
  zero : Value
  f : α → List Value
  len : ∀ a, (f a).length = sz
  pos : 0 < sz
  one : ∀ a, ∀ u ∈ f a, u.oneCell' = true
  und : Try.prog.underlying sty = some (.slice ty)
  info : (Try.prog.info? ty).map (fun i => (i.zero, i.size, i.bytes)) = some (some zero, sz, bytes)
  zc : zero.cells.size = sz
  z0 : α
  zf : f z0 = zero.cells.toList

variable {α : Type}

def Enc.row (E : Enc α) (l : List α) : List Value := l.flatMap E.f

theorem Enc.row_length (E : Enc α) (l : List α) : (E.row l).length = l.length * E.sz := by
  induction l with
  | nil => simp [Enc.row]
  | cons x l ih =>
    have : E.row (x :: l) = E.f x ++ E.row l := rfl
    rw [this, List.length_append, ih, E.len, List.length_cons, Nat.succ_mul, Nat.add_comm]

theorem Enc.row_at (E : Enc α) (l : List α) (j : Nat) (x : α) (hj : l[j]? = some x) (k : Nat) (hk : k < E.sz) : (E.row l)[j * E.sz + k]? = (E.f x)[k]? := by
  induction l generalizing j with
  | nil => simp at hj
  | cons y l ih =>
    have e : E.row (y :: l) = E.f y ++ E.row l := rfl
    rw [e]
    cases j with
    | zero =>
      have : y = x := by simpa using hj
      subst this
      rw [Nat.zero_mul, Nat.zero_add, List.getElem?_append_left (by rw [E.len]; exact hk)]
    | succ j =>
      have hj' : l[j]? = some x := by simpa using hj
      rw [List.getElem?_append_right (by rw [E.len, Nat.succ_mul]; omega), E.len]
      have : (j + 1) * E.sz + k - E.sz = j * E.sz + k := by rw [Nat.succ_mul]; omega
      rw [this]
      exact ih j hj'

theorem Enc.row_set (E : Enc α) (l : List α) (j : Nat) (x y : α) (hj : l[j]? = some x) (k : Nat) (hk : k < E.sz) (u : Value) (hy : E.f y = (E.f x).set k u) : E.row (l.set j y) = (E.row l).set (j * E.sz + k) u := by
  induction l generalizing j with
  | nil => simp at hj
  | cons z l ih =>
    have e : E.row (z :: l) = E.f z ++ E.row l := rfl
    rw [e]
    cases j with
    | zero =>
      have : z = x := by simpa using hj
      subst this
      have e2 : E.row ((z :: l).set 0 y) = E.f y ++ E.row l := rfl
      rw [e2, hy, Nat.zero_mul, Nat.zero_add, List.set_append_left _ _ (by rw [E.len]; exact hk)]
    | succ j =>
      have hj' : l[j]? = some x := by simpa using hj
      have e2 : E.row ((z :: l).set (j + 1) y) = E.f z ++ E.row (l.set j y) := rfl
      rw [e2, List.set_append_right _ _ (by rw [E.len, Nat.succ_mul]; omega), E.len]
      have : (j + 1) * E.sz + k - E.sz = j * E.sz + k := by rw [Nat.succ_mul]; omega
      rw [this, ih j hj']

structure RBuf (E : Enc α) (B : Nat) (w0 w : World) (v : Value) (l : List α) : Prop where
  own : w.ownsRow B E.ty E.sz v l.length (E.row l)
  bel : Below B w0 w
  le : B ≤ w.heap.size

variable {E : Enc α} {B : Nat} {w0 w : World} {v : Value} {l : List α}

theorem RBuf.alloc (h : RBuf E B w0 w v l) (o : Obj) : RBuf E B w0 (w.alloc o) v l :=
  ⟨h.own.alloc o, h.bel.alloc h.le o, by have := h.le; simp; omega⟩
theorem RBuf.drew (h : RBuf E B w0 w v l) : RBuf E B w0 w.drew v l := ⟨h.own.drew, h.bel.drew, h.le⟩
theorem RBuf.here (h : RBuf E B w0 w v l) : RBuf E B w w v l := ⟨h.own, Below.refl _ _, h.le⟩

theorem RBuf.nil (E : Enc α) (w : World) : RBuf E w.heap.size w w (.slice none 0 0) [] :=
  ⟨World.ownsRow_nil _ _ _ _, Below.refl _ _, Nat.le_refl _⟩

theorem RBuf.grown (h : RBuf E B w0 w v l) {w' : World} {r : Option Nat} (hg : w.grownBy w' r) (hne : v.ownBlock = none ∨ v.ownBlock ≠ r) (hb : ∀ k, r = some k → B ≤ k) : RBuf E B w0 w' v l :=
  ⟨h.own.kept hg hne, h.bel.grown hg h.le hb, Nat.le_trans h.le hg.size⟩

theorem RBuf.later (h : RBuf E B w0 w v l) {w' : World} (hb : Below w.heap.size w w') : RBuf E B w0 w' v l := by
  have hg : w.grownBy w' none := ⟨hb.os, hb.tape, hb.output, hb.size, fun k hk _ => hb.block k hk⟩
  refine ⟨h.own.kept hg ?_, h.bel.trans (hb.mono h.le), Nat.le_trans h.le hb.size⟩
  cases hv : v.ownBlock with
  | none => exact .inl rfl
  | some k => exact .inr (by simp)

theorem RBuf.form (h : RBuf E B w0 w v l) : ∃ (a : Option Addr) (cap : Nat), v = .slice a l.length cap := by
  rcases h.own.2 with ⟨rfl, h0⟩ | ⟨g, cap, cur, rfl, _⟩
  · exact ⟨none, 0, by rw [h0]⟩
  · exact ⟨_, _, rfl⟩

def Rows' (E : Enc α) (w : World) (v : Value) (l : List α) : Prop :=
  (l = [] ∧ ∃ (a : Option Addr) (cap : Nat), v = .slice a 0 cap) ∨
  ∃ g off cap : Nat, v = .slice (some ⟨g, off, none⟩) l.length cap ∧ l.length ≤ cap ∧ g < w.heap.size ∧
    ∀ j x, l[j]? = some x → ∀ k u, (E.f x)[k]? = some u → w.cell? ⟨g, off + j * E.sz + k, none⟩ = some u

theorem RBuf.cell (h : RBuf E B w0 w v l) {g cap : Nat} (hv : v = .slice (some ⟨g, 0, none⟩) l.length cap) (j : Nat) (x : α) (hj : l[j]? = some x) (k : Nat) (u : Value) (hk : (E.f x)[k]? = some u) : w.cell? ⟨g, j * E.sz + k, none⟩ = some u := by
  subst hv
  have hlt : j < l.length := (List.getElem?_eq_some_iff.1 hj).1
  have hks : k < E.sz := by rw [← E.len x]; exact (List.getElem?_eq_some_iff.1 hk).1
  have : j * E.sz + k < l.length * E.sz := by
    have : (j + 1) * E.sz ≤ l.length * E.sz := Nat.mul_le_mul_right _ hlt
    rw [Nat.succ_mul] at this; omega
  rw [h.own.cellAt _ this, E.row_at l j x hj k hks, hk]

theorem RBuf.rows (h : RBuf E B w0 w v l) : Rows' E w v l := by
  rcases h.own.2 with ⟨rfl, h0⟩ | ⟨g, cap, cur, rfl, hg, hh, hnc, hcp, hcs, htake⟩
  · exact .inl ⟨List.length_eq_zero_iff.1 h0, _, _, rfl⟩
  · refine .inr ⟨g, 0, cap, rfl, hnc, (h.own.lt g rfl).2, fun j x hj k u hk => ?_⟩
    rw [Nat.zero_add]
    exact h.cell rfl j x hj k u hk

theorem Rows'.later (h : Rows' E w v l) {w' : World} (hb : Below w.heap.size w w') : Rows' E w' v l := by
  rcases h with h | ⟨g, off, cap, hv, hc, hg, hcl⟩
  · exact .inl h
  · exact .inr ⟨g, off, cap, hv, hc, Nat.lt_of_lt_of_le hg hb.size, fun j x hj k u hk => (hb.cell (p := ⟨g, off + j * E.sz + k, none⟩) hg).trans (hcl j x hj k u hk)⟩

theorem RBuf.stored {g cap : Nat} (h : RBuf E B w0 w (.slice (some ⟨g, 0, none⟩) l.length cap) l) (j : Nat) (x y : α) (hj : l[j]? = some x) (k : Nat) (hk : k < E.sz) (u : Value) (hy : E.f y = (E.f x).set k u) :
    RBuf E B w0 (w.setCell ⟨g, j * E.sz + k, none⟩ u) (.slice (some ⟨g, 0, none⟩) l.length cap) (l.set j y) := by
  have hst := h.own.stored (j * E.sz + k) u
  refine ⟨?_, h.bel.setCell (h.own.lt g rfl).1 _, by have := h.le; simpa using this⟩
  have hl : (l.set j y).length = l.length := by simp
  rw [hl, E.row_set l j x y hj k hk u hy]
  exact hst.1

theorem RBuf.loose {g cap : Nat} (h : RBuf E B w0 w (.slice (some ⟨g, 0, none⟩) l.length cap) l) (j : Nat) : w.frozen? ⟨g, j, none⟩ = false := h.own.frozenAt j

theorem Enc.row_made (E : Enc α) (n : Nat) : (madeCells E.zero.cells (n * E.sz)).toList = E.row (List.replicate n E.z0) := by
  apply List.ext_getElem?
  intro i
  have hl : (E.row (List.replicate n E.z0)).length = n * E.sz := by rw [E.row_length, List.length_replicate]
  by_cases hi : i < n * E.sz
  · have hdm : i / E.sz * E.sz + i % E.sz = i := Nat.div_add_mod' i E.sz
    have hj : i / E.sz < n := (Nat.div_lt_iff_lt_mul E.pos).2 hi
    have hk : i % E.sz < E.sz := Nat.mod_lt _ E.pos
    have h1 : (List.replicate n E.z0)[i / E.sz]? = some E.z0 := by rw [List.getElem?_replicate, if_pos hj]
    have h2 := E.row_at _ _ _ h1 _ hk
    rw [hdm] at h2
    rw [h2, E.zf]
    have hz : i % E.sz < E.zero.cells.size := by rw [E.zc]; exact hk
    simp [madeCells, hi, E.zc]
    rw [getElem!_pos E.zero.cells (i % E.sz) hz, Array.getElem?_eq_getElem hz]
  · rw [List.getElem?_eq_none (by simp [madeCells]; omega), List.getElem?_eq_none (by omega)]

theorem wpList_make_rows {ops : Array Oper} {rest : List Oper} {o : Oper} {a : Act} {Q : Exit → Act → World → Prop} (hg : o.guard = none) (x c : Operand) (E : Enc α) (hop : o.op = Op.makeSlice E.sty x c)
    (kl kc : IntKind) (L C : Int) (n : Nat) (hl : a.eval x = .int kl L) (hc : a.eval c = .int kc C) (hL : L = (n : Int)) (hC : C = (n : Int)) (hn : (E.bytes + 1) * n ≤ 281474976710656)
    (h : ∀ w', RBuf E w.heap.size w w' (.slice (some ⟨w.heap.size, 0, none⟩) n n) (List.replicate n E.z0) → w.heap.size < w'.heap.size → wpList Try.prog ops Q rest (a.put o.dst (.slice (some ⟨w.heap.size, 0, none⟩) n n)) w') : wpList Try.prog ops Q (o :: rest) a w := by
  obtain ⟨i0, hi, hz0, hz1, hz2⟩ := info_parts E.info
  have e0 : (E.bytes + 1) * n = E.bytes * n + n := Nat.succ_mul _ _
  refine wpList_make_full w hg x c E.sty hop w.heap.size E.ty i0 E.zero E.sz E.und hi hz0 hz1 kl kc L C n hl hc hL hC (by rw [hz2]; omega) (by unfold maxLen; omega) (Nat.le_refl _) ?_
  intro w' hown hgrow
  rw [E.row_made] at hown
  refine h w' ⟨?_, (Below.refl _ _).grown hgrow (Nat.le_refl _) (fun k hk => by cases hk), hgrow.size⟩ (hown.lt w.heap.size rfl).2
  rw [List.length_replicate]
  exact hown

end Go.Proofs.Ytodldamjleehlaa

/- How numbers, texts and writes lie in memory. -/
namespace Go.Proofs.Ytodldamjleehlaa
open Go.RowKit


def intE : Enc Int where
  ty := 3
  sty := 22
  sz := 1
  bytes := 8
  zero := .int .i64 0
  f := fun n => [.int .i64 n]
  len := fun _ => rfl
  pos := by decide
  one := fun _ u hu => by simp at hu; subst hu; rfl
  und := Try.underlying22
  info := by kernel_rfl
  zc := rfl
  z0 := 0
  zf := rfl

structure Wr where
  at_ : Int
  text : ByteArray



end Go.Proofs.Ytodldamjleehlaa

/- Lists that can be read, and lists put anew element by element. -/
namespace Go.Proofs.Ytodldamjleehlaa
open Go.RowKit

theorem Rows'.ways {α : Type} {E : Enc α} {w : World} {v : Value} {l : List α} (h : Rows' E w v l) : (l = [] ∧ ∃ (a : Option Addr) (cap : Nat), v = .slice a 0 cap) ∨
    (l ≠ [] ∧ ∃ g off cap : Nat, v = .slice (some ⟨g, off, none⟩) l.length cap ∧ l.length ≤ cap ∧ g < w.heap.size ∧ ∀ j x, l[j]? = some x → ∀ k u, (E.f x)[k]? = some u → w.cell? ⟨g, off + j * E.sz + k, none⟩ = some u) := by
  by_cases hl : l = []
  · subst hl
    rcases h with h | ⟨g, off, cap, hv, _⟩
    · exact .inl h
    · exact .inl ⟨rfl, _, _, hv⟩
  · rcases h with ⟨h, _⟩ | h
    · exact absurd h hl
    · exact .inr ⟨hl, h⟩

end Go.Proofs.Ytodldamjleehlaa

/- The helpers of the exact laws over lists of writes: two alike are alike; each is marked, and the marks are held. -/
namespace Go.Proofs.Ytodldamjleehlaa
open Go.RowKit

end Go.Proofs.Ytodldamjleehlaa

/- What a value owns: its memory lies between two marks of the heap, and what is written elsewhere leaves it alone. -/
namespace Go.Proofs.Ytodldamjleehlaa
open Go.RowKit

structure Kept (B T : Nat) (w w' : World) : Prop where
  os : w'.os = w.os
  tape : w'.tape = w.tape
  output : w'.output = w.output
  size : w.heap.size ≤ w'.heap.size
  block : ∀ k, k < w.heap.size → (k < B ∨ T ≤ k) → w'.heap[k]? = w.heap[k]?

theorem Kept.of_below {w w' : World} (hb : Below w.heap.size w w') (B T : Nat) : Kept B T w w' := ⟨hb.os, hb.tape, hb.output, hb.size, fun k hk _ => hb.block k hk⟩
theorem Kept.trans {B T : Nat} {w w1 w2 : World} (h : Kept B T w w1) (h2 : Kept B T w1 w2) : Kept B T w w2 :=
  ⟨h2.os.trans h.os, h2.tape.trans h.tape, h2.output.trans h.output, Nat.le_trans h.size h2.size, fun k hk hout => (h2.block k (Nat.lt_of_lt_of_le hk h.size) hout).trans (h.block k hk hout)⟩
variable {α : Type} {E : Enc α} {B T : Nat} {w w' : World} {v : Value} {l : List α}

def LOwn (E : Enc α) (B T : Nat) (w : World) (v : Value) (l : List α) : Prop := RBuf E B w w v l ∧ T ≤ w.heap.size ∧ ∀ k, v.ownBlock = some k → k < T

theorem LOwn.kept {B' T' : Nat} (h : LOwn E B T w v l) (hk : Kept B' T' w w') (hd : T ≤ B' ∨ T' ≤ B) : LOwn E B T w' v l := by
  refine ⟨⟨⟨h.1.own.1, ?_⟩, Below.refl _ _, Nat.le_trans h.1.le hk.size⟩, Nat.le_trans h.2.1 hk.size, h.2.2⟩
  rcases h.1.own.2 with h1 | ⟨g, cap, cur, h1, h2, h3, h4⟩
  · exact .inl h1
  · have hg := h.2.2 g (by rw [h1]; rfl)
    refine .inr ⟨g, cap, cur, h1, h2, ?_, h4⟩
    rw [hk.block g (Nat.lt_of_lt_of_le hg h.2.1) (by omega)]
    exact h3

theorem LOwn.later (h : LOwn E B T w v l) (hb : Below w.heap.size w w') : LOwn E B T w' v l :=
  h.kept (Kept.of_below hb T T) (.inl (Nat.le_refl _))

theorem LOwn.rows (h : LOwn E B T w v l) : Rows' E w v l := h.1.rows

theorem LOwn.grown {r : Option Nat} (h : LOwn E B T w v l) (hg : w.grownBy w' r) (hne : v.ownBlock = none ∨ v.ownBlock ≠ r) : LOwn E B T w' v l :=
  ⟨⟨h.1.own.kept hg hne, Below.refl _ _, Nat.le_trans h.1.le hg.size⟩, Nat.le_trans h.2.1 hg.size, h.2.2⟩

end Go.Proofs.Ytodldamjleehlaa

/- Lists copied element by element. -/
namespace Go.Proofs.Ytodldamjleehlaa
open Go.RowKit

def copyTo {α : Type} (z : α) (l : List α) (i : Nat) : List α := l.take i ++ List.replicate (l.length - i) z
theorem copyTo_length {α : Type} {z : α} {l : List α} {i : Nat} (h : i ≤ l.length) : (copyTo z l i).length = l.length := by simp [copyTo]; omega
theorem copyTo_zero {α : Type} (z : α) (l : List α) : copyTo z l 0 = List.replicate l.length z := by simp [copyTo]
theorem copyTo_all {α : Type} {z : α} {l : List α} {i : Nat} (h : l.length ≤ i) : copyTo z l i = l := by
  rw [copyTo, List.take_of_length_le h, show l.length - i = 0 by omega]; simp
theorem copyTo_at {α : Type} {z : α} {l : List α} {i : Nat} (h : i < l.length) : (copyTo z l i)[i]? = some z := by
  have hm : (l.take i).length = i := by simp; omega
  rw [copyTo, List.getElem?_append_right (by omega), hm, Nat.sub_self, List.getElem?_replicate, if_pos (by omega)]
theorem copyTo_set {α : Type} {z : α} {l : List α} {i : Nat} (h : i < l.length) : (copyTo z l i).set i l[i] = copyTo z l (i + 1) := by
  have hm : (l.take i).length = i := by simp; omega
  rw [copyTo, List.set_append_right _ _ (by omega), hm, Nat.sub_self, copyTo, List.take_succ_eq_append_getElem h, List.append_assoc]
  have : l.length - i = (l.length - (i + 1)) + 1 := by omega
  rw [this, List.replicate_succ]
  rfl

theorem Rows'.at {α : Type} {E : Enc α} {w : World} {a : Option Addr} {cap : Nat} {l : List α} (h : Rows' E w (.slice a l.length cap) l) (i : Nat) (hi : i < l.length) :
    ∃ g off : Nat, a = some ⟨g, off, none⟩ ∧ ∀ w', Below w.heap.size w w' → ∀ k u, (E.f l[i])[k]? = some u → w'.cell? ⟨g, off + i * E.sz + k, none⟩ = some u := by
  rcases h.ways with ⟨h0, _⟩ | ⟨_, g, off, c, hv, hc, hg, hcl⟩
  · rw [h0] at hi; simp at hi
  · simp only [Value.slice.injEq] at hv
    exact ⟨g, off, hv.1, fun w' hb k u hu => (hb.cell (p := ⟨g, off + i * E.sz + k, none⟩) hg).trans (hcl i _ (List.getElem?_eq_getElem hi) k u hu)⟩

end Go.Proofs.Ytodldamjleehlaa

/- Lists that come in: how great they are (szStringS, szWriteS), and copies of them in memory of the call's own (toStringS, toWriteS, toIntS). -/
namespace Go.Proofs.Ytodldamjleehlaa
open Go.RowKit

end Go.Proofs.Ytodldamjleehlaa

/- Disks: what they are in memory, and the helpers of the exact laws over them. -/
namespace Go.Proofs.Ytodldamjleehlaa
open Go.RowKit

structure Dk where
  sec : List ByteArray
  cache : List Wr

def Dk.small (d : Dk) : Prop := d.sec.length ≤ 1073741824 ∧ d.cache.length ≤ 1073741824

end Go.Proofs.Ytodldamjleehlaa

/- Appends of one list of the call's own to another, at an operation, in a list of operations and in a region that draws its order. -/
namespace Go.Proofs.Ytodldamjleehlaa
open Go.RowKit

variable {α : Type} {E : Enc α}

theorem RBuf.shift {B : Nat} {w w' : World} {v : Value} {l : List α} {r : Option Nat} (h : RBuf E B w w v l) (hg : w.grownBy w' r) (hne : v.ownBlock = none ∨ v.ownBlock ≠ r) : RBuf E B w' w' v l :=
  ⟨h.own.kept hg hne, Below.refl _ _, Nat.le_trans h.le hg.size⟩

end Go.Proofs.Ytodldamjleehlaa

/- Records: what the model's RecText hands back. -/
namespace Go.Proofs.Ytodldamjleehlaa
open Go.RowKit

theorem belNew (x : World) (o : Obj) : Below x.heap.size x (x.alloc o) := (Below.refl _ _).alloc (Nat.le_refl _) _
theorem takeL {P : Program} {md : Region.Mode} {l : List Oper} {Q : Exit → Act → World → Prop} {S : World → Prop} {i : Nat} {oi : Oper} {v : Value} {fuel : Nat} {listed : Array Bool} {a : Act} {w : World} (hi : l[i]? = some oi)
    (hs : Region.noSelect l.toArray = true) (hf : Region.free md l.toArray listed i = true) (hr : (Region.ready md l.toArray listed).contains i = true)
    (hQ : ∀ c a w, Q (.panic c) (a.put oi.dst v) w → Q (.panic c) a w) (hy : YieldsIf P l.toArray S oi v a) (hS : S w)
    (h : wpAnyH P md l.toArray Q S fuel (listed.setIfInBounds i true) (a.put oi.dst v) w) : wpAnyH P md l.toArray Q S (fuel + 1) listed a w :=
  wpAnyH_take (by rw [List.getElem?_toArray]; exact hi) hs hf hr hQ hy hS h
theorem readyOne {P : Program} {md : Region.Mode} {l : List Oper} {Q : Exit → Act → World → Prop} {S : World → Prop} {i : Nat} {o : Oper} {fuel : Nat} {listed : Array Bool} {a : Act} {w : World} (hi : l[i]? = some o)
    (h : ∀ K' : Act → World → Prop, Shut (∀ a w, S w → (S w → wpAnyH P md l.toArray Q S fuel (listed.setIfInBounds i true) a w) → K' a w) → if Region.wanted o (yielded l.toArray a.tmps) = true then Oper.wp P o a w K' Q else K' (a.put o.dst undef) w) :
    AllReadyH P md l.toArray Q S fuel listed a w [i] :=
  AllReadyH.cons (by rw [List.getElem?_toArray]; exact hi) h AllReadyH.nil
end Go.Proofs.Ytodldamjleehlaa

/- Plain facts on bits, as the walk spells them: groups of seven bits put together. -/
namespace Go.Proofs.Ytodldamjleehlaa
open Go.RowKit

end Go.Proofs.Ytodldamjleehlaa

/- Reading a number: what impl.readGroups, impl.ReadVar and spec.ReadVar hand back. -/
namespace Go.Proofs.Ytodldamjleehlaa
open Go.RowKit

end Go.Proofs.Ytodldamjleehlaa

/- Reading a number: what impl.ReadVar and spec.ReadVar hand back. -/
namespace Go.Proofs.Ytodldamjleehlaa
open Go.RowKit

end Go.Proofs.Ytodldamjleehlaa

/- strings.Clone hands back the same bytes and changes nothing that was there: out of the library's own theorem on internal/stringslite.Clone, at the numbers of this program. -/
namespace Go.Proofs.Ytodldamjleehlaa
open Go.Shelf Go.RowKit

end Go.Proofs.Ytodldamjleehlaa

/- A text behind its length, and read back: what ShortText and ReadShort hand back. -/
namespace Go.Proofs.Ytodldamjleehlaa
open Go.RowKit

end Go.Proofs.Ytodldamjleehlaa

/- Records: the model's reader of a text. -/
namespace Go.Proofs.Ytodldamjleehlaa
open Go.RowKit

end Go.Proofs.Ytodldamjleehlaa

/- Records: what the model's ReadRec hands back. -/
namespace Go.Proofs.Ytodldamjleehlaa
open Go.RowKit

def Rc.nil : Rc := ⟨0, 0, 0, 0, 0, emp, emp, emp⟩
theorem ba_beq (a b : ByteArray) : (a.toList == b.toList) = decide (a = b) := by
  by_cases h : a = b
  · simp [h]
  · have : ¬ a.toList = b.toList := fun e => h (by rw [Go.ByteArray.toList_eq, Go.ByteArray.toList_eq] at e; obtain ⟨⟨x⟩⟩ := a; obtain ⟨⟨y⟩⟩ := b; simp only at e; rw [e])
    rw [decide_eq_false h]
    simp [this]

end Go.Proofs.Ytodldamjleehlaa

/- Frames: what FrameOk hands back, of the model and of the program. -/
namespace Go.Proofs.Ytodldamjleehlaa
open Go.RowKit

def Fr.v (f : Fr) : Value := .agg #[.int .i64 f.gen, .int .i64 f.seq, .string f.body]
def Fr.numOk (n : Int) : Prop := 1 ≤ n ∧ n ≤ 1000000000
instance (n : Int) : Decidable (Fr.numOk n) := by unfold Fr.numOk; infer_instance


end Go.Proofs.Ytodldamjleehlaa

/- Items: what the model's ItemFrame and FrameItem hand back. -/
namespace Go.Proofs.Ytodldamjleehlaa
open Go.RowKit

end Go.Proofs.Ytodldamjleehlaa

/- What records tell, plainly: whatever the order in which they lie, and however often one lies there. -/
namespace Go.Proofs.Ytodldamjleehlaa

abbrev Itm := Int × Rc

def BestI (k : Itm → Int) (p : Itm → Bool) (l : List Itm) (o : Option Itm) : Prop :=
  match o with
  | none => ∀ y ∈ l, p y = false
  | some x => x ∈ l ∧ p x = true ∧ ∀ y ∈ l, p y = true → k y < k x ∨ (k y = k x ∧ y.1 ≤ x.1)

def Uniq (l : List Itm) : Prop := ∀ x ∈ l, ∀ y ∈ l, x.1 = y.1 → x = y

theorem BestI.same {k : Itm → Int} {p : Itm → Bool} {l m : List Itm} {o o' : Option Itm} (hu : Uniq l) (hm : ∀ x, x ∈ l ↔ x ∈ m) (h : BestI k p l o) (h' : BestI k p m o') : o = o' := by
  cases o with
  | none =>
    cases o' with
    | none => rfl
    | some y => have := h y ((hm y).2 h'.1); rw [h'.2.1] at this; cases this
  | some x =>
    cases o' with
    | none => have := h' x ((hm x).1 h.1); rw [h.2.1] at this; cases this
    | some y =>
      have a := h.2.2 y ((hm y).2 h'.1) h'.2.1
      have b := h'.2.2 x ((hm x).1 h.1) h.2.1
      rw [hu x h.1 y ((hm y).2 h'.1) (by omega)]

structure Ml where
  uid : Int
  flags : Int
  text : ByteArray
structure Bx where
  valid : Int
  user : ByteArray
  name : ByteArray
  next : Int
  mails : List Ml

def itemsOk (l : List Itm) : Prop := (∀ x ∈ l, (1 ≤ x.1 ∧ x.1 ≤ 1000000000) ∧ x.2.ok) ∧ Uniq l ∧ l.length ≤ 200
end Go.Proofs.Ytodldamjleehlaa

/- How items lie in memory. -/
namespace Go.Proofs.Ytodldamjleehlaa
open Go.RowKit


end Go.Proofs.Ytodldamjleehlaa

/- What records tell: the model's choice of a record. -/
namespace Go.Proofs.Ytodldamjleehlaa
open Go.RowKit

end Go.Proofs.Ytodldamjleehlaa

/- Right items, plainly: as they are gone through. -/
namespace Go.Proofs.Ytodldamjleehlaa

def itOk (x : Itm) : Prop := (1 ≤ x.1 ∧ x.1 ≤ 1000000000) ∧ x.2.ok
def ItG (l : List Itm) (i : Nat) : Prop := (∀ (j : Nat) (x : Itm), l[j]? = some x → j < i → itOk x) ∧ ∀ (j k : Nat) (x y : Itm), l[j]? = some x → l[k]? = some y → j < k → k < i → x.1 = y.1 → x = y
noncomputable instance decItemsOk (l : List Itm) : Decidable (itemsOk l) := Classical.propDecidable _

theorem ItG.zero (l : List Itm) : ItG l 0 := ⟨fun _ _ _ h => by omega, fun _ _ _ _ _ _ _ h => by omega⟩
theorem ItG.next {l : List Itm} {i : Nat} {x : Itm} (h : ItG l i) (hx : l[i]? = some x) (hok : itOk x) (hd : ∀ (j : Nat) (y : Itm), l[j]? = some y → j < i → y.1 = x.1 → y = x) : ItG l (i + 1) := by
  refine ⟨fun j y hy hj => ?_, fun j k y z hy hz hjk hk e => ?_⟩
  · by_cases e : j = i
    · subst e; rw [hx] at hy; cases hy; exact hok
    · exact h.1 j y hy (by omega)
  · by_cases e2 : k = i
    · subst e2; rw [hx] at hz; cases hz; exact hd j y hy hjk e
    · exact h.2 j k y z hy hz hjk (by omega) e
end Go.Proofs.Ytodldamjleehlaa

/- What records tell: the model's ItemsOk. -/
namespace Go.Proofs.Ytodldamjleehlaa
open Go.RowKit

theorem ba_same (a b : ByteArray) : a.toList = b.toList ↔ a = b := by
  have h := ba_beq a b
  constructor
  · intro e
    rw [beq_iff_eq.2 e] at h
    exact of_decide_eq_true h.symm
  · intro e; rw [e]


end Go.Proofs.Ytodldamjleehlaa

/- Records and items: the helpers of the exact laws. -/
namespace Go.Proofs.Ytodldamjleehlaa
open Go.RowKit







end Go.Proofs.Ytodldamjleehlaa

/- Lists of items that come in: how great they are, copies of them, and that two alike are alike; items marked. -/
namespace Go.Proofs.Ytodldamjleehlaa
open Go.RowKit








end Go.Proofs.Ytodldamjleehlaa

/- The helpers of the exact laws over lists of items: each is marked, and the marks are held. -/
namespace Go.Proofs.Ytodldamjleehlaa
open Go.RowKit





end Go.Proofs.Ytodldamjleehlaa

/- How segments lie in memory: a row of segments, each with a row of items of its own. -/
namespace Go.Proofs.Ytodldamjleehlaa
open Go.RowKit

structure Sg where
  no : Int
  gen : Int
  ende : Int
  items : List Itm

structure SgH where
  no : Int
  gen : Int
  ende : Int
  a : Option Addr
  n : Nat
  c : Nat
end Go.Proofs.Ytodldamjleehlaa

/- The helpers of the exact laws over segments: two alike are alike. -/
namespace Go.Proofs.Ytodldamjleehlaa
open Go.RowKit




end Go.Proofs.Ytodldamjleehlaa

/- The helpers of the exact laws over segments: each is marked, and the marks are held. -/
namespace Go.Proofs.Ytodldamjleehlaa
open Go.RowKit




end Go.Proofs.Ytodldamjleehlaa

/- Segments that come in: how great they are. -/
namespace Go.Proofs.Ytodldamjleehlaa
open Go.RowKit



def sgLean (left : Int) (b : Sg) : Prop := ∀ x ∈ b.items, (x.2.user.size : Int) + x.2.name.size + x.2.text.size ≤ left
theorem sgLean.mono {a b : Int} {s : Sg} (h : sgLean a s) (hab : a ≤ b) : sgLean b s := fun x hx => Int.le_trans (h x hx) hab
end Go.Proofs.Ytodldamjleehlaa

/- Copies of segments that come in. -/
namespace Go.Proofs.Ytodldamjleehlaa
open Go.RowKit

def Sg.z : Sg := ⟨0, 0, 0, []⟩

theorem Box.four {w : World} {b : Nat} {u0 u1 u2 u3 : Value} {t : TypeId} (h : Box w b #[u0, u1, u2, u3] t) : w.cell? ⟨b, 0, none⟩ = some u0 ∧ w.cell? ⟨b, 1, none⟩ = some u1 ∧ w.cell? ⟨b, 2, none⟩ = some u2 ∧ w.cell? ⟨b, 3, none⟩ = some u3 ∧ w.frozen? ⟨b, 0, none⟩ = false ∧ w.frozen? ⟨b, 1, none⟩ = false ∧ w.frozen? ⟨b, 2, none⟩ = false ∧ w.frozen? ⟨b, 3, none⟩ = false :=
  ⟨h.cell 0 _ rfl, h.cell 1 _ rfl, h.cell 2 _ rfl, h.cell 3 _ rfl, h.loose 0, h.loose 1, h.loose 2, h.loose 3⟩
end Go.Proofs.Ytodldamjleehlaa

/- Logs in memory: a disk, and segments in use. -/
namespace Go.Proofs.Ytodldamjleehlaa
open Go.RowKit

structure Lg where
  d : Dk
  segs : Int
  used : List Sg
  ng : Int
  ns : Int
  st : Int
  nv : Int

theorem Box.eightL {w : World} {b : Nat} {u0 u1 u2 u3 u4 u5 u6 u7 : Value} {t : TypeId} (h : Box w b #[u0, u1, u2, u3, u4, u5, u6, u7] t) :
    w.cell? ⟨b, 0, none⟩ = some u0 ∧ w.cell? ⟨b, 1, none⟩ = some u1 ∧ w.cell? ⟨b, 2, none⟩ = some u2 ∧ w.cell? ⟨b, 3, none⟩ = some u3 ∧ w.cell? ⟨b, 4, none⟩ = some u4 ∧ w.cell? ⟨b, 5, none⟩ = some u5 ∧ w.cell? ⟨b, 6, none⟩ = some u6 ∧ w.cell? ⟨b, 7, none⟩ = some u7 ∧
    w.frozen? ⟨b, 0, none⟩ = false ∧ w.frozen? ⟨b, 1, none⟩ = false ∧ w.frozen? ⟨b, 2, none⟩ = false ∧ w.frozen? ⟨b, 3, none⟩ = false ∧ w.frozen? ⟨b, 4, none⟩ = false ∧ w.frozen? ⟨b, 5, none⟩ = false ∧ w.frozen? ⟨b, 6, none⟩ = false ∧ w.frozen? ⟨b, 7, none⟩ = false :=
  ⟨h.cell 0 _ rfl, h.cell 1 _ rfl, h.cell 2 _ rfl, h.cell 3 _ rfl, h.cell 4 _ rfl, h.cell 5 _ rfl, h.cell 6 _ rfl, h.cell 7 _ rfl, h.loose 0, h.loose 1, h.loose 2, h.loose 3, h.loose 4, h.loose 5, h.loose 6, h.loose 7⟩
def set8L (w : World) (b : Nat) (v0 v1 v2 v3 v4 v5 v6 v7 : Value) : World := (((((((w.setCell ⟨b, 0, none⟩ v0).setCell ⟨b, 1, none⟩ v1).setCell ⟨b, 2, none⟩ v2).setCell ⟨b, 3, none⟩ v3).setCell ⟨b, 4, none⟩ v4).setCell ⟨b, 5, none⟩ v5).setCell ⟨b, 6, none⟩ v6).setCell ⟨b, 7, none⟩ v7
theorem Box.set8L {w : World} {b : Nat} {u0 u1 u2 u3 u4 u5 u6 u7 : Value} {t : TypeId} (h : Box w b #[u0, u1, u2, u3, u4, u5, u6, u7] t) (v0 v1 v2 v3 v4 v5 v6 v7 : Value) : Box (Go.Proofs.Ytodldamjleehlaa.set8L w b v0 v1 v2 v3 v4 v5 v6 v7) b #[v0, v1, v2, v3, v4, v5, v6, v7] t :=
  have a0 : Box (w.setCell ⟨b, 0, none⟩ v0) b #[v0, u1, u2, u3, u4, u5, u6, u7] t := h.set 0 v0
  have a1 : Box ((w.setCell ⟨b, 0, none⟩ v0).setCell ⟨b, 1, none⟩ v1) b #[v0, v1, u2, u3, u4, u5, u6, u7] t := a0.set 1 v1
  have a2 : Box (((w.setCell ⟨b, 0, none⟩ v0).setCell ⟨b, 1, none⟩ v1).setCell ⟨b, 2, none⟩ v2) b #[v0, v1, v2, u3, u4, u5, u6, u7] t := a1.set 2 v2
  have a3 : Box ((((w.setCell ⟨b, 0, none⟩ v0).setCell ⟨b, 1, none⟩ v1).setCell ⟨b, 2, none⟩ v2).setCell ⟨b, 3, none⟩ v3) b #[v0, v1, v2, v3, u4, u5, u6, u7] t := a2.set 3 v3
  have a4 : Box (((((w.setCell ⟨b, 0, none⟩ v0).setCell ⟨b, 1, none⟩ v1).setCell ⟨b, 2, none⟩ v2).setCell ⟨b, 3, none⟩ v3).setCell ⟨b, 4, none⟩ v4) b #[v0, v1, v2, v3, v4, u5, u6, u7] t := a3.set 4 v4
  have a5 : Box ((((((w.setCell ⟨b, 0, none⟩ v0).setCell ⟨b, 1, none⟩ v1).setCell ⟨b, 2, none⟩ v2).setCell ⟨b, 3, none⟩ v3).setCell ⟨b, 4, none⟩ v4).setCell ⟨b, 5, none⟩ v5) b #[v0, v1, v2, v3, v4, v5, u6, u7] t := a4.set 5 v5
  have a6 : Box (((((((w.setCell ⟨b, 0, none⟩ v0).setCell ⟨b, 1, none⟩ v1).setCell ⟨b, 2, none⟩ v2).setCell ⟨b, 3, none⟩ v3).setCell ⟨b, 4, none⟩ v4).setCell ⟨b, 5, none⟩ v5).setCell ⟨b, 6, none⟩ v6) b #[v0, v1, v2, v3, v4, v5, v6, u7] t := a5.set 6 v6
  a6.set 7 v7
theorem below_set8L {B b : Nat} {w0 w : World} (h : Below B w0 w) (hb : B ≤ b) (v0 v1 v2 v3 v4 v5 v6 v7 : Value) : Below B w0 (set8L w b v0 v1 v2 v3 v4 v5 v6 v7) :=
  (((((((h.setCell (p := ⟨b, 0, none⟩) hb v0).setCell (p := ⟨b, 1, none⟩) hb v1).setCell (p := ⟨b, 2, none⟩) hb v2).setCell (p := ⟨b, 3, none⟩) hb v3).setCell (p := ⟨b, 4, none⟩) hb v4).setCell (p := ⟨b, 5, none⟩) hb v5).setCell (p := ⟨b, 6, none⟩) hb v6).setCell (p := ⟨b, 7, none⟩) hb v7
theorem grown_set8L (w : World) (b : Nat) (v0 v1 v2 v3 v4 v5 v6 v7 : Value) : w.grownBy (set8L w b v0 v1 v2 v3 v4 v5 v6 v7) (some b) :=
  (((((((stored_grown w b 0 v0).trans (stored_grown _ b 1 v1)).trans (stored_grown _ b 2 v2)).trans (stored_grown _ b 3 v3)).trans (stored_grown _ b 4 v4)).trans (stored_grown _ b 5 v5)).trans (stored_grown _ b 6 v6)).trans (stored_grown _ b 7 v7)



end Go.Proofs.Ytodldamjleehlaa

/- Logs held against each other: SameLog of both. -/
namespace Go.Proofs.Ytodldamjleehlaa
open Go.RowKit

noncomputable def sameP (p : Prop) : Bool := @decide p (Classical.propDecidable p)
theorem sameP_yes {p : Prop} (h : p) : sameP p = true := @decide_eq_true _ (Classical.propDecidable _) h
theorem sameP_no {p : Prop} (h : ¬ p) : sameP p = false := @decide_eq_false _ (Classical.propDecidable _) h
theorem listL_all {α : Type} {ms ns : List α} (hl : ms.length = ns.length) (h : ∀ (k : Nat) (x y : α), ms[k]? = some x → ns[k]? = some y → x = y) : ms = ns :=
  List.ext_getElem? fun i => by
    by_cases c : i < ms.length
    · have e1 : ms[i]? = some ms[i] := List.getElem?_eq_getElem c
      have e2 : ns[i]? = some (ns[i]'(by omega)) := List.getElem?_eq_getElem (by omega)
      rw [e1, e2, h i _ _ e1 e2]
    · rw [List.getElem?_eq_none (by omega), List.getElem?_eq_none (by omega)]
end Go.Proofs.Ytodldamjleehlaa

/- Lists that came in: a row read cell by cell is a list. -/
namespace Go.Proofs.Ytodldamjleehlaa
open Go.RowKit Go.ChangeShapes Go.WideShapes Go.ChangeAt Go.Deep Go.Joins

section
variable {W : World}

theorem rows_of_cells {α : Type} [Inhabited α] (E : Enc α) {a : Addr} {len cap : Nat} (hl : len ≤ cap) (hp : ∀ i, i < len → ∃ x : α, ∀ k u, (E.f x)[k]? = some u → W.cell? (a.add (i * E.sz + k)) = some u) (Pr : α → Prop)
    (hpr : ∀ i, i < len → ∀ x : α, (∀ k u, (E.f x)[k]? = some u → W.cell? (a.add (i * E.sz + k)) = some u) → Pr x) :
    ∃ l : List α, l.length = len ∧ Rows' E W (.slice (some a) len cap) l ∧ ∀ x ∈ l, Pr x := by
  obtain ⟨f, hf⟩ := choose_lt hp
  refine ⟨(List.range len).map f, by simp, ?_, ?_⟩
  · by_cases h0 : len = 0
    · subst h0
      exact .inl ⟨rfl, _, _, rfl⟩
    · have hsp : a.spot = none := by
        have hne : (E.f (f 0))[0]? = some ((E.f (f 0))[0]'(by rw [E.len]; exact E.pos)) := List.getElem?_eq_getElem _
        have := hf 0 (by omega) 0 _ hne
        have h2 := World.cell?_spot this
        simpa [Addr.add] using h2
      obtain ⟨b, off, spot⟩ := a
      simp only at hsp
      subst hsp
      refine .inr ⟨b, off, cap, by simp, by simpa using hl, ?_, ?_⟩
      · have hne : (E.f (f 0))[0]? = some ((E.f (f 0))[0]'(by rw [E.len]; exact E.pos)) := List.getElem?_eq_getElem _
        have := hf 0 (by omega) 0 _ hne
        rw [Addr.add_lit] at this
        exact World.block_lt_of_cell? W _ this
      · intro j x hj k u hu
        have hjl : j < len := by have := (List.getElem?_eq_some_iff.1 hj).1; simpa using this
        have hx : f j = x := by simpa [hjl] using hj
        subst hx
        have := hf j hjl k u hu
        rw [Addr.add_lit] at this
        rw [Nat.add_assoc]
        exact this
  · intro x hx
    simp only [List.mem_map, List.mem_range] at hx
    obtain ⟨i, hi, rfl⟩ := hx
    exact hpr i hi _ (hf i hi)
end

end Go.Proofs.Ytodldamjleehlaa

/- What a disk is that comes in as an argument: its rows can be read. -/
namespace Go.Proofs.Ytodldamjleehlaa
open Go.RowKit Go.ChangeShapes Go.WideShapes Go.ChangeAt Go.Deep Go.Joins

section
variable {H : Type} {enc : TypeId × Value → H} {W : World}


end

end Go.Proofs.Ytodldamjleehlaa
