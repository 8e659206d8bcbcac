/- Texts of our own, joined. -/
import Derived.Test.YtgdkndlkapmhjaaJp
import Derived.Test.YtgdkndlkapmhjaaJl
import Derived.DeepKeys4
import Derived.WalkArith
import Derived.Test.YtgdkndlkapmhjaaJk
import Derived.Test.YtgdkndlkapmhjaaJm
import Derived.WalkSmall
/- Right states, plainly: what each round over the boxes asks. -/
namespace Go.Proofs.Ytgdkndlkapmhjaa

def mlOk (nx : Int) (m : Ml) : Prop := (1 ≤ m.uid ∧ m.uid ≤ nx - 1) ∧ (0 ≤ m.flags ∧ m.flags ≤ 7) ∧ m.text.size ≤ 100
def bxOk (b : Bx) : Prop := (1 ≤ b.valid ∧ b.valid ≤ 9999) ∧ wdOk b.user ∧ wdOk b.name ∧ (1 ≤ b.next ∧ b.next ≤ 10000)
/-- The k-th mail of a box. -/
def MlAt (b : Bx) (k : Nat) : Prop := ∀ m, b.mails[k]? = some m → mlOk b.next m ∧ ∀ q, 0 < k → b.mails[k - 1]? = some q → q.uid < m.uid
/-- The i-th box. -/
def StAt (ps : List Bx) (i : Nat) : Prop := ∀ b, ps[i]? = some b → bxOk b ∧ (∀ p, 0 < i → ps[i - 1]? = some p → p.valid < b.valid) ∧ (∀ k y, k < i → ps[k]? = some y → ¬ (y.user = b.user ∧ y.name = b.name)) ∧ ∀ k, MlAt b k
def stOk (ps : List Bx) : Prop := ∀ i, StAt ps i
noncomputable def stB (ps : List Bx) : Bool := @decide (stOk ps) (Classical.propDecidable _)
theorem stB_yes {ps : List Bx} (h : stOk ps) : stB ps = true := @decide_eq_true _ (Classical.propDecidable _) h
theorem stB_no {ps : List Bx} {i : Nat} (h : ¬ StAt ps i) : stB ps = false := @decide_eq_false _ (Classical.propDecidable _) (fun c => h (c i))
theorem stB_all {ps : List Bx} (h : ∀ i, i < ps.length → StAt ps i) : stB ps = true := stB_yes fun i => by
  by_cases c : i < ps.length
  · exact h i c
  · intro b hb
    rw [List.getElem?_eq_none (by omega)] at hb
    cases hb
theorem stB_box {ps : List Bx} {i : Nat} {b : Bx} (h : ps[i]? = some b) (hb : ¬ bxOk b) : stB ps = false := stB_no fun c => hb (c b h).1
theorem stB_up {ps : List Bx} {i : Nat} {b p : Bx} (h : ps[i]? = some b) (hi : 0 < i) (hp : ps[i - 1]? = some p) (hb : ¬ p.valid < b.valid) : stB ps = false := stB_no fun c => hb ((c b h).2.1 p hi hp)
theorem stB_twice {ps : List Bx} {i k : Nat} {b y : Bx} (h : ps[i]? = some b) (hk : k < i) (hy : ps[k]? = some y) (hb : y.user = b.user ∧ y.name = b.name) : stB ps = false := stB_no fun c => (c b h).2.2.1 k y hk hy hb
theorem stB_mail {ps : List Bx} {i k : Nat} {b : Bx} {m : Ml} (h : ps[i]? = some b) (hm : b.mails[k]? = some m) (hb : ¬ mlOk b.next m) : stB ps = false := stB_no fun c => hb ((c b h).2.2.2 k m hm).1
theorem stB_mailUp {ps : List Bx} {i k : Nat} {b : Bx} {m q : Ml} (h : ps[i]? = some b) (hm : b.mails[k]? = some m) (hk : 0 < k) (hq : b.mails[k - 1]? = some q) (hb : ¬ q.uid < m.uid) : stB ps = false := stB_no fun c => hb (((c b h).2.2.2 k m hm).2 q hk hq)
/-- A round over the boxes that went well. -/
theorem StAt.of {ps : List Bx} {i : Nat} {b : Bx} (h : ps[i]? = some b) (h1 : bxOk b) (h2 : ∀ p, 0 < i → ps[i - 1]? = some p → p.valid < b.valid) (h3 : ∀ k y, k < i → ps[k]? = some y → ¬ (y.user = b.user ∧ y.name = b.name)) (h4 : ∀ k, k < b.mails.length → MlAt b k) : StAt ps i := by
  intro b' hb'
  rw [h] at hb'
  cases hb'
  refine ⟨h1, h2, h3, fun k => ?_⟩
  by_cases c : k < b.mails.length
  · exact h4 k c
  · intro m hm
    rw [List.getElem?_eq_none (by omega)] at hm
    cases hm
theorem MlAt.of {b : Bx} {k : Nat} {m : Ml} (h : b.mails[k]? = some m) (h1 : mlOk b.next m) (h2 : ∀ q, 0 < k → b.mails[k - 1]? = some q → q.uid < m.uid) : MlAt b k := by
  intro m' hm'
  rw [h] at hm'
  cases hm'
  exact ⟨h1, h2⟩

end Go.Proofs.Ytgdkndlkapmhjaa

/- Structs as keys of maps: two texts; three numbers. -/
namespace Go.Proofs.Ytgdkndlkapmhjaa
open Go.RowKit
open Go.Maps (Keyed)

/-- What one cell reads as. -/
def strL (v : Value) : Option (List Lit) := match v with | .string a => if a.size ≤ maxLen then some [.string a.data.toList] else none | _ => none
def intL (v : Value) : Option (List Lit) := match v with | .int q n => if q = .i64 ∧ (Lit.int .i64 n).wf = true then some [.int .i64 n] else none | _ => none
theorem strL_inv {v : Value} {p : List Lit} (h : strL v = some p) : ∃ a, v = .string a ∧ a.size ≤ maxLen := by
  unfold strL at h
  cases v <;> simp at h
  exact ⟨_, rfl, h.1⟩
theorem intL_inv {v : Value} {p : List Lit} (h : intL v = some p) : ∃ n, v = .int .i64 n ∧ (Lit.int .i64 n).wf = true := by
  unfold intL at h
  cases v <;> simp at h
  obtain ⟨⟨rfl, h2⟩, _⟩ := h
  exact ⟨_, rfl, h2⟩
theorem strL_mk {a : ByteArray} (h : a.size ≤ maxLen) : strL (.string a) = some [.string a.data.toList] := if_pos h
theorem intL_mk {n : Int} (h : (Lit.int .i64 n).wf = true) : intL (.int .i64 n) = some [.int .i64 n] := if_pos ⟨rfl, h⟩

theorem lit_str (v : Value) (d : Nat) : Try.prog.keyLits (d + 1) 9 [v] = strL v := by
  unfold Program.keyLits
  rw [Try.underlying9]
  cases v <;> rfl
theorem lit_int (v : Value) (d : Nat) : Try.prog.keyLits (d + 1) 3 [v] = intL v := by
  unfold Program.keyLits
  rw [Try.underlying3]
  cases v <;> rfl
theorem many_types : ∃ d, Try.prog.types.size + 1 = d + 2 := ⟨Try.prog.types.size - 1, by have h : (0 : Nat) < Try.prog.types.size := of_decide_eq_true (by kernel_rfl); omega⟩

theorem nm_lits (x y : Value) (d : Nat) : Try.prog.keyLits (d + 2) 77 [x, y] = (strL x).bind fun p => (strL y).map fun q => p ++ q := by
  have hc : Try.prog.cellsOf 77 = 2 := by kernel_rfl
  have hs : Try.prog.cellsOf 9 = 1 := by kernel_rfl
  unfold Program.keyLits
  rw [Try.underlying77]
  simp only [List.length_cons, List.length_nil, hc]
  simp [hs, lit_str]
  cases strL x <;> cases strL y <;> simp
theorem nm_formed (x y : Value) : (Value.agg #[x, y]).formed Try.prog 77 = true := by
  have hc : Try.prog.cellsOf 77 = 2 := by kernel_rfl
  simp [Value.formed, Try.underlying77, hc]
set_option maxRecDepth 100000 in
def nmK : KeyE Try.prog (ByteArray × ByteArray) where
  ty := 77
  law := Keyed.of_law (deep_law_laid (show laidOutB Try.prog = true by kernel_rfl) (m := 2) (by omega) (of_decide_eq_true (by kernel_rfl)) (by kernel_rfl) (by rw [Try.underlying77]))
  val := fun x => .agg #[.string x.1, .string x.2]
  lit := fun x => .string (keyBytes [.string x.1.data.toList, .string x.2.data.toList])
  ok := fun x => x.1.size ≤ maxLen ∧ x.2.size ≤ maxLen
  key := fun x hx => by
    obtain ⟨d, hd⟩ := many_types
    unfold keyOf
    rw [Try.underlying77]
    have h1 : Try.prog.keyType 77 = true := by kernel_rfl
    simp only [h1, nm_formed, Bool.and_self, if_true, hd]
    show Option.map _ (Try.prog.keyLits (d + 2) _ [.string x.1, .string x.2]) = _
    rw [nm_lits, strL_mk hx.1, strL_mk hx.2]
    rfl
  inv := fun v l hv => by
    obtain ⟨d, hd⟩ := many_types
    have hc : Try.prog.cellsOf 77 = 2 := by kernel_rfl
    unfold keyOf at hv
    rw [Try.underlying77] at hv
    simp only [hd] at hv
    split at hv
    · rename_i hf
      have hf2 := (Bool.and_eq_true _ _ ▸ hf).2
      cases v with
      | agg cs =>
        simp [Value.formed, Try.underlying77, hc] at hf2
        obtain ⟨cl⟩ := cs
        have h2 : cl.length = 2 := hf2
        match cl, h2 with
        | [x, y], _ =>
          change Option.map _ (Try.prog.keyLits (d + 2) _ [x, y]) = _ at hv
          rw [nm_lits] at hv
          cases h3 : strL x with
          | none => rw [h3] at hv; cases hv
          | some p =>
            cases h4 : strL y with
            | none => rw [h3, h4] at hv; cases hv
            | some q =>
              obtain ⟨a, rfl, ha⟩ := strL_inv h3
              obtain ⟨b, rfl, hb⟩ := strL_inv h4
              exact ⟨(a, b), ⟨ha, hb⟩, rfl⟩
      | _ => simp [Value.formed, Try.underlying77] at hf2
    · cases hv
  inj := fun x y e => by
    obtain ⟨a, b⟩ := x
    obtain ⟨c, d⟩ := y
    simp at e
    obtain ⟨rfl, rfl⟩ := e
    rfl


end Go.Proofs.Ytgdkndlkapmhjaa

/- StateOk of the program. -/
namespace Go.Proofs.Ytgdkndlkapmhjaa
open Go.RowKit

theorem someB' (p : Prop) : ∃ F : Bool, F = true ↔ p := ⟨@decide p (Classical.propDecidable _), by simp⟩
noncomputable def bkB (b : Bx) : Bool := @decide (bxOk b ∧ ∀ k, MlAt b k) (Classical.propDecidable _)
theorem bkB_yes {b : Bx} (h : bxOk b ∧ ∀ k, MlAt b k) : bkB b = true := @decide_eq_true _ (Classical.propDecidable _) h
theorem bkB_no {b : Bx} (h : ¬ (bxOk b ∧ ∀ k, MlAt b k)) : bkB b = false := @decide_eq_false _ (Classical.propDecidable _) h
theorem bkB_of {b : Bx} (h : bkB b = true) : bxOk b ∧ ∀ k, MlAt b k := @of_decide_eq_true _ (Classical.propDecidable _) h

/-- The number of the one before. -/
def LastU (b : Bx) (k : Nat) (L : Int) : Prop := (k = 0 → L = 0) ∧ ∀ q, 0 < k → b.mails[k - 1]? = some q → L = q.uid
theorem LastU.next {b : Bx} {k : Nat} {m : Ml} (h : b.mails[k]? = some m) : LastU b (k + 1) m.uid := ⟨fun e => by omega, fun q _ hq => by
  have : b.mails[k]? = some q := hq
  rw [h] at this
  cases this
  rfl⟩
theorem ml_iff {b : Bx} {k : Nat} {L : Int} {m : Ml} (hL : LastU b k L) (hM : ∀ q, q < k → MlAt b q) (h : b.mails[k]? = some m) : MlAt b k ↔ (¬ m.uid ≤ L ∧ ¬ b.next ≤ m.uid ∧ (0 ≤ m.flags ∧ m.flags ≤ 7) ∧ m.text.size ≤ 100) := by
  have hpos : 0 ≤ L := by
    rcases Nat.eq_zero_or_pos k with e | e
    · rw [hL.1 e]; exact Int.le_refl _
    · obtain ⟨q, hq⟩ : ∃ q, b.mails[k - 1]? = some q := ⟨_, List.getElem?_eq_getElem (by have := (List.getElem?_eq_some_iff.1 h).1; omega)⟩
      have h1 := (hM (k - 1) (by omega) q hq).1.1.1
      rw [hL.2 q e hq]
      omega
  constructor
  · intro c
    obtain ⟨⟨h1, h2, h3⟩, h4⟩ := c m h
    refine ⟨fun e => ?_, by omega, h2, h3⟩
    rcases Nat.eq_zero_or_pos k with e0 | e0
    · rw [hL.1 e0] at e; omega
    · obtain ⟨q, hq⟩ : ∃ q, b.mails[k - 1]? = some q := ⟨_, List.getElem?_eq_getElem (by have := (List.getElem?_eq_some_iff.1 h).1; omega)⟩
      have := h4 q e0 hq
      rw [hL.2 q e0 hq] at e
      omega
  · rintro ⟨h1, h2, h3, h4⟩
    exact MlAt.of h ⟨⟨by omega, by omega⟩, h3, h4⟩ (fun q h0 hq => by rw [← hL.2 q h0 hq]; omega)

theorem word_i {s : ByteArray} {b : Bool} (h : decide (wdOk s) = b) (w : World) : Calls Try.prog 54 #[.string s] w fun e w' => e = .returned (.bool b) ∧ Below w.heap.size w w' :=
  (implWordOk_any s w).mono fun e w' h' => ⟨by rw [h'.1, h], h'.2⟩
theorem flags_i {n : Int} {b : Bool} (h : decide (0 ≤ n ∧ n ≤ 7) = b) (w : World) : Calls Try.prog 55 #[.int .i64 n] w fun e w' => e = .returned (.bool b) ∧ w = w' :=
  (flagsOk_any n w).mono fun e w' h' => ⟨by rw [h'.1, h], h'.2⟩

set_option maxRecDepth 100000 in
set_option maxHeartbeats 8000000 in
theorem boxOk_any (b : Bx) (a : Option Addr) (n c : Nat) (w : World) (h : Rows' mlE w (.slice a n c) b.mails) (hl : n ≤ 1048576) :
    Calls Try.prog 38 #[.agg #[.int .i64 b.valid, .string b.user, .string b.name, .int .i64 b.next, .slice a n c]] w fun e w' => e = .returned (.bool (bkB b)) ∧ Below w.heap.size w w' := by
  obtain ⟨rml, hrm⟩ := h.mails
  have HRM := Lib.hid hrm
  have HRL := Lib.hid rml
  clear h hrm rml
  have X1 := Box.new w #[.int .i64 b.valid, .string b.user, .string b.name, .int .i64 b.next, .slice a n c] 55
  have b1 := belNew w (.cells #[.int .i64 b.valid, .string b.user, .string b.name, .int .i64 b.next, .slice a n c] 55)
  obtain ⟨bu, hbu⟩ : ∃ bu, decide (wdOk b.user) = bu := ⟨_, rfl⟩
  obtain ⟨bn, hbn⟩ : ∃ bn, decide (wdOk b.name) = bn := ⟨_, rfl⟩
  have HWU := Lib.hid (fun x => word_i hbu x)
  have HWN := Lib.hid (fun x => word_i hbn x)
  have HBU := Lib.hid hbu
  have HBN := Lib.hid hbn
  clear hbu hbn
  obtain ⟨T, hT⟩ : ∃ T, bkB b = T := ⟨_, rfl⟩
  have HT := Lib.hid hT
  rw [hT]
  clear hT
  obtain ⟨bV, bU, bN, bX, bM⟩ := b
  simp only at HRM HRL X1 b1 HWU HWN HBU HBN ⊢
  go_enter Try.func38, Try.ntmps38
  go_upto_region 1 with fail
  generalize w.alloc (.cells #[.int .i64 bV, .string bU, .string bN, .int .i64 bX, .slice a n c] 55) = w1 at X1 b1 ⊢
  have H1 : Hid (∀ x, Below w1.heap.size w1 x → (x.cell? ⟨w.heap.size, 0, none⟩ = some (.int .i64 bV) ∧ x.cell? ⟨w.heap.size, 1, none⟩ = some (.string bU) ∧ x.cell? ⟨w.heap.size, 2, none⟩ = some (.string bN) ∧ x.cell? ⟨w.heap.size, 3, none⟩ = some (.int .i64 bX) ∧ x.cell? ⟨w.heap.size, 4, none⟩ = some (.slice a n c)) ∧ Below w.heap.size w x) := fun x hx => ⟨(X1.later hx).five, b1.trans (hx.mono b1.size)⟩
  obtain ⟨c0, c1, c2, c3, c4⟩ := X1.five
  by_cases hv : 1 ≤ bV ∧ bV ≤ 9999
  rotate_left
  · have HE : Hid (T = false) := by rw [← HT.out]; exact bkB_no (fun c => hv c.1.1)
    go_wp2_with (first | (go_at_call 52; refine (validOk_no _ _ (by omega)).mono ?_; rintro e w5 ⟨rfl, rfl⟩))
    go_ret
    exact ⟨by rw [HE.out]; rfl, b1⟩
  by_cases hx : 1 ≤ bX ∧ bX ≤ 10000
  rotate_left
  · have HE : Hid (T = false) := by rw [← HT.out]; exact bkB_no (fun c => hx c.1.2.2.2)
    go_wp2_with (first | (go_at_call 52; refine (validOk_yes _ _ (by omega) (by omega)).mono ?_; rintro e w5 ⟨rfl, rfl⟩) | (go_at_call 53; refine (nextOk_no _ _ (by omega)).mono ?_; rintro e w5 ⟨rfl, rfl⟩))
    go_ret
    exact ⟨by rw [HE.out]; rfl, b1⟩
  cases bu with
  | false =>
    have HE : Hid (T = false) := by rw [← HT.out]; exact bkB_no (fun c => by have h1 := c.1.2.1; have h2 := HBU.out; rw [decide_eq_true h1] at h2; cases h2)
    go_wp2_with (first | (go_at_call 52; refine (validOk_yes _ _ (by omega) (by omega)).mono ?_; rintro e w5 ⟨rfl, rfl⟩) | (go_at_call 53; refine (nextOk_yes _ _ (by omega) (by omega)).mono ?_; rintro e w5 ⟨rfl, rfl⟩) | (go_at_call 54; with_reducible refine (HWU.out _).mono ?_; rintro e w5 ⟨rfl, k5⟩; obtain ⟨d0, d1, d2, d3, d4⟩ := (H1.out _ k5).1) | (go_at_call 54; with_reducible refine (HWN.out _).mono ?_; rintro e w6 ⟨rfl, k6'⟩; have k6 := k5.trans (k6'.mono k5.size); obtain ⟨e0, e1, e2, e3, e4⟩ := (H1.out _ k6).1))
    go_ret
    exact ⟨by rw [HE.out]; rfl, (H1.out _ k5).2⟩
  | true =>
    cases bn with
    | false =>
      have HE : Hid (T = false) := by rw [← HT.out]; exact bkB_no (fun c => by have h1 := c.1.2.2.1; have h2 := HBN.out; rw [decide_eq_true h1] at h2; cases h2)
      go_wp2_with (first | (go_at_call 52; refine (validOk_yes _ _ (by omega) (by omega)).mono ?_; rintro e w5 ⟨rfl, rfl⟩) | (go_at_call 53; refine (nextOk_yes _ _ (by omega) (by omega)).mono ?_; rintro e w5 ⟨rfl, rfl⟩) | (go_at_call 54; with_reducible refine (HWU.out _).mono ?_; rintro e w5 ⟨rfl, k5⟩; obtain ⟨d0, d1, d2, d3, d4⟩ := (H1.out _ k5).1) | (go_at_call 54; with_reducible refine (HWN.out _).mono ?_; rintro e w6 ⟨rfl, k6'⟩; have k6 := k5.trans (k6'.mono k5.size); obtain ⟨e0, e1, e2, e3, e4⟩ := (H1.out _ k6).1))
      go_ret
      exact ⟨by rw [HE.out]; rfl, (H1.out _ k6).2⟩
    | true =>
      have HOK : Hid (bxOk ⟨bV, bU, bN, bX, bM⟩) := ⟨hv, of_decide_eq_true HBU.out, of_decide_eq_true HBN.out, hx⟩
      go_wp2_with (first | (go_at_call 52; refine (validOk_yes _ _ (by omega) (by omega)).mono ?_; rintro e w5 ⟨rfl, rfl⟩) | (go_at_call 53; refine (nextOk_yes _ _ (by omega) (by omega)).mono ?_; rintro e w5 ⟨rfl, rfl⟩) | (go_at_call 54; with_reducible refine (HWU.out _).mono ?_; rintro e w5 ⟨rfl, k5⟩; obtain ⟨d0, d1, d2, d3, d4⟩ := (H1.out _ k5).1) | (go_at_call 54; with_reducible refine (HWN.out _).mono ?_; rintro e w6 ⟨rfl, k6'⟩; have k6 := k5.trans (k6'.mono k5.size); obtain ⟨e0, e1, e2, e3, e4⟩ := (H1.out _ k6).1))
      clear HWU HWN HBU HBN X1 b1 c0 c1 c2 c3 c4 d0 d1 d2 d3 d4 e0 e1 e2 e3 e4 k5 k6'
      go_loopw [3, 31] (fun lv iv wr => ∃ (k : Nat) (L : Int), k ≤ n ∧ iv = .int .i64 (k : Int) ∧ lv = .int .i64 L ∧ LastU ⟨bV, bU, bN, bX, bM⟩ k L ∧ (∀ q, q < k → MlAt ⟨bV, bU, bN, bX, bM⟩ q) ∧ Below w1.heap.size w1 wr) (fun _ iv _ => n - (intOf iv).toNat)
      case atStart => exact ⟨0, 0, by omega, rfl, rfl, ⟨fun _ => rfl, fun q h => by omega⟩, fun q hq => by omega, k6⟩
      case round =>
        clear k6
        obtain ⟨k, L, hk, rfl, rfl, hL, hM, bq⟩ := hrel
        obtain ⟨⟨_, _, _, c3, _⟩, bW⟩ := H1.out _ bq
        by_cases hlk : k < n
        · obtain ⟨m, hgm⟩ : ∃ m, bM[k]? = some m := ⟨_, List.getElem?_eq_getElem (by rw [← HRL.out]; exact hlk)⟩
          obtain ⟨gm, om, rfl, m0, m1, m2⟩ := HRM.out _ bW k _ hgm
          have HI := Lib.hid (ml_iff (b := ⟨bV, bU, bN, bX, bM⟩) hL hM hgm)
          have HLN := Lib.hid (LastU.next (b := ⟨bV, bU, bN, bX, bM⟩) hgm)
          have HM := Lib.hid hM
          clear hgm hL hM
          obtain ⟨mU, mF, mT⟩ := m
          simp only at m0 m1 m2 HI HLN
          have hk0 : (0 : Int) ≤ (k : Int) := by omega
          have hk1 : (k : Int) < (n : Int) := by omega
          have XM := Box.new wr #[.int .i64 mU, .int .i64 mF, .string mT] 65
          have k11 := belNew wr (.cells #[.int .i64 mU, .int .i64 mF, .string mT] 65)
          have b11 := bq.trans (k11.mono bq.size)
          clear bq k11 bW
          go_upto_region 7 with fail
          clear m0 m1 m2 c3
          generalize wr.alloc (.cells #[.int .i64 mU, .int .i64 mF, .string mT] 65) = w11 at XM b11 ⊢
          generalize wr.heap.size = g11 at XM ⊢
          obtain ⟨⟨_, _, _, c3, _⟩, bE⟩ := H1.out _ b11
          obtain ⟨x0, x1, x2, _⟩ := XM.three
          clear XM
          obtain ⟨fl, hfl⟩ : ∃ fl, decide (0 ≤ mF ∧ mF ≤ 7) = fl := ⟨_, rfl⟩
          have HFL := Lib.hid (fun x => flags_i hfl x)
          have HF2 := Lib.hid hfl
          clear hfl
          by_cases h1 : mU ≤ L
          · have HE : Hid (T = false) := by rw [← HT.out]; exact bkB_no (fun c => (HI.out.1 (c.2 k)).1 h1)
            clear HI HLN HM HF2
            go_wp2_with fail
            go_ret
            exact ⟨by rw [HE.out]; rfl, bE⟩
          by_cases h2 : bX ≤ mU
          · have HE : Hid (T = false) := by rw [← HT.out]; exact bkB_no (fun c => (HI.out.1 (c.2 k)).2.1 h2)
            clear HI HLN HM HF2
            go_wp2_with fail
            go_ret
            exact ⟨by rw [HE.out]; rfl, bE⟩
          cases fl with
          | false =>
            have HE : Hid (T = false) := by rw [← HT.out]; exact bkB_no (fun c => of_decide_eq_false HF2.out (HI.out.1 (c.2 k)).2.2.1)
            clear HI HLN HM HF2
            go_wp2_with (go_at_call 55; refine (HFL.out _).mono ?_; rintro e w5 ⟨rfl, rfl⟩)
            go_ret
            exact ⟨by rw [HE.out]; rfl, bE⟩
          | true =>
            by_cases h4 : (100 : Int) < (mT.size : Int)
            · have HE : Hid (T = false) := by rw [← HT.out]; exact bkB_no (fun c => by have := (HI.out.1 (c.2 k)).2.2.2; omega)
              clear HI HLN HM HF2
              go_wp2_with (go_at_call 55; refine (HFL.out _).mono ?_; rintro e w5 ⟨rfl, rfl⟩)
              go_ret
              exact ⟨by rw [HE.out]; rfl, bE⟩
            · have HS : Hid (∀ q, q < k + 1 → MlAt ⟨bV, bU, bN, bX, bM⟩ q) := fun q hq => by
                rcases Nat.lt_succ_iff_lt_or_eq.1 hq with h | rfl
                · exact HM.out q h
                · exact HI.out.2 ⟨h1, h2, of_decide_eq_true HF2.out, by omega⟩
              clear HI HM HF2
              go_wp2_with (go_at_call 55; refine (HFL.out _).mono ?_; rintro e w5 ⟨rfl, rfl⟩)
              exact ⟨⟨k + 1, mU, by omega, by simp, rfl, HLN.out, HS.out, b11⟩, by first | omega | (simp [intOf]; omega)⟩
        · have HE : Hid (T = true) := by
            rw [← HT.out]
            refine bkB_yes ⟨HOK.out, fun q => ?_⟩
            by_cases hq : q < n
            · exact hM q (by omega)
            · intro m hm
              rw [List.getElem?_eq_none (by have := HRL.out; simp only; omega)] at hm
              cases hm
          clear hL hM
          go_wp2
          go_ret
          exact ⟨by rw [HE.out]; rfl, bW⟩

/-- The names that were seen. -/
def seenS (f : ByteArray × ByteArray → Option Int) (y : Bx) : ByteArray × ByteArray → Option Int := fun z => if z = (y.user, y.name) then some y.valid else f z
def seenM (ps : List Bx) : ByteArray × ByteArray → Option Int := ps.foldl seenS (fun _ => none)
theorem seenM_step {ps : List Bx} {k : Nat} {y : Bx} (h : ps[k]? = some y) : seenM (ps.take (k + 1)) = fun z => if z = (y.user, y.name) then some y.valid else seenM (ps.take k) z := by
  unfold seenM
  rw [List.take_add_one, h, List.foldl_append]
  rfl
theorem seen_inv : ∀ (ps : List Bx) (f : ByteArray × ByteArray → Option Int) (z : ByteArray × ByteArray) (c : Int), ps.foldl seenS f z = some c → f z = some c ∨ ∃ y ∈ ps, y.user = z.1 ∧ y.name = z.2
  | [], _, _, _, h => .inl h
  | t :: ps, f, z, c, h => by
    rcases seen_inv ps (seenS f t) z c h with h1 | ⟨y, hy, e⟩
    · unfold seenS at h1
      by_cases ez : z = (t.user, t.name)
      · exact .inr ⟨t, by simp, by rw [ez], by rw [ez]⟩
      · rw [if_neg ez] at h1; exact .inl h1
    · exact .inr ⟨y, List.mem_cons_of_mem _ hy, e⟩
theorem seen_keep : ∀ (ps : List Bx) (f : ByteArray × ByteArray → Option Int) (z : ByteArray × ByteArray), (f z).isSome = true → (ps.foldl seenS f z).isSome = true
  | [], _, _, h => h
  | t :: ps, f, z, h => seen_keep ps (seenS f t) z (by unfold seenS; by_cases ez : z = (t.user, t.name) <;> simp [ez, h])
theorem seen_there : ∀ (ps : List Bx) (f : ByteArray × ByteArray → Option Int) (y : Bx), y ∈ ps → (ps.foldl seenS f (y.user, y.name)).isSome = true
  | t :: ps, f, y, h => by
    rcases List.mem_cons.1 h with rfl | h
    · exact seen_keep ps _ _ (by unfold seenS; simp)
    · exact seen_there ps _ y h
/-- The Valid of the one before. -/
def LastV (ps : List Bx) (k : Nat) (L : Int) : Prop := (k = 0 → L = 0) ∧ ∀ q, 0 < k → ps[k - 1]? = some q → L = q.valid
theorem LastV.next {ps : List Bx} {k : Nat} {m : Bx} (h : ps[k]? = some m) : LastV ps (k + 1) m.valid := ⟨fun e => by omega, fun q _ hq => by
  have : ps[k]? = some q := hq
  rw [h] at this
  cases this
  rfl⟩
def inV' (x : Int) : Value := .int .i64 x
theorem inV'_inj (x y : Int) (h : inV' x = inV' y) : x = y := by unfold inV' at h; simpa using h
theorem zero_int' (w : World) : (zeroValue 3).run Try.prog w = .ok (.int .i64 0) w := by kernel_rfl

set_option maxRecDepth 100000 in
set_option maxHeartbeats 8000000 in
theorem implStateOk_any (ps : List Bx) (va : Value) (w : World) (ha : BRd w va ps) (hla : ps.length ≤ 1048576) (hma : ∀ b ∈ ps, b.mails.length ≤ 1048576 ∧ b.user.size ≤ 1099511627776 ∧ b.name.size ≤ 1099511627776) :
    Calls Try.prog 14 #[.agg #[va]] w fun e w' => e = .returned (.bool (stB ps)) ∧ Below w.heap.size w w' := by
  obtain ⟨ad, cap, rfl, hrowa⟩ := ha.boxes
  have HA := Lib.hid hrowa
  have HMA := Lib.hid hma
  clear ha hrowa hma
  obtain ⟨n, hn⟩ : ∃ n, ps.length = n := ⟨_, rfl⟩
  rw [hn] at hla ⊢
  have HN := Lib.hid hn
  clear hn
  have X1 := (Box.new w #[.slice ad n cap] 28).later (belNew _ (.map #[] 0))
  have e1 : (w.alloc (.cells #[.slice ad n cap] 28)).heap.size = w.heap.size + 1 := by simp
  have M0 := MapIs.made nmK inV' (w.alloc (.cells #[.slice ad n cap] 28))
  rw [e1] at M0
  clear e1
  have b1 : Below w.heap.size w ((w.alloc (.cells #[.slice ad n cap] 28)).alloc (.map #[] 0)) := ((Below.refl _ _).alloc (Nat.le_refl _) _).alloc (by simp) _
  have hmm := @run_makeMap Try.prog
  go_enter Try.func14, Try.ntmps14
  go_upto_region 3 with fail
  clear hmm
  generalize (w.alloc (.cells #[.slice ad n cap] 28)).alloc (.map #[] 0) = w1 at X1 M0 b1 ⊢
  have y1 := X1.cell 0 (.slice ad n cap) rfl
  obtain ⟨gM, hgM⟩ : ∃ gM, w.heap.size + 1 = gM := ⟨_, rfl⟩
  rw [hgM] at M0 ⊢
  have HGM : Hid (w.heap.size ≤ gM) := by show _ ≤ _; omega
  clear hgM X1
  go_wp2
  clear y1
  go_loopw [3, 14] (fun lv iv wr => ∃ (i : Nat) (L : Int), i ≤ n ∧ iv = .int .i64 (i : Int) ∧ lv = .int .i64 L ∧ LastV ps i L ∧ (∀ j, j < i → StAt ps j) ∧ MapIs nmK inV' wr gM i (seenM (ps.take i)) ∧ Below w.heap.size w wr) (fun _ iv _ => n - (intOf iv).toNat)
  case atStart => exact ⟨0, 0, by omega, rfl, rfl, ⟨fun _ => rfl, fun q h => by omega⟩, fun j hj => by omega, M0, b1⟩
  case round =>
    clear M0 b1
    obtain ⟨i, L, hi, rfl, rfl, hL, hup, MM, bW⟩ := hrel
    by_cases hlt : i < n
    · obtain ⟨b, hgb⟩ : ∃ b, ps[i]? = some b := ⟨_, List.getElem?_eq_getElem (by rw [HN.out]; exact hlt)⟩
      obtain ⟨hm1, hu1, hn1⟩ := HMA.out _ (List.mem_of_getElem? hgb)
      obtain ⟨gp, op, am, nm, cm, rfl, p0, p1, p2, p3, p4, rm⟩ := HA.out _ bW i _ hgb
      have hnm := rm.mails.1
      have HBK := Lib.hid (fun x (hx : Below w.heap.size w x) => boxOk_any b am nm cm x (rm.later hx) (by rw [hnm]; exact hm1))
      have HST := Lib.hid (seenM_step hgb)
      have HLN := Lib.hid (LastV.next hgb)
      have HTW : Hid ((seenM (ps.take i) (b.user, b.name)).isSome = true ↔ ∃ (k : Nat) (y : Bx), k < i ∧ ps[k]? = some y ∧ y.user = b.user ∧ y.name = b.name) := by
        constructor
        · intro h
          obtain ⟨c, hc⟩ := Option.isSome_iff_exists.1 h
          rcases seen_inv _ _ _ _ hc with h1 | ⟨y, hy, e1, e2⟩
          · cases h1
          · obtain ⟨k, hk⟩ := List.mem_iff_getElem?.1 hy
            have hk2 : k < i := by have := (List.getElem?_eq_some_iff.1 hk).1; rw [List.length_take] at this; omega
            rw [List.getElem?_take_of_lt hk2] at hk
            exact ⟨k, y, hk2, hk, e1, e2⟩
        · rintro ⟨k, y, hk, hy, e1, e2⟩
          rw [← e1, ← e2]
          exact seen_there _ _ y (List.mem_of_getElem? (i := k) (by rw [List.getElem?_take_of_lt hk]; exact hy))
      have HGB := Lib.hid hgb
      have HL := Lib.hid hL
      have HUP := Lib.hid hup
      have hmu : nmK.ok (b.user, b.name) := by show b.user.size ≤ maxLen ∧ b.name.size ≤ maxLen; unfold maxLen; omega
      have HMU := Lib.hid hmu
      clear hgb rm hL hup hnm hm1 hu1 hn1 hmu
      obtain ⟨bV, bU, bN, bX, bM⟩ := b
      simp only at p0 p1 p2 p3 p4 HBK HST HLN HTW HMU
      have hi0 : (0 : Int) ≤ (i : Int) := by omega
      have hi1 : (i : Int) < (n : Int) := by omega
      have XB := Box.new wr #[.int .i64 bV, .string bU, .string bN, .int .i64 bX, .slice am nm cm] 55
      have k9 := belNew wr (.cells #[.int .i64 bV, .string bU, .string bN, .int .i64 bX, .slice am nm cm] 55)
      have b9 := bW.trans (k9.mono bW.size)
      replace MM := MM.later k9
      clear k9
      go_upto_region 6 with fail
      clear p0 p1 p2 p3 p4 bW
      generalize wr.alloc (.cells #[.int .i64 bV, .string bU, .string bN, .int .i64 bX, .slice am nm cm] 55) = w9 at XB b9 MM ⊢
      generalize wr.heap.size = g9 at XB ⊢
      obtain ⟨c0, c1, c2, c3, c4⟩ := XB.five
      have XN := Box.new w9 #[.string bU, .string bN] 77
      have k10 := belNew w9 (.cells #[.string bU, .string bN] 77)
      have b10 := b9.trans (k10.mono b9.size)
      replace MM := MM.later k10
      replace XB := XB.later k10
      clear k10 b9
      go_upto_region 7 with fail
      clear c0 c1 c2 c3 c4
      generalize w9.alloc (.cells #[.string bU, .string bN] 77) = w10 at XN XB MM b10 ⊢
      generalize w9.heap.size = g10 at XN ⊢
      have t0 := XN.cell 0 (.string bU) rfl
      have t1 := XN.cell 1 (.string bN) rfl
      obtain ⟨c0, c1, c2, c3, c4⟩ := XB.five
      generalize hsm : seenM (ps.take i) = f at *
      clear hsm
      have HXB : Hid (∀ x, Below w10.heap.size w10 x → (x.cell? ⟨g9, 0, none⟩ = some (.int .i64 bV)) ∧ x.cell? ⟨g10, 0, none⟩ = some (.string bU) ∧ x.cell? ⟨g10, 1, none⟩ = some (.string bN) ∧ MapIs nmK inV' x gM i f ∧ Below w.heap.size w x) := fun x hx => ⟨(XB.later hx).cell 0 _ rfl, (XN.later hx).cell 0 _ rfl, (XN.later hx).cell 1 _ rfl, MM.later hx, b10.trans (hx.mono b10.size)⟩
      clear XB XN
      cases hf : f (bU, bN) with
      | some c =>
        have hlk : (Instr.lookup 75 (.map (some gM)) (.agg #[.string bU, .string bN]) true).run Try.prog w10 = .ok (.tuple #[.int .i64 c, .bool true]) w10 := MM.look_there (t := 75) Try.underlying75 (zero_int' w10) HMU.out hf true
        have HE : Hid (stB ps = false) := by
          obtain ⟨k, y, hk, hy, e⟩ := HTW.out.1 (by rw [hf]; rfl)
          exact stB_twice HGB.out hk hy e
        clear MM hf HTW HST HL HUP HLN HBK
        by_cases hv : bV ≤ L
        · go_wp2
          go_ret
          exact ⟨by rw [HE.out]; rfl, b10⟩
        · go_wp2
          go_ret
          exact ⟨by rw [HE.out]; rfl, b10⟩
      | none =>
        have hlk : (Instr.lookup 75 (.map (some gM)) (.agg #[.string bU, .string bN]) true).run Try.prog w10 = .ok (.tuple #[.int .i64 0, .bool false]) w10 := MM.look_gone (t := 75) Try.underlying75 (zero_int' w10) HMU.out hf true
        have HNO : Hid (∀ (k : Nat) (y : Bx), k < i → ps[k]? = some y → ¬ (y.user = bU ∧ y.name = bN)) := fun k y hk hy e => by
          have := HTW.out.2 ⟨k, y, hk, hy, e⟩
          rw [hf] at this
          cases this
        clear MM hf HTW
        by_cases hv : bV ≤ L
        · have HE : Hid (stB ps = false) := by
            rcases Nat.eq_zero_or_pos i with e | e
            · exact stB_box HGB.out (fun c => by have h1 := c.1.1; have h2 := HL.out.1 e; simp only at h1; omega)
            · obtain ⟨p, hp⟩ : ∃ p, ps[i - 1]? = some p := ⟨_, List.getElem?_eq_getElem (by rw [HN.out]; omega)⟩
              exact stB_up HGB.out e hp (by have h2 := HL.out.2 p e hp; simp only; omega)
          clear HST HL HUP HLN HBK
          go_wp2
          go_ret
          exact ⟨by rw [HE.out]; rfl, b10⟩
        have HBK' := Lib.hid (HBK.out w10 b10)
        generalize hT : bkB ⟨bV, bU, bN, bX, bM⟩ = T at HBK'
        cases T with
        | false =>
          have HE : Hid (stB ps = false) := stB_no (fun c => by
            have h1 := bkB_yes ⟨(c _ HGB.out).1, (c _ HGB.out).2.2.2⟩
            rw [hT] at h1
            cases h1)
          clear HST HL HUP HLN HBK hT
          go_wp2_with (go_at_call 38; refine HBK'.out.mono ?_; rintro e w12 ⟨rfl, k12⟩)
          have bE := (HXB.out _ k12).2.2.2.2
          go_ret
          exact ⟨by rw [HE.out]; rfl, bE⟩
        | true =>
          have HS : Hid (∀ j, j < i + 1 → StAt ps j) := fun j hj => by
            rcases Nat.lt_succ_iff_lt_or_eq.1 hj with h | rfl
            · exact HUP.out j h
            · have hk := bkB_of hT
              exact StAt.of HGB.out hk.1 (fun p h0 hp => by have h2 := HL.out.2 p h0 hp; simp only; omega) HNO.out (fun q _ => hk.2 q)
          clear HL HUP HBK hT HNO
          go_wp2_with (first | (go_at_call 38; refine HBK'.out.mono ?_; rintro e w12 ⟨rfl, k12⟩; obtain ⟨q0, q1, q2, MM, bE⟩ := HXB.out _ k12; have HMM := Lib.hid MM; have HBE := Lib.hid bE; clear MM bE) | (at_mapUpdate; refine wpList_put rfl _ _ _ _ rfl nmK inV' inV'_inj _ Try.underlying75 gM i f rfl HMM.out (by unfold maxLen; omega) (bU, bN) bV rfl rfl HMU.out ?_; intro w13 hM hg13 hs13))
          exact ⟨⟨i + 1, bV, by omega, by simp, rfl, HLN.out, HS.out, by rw [HST.out]; exact hM, HBE.out.grown hg13 HBE.out.size (fun q hq => by cases hq; exact HGM.out)⟩, by first | omega | (simp [intOf]; omega)⟩
    · have HE : Hid (stB ps = true) := stB_all (fun j hj => hup j (by rw [HN.out] at hj; omega))
      clear hL hup MM
      go_wp2
      go_ret
      exact ⟨by rw [HE.out]; rfl, bW⟩

end Go.Proofs.Ytgdkndlkapmhjaa
