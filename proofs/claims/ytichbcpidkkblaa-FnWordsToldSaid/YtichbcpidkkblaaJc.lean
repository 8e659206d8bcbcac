/- Texts of our own, joined. -/
import Derived.Test.YtichbcpidkkblaaJb
import Derived.Test.YtichbcpidkkblaaJa
import Derived.WalkKit
import Derived.Laws.BitsAllLaws
import Derived.Laws.BitsLemmas
import Derived.Laws.Concat
import Derived.Lib.Hide
import Derived.Lib.ConvBytes
import Derived.Deep.RegionHeld3
import Derived.Deep.RegionLaw
import Derived.Deep.QuietTactic
import Derived.BigQuiet
import Derived.Deep.Cut
import Derived.Deep.DeepCutAuto
/- How frames lie in memory. -/
namespace Go.Proofs.Ytichbcpidkkblaa
open Go.RowKit


/-- The cells of one element in a new row, as an append asks for them. -/
theorem row_new {α : Type} (E : Enc α) (w : World) (x : α) : ∀ j u, (E.row [x])[j]? = some u → (w.alloc (.cells (E.f x).toArray E.ty)).cell? ((⟨w.heap.size, 0, none⟩ : Addr).add j) = some u := by
  intro j u hj
  rw [E.row_one] at hj
  rw [Addr.add_lit, Nat.zero_add]
  exact (Box.new w (E.f x).toArray E.ty).cell j u (by simpa using hj)

end Go.Proofs.Ytichbcpidkkblaa

/- What is drawn for the chapter on frames: texts of frames, spoilt or not, and lists of frames. -/
namespace Go.Proofs.Ytichbcpidkkblaa
open Go.RowKit

/-- A drawn text made of another. -/
def SpR (s : ByteArray) (pc : Nat) (a : Option Addr) (len cap : Nat) (w : World) (e : Ending) (w' : World) : Prop :=
  ∃ t : ByteArray, t.size ≤ s.size + 1 ∧ e = .returned (.string t) ∧ Cur w' pc a len cap ∧ w.grownBy w' (some pc)


end Go.Proofs.Ytichbcpidkkblaa

/- Plain facts on hexadecimal figures, with no program in them. -/
namespace Go.Proofs.Ytichbcpidkkblaa

/-- A figure, of a number below 16. -/
def fig (x : Nat) : UInt8 := if x < 10 then UInt8.ofNat (48 + x) else UInt8.ofNat (87 + x)

theorem fig_toNat {x : Nat} (h : x < 16) : (fig x).toNat = if x < 10 then 48 + x else 87 + x := by
  unfold fig
  split <;> (rw [UInt8.toNat_ofNat']; omega)

/-- Two figures for each byte, the higher half first. -/
def hexOf (l : List UInt8) : List UInt8 := l.flatMap fun c => [fig (c.toNat / 16), fig (c.toNat % 16)]

theorem hexOf_length (l : List UInt8) : (hexOf l).length = 2 * l.length := by
  induction l with
  | nil => rfl
  | cons c l ih => simp only [hexOf, List.flatMap_cons, List.length_append, List.length_cons, List.length_nil] at ih ⊢; omega

theorem hexOf_take {l : List UInt8} {k : Nat} (h : k < l.length) : hexOf (l.take (k + 1)) = hexOf (l.take k) ++ [fig (l[k].toNat / 16), fig (l[k].toNat % 16)] := by
  rw [List.take_succ_eq_append_getElem h, hexOf, List.flatMap_append]
  rfl

/-- The figure as it stands in the sixteen figures. -/
theorem figure_at : ∀ x, x < 16 → (⟨#[48, 49, 50, 51, 52, 53, 54, 55, 56, 57, 97, 98, 99, 100, 101, 102]⟩ : ByteArray)[x]? = some (fig x) := by
  decide +kernel

end Go.Proofs.Ytichbcpidkkblaa

/- Plain facts on the values of figures, with no program in them. -/
namespace Go.Proofs.Ytichbcpidkkblaa

/-- The value of a figure of a base (16: a to f too). -/
def digV (sixteen : Bool) (c : UInt8) : Option Nat :=
  if 48 ≤ c.toNat ∧ c.toNat ≤ 57 then some (c.toNat - 48) else if sixteen = true ∧ 97 ≤ c.toNat ∧ c.toNat ≤ 102 then some (c.toNat - 87) else none

/-- The values of the figures of a text, as far as they are figures. -/
def valsOf (x : Bool) : List UInt8 → List UInt8
  | [] => []
  | c :: cs => match digV x c with
    | some v => UInt8.ofNat v :: valsOf x cs
    | none => []

theorem digV_lt {x : Bool} {c : UInt8} {v : Nat} (h : digV x c = some v) : v < 16 := by
  unfold digV at h
  split at h
  · simp at h; omega
  · split at h
    · simp at h; omega
    · simp at h

theorem valsOf_le (x : Bool) (l : List UInt8) : (valsOf x l).length ≤ l.length := by
  induction l with
  | nil => simp [valsOf]
  | cons c cs ih =>
    unfold valsOf
    split
    · simp; exact ih
    · simp

theorem valsOf_none {x : Bool} : ∀ {l : List UInt8} {k : Nat}, k ≤ (valsOf x l).length → (h : k < l.length) → digV x l[k] = none → (valsOf x l).length = k := by
  intro l
  induction l with
  | nil => intro k _ h; simp at h
  | cons c cs ih =>
    intro k hk h hd
    cases hv : digV x c with
    | none =>
      simp only [valsOf, hv, List.length_nil] at hk ⊢
      omega
    | some v =>
      simp only [valsOf, hv, List.length_cons] at hk ⊢
      cases k with
      | zero => simp [hv] at hd
      | succ k =>
        have := ih (k := k) (by omega) (by simpa using h) (by simpa using hd)
        omega

theorem valsOf_some {x : Bool} : ∀ {l : List UInt8} {k v : Nat}, k ≤ (valsOf x l).length → (h : k < l.length) → digV x l[k] = some v → (valsOf x l)[k]? = some (UInt8.ofNat v) := by
  intro l
  induction l with
  | nil => intro k _ _ h; simp at h
  | cons c cs ih =>
    intro k w hk h hd
    cases hv : digV x c with
    | none =>
      simp only [valsOf, hv, List.length_nil] at hk
      obtain rfl : k = 0 := by omega
      simp [hv] at hd
    | some v =>
      simp only [valsOf, hv, List.length_cons] at hk ⊢
      cases k with
      | zero => simp [hv] at hd; simp [hd]
      | succ k =>
        have := ih (k := k) (v := w) (by omega) (by simpa using h) (by simpa using hd)
        simpa using this

theorem valsOf_lt16 {x : Bool} : ∀ {l : List UInt8} {c : UInt8}, c ∈ valsOf x l → c.toNat < 16 := by
  intro l
  induction l with
  | nil => intro c h; simp [valsOf] at h
  | cons a cs ih =>
    intro c h
    unfold valsOf at h
    split at h
    · rename_i v hv
      rcases List.mem_cons.1 h with rfl | h
      · have := digV_lt hv
        rw [UInt8.toNat_ofNat']; omega
      · exact ih h
    · simp at h

theorem take_next {l : List UInt8} {k : Nat} {v : UInt8} (h : l[k]? = some v) : l.take (k + 1) = l.take k ++ [v] := by
  rw [List.take_add_one, h]; rfl

/-- Two values to a byte. -/
def pairsOf : List UInt8 → List UInt8
  | a :: b :: r => UInt8.ofNat (16 * a.toNat + b.toNat) :: pairsOf r
  | _ => []

theorem pairsOf_append : ∀ (j : Nat) (l : List UInt8) (a b : UInt8), l.length = 2 * j → pairsOf (l ++ [a, b]) = pairsOf l ++ [UInt8.ofNat (16 * a.toNat + b.toNat)] := by
  intro j
  induction j with
  | zero => intro l a b h; obtain rfl := List.length_eq_zero_iff.1 h; rfl
  | succ j ih =>
    intro l a b h
    match l, h with
    | x :: y :: r, h =>
      have := ih r a b (by simp at h; omega)
      simp only [List.cons_append, pairsOf, this]

theorem pairsOf_length : ∀ (j : Nat) (l : List UInt8), l.length = 2 * j → (pairsOf l).length = j := by
  intro j
  induction j with
  | zero => intro l h; obtain rfl := List.length_eq_zero_iff.1 h; rfl
  | succ j ih =>
    intro l h
    match l, h with
    | x :: y :: r, h =>
      have := ih r (by simp at h; omega)
      simp only [pairsOf, List.length_cons, this]

theorem pairs_next {l : List UInt8} {j : Nat} {a b : UInt8} (h1 : l[2 * j]? = some a) (h2 : l[2 * j + 1]? = some b) :
    pairsOf (l.take (2 * (j + 1))) = pairsOf (l.take (2 * j)) ++ [UInt8.ofNat (16 * a.toNat + b.toNat)] := by
  have hl : 2 * j + 1 < l.length := (List.getElem?_eq_some_iff.1 h2).1
  rw [show 2 * (j + 1) = 2 * j + 1 + 1 by omega, take_next h2, take_next h1, List.append_assoc]
  exact pairsOf_append j _ _ _ (by simp; omega)

theorem pair_toNat {a b : Nat} (ha : a < 16) (hb : b < 16) : (UInt8.ofNat (16 * a + b)).toNat = 16 * a + b := by
  rw [UInt8.toNat_ofNat']; omega

theorem shl_or (a b : Nat) (ha : a < 16) (hb : b < 16) : bits .or .u8 ((a : Int) * 16) (b : Int) = ((16 * a + b : Nat) : Int) := by
  have e : (a : Int) * 16 = ((16 * a : Nat) : Int) := by omega
  rw [e, u8_or_nat (16 * a) b (by omega) (by omega)]
  have := Nat.shiftLeft_add_eq_or_of_lt (i := 4) (b := b) (by omega) a
  rw [Nat.shiftLeft_eq, show a * 2 ^ 4 = 16 * a by omega] at this
  rw [this]

/-- The value of a figure as a number, -1 of what is none. -/
def valN (c : Nat) : Int := if 48 ≤ c ∧ c ≤ 57 then (c : Int) - 48 else if 97 ≤ c ∧ c ≤ 102 then (c : Int) - 87 else -1

theorem valN_some {c : UInt8} {v : Nat} (h : digV true c = some v) : valN c.toNat = (v : Int) := by
  unfold digV at h
  unfold valN
  split at h
  · rename_i h1
    simp at h
    rw [if_pos h1]; omega
  · rename_i h1
    split at h
    · rename_i h2
      simp at h
      rw [if_neg h1, if_pos h2.2]; omega
    · simp at h

theorem valN_none {c : UInt8} (h : digV true c = none) : valN c.toNat = -1 := by
  unfold digV at h
  unfold valN
  split at h
  · simp at h
  · rename_i h1
    split at h
    · simp at h
    · rename_i h2
      rw [if_neg h1, if_neg (fun h3 => h2 ⟨rfl, h3⟩)]

/-- Whether a text is the figures of some bytes. -/
abbrev isHex (l : List UInt8) : Prop := l.length ≤ 40000 ∧ l.length % 2 = 0 ∧ (valsOf true l).length = l.length

theorem digV_dec {x : Bool} {c : UInt8} (h1 : 48 ≤ c.toNat) (h2 : c.toNat ≤ 57) : digV x c = some (c.toNat - 48) := by rw [digV, if_pos ⟨h1, h2⟩]
theorem digV_hex {c : UInt8} (h1 : 97 ≤ c.toNat) (h2 : c.toNat ≤ 102) : digV true c = some (c.toNat - 87) := by
  rw [digV, if_neg (by omega), if_pos ⟨rfl, h1, h2⟩]
theorem digV_bad {x : Bool} {c : UInt8} (h1 : ¬ (48 ≤ c.toNat ∧ c.toNat ≤ 57)) (h2 : ¬ (x = true ∧ 97 ≤ c.toNat ∧ c.toNat ≤ 102)) : digV x c = none := by
  rw [digV, if_neg h1, if_neg h2]

end Go.Proofs.Ytichbcpidkkblaa

/- Plain facts on decimal figures, with no program in them. -/
namespace Go.Proofs.Ytichbcpidkkblaa

def figD (x : Nat) : UInt8 := UInt8.ofNat (48 + x)
theorem figD_toNat {x : Nat} (h : x < 10) : (figD x).toNat = 48 + x := by
  rw [figD, UInt8.toNat_ofNat']; omega

/-- The figures of a number that is not 0; nothing of 0. -/
def digsF : Nat → Nat → List UInt8
  | 0, _ => []
  | f + 1, n => if n = 0 then [] else digsF f (n / 10) ++ [figD (n % 10)]
def digs (n : Nat) : List UInt8 := digsF n n
/-- The figures of a number. -/
def dec (n : Nat) : List UInt8 := if n = 0 then [48] else digs n

theorem digsF_more : ∀ (f g n : Nat), n ≤ f → n ≤ g → digsF f n = digsF g n := by
  intro f
  induction f with
  | zero => intro g n hf hg; obtain rfl : n = 0 := by omega
            cases g <;> simp [digsF]
  | succ f ih =>
    intro g n hf hg
    cases g with
    | zero => obtain rfl : n = 0 := by omega
              simp [digsF]
    | succ g =>
      simp only [digsF]
      split
      · rfl
      · rw [ih g (n / 10) (by omega) (by omega)]

theorem digs_zero : digs 0 = [] := rfl
theorem digs_step {n : Nat} (h : n ≠ 0) : digs n = digs (n / 10) ++ [figD (n % 10)] := by
  unfold digs
  cases n with
  | zero => omega
  | succ n => rw [digsF, if_neg h, digsF_more n ((n + 1) / 10) ((n + 1) / 10) (by omega) (Nat.le_refl _)]

theorem digsF_len : ∀ (f n : Nat), (digsF f n).length ≤ f := by
  intro f
  induction f with
  | zero => intro n; simp [digsF]
  | succ f ih =>
    intro n
    simp only [digsF]
    split
    · simp
    · have := ih (n / 10); simp; omega
theorem digs_len (n : Nat) : (digs n).length ≤ n := digsF_len n n

theorem digs_push {m n : Nat} {acc : List UInt8} (h : digs m ++ acc = digs n) (hm : m ≠ 0) : digs (m / 10) ++ (figD (m % 10) :: acc) = digs n := by
  rw [← h, digs_step hm]; simp

/-- The number that figures tell. -/
def val (l : List UInt8) : Nat := l.foldl (fun a c => 10 * a + (c.toNat - 48)) 0
theorem val_snoc (l : List UInt8) (c : UInt8) : val (l ++ [c]) = 10 * val l + (c.toNat - 48) := by simp [val]
theorem val_nil : val [] = 0 := rfl

def allDig (l : List UInt8) : Prop := ∀ c ∈ l, 48 ≤ c.toNat ∧ c.toNat ≤ 57

theorem val_lt : ∀ (n : Nat) (l : List UInt8), l.length = n → allDig l → val l < 10 ^ n := by
  intro n
  induction n with
  | zero => intro l h _; obtain rfl := List.length_eq_zero_iff.1 h; simp [val]
  | succ n ih =>
    intro l h ha
    rcases List.eq_nil_or_concat l with rfl | ⟨init, c, rfl⟩
    · simp at h
    · have h1 := ih init (by simp at h; omega) (fun x hx => ha x (by simp [hx]))
      have h2 := ha c (by simp)
      rw [List.concat_eq_append, val_snoc, Nat.pow_succ]
      omega

theorem figD_back {c : UInt8} (h : 48 ≤ c.toNat ∧ c.toNat ≤ 57) : figD (c.toNat - 48) = c := by
  apply UInt8.toNat_inj.1
  rw [figD_toNat (by omega)]; omega

theorem digs_val : ∀ (n : Nat) (l : List UInt8), l.length = n → allDig l → l ≠ [] → l.head? ≠ some 48 → digs (val l) = l ∧ 0 < val l := by
  intro n
  induction n with
  | zero => intro l h _ hne; exact absurd (List.length_eq_zero_iff.1 h) hne
  | succ n ih =>
    intro l h ha hne hh
    rcases List.eq_nil_or_concat l with rfl | ⟨init, c, rfl⟩
    · exact absurd rfl hne
    · rw [List.concat_eq_append] at *
      have hc := ha c (by simp)
      rw [val_snoc]
      by_cases hi : init = []
      · subst hi
        have h48 : c.toNat ≠ 48 := by
          intro e
          apply hh
          simp
          apply UInt8.toNat_inj.1
          rw [e]; rfl
        rw [val_nil]
        have hp : 10 * 0 + (c.toNat - 48) ≠ 0 := by omega
        refine ⟨?_, by omega⟩
        rw [digs_step hp, show (10 * 0 + (c.toNat - 48)) / 10 = 0 by omega, digs_zero, show (10 * 0 + (c.toNat - 48)) % 10 = c.toNat - 48 by omega, figD_back hc]
      · have hh2 : init.head? ≠ some 48 := by
          intro e
          apply hh
          rw [List.head?_append, e]; rfl
        obtain ⟨h1, h2⟩ := ih init (by simp at h; omega) (fun x hx => ha x (by simp [hx])) hi hh2
        refine ⟨?_, by omega⟩
        rw [digs_step (by omega), show (10 * val init + (c.toNat - 48)) / 10 = val init by omega, h1, show (10 * val init + (c.toNat - 48)) % 10 = c.toNat - 48 by omega, figD_back hc]

theorem digs_head : ∀ (n m : Nat), m ≤ n → m ≠ 0 → (digs m).head? ≠ some 48 ∧ digs m ≠ [] := by
  intro n
  induction n with
  | zero => intro m h1 h2; omega
  | succ n ih =>
    intro m h1 h2
    rw [digs_step h2]
    by_cases h3 : m / 10 = 0
    · rw [h3, digs_zero]
      refine ⟨?_, by simp⟩
      intro e
      simp at e
      have := congrArg UInt8.toNat e
      rw [figD_toNat (by omega)] at this
      have h48 : (48 : UInt8).toNat = 48 := rfl
      omega
    · obtain ⟨a1, a2⟩ := ih (m / 10) (by omega) h3
      refine ⟨?_, by simp⟩
      cases hd : digs (m / 10) with
      | nil => exact absurd hd a2
      | cons x xs => rw [hd] at a1; simpa using a1

/-- A text of figures is the figures of its number, just when it opens with no needless nought. -/
theorem dec_val {l : List UInt8} (ha : allDig l) (hne : l ≠ []) : dec (val l) = l ↔ (l.head? ≠ some 48 ∨ l.length = 1) := by
  constructor
  · intro h
    by_cases hz : val l = 0
    · rw [dec, if_pos hz] at h
      right; rw [← h]; rfl
    · left
      rw [dec, if_neg hz] at h
      have := (digs_head _ _ (Nat.le_refl _) hz).1
      rw [h] at this
      exact this
  · intro h
    by_cases hh : l.head? = some 48
    · rcases h with h | h
      · exact absurd hh h
      · match l, h, hh with
        | [c], _, hh => simp at hh; subst hh; rfl
    · obtain ⟨h1, h2⟩ := digs_val _ l rfl ha hne hh
      rw [dec, if_neg (by omega), h1]

theorem dec_nil : dec (val []) ≠ [] := by decide

theorem digs_len_half : ∀ (n m : Nat), m ≤ n → (digs m).length ≤ m / 2 + 1 := by
  intro n
  induction n with
  | zero => intro m h; obtain rfl : m = 0 := by omega
            simp [digs_zero]
  | succ n ih =>
    intro m h
    by_cases h0 : m = 0
    · subst h0; simp [digs_zero]
    · rw [digs_step h0]
      by_cases h1 : m / 10 = 0
      · rw [h1, digs_zero]; simp
      · have := ih (m / 10) (by omega)
        simp; omega

theorem digs_len_half2 (n : Nat) : (digs n).length ≤ n / 2 + 1 := digs_len_half n n (Nat.le_refl _)

end Go.Proofs.Ytichbcpidkkblaa

/- Plain facts, with no program in them: what is written is read back. -/
namespace Go.Proofs.Ytichbcpidkkblaa

theorem rg_vt : ∀ (f n i m : Nat) (rest : List UInt8), n < 128 ^ (f + 1) → rg (f + 1) (vt n ++ rest) i m = some (m + n * 128 ^ i, i + (vt n).length) := by
  intro f
  induction f with
  | zero =>
    intro n i m rest h
    have hn : n ≤ 127 := by simpa using Nat.le_of_lt_succ h
    rw [vt_small hn]
    simp only [List.cons_append, List.nil_append, rg, loByte_toNat (show n < 256 by omega)]
    rw [if_pos (by omega), Nat.mod_eq_of_lt (by omega)]
    rfl
  | succ f ih =>
    intro n i m rest h
    by_cases hn : n ≤ 127
    · rw [vt_small hn]
      simp only [List.cons_append, List.nil_append, rg, loByte_toNat (show n < 256 by omega)]
      rw [if_pos (by omega), Nat.mod_eq_of_lt (by omega)]
      rfl
    · rw [vt_big (by omega), List.cons_append, rg, hiByte_toNat, if_neg (by omega), ih (n / 128) _ _ _ (by rw [Nat.pow_succ] at h; omega)]
      have e1 : (n % 128 + 128) % 128 = n % 128 := by omega
      have e2 : n / 128 * 128 ^ (i + 1) = n / 128 * 128 * 128 ^ i := by rw [Nat.pow_succ, Nat.mul_comm (128 ^ i) 128, Nat.mul_assoc]
      have e3 : n * 128 ^ i = n % 128 * 128 ^ i + n / 128 * 128 * 128 ^ i := by
        rw [← Nat.add_mul]; congr 1; omega
      rw [e1, e2, e3]
      simp only [Option.some.injEq, Prod.mk.injEq, List.length_cons]
      omega

/-- A number's bytes behind others, and ahead of others, are read. -/
theorem rv_back (pre rest : List UInt8) (n : Nat) (h : n ≤ 1000000000) : rv (pre ++ (vt n ++ rest)) pre.length = some (n, pre.length + (vt n).length) := by
  have hd : (pre ++ (vt n ++ rest)).drop pre.length = vt n ++ rest := by simp
  have hr : rg 5 ((pre ++ (vt n ++ rest)).drop pre.length) 0 0 = some (n, (vt n).length) := by
    rw [hd, rg_vt 4 n 0 0 rest (by omega)]
    simp
  refine rv_yes hr h ?_
  rw [hd]
  simp

theorem val_digs : ∀ (n m : Nat), m ≤ n → val (digs m) = m := by
  intro n
  induction n with
  | zero => intro m h; obtain rfl : m = 0 := by omega
            rfl
  | succ n ih =>
    intro m h
    by_cases h0 : m = 0
    · subst h0; rfl
    · rw [digs_step h0, val_snoc, ih (m / 10) (by omega), figD_toNat (by omega)]
      omega

theorem allDig_digs : ∀ (n m : Nat), m ≤ n → allDig (digs m) := by
  intro n
  induction n with
  | zero => intro m h c hc; obtain rfl : m = 0 := by omega
            simp [digs_zero] at hc
  | succ n ih =>
    intro m h
    by_cases h0 : m = 0
    · subst h0; intro c hc; simp [digs_zero] at hc
    · rw [digs_step h0]
      intro c hc
      rcases List.mem_append.1 hc with h1 | h1
      · exact ih (m / 10) (by omega) c h1
      · simp at h1
        subst h1
        rw [figD_toNat (by omega)]
        omega

theorem digs_short : ∀ (k m : Nat), m < 10 ^ k → (digs m).length ≤ k := by
  intro k
  induction k with
  | zero => intro m h; obtain rfl : m = 0 := by simpa using h
            simp [digs_zero]
  | succ k ih =>
    intro m h
    by_cases h0 : m = 0
    · subst h0; simp [digs_zero]
    · rw [digs_step h0]
      have := ih (m / 10) (by rw [Nat.pow_succ] at h; omega)
      simp
      exact this

/-- The figures of a number tell it. -/
theorem dec_back (n : Nat) (h : n ≤ 1000000000) : (dec n).length ≤ 10 ∧ allDig (dec n) ∧ val (dec n) = n := by
  by_cases h0 : n = 0
  · subst h0
    refine ⟨by decide, ?_, by decide⟩
    intro c hc
    have : dec 0 = [48] := rfl
    rw [this] at hc
    simp at hc
    subst hc
    decide
  · rw [dec, if_neg h0]
    exact ⟨digs_short 10 n (by omega), allDig_digs n n (Nat.le_refl _), val_digs n n (Nat.le_refl _)⟩

theorem digV_fig : ∀ x, x < 16 → digV true (fig x) = some x := by decide +kernel

theorem valsOf_hex : ∀ l : List UInt8, valsOf true (hexOf l) = l.flatMap fun c => [UInt8.ofNat (c.toNat / 16), UInt8.ofNat (c.toNat % 16)] := by
  intro l
  induction l with
  | nil => rfl
  | cons c l ih =>
    have hc : c.toNat < 256 := UInt8.toNat_lt _
    have e : hexOf (c :: l) = fig (c.toNat / 16) :: fig (c.toNat % 16) :: hexOf l := rfl
    rw [e, valsOf, digV_fig _ (by omega)]
    simp only
    rw [valsOf, digV_fig _ (by omega)]
    simp only [List.flatMap_cons, List.cons_append, List.nil_append, ih]

theorem pairs_hex : ∀ l : List UInt8, pairsOf (l.flatMap fun c => [UInt8.ofNat (c.toNat / 16), UInt8.ofNat (c.toNat % 16)]) = l := by
  intro l
  induction l with
  | nil => rfl
  | cons c l ih =>
    have hc : c.toNat < 256 := UInt8.toNat_lt _
    simp only [List.flatMap_cons, List.cons_append, List.nil_append, pairsOf, ih]
    congr 1
    apply UInt8.toNat_inj.1
    rw [UInt8.toNat_ofNat', UInt8.toNat_ofNat', UInt8.toNat_ofNat']
    omega

/-- Figures written are read back. -/
theorem hex_back (l : List UInt8) (h : l.length ≤ 20000) : isHex (hexOf l) ∧ pairsOf (valsOf true (hexOf l)) = l := by
  have h1 := hexOf_length l
  have h2 : (valsOf true (hexOf l)).length = (hexOf l).length := by
    rw [valsOf_hex, h1]
    clear h h1
    induction l with
    | nil => rfl
    | cons c l ih => simp only [List.flatMap_cons, List.length_append, List.length_cons, List.length_nil]; omega
  exact ⟨⟨by omega, by omega, h2⟩, by rw [valsOf_hex, pairs_hex]⟩

end Go.Proofs.Ytichbcpidkkblaa

/- Plain facts on records: what is right, their texts, and that they come back from them. -/
namespace Go.Proofs.Ytichbcpidkkblaa

/-- A record. -/
structure Rc where
  kind : Int
  valid : Int
  uid : Int
  next : Int
  flags : Int
  user : ByteArray
  name : ByteArray
  text : ByteArray

/-- A word: 1 to 8 letters. -/
def wdOk (s : ByteArray) : Prop := (1 ≤ s.size ∧ s.size ≤ 8) ∧ ∀ b ∈ s.data.toList, 97 ≤ b.toNat ∧ b.toNat ≤ 122
instance decWdOk (s : ByteArray) : Decidable (wdOk s) := by unfold wdOk; infer_instance

def emp : ByteArray := ⟨#[]⟩

/-- A right record. -/
def Rc.ok (r : Rc) : Prop := (1 ≤ r.kind ∧ r.kind ≤ 5) ∧ (1 ≤ r.valid ∧ r.valid ≤ 9999) ∧
  (if r.kind = 1 then wdOk r.user ∧ wdOk r.name ∧ 1 ≤ r.next ∧ r.next ≤ 10000 else r.user = emp ∧ r.name = emp ∧ r.next = 0) ∧
  (if 3 ≤ r.kind then 1 ≤ r.uid ∧ r.uid ≤ 9999 else r.uid = 0) ∧
  (if r.kind = 3 ∨ r.kind = 4 then 0 ≤ r.flags ∧ r.flags ≤ 7 else r.flags = 0) ∧
  (if r.kind = 3 then r.text.size ≤ 100 else r.text = emp)
instance decRcOk (r : Rc) : Decidable r.ok := by unfold Rc.ok; infer_instance

/-- The bytes of a record's text. -/
def Rc.tl (r : Rc) : List UInt8 := UInt8.ofNat r.kind.toNat :: (vt r.valid.toNat ++ (vt r.uid.toNat ++ (vt r.next.toNat ++ (vt r.flags.toNat ++ ((vt r.user.size ++ r.user.data.toList) ++ ((vt r.name.size ++ r.name.data.toList) ++ (vt r.text.size ++ r.text.data.toList)))))))
def Rc.tx (r : Rc) : ByteArray := ⟨r.tl.toArray⟩
theorem Rc.tx_list (r : Rc) : r.tx.data.toList = r.tl := by simp [Rc.tx]

/-- What is right has small numbers and short texts. -/
theorem Rc.ok_small {r : Rc} (h : r.ok) : (1 ≤ r.kind ∧ r.kind ≤ 5) ∧ (0 ≤ r.valid ∧ r.valid ≤ 9999) ∧ (0 ≤ r.uid ∧ r.uid ≤ 9999) ∧ (0 ≤ r.next ∧ r.next ≤ 10000) ∧ (0 ≤ r.flags ∧ r.flags ≤ 7) ∧ r.user.size ≤ 8 ∧ r.name.size ≤ 8 ∧ r.text.size ≤ 100 := by
  obtain ⟨h1, h2, h3, h4, h5, h6⟩ := h
  have he : emp.size = 0 := rfl
  have a3 : (0 ≤ r.next ∧ r.next ≤ 10000) ∧ r.user.size ≤ 8 ∧ r.name.size ≤ 8 := by
    split at h3
    · exact ⟨by omega, h3.1.1.2, h3.2.1.1.2⟩
    · rw [h3.1, h3.2.1, he]; omega
  have a4 : 0 ≤ r.uid ∧ r.uid ≤ 9999 := by split at h4 <;> omega
  have a5 : 0 ≤ r.flags ∧ r.flags ≤ 7 := by split at h5 <;> omega
  have a6 : r.text.size ≤ 100 := by
    split at h6
    · exact h6
    · rw [h6, he]; omega
  exact ⟨h1, by omega, a4, a3.1, a5, a3.2.1, a3.2.2, a6⟩

theorem tl_len (s : ByteArray) : s.data.toList.length = s.size := by rw [Array.length_toList]; rfl

theorem vt_two' {n : Nat} (h : n ≤ 10000) : (vt n).length ≤ 2 := vt_short 1 n (by omega)
theorem Rc.tl_le {r : Rc} (h : r.ok) : r.tl.length ≤ 131 ∧ 1 ≤ r.tl.length := by
  obtain ⟨_, h2, h3, h4, h5, h6, h7, h8⟩ := r.ok_small h
  have a1 := vt_two' (n := r.valid.toNat) (by omega)
  have a2 := vt_two' (n := r.uid.toNat) (by omega)
  have a3 := vt_two' (n := r.next.toNat) (by omega)
  have a4 := vt_two' (n := r.flags.toNat) (by omega)
  have a5 := vt_two' (n := r.user.size) (by omega)
  have a6 := vt_two' (n := r.name.size) (by omega)
  have a7 := vt_two' (n := r.text.size) (by omega)
  unfold Rc.tl
  simp only [List.length_cons, List.length_append, tl_len]
  omega
theorem Rc.tx_le {r : Rc} (h : r.ok) : r.tx.size ≤ 131 ∧ 1 ≤ r.tx.size := by
  have := r.tl_le h
  have e : r.tx.size = r.tl.length := by rw [← tl_len, r.tx_list]
  rw [e]; exact this

/-- A short text read. -/
def rsO (s : ByteArray) (k : Nat) : Option (ByteArray × Nat) :=
  match rv s.data.toList k with
  | some (n, b) => if n ≤ 20000 ∧ n + b ≤ s.size then some (s.extract b (b + n), b + n) else none
  | none => none

/-- A record's fields read, one behind the other. -/
def prs (t : ByteArray) : Option Rc :=
  match t.data.toList with
  | [] => none
  | k :: _ => match rv t.data.toList 1 with
    | none => none
    | some (v, a) => match rv t.data.toList a with
      | none => none
      | some (u, b) => match rv t.data.toList b with
        | none => none
        | some (n, c) => match rv t.data.toList c with
          | none => none
          | some (f, d) => match rsO t d with
            | none => none
            | some (x, e) => match rsO t e with
              | none => none
              | some (y, g) => match rsO t g with
                | none => none
                | some (z, _) => some ⟨k.toNat, v, u, n, f, x, y, z⟩

/-- The right record whose text this is. -/
def rrO (t : ByteArray) : Option Rc := match prs t with
  | some r => if r.ok ∧ r.tx = t then some r else none
  | none => none

theorem rrO_some {t : ByteArray} {r : Rc} (h : rrO t = some r) : r.ok ∧ r.tx = t := by
  unfold rrO at h
  split at h
  · split at h
    · rename_i hc; cases h; exact hc
    · cases h
  · cases h

theorem ext_mid (pre l rest : List UInt8) : (⟨(pre ++ (l ++ rest)).toArray⟩ : ByteArray).extract pre.length (pre.length + l.length) = ⟨l.toArray⟩ := by
  obtain ⟨x, hx⟩ : ∃ x : ByteArray, x = (⟨(pre ++ (l ++ rest)).toArray⟩ : ByteArray).extract pre.length (pre.length + l.length) := ⟨_, rfl⟩
  have : x.data.toList = l := by
    rw [hx, ByteArray.data_extract, Array.toList_extract, List.extract_eq_take_drop]
    simp
  rw [← hx]
  obtain ⟨⟨y⟩⟩ := x
  simp at this
  rw [this]

/-- A short text that was written is read. -/
theorem rsO_back (pre rest : List UInt8) (s : ByteArray) (h : s.size ≤ 20000) : rsO ⟨(pre ++ ((vt s.size ++ s.data.toList) ++ rest)).toArray⟩ pre.length = some (s, pre.length + (vt s.size).length + s.size) := by
  have e0 : (⟨(pre ++ ((vt s.size ++ s.data.toList) ++ rest)).toArray⟩ : ByteArray).data.toList = pre ++ (vt s.size ++ (s.data.toList ++ rest)) := by simp
  have e1 := rv_back pre (s.data.toList ++ rest) s.size (by omega)
  unfold rsO
  rw [e0, e1]
  have hz : (⟨(pre ++ ((vt s.size ++ s.data.toList) ++ rest)).toArray⟩ : ByteArray).size = pre.length + (vt s.size).length + s.size + rest.length := by
    rw [← tl_len, e0]
    simp; omega
  simp only [hz]
  rw [if_pos ⟨h, by omega⟩]
  have e2 := ext_mid (pre ++ vt s.size) s.data.toList rest
  rw [List.length_append, tl_len] at e2
  have e3 : (pre ++ ((vt s.size ++ s.data.toList) ++ rest)) = (pre ++ vt s.size ++ (s.data.toList ++ rest)) := by simp
  rw [e3, e2]

theorem rv_at {L pre rest : List UInt8} {n p : Nat} (hL : L = pre ++ (vt n ++ rest)) (hp : p = pre.length) (hn : n ≤ 1000000000) : rv L p = some (n, p + (vt n).length) := by
  rw [hL, hp]; exact rv_back pre rest n hn
theorem rs_at {t s : ByteArray} {pre rest : List UInt8} {p : Nat} (hL : t.data.toList = pre ++ ((vt s.size ++ s.data.toList) ++ rest)) (hp : p = pre.length) (hn : s.size ≤ 20000) : rsO t p = some (s, p + (vt s.size).length + s.size) := by
  have e : t = ⟨(pre ++ ((vt s.size ++ s.data.toList) ++ rest)).toArray⟩ := by
    obtain ⟨⟨l⟩⟩ := t
    simp only at hL
    rw [hL]
  rw [e, hp]; exact rsO_back pre rest s hn

/-- A right record comes back from its text. -/
theorem prs_back {r : Rc} (h : r.ok) : prs r.tx = some r := by
  obtain ⟨h1, h2, h3, h4, h5, h6, h7, h8⟩ := r.ok_small h
  obtain ⟨kind, valid, uid, next, flags, user, name, text⟩ := r
  simp only at h1 h2 h3 h4 h5 h6 h7 h8
  obtain ⟨V, rfl⟩ := Int.eq_ofNat_of_zero_le h2.1
  obtain ⟨U, rfl⟩ := Int.eq_ofNat_of_zero_le h3.1
  obtain ⟨N, rfl⟩ := Int.eq_ofNat_of_zero_le h4.1
  obtain ⟨F, rfl⟩ := Int.eq_ofNat_of_zero_le h5.1
  obtain ⟨K, rfl⟩ := Int.eq_ofNat_of_zero_le (show 0 ≤ kind by omega)
  have hk : (UInt8.ofNat K).toNat = K := by
    rw [show (UInt8.ofNat K).toNat = K % 256 from rfl]; omega
  obtain ⟨t, ht⟩ : ∃ t, Rc.tx ⟨K, V, U, N, F, user, name, text⟩ = t := ⟨_, rfl⟩
  obtain ⟨L, hL⟩ : ∃ L, t.data.toList = L := ⟨_, rfl⟩
  have hLL : L = UInt8.ofNat K :: (vt V ++ (vt U ++ (vt N ++ (vt F ++ ((vt user.size ++ user.data.toList) ++ ((vt name.size ++ name.data.toList) ++ (vt text.size ++ text.data.toList))))))) := by
    rw [← hL, ← ht, Rc.tx_list]; rfl
  rw [ht]
  have s1 : rv L 1 = _ := rv_at (pre := [UInt8.ofNat K]) (n := V) (by rw [hLL]; rfl) rfl (by omega)
  have s2 : rv L (1 + (vt V).length) = _ := rv_at (pre := [UInt8.ofNat K] ++ vt V) (n := U) (by rw [hLL]; simp only [List.append_assoc]; rfl) (by simp; omega) (by omega)
  have s3 : rv L (1 + (vt V).length + (vt U).length) = _ := rv_at (pre := [UInt8.ofNat K] ++ vt V ++ vt U) (n := N) (by rw [hLL]; simp only [List.append_assoc]; rfl) (by simp; omega) (by omega)
  have s4 : rv L (1 + (vt V).length + (vt U).length + (vt N).length) = _ := rv_at (pre := [UInt8.ofNat K] ++ vt V ++ vt U ++ vt N) (n := F) (by rw [hLL]; simp only [List.append_assoc]; rfl) (by simp; omega) (by omega)
  have s5 : rsO t (1 + (vt V).length + (vt U).length + (vt N).length + (vt F).length) = _ := rs_at (pre := [UInt8.ofNat K] ++ vt V ++ vt U ++ vt N ++ vt F) (s := user) (by rw [hL, hLL]; simp only [List.append_assoc]; rfl) (by simp; omega) (by omega)
  have s6 : rsO t (1 + (vt V).length + (vt U).length + (vt N).length + (vt F).length + (vt user.size).length + user.size) = _ := rs_at (pre := [UInt8.ofNat K] ++ vt V ++ vt U ++ vt N ++ vt F ++ (vt user.size ++ user.data.toList)) (s := name) (by rw [hL, hLL]; simp only [List.append_assoc]; rfl) (by simp; omega) (by omega)
  have s7 : rsO t (1 + (vt V).length + (vt U).length + (vt N).length + (vt F).length + (vt user.size).length + user.size + (vt name.size).length + name.size) = _ := rs_at (pre := [UInt8.ofNat K] ++ vt V ++ vt U ++ vt N ++ vt F ++ (vt user.size ++ user.data.toList) ++ (vt name.size ++ name.data.toList)) (s := text) (rest := []) (by rw [hL, hLL]; simp only [List.append_assoc, List.append_nil]; rfl) (by simp; omega) (by omega)
  unfold prs
  rw [hL]
  rw [hLL] at s1 s2 s3 s4 ⊢
  simp only [s1, s2, s3, s4, s5, s6, s7, hk]

theorem rrO_back {r : Rc} (h : r.ok) : rrO r.tx = some r := by
  unfold rrO
  rw [prs_back h]
  exact if_pos ⟨h, rfl⟩

/-- Nothing else is read of a text than the right record whose text it is. -/
theorem rrO_none {t : ByteArray} (h : rrO t = none) (r : Rc) (hr : r.ok) : r.tx ≠ t := fun e => by rw [← e, rrO_back hr] at h; cases h

end Go.Proofs.Ytichbcpidkkblaa

/- Records: what the model's WordOk, RecOk, RecText hand back. -/
namespace Go.Proofs.Ytichbcpidkkblaa
open Go.RowKit

/-- A record as a value. -/
def Rc.v (r : Rc) : Value := .agg #[.int .i64 r.kind, .int .i64 r.valid, .int .i64 r.uid, .int .i64 r.next, .int .i64 r.flags, .string r.user, .string r.name, .string r.text]
/-- Its cells. -/
def Rc.cs (r : Rc) : Array Value := #[.int .i64 r.kind, .int .i64 r.valid, .int .i64 r.uid, .int .i64 r.next, .int .i64 r.flags, .string r.user, .string r.name, .string r.text]

/-- The eight cells of a record's box. -/
theorem Box.rec {w : World} {b : Nat} {r : Rc} {t : TypeId} (h : Box w b r.cs t) : w.cell? ⟨b, 0, none⟩ = some (.int .i64 r.kind) ∧ w.cell? ⟨b, 1, none⟩ = some (.int .i64 r.valid) ∧ w.cell? ⟨b, 2, none⟩ = some (.int .i64 r.uid) ∧ w.cell? ⟨b, 3, none⟩ = some (.int .i64 r.next) ∧ w.cell? ⟨b, 4, none⟩ = some (.int .i64 r.flags) ∧ w.cell? ⟨b, 5, none⟩ = some (.string r.user) ∧ w.cell? ⟨b, 6, none⟩ = some (.string r.name) ∧ w.cell? ⟨b, 7, none⟩ = some (.string r.text) :=
  ⟨h.cell 0 _ rfl, h.cell 1 _ rfl, h.cell 2 _ rfl, h.cell 3 _ rfl, h.cell 4 _ rfl, h.cell 5 _ rfl, h.cell 6 _ rfl, h.cell 7 _ rfl⟩

theorem index_atW (s : ByteArray) (k : Nat) (h : k < s.size) (wx : World) :
    (Instr.index 9 (.string s) (.int .i64 (k : Int))).run Try.prog wx = .ok (.int .u8 (s[k].toNat : Int)) wx := by
  have hu := Try.underlying9
  simp [Instr.index, run_underlying hu, go_sem, h]



theorem emp_beq (s : ByteArray) : (s.toList == []) = decide (s = emp) := by
  rw [Go.ByteArray.toList_eq]
  by_cases h : s = emp
  · rw [decide_eq_true h, h]; rfl
  · rw [decide_eq_false h]
    refine beq_eq_false_iff_ne.2 fun e => h ?_
    obtain ⟨⟨l⟩⟩ := s
    simp at e
    rw [e]; rfl


end Go.Proofs.Ytichbcpidkkblaa

/- Records: what the model's RecText hands back. -/
namespace Go.Proofs.Ytichbcpidkkblaa
open Go.RowKit

/-- What RecText hands back. -/
def rtT (r : Rc) : Value := if r.ok then .tuple #[.string r.tx, .bool true] else .tuple #[.string ⟨#[]⟩, .bool false]
theorem rtT_yes {r : Rc} (h : r.ok) : rtT r = .tuple #[.string r.tx, .bool true] := if_pos h
theorem rtT_no {r : Rc} (h : ¬ r.ok) : rtT r = .tuple #[.string ⟨#[]⟩, .bool false] := if_neg h

/-- A short text's bytes. -/
def shB (s : ByteArray) : ByteArray := vtB s.size ++ s



theorem tx_sum (r : Rc) : r.tx = (⟨#[UInt8.ofNat r.kind.toNat]⟩ : ByteArray) ++ vtB r.valid.toNat ++ vtB r.uid.toNat ++ vtB r.next.toNat ++ vtB r.flags.toNat ++ shB r.user ++ shB r.name ++ shB r.text := by
  obtain ⟨x, hx⟩ : ∃ x, (⟨#[UInt8.ofNat r.kind.toNat]⟩ : ByteArray) ++ vtB r.valid.toNat ++ vtB r.uid.toNat ++ vtB r.next.toNat ++ vtB r.flags.toNat ++ shB r.user ++ shB r.name ++ shB r.text = x := ⟨_, rfl⟩
  have : x.data.toList = r.tl := by
    rw [← hx]
    simp only [shB, ByteArray.data_append, Array.toList_append, vtB_list, Rc.tl, List.append_assoc]
    rfl
  rw [hx]
  obtain ⟨⟨y⟩⟩ := x
  simp only at this
  rw [this]; rfl

theorem vtB_five {n : Nat} (h : n ≤ 1000000000) : (vtB n).size ≤ 5 := by rw [vtB_size]; exact vt_five h
theorem belNew (x : World) (o : Obj) : Below x.heap.size x (x.alloc o) := (Below.refl _ _).alloc (Nat.le_refl _) _
theorem kind_byte (k : Int) (h1 : 1 ≤ k) (h2 : k ≤ 5) : k = ((UInt8.ofNat k.toNat).toNat : Int) := by
  have : (UInt8.ofNat k.toNat).toNat = k.toNat % 256 := UInt8.toNat_ofNat'
  rw [this]; omega
theorem kind_wrap (k : Int) (h1 : 1 ≤ k) (h2 : k ≤ 5) : IntKind.u8.wrap k = k := by
  have : k = 1 ∨ k = 2 ∨ k = 3 ∨ k = 4 ∨ k = 5 := by omega
  rcases this with rfl | rfl | rfl | rfl | rfl <;> decide
theorem below_next {W x y : World} (h : Below W.heap.size W x) (hb : Below x.heap.size x y) : Below W.heap.size W y := h.trans (hb.mono h.size)

theorem wpAnyH_sharper {P : Program} {md : Region.Mode} {ops : Array Oper} {Q : Exit → Act → World → Prop} {S S' : World → Prop} (h : ∀ w, S' w → S w) :
    ∀ {fuel : Nat} {listed : Array Bool} {a : Act} {w : World}, wpAnyH P md ops Q S' fuel listed a w → wpAnyH P md ops Q S fuel listed a w
  | 0, _, _, _, H => H
  | _ + 1, _, _, _, H => ⟨H.1, fun i hi => wpOp_mono (fun _ _ h' => ⟨h _ h'.1, wpAnyH_sharper h h'.2⟩) (H.2 i hi)⟩
theorem takeL {P : Program} {md : Region.Mode} {l : List Oper} {Q : Exit → Act → World → Prop} {S : World → Prop} {i : Nat} {oi : Oper} {v : Value} {fuel : Nat} {listed : Array Bool} {a : Act} {w : World} (hi : l[i]? = some oi)
    (hs : Region.noSelect l.toArray = true) (hf : Region.free md l.toArray listed i = true) (hr : (Region.ready md l.toArray listed).contains i = true)
    (hQ : ∀ c a w, Q (.panic c) (a.put oi.dst v) w → Q (.panic c) a w) (hy : YieldsIf P l.toArray S oi v a) (hS : S w)
    (h : wpAnyH P md l.toArray Q S fuel (listed.setIfInBounds i true) (a.put oi.dst v) w) : wpAnyH P md l.toArray Q S (fuel + 1) listed a w :=
  wpAnyH_take (by rw [List.getElem?_toArray]; exact hi) hs hf hr hQ hy hS h
theorem readyOne {P : Program} {md : Region.Mode} {l : List Oper} {Q : Exit → Act → World → Prop} {S : World → Prop} {i : Nat} {o : Oper} {fuel : Nat} {listed : Array Bool} {a : Act} {w : World} (hi : l[i]? = some o)
    (h : ∀ K' : Act → World → Prop, Shut (∀ a w, S w → (S w → wpAnyH P md l.toArray Q S fuel (listed.setIfInBounds i true) a w) → K' a w) → if Region.wanted o (yielded l.toArray a.tmps) = true then Oper.wp P o a w K' Q else K' (a.put o.dst undef) w) :
    AllReadyH P md l.toArray Q S fuel listed a w [i] :=
  AllReadyH.cons (by rw [List.getElem?_toArray]; exact hi) h AllReadyH.nil
theorem readyTwo {P : Program} {md : Region.Mode} {l : List Oper} {Q : Exit → Act → World → Prop} {S : World → Prop} {i j : Nat} {o o' : Oper} {fuel : Nat} {listed : Array Bool} {a : Act} {w : World} (hi : l[i]? = some o) (hj : l[j]? = some o')
    (h : ∀ K' : Act → World → Prop, Shut (∀ a w, S w → (S w → wpAnyH P md l.toArray Q S fuel (listed.setIfInBounds i true) a w) → K' a w) → if Region.wanted o (yielded l.toArray a.tmps) = true then Oper.wp P o a w K' Q else K' (a.put o.dst undef) w)
    (h' : ∀ K' : Act → World → Prop, Shut (∀ a w, S w → (S w → wpAnyH P md l.toArray Q S fuel (listed.setIfInBounds j true) a w) → K' a w) → if Region.wanted o' (yielded l.toArray a.tmps) = true then Oper.wp P o' a w K' Q else K' (a.put o'.dst undef) w) :
    AllReadyH P md l.toArray Q S fuel listed a w [i, j] :=
  AllReadyH.cons (by rw [List.getElem?_toArray]; exact hi) h (readyOne hj h')
theorem belNew0 (x : World) (o : Obj) : Below x.heap.size x (x.alloc o).drew := ((Below.refl _ _).alloc (Nat.le_refl _) _).drew
theorem keepS {W x y : World} {p : Addr} {v : Value} (h : Below W.heap.size W x ∧ x.cell? p = some v) (hb : Below x.heap.size x y) : Below W.heap.size W y ∧ y.cell? p = some v :=
  ⟨h.1.trans (hb.mono h.1.size), (hb.cell (World.block_lt_of_cell? _ _ h.2)).trans h.2⟩


end Go.Proofs.Ytichbcpidkkblaa

/- Records: the model's reader of a text. -/
namespace Go.Proofs.Ytichbcpidkkblaa
open Go.RowKit

/-- A number read at the cursor: what is handed back, the place behind it, whether it is bad. -/
def cuV (t : ByteArray) (p : Nat) (b : Bool) : Nat × Nat × Bool :=
  if b = true then (0, p, true) else match rv t.data.toList p with
    | some (n, q) => (n, q, false)
    | none => (0, p, true)
/-- A short text read at the cursor. -/
def cuS (t : ByteArray) (p : Nat) (b : Bool) : ByteArray × Nat × Bool :=
  if b = true then (⟨#[]⟩, p, true) else match rsO t p with
    | some (n, q) => (n, q, false)
    | none => (⟨#[]⟩, p, true)

theorem cuV_ways (t : ByteArray) (p : Nat) (b : Bool) (hp : p ≤ t.size) :
    ∃ (x q : Nat) (o : Bool), rvT t p = .tuple #[.int .i64 x, .int .i64 q, .bool o] ∧ (((b = true ∨ o = false) ∧ cuV t p b = (0, p, true)) ∨ ((b = false ∧ o = true) ∧ cuV t p b = (x, q, false))) := by
  rcases h : rv t.data.toList p with _ | ⟨n, q⟩
  · refine ⟨0, 0, false, rvT_none hp h, .inl ⟨.inr rfl, ?_⟩⟩
    cases b <;> simp [cuV, h]
  · refine ⟨n, q, true, rvT_some hp h, ?_⟩
    cases b with
    | false => exact .inr ⟨⟨rfl, rfl⟩, by simp [cuV, h]⟩
    | true => exact .inl ⟨.inl rfl, by simp [cuV]⟩
theorem cuV_le (t : ByteArray) (p : Nat) (b : Bool) (hp : p ≤ t.size) : (cuV t p b).2.1 ≤ t.size ∧ (cuV t p b).1 ≤ 1000000000 := by
  unfold cuV
  split
  · exact ⟨hp, Nat.zero_le _⟩
  · split
    · rename_i h
      have := rv_le (by simpa using hp) h
      refine ⟨?_, this.1⟩
      have := this.2.2
      simpa using this
    · exact ⟨hp, Nat.zero_le _⟩
theorem rsO_le {t : ByteArray} {p : Nat} {x : ByteArray} {q : Nat} (h : rsO t p = some (x, q)) : q ≤ t.size ∧ x.size ≤ t.size := by
  unfold rsO at h
  split at h
  · split at h
    · rename_i h2
      cases h
      refine ⟨by omega, ?_⟩
      rw [ByteArray.size_extract]; omega
    · cases h
  · cases h
theorem cuS_ways (t : ByteArray) (p : Nat) (b : Bool) (hp : p ≤ t.size) :
    ∃ (x : ByteArray) (q : Nat) (o : Bool), rsT t p = .tuple #[.string x, .int .i64 q, .bool o] ∧ (((b = true ∨ o = false) ∧ cuS t p b = (⟨#[]⟩, p, true)) ∨ ((b = false ∧ o = true) ∧ cuS t p b = (x, q, false))) := by
  rcases h : rv t.data.toList p with _ | ⟨n, q⟩
  · refine ⟨⟨#[]⟩, 0, false, rsT_none hp h, .inl ⟨.inr rfl, ?_⟩⟩
    cases b <;> simp [cuS, rsO, h]
  · by_cases h2 : n ≤ 20000 ∧ n + q ≤ t.size
    · refine ⟨t.extract q (q + n), q + n, true, by rw [rsT_yes hp h h2, Int.natCast_add], ?_⟩
      cases b with
      | false => exact .inr ⟨⟨rfl, rfl⟩, by simp [cuS, rsO, h, h2]⟩
      | true => exact .inl ⟨.inl rfl, by simp [cuS]⟩
    · refine ⟨⟨#[]⟩, 0, false, rsT_no hp h h2, .inl ⟨.inr rfl, ?_⟩⟩
      cases b <;> simp [cuS, rsO, h, h2]
theorem cuS_le (t : ByteArray) (p : Nat) (b : Bool) (hp : p ≤ t.size) : (cuS t p b).2.1 ≤ t.size ∧ (cuS t p b).1.size ≤ t.size := by
  unfold cuS
  split
  · exact ⟨hp, Nat.zero_le _⟩
  · split
    · rename_i h
      exact rsO_le h
    · exact ⟨hp, Nat.zero_le _⟩



end Go.Proofs.Ytichbcpidkkblaa

/- Records: what the model's ReadRec hands back. -/
namespace Go.Proofs.Ytichbcpidkkblaa
open Go.RowKit

theorem cuV_go {t : ByteArray} {p : Nat} {b : Bool} {n q : Nat} (h : cuV t p b = (n, q, false)) : b = false ∧ rv t.data.toList p = some (n, q) := by
  unfold cuV at h
  cases b with
  | true => simp at h
  | false =>
    rcases hr : rv t.data.toList p with _ | ⟨n', q'⟩
    · simp [hr] at h
    · simp [hr] at h; exact ⟨rfl, by rw [h.1, h.2]⟩
theorem cuV_bad {t : ByteArray} {p : Nat} {n q : Nat} (h : cuV t p false = (n, q, true)) : rv t.data.toList p = none := by
  unfold cuV at h
  rcases hr : rv t.data.toList p with _ | ⟨n', q'⟩
  · rfl
  · simp [hr] at h
theorem cuS_go {t : ByteArray} {p : Nat} {b : Bool} {n : ByteArray} {q : Nat} (h : cuS t p b = (n, q, false)) : b = false ∧ rsO t p = some (n, q) := by
  unfold cuS at h
  cases b with
  | true => simp at h
  | false =>
    rcases hr : rsO t p with _ | ⟨n', q'⟩
    · simp [hr] at h
    · simp [hr] at h; exact ⟨rfl, by rw [h.1, h.2]⟩
theorem cuS_bad {t : ByteArray} {p : Nat} {n : ByteArray} {q : Nat} (h : cuS t p false = (n, q, true)) : rsO t p = none := by
  unfold cuS at h
  rcases hr : rsO t p with _ | ⟨n', q'⟩
  · rfl
  · simp [hr] at h

/-- What the reader has read is the record, unless it is bad. -/
theorem rd_told {t : ByteArray} {k : UInt8} {rest : List UInt8} (hk : t.data.toList = k :: rest) {n1 n2 n3 n4 : Nat} {x5 x6 x7 : ByteArray} {q1 q2 q3 q4 q5 q6 q7 : Nat} {d1 d2 d3 d4 d5 d6 d7 : Bool}
    (h1 : cuV t 1 false = (n1, q1, d1)) (h2 : cuV t q1 d1 = (n2, q2, d2)) (h3 : cuV t q2 d2 = (n3, q3, d3)) (h4 : cuV t q3 d3 = (n4, q4, d4))
    (h5 : cuS t q4 d4 = (x5, q5, d5)) (h6 : cuS t q5 d5 = (x6, q6, d6)) (h7 : cuS t q6 d6 = (x7, q7, d7)) :
    prs t = if d7 = true then none else some ⟨k.toNat, n1, n2, n3, n4, x5, x6, x7⟩ := by
  unfold prs
  cases d1 with
  | true =>
    have e1 := cuV_bad h1
    have : d7 = true := by
      cases d7 with
      | true => rfl
      | false => have a6 := cuS_go h7; have a5 := cuS_go (a6.1 ▸ h6); have a4 := cuS_go (a5.1 ▸ h5); have a3 := cuV_go (a4.1 ▸ h4); have a2 := cuV_go (a3.1 ▸ h3); have a1 := cuV_go (a2.1 ▸ h2); cases a1.1
    simp [hk, this, hk ▸ e1]
  | false =>
  have e1 := (cuV_go h1).2
  cases d2 with
  | true =>
    have e2 := cuV_bad h2
    have : d7 = true := by
      cases d7 with
      | true => rfl
      | false => have a6 := cuS_go h7; have a5 := cuS_go (a6.1 ▸ h6); have a4 := cuS_go (a5.1 ▸ h5); have a3 := cuV_go (a4.1 ▸ h4); have a2 := cuV_go (a3.1 ▸ h3); cases a2.1
    simp [hk, this, hk ▸ e1, hk ▸ e2]
  | false =>
  have e2 := (cuV_go h2).2
  cases d3 with
  | true =>
    have e3 := cuV_bad h3
    have : d7 = true := by
      cases d7 with
      | true => rfl
      | false => have a6 := cuS_go h7; have a5 := cuS_go (a6.1 ▸ h6); have a4 := cuS_go (a5.1 ▸ h5); have a3 := cuV_go (a4.1 ▸ h4); cases a3.1
    simp [hk, this, hk ▸ e1, hk ▸ e2, hk ▸ e3]
  | false =>
  have e3 := (cuV_go h3).2
  cases d4 with
  | true =>
    have e4 := cuV_bad h4
    have : d7 = true := by
      cases d7 with
      | true => rfl
      | false => have a6 := cuS_go h7; have a5 := cuS_go (a6.1 ▸ h6); have a4 := cuS_go (a5.1 ▸ h5); cases a4.1
    simp [hk, this, hk ▸ e1, hk ▸ e2, hk ▸ e3, hk ▸ e4]
  | false =>
  have e4 := (cuV_go h4).2
  cases d5 with
  | true =>
    have e5 := cuS_bad h5
    have : d7 = true := by
      cases d7 with
      | true => rfl
      | false => have a6 := cuS_go h7; have a5 := cuS_go (a6.1 ▸ h6); cases a5.1
    simp [hk, this, hk ▸ e1, hk ▸ e2, hk ▸ e3, hk ▸ e4, e5]
  | false =>
  have e5 := (cuS_go h5).2
  cases d6 with
  | true =>
    have e6 := cuS_bad h6
    have : d7 = true := by
      cases d7 with
      | true => rfl
      | false => have a6 := cuS_go h7; cases a6.1
    simp [hk, this, hk ▸ e1, hk ▸ e2, hk ▸ e3, hk ▸ e4, e5, e6]
  | false =>
  have e6 := (cuS_go h6).2
  cases d7 with
  | true =>
    have e7 := cuS_bad h7
    simp [hk, hk ▸ e1, hk ▸ e2, hk ▸ e3, hk ▸ e4, e5, e6, e7]
  | false =>
    have e7 := (cuS_go h7).2
    simp [hk, hk ▸ e1, hk ▸ e2, hk ▸ e3, hk ▸ e4, e5, e6, e7]

/-- No record. -/
def Rc.nil : Rc := ⟨0, 0, 0, 0, 0, emp, emp, emp⟩
/-- What ReadRec hands back. -/
def rrT (t : ByteArray) : Value := match rrO t with
  | some r => .tuple #[r.v, .bool true]
  | none => .tuple #[Rc.nil.v, .bool false]
theorem rrT_some {t : ByteArray} {r : Rc} (h : rrO t = some r) : rrT t = .tuple #[r.v, .bool true] := by rw [rrT, h]
theorem rrT_none {t : ByteArray} (h : rrO t = none) : rrT t = .tuple #[Rc.nil.v, .bool false] := by rw [rrT, h]
theorem rrO_emp : rrO emp = none := rfl
theorem rrO_bad {t : ByteArray} (h : prs t = none) : rrO t = none := by rw [rrO, h]
theorem rrO_if {t : ByteArray} {r : Rc} (h : prs t = some r) : rrO t = if r.ok ∧ r.tx = t then some r else none := by rw [rrO, h]

def set8 (w : World) (b : Nat) (v0 v1 v2 v3 v4 v5 v6 v7 : Value) : World := (((((((w.setCell ⟨b, 0, none⟩ v0).setCell ⟨b, 1, none⟩ v1).setCell ⟨b, 2, none⟩ v2).setCell ⟨b, 3, none⟩ v3).setCell ⟨b, 4, none⟩ v4).setCell ⟨b, 5, none⟩ v5).setCell ⟨b, 6, none⟩ v6).setCell ⟨b, 7, none⟩ v7
theorem Box.set8 {w : World} {b : Nat} {u0 u1 u2 u3 u4 u5 u6 u7 : Value} {t : TypeId} (h : Box w b #[u0, u1, u2, u3, u4, u5, u6, u7] t) (v0 v1 v2 v3 v4 v5 v6 v7 : Value) : Box (set8 w b v0 v1 v2 v3 v4 v5 v6 v7) b #[v0, v1, v2, v3, v4, v5, v6, v7] t :=
  have a0 : Box (w.setCell ⟨b, 0, none⟩ v0) b #[v0, u1, u2, u3, u4, u5, u6, u7] t := h.set 0 v0
  have a1 : Box ((w.setCell ⟨b, 0, none⟩ v0).setCell ⟨b, 1, none⟩ v1) b #[v0, v1, u2, u3, u4, u5, u6, u7] t := a0.set 1 v1
  have a2 : Box (((w.setCell ⟨b, 0, none⟩ v0).setCell ⟨b, 1, none⟩ v1).setCell ⟨b, 2, none⟩ v2) b #[v0, v1, v2, u3, u4, u5, u6, u7] t := a1.set 2 v2
  have a3 : Box ((((w.setCell ⟨b, 0, none⟩ v0).setCell ⟨b, 1, none⟩ v1).setCell ⟨b, 2, none⟩ v2).setCell ⟨b, 3, none⟩ v3) b #[v0, v1, v2, v3, u4, u5, u6, u7] t := a2.set 3 v3
  have a4 : Box (((((w.setCell ⟨b, 0, none⟩ v0).setCell ⟨b, 1, none⟩ v1).setCell ⟨b, 2, none⟩ v2).setCell ⟨b, 3, none⟩ v3).setCell ⟨b, 4, none⟩ v4) b #[v0, v1, v2, v3, v4, u5, u6, u7] t := a3.set 4 v4
  have a5 : Box ((((((w.setCell ⟨b, 0, none⟩ v0).setCell ⟨b, 1, none⟩ v1).setCell ⟨b, 2, none⟩ v2).setCell ⟨b, 3, none⟩ v3).setCell ⟨b, 4, none⟩ v4).setCell ⟨b, 5, none⟩ v5) b #[v0, v1, v2, v3, v4, v5, u6, u7] t := a4.set 5 v5
  have a6 : Box (((((((w.setCell ⟨b, 0, none⟩ v0).setCell ⟨b, 1, none⟩ v1).setCell ⟨b, 2, none⟩ v2).setCell ⟨b, 3, none⟩ v3).setCell ⟨b, 4, none⟩ v4).setCell ⟨b, 5, none⟩ v5).setCell ⟨b, 6, none⟩ v6) b #[v0, v1, v2, v3, v4, v5, v6, u7] t := a5.set 6 v6
  a6.set 7 v7
theorem below_set8 {B b : Nat} {w0 w : World} (h : Below B w0 w) (hb : B ≤ b) (v0 v1 v2 v3 v4 v5 v6 v7 : Value) : Below B w0 (set8 w b v0 v1 v2 v3 v4 v5 v6 v7) :=
  (((((((h.setCell (p := ⟨b, 0, none⟩) hb v0).setCell (p := ⟨b, 1, none⟩) hb v1).setCell (p := ⟨b, 2, none⟩) hb v2).setCell (p := ⟨b, 3, none⟩) hb v3).setCell (p := ⟨b, 4, none⟩) hb v4).setCell (p := ⟨b, 5, none⟩) hb v5).setCell (p := ⟨b, 6, none⟩) hb v6).setCell (p := ⟨b, 7, none⟩) hb v7
theorem grown_set8 (w : World) (b : Nat) (v0 v1 v2 v3 v4 v5 v6 v7 : Value) : w.grownBy (set8 w b v0 v1 v2 v3 v4 v5 v6 v7) (some b) :=
  (((((((stored_grown w b 0 v0).trans (stored_grown _ b 1 v1)).trans (stored_grown _ b 2 v2)).trans (stored_grown _ b 3 v3)).trans (stored_grown _ b 4 v4)).trans (stored_grown _ b 5 v5)).trans (stored_grown _ b 6 v6)).trans (stored_grown _ b 7 v7)
theorem Box.but {w X : World} {b g : Nat} {cs : Array Value} {t : TypeId} (h : Box w b cs t) (hg : w.grownBy X (some g)) (hne : b ≠ g) : Box X b cs t := (hg.block b h.lt (fun e => hne (Option.some.inj e))).trans h
theorem below_but {w w1 w2 : World} {g : Nat} (hb : Below w.heap.size w w1) (hp : w.heap.size ≤ g) (hg : w1.grownBy w2 (some g)) : Below w.heap.size w w2 :=
  hb.grown hg hb.size (fun k hk => by have := Option.some.inj hk; omega)

theorem Box.eight {w : World} {b : Nat} {u0 u1 u2 u3 u4 u5 u6 u7 : Value} {t : TypeId} (h : Box w b #[u0, u1, u2, u3, u4, u5, u6, u7] t) :
    w.cell? ⟨b, 0, none⟩ = some u0 ∧ w.cell? ⟨b, 1, none⟩ = some u1 ∧ w.cell? ⟨b, 2, none⟩ = some u2 ∧ w.cell? ⟨b, 3, none⟩ = some u3 ∧ w.cell? ⟨b, 4, none⟩ = some u4 ∧ w.cell? ⟨b, 5, none⟩ = some u5 ∧ w.cell? ⟨b, 6, none⟩ = some u6 ∧ w.cell? ⟨b, 7, none⟩ = some u7 ∧
    w.frozen? ⟨b, 0, none⟩ = false ∧ w.frozen? ⟨b, 1, none⟩ = false ∧ w.frozen? ⟨b, 2, none⟩ = false ∧ w.frozen? ⟨b, 3, none⟩ = false ∧ w.frozen? ⟨b, 4, none⟩ = false ∧ w.frozen? ⟨b, 5, none⟩ = false ∧ w.frozen? ⟨b, 6, none⟩ = false ∧ w.frozen? ⟨b, 7, none⟩ = false :=
  ⟨h.cell 0 _ rfl, h.cell 1 _ rfl, h.cell 2 _ rfl, h.cell 3 _ rfl, h.cell 4 _ rfl, h.cell 5 _ rfl, h.cell 6 _ rfl, h.cell 7 _ rfl, h.loose 0, h.loose 1, h.loose 2, h.loose 3, h.loose 4, h.loose 5, h.loose 6, h.loose 7⟩


theorem ba_beq (a b : ByteArray) : (a.toList == b.toList) = decide (a = b) := by
  by_cases h : a = b
  · simp [h]
  · have : ¬ a.toList = b.toList := fun e => h (by rw [Go.ByteArray.toList_eq, Go.ByteArray.toList_eq] at e; obtain ⟨⟨x⟩⟩ := a; obtain ⟨⟨y⟩⟩ := b; simp only at e; rw [e])
    rw [decide_eq_false h]
    simp [this]

/-- The end: what RecText hands back, and what ReadRec makes of it. -/
theorem rd_end {t : ByteArray} {r : Rc} {d : Bool} (h : prs t = if d = true then none else some r) :
    ∃ (bk : ByteArray) (o : Bool), rtT r = .tuple #[.string bk, .bool o] ∧ rrT t = if d = false ∧ o = true ∧ decide (bk = t) = true then .tuple #[r.v, .bool true] else .tuple #[Rc.nil.v, .bool false] := by
  by_cases hok : r.ok
  · refine ⟨r.tx, true, rtT_yes hok, ?_⟩
    cases d with
    | true => rw [rrT_none (rrO_bad h)]; simp
    | false =>
      have h' := rrO_if (show prs t = some r from h)
      by_cases he : r.tx = t
      · rw [if_pos ⟨hok, he⟩] at h'
        rw [rrT_some h', if_pos ⟨rfl, rfl, decide_eq_true he⟩]
      · rw [if_neg (fun c => he c.2)] at h'
        rw [rrT_none h', if_neg (fun c => he (of_decide_eq_true c.2.2))]
  · refine ⟨⟨#[]⟩, false, rtT_no hok, ?_⟩
    rw [if_neg (fun c => by cases c.2.1)]
    cases d with
    | true => exact rrT_none (rrO_bad h)
    | false =>
      have h' := rrO_if (show prs t = some r from h)
      rw [if_neg (fun c => hok c.1)] at h'
      exact rrT_none h'



end Go.Proofs.Ytichbcpidkkblaa

/- What is drawn for the chapter on records: what spec.l01Pick, l06Text, l06Rec, l06Any and the draws of the chapter hand back. -/
namespace Go.Proofs.Ytichbcpidkkblaa
open Go.RowKit

theorem strs_cell' (w : World) (zs : List ByteArray) (t : TypeId) (j : Nat) (hj : j < zs.length) : (w.alloc (.cells (zs.map Value.string).toArray t)).cell? ⟨w.heap.size, j, none⟩ = some (.string zs[j]) := by
  rw [Joins.cell_of_block (heap_alloc_new w _)]
  simp [hj]

set_option maxRecDepth 100000 in
set_option maxHeartbeats 1000000 in
theorem pickStr_any (zs : List ByteArray) (n pc : Nat) (a : Option Addr) (len cap : Nat) (w : World) (hc : Cur w pc a len cap) (hl : zs.length = n) (h0 : 0 < n) (h1 : n ≤ 1048576) :
    Calls Try.prog 33 #[.pointer (some ⟨pc, 0, none⟩), .slice (some ⟨w.heap.size, 0, none⟩) n n] (w.alloc (.cells (zs.map Value.string).toArray 9)) fun e w' => ∃ x : ByteArray, x ∈ zs ∧ e = .returned (.string x) ∧ Cur w' pc a len cap ∧ w.grownBy w' (some pc) := by
  have hbel : Below w.heap.size w (w.alloc (.cells (zs.map Value.string).toArray 9)) := (Below.refl _ _).alloc (Nat.le_refl _) _
  have hpc := hc.lt
  have hc1 := hc.below hbel hpc hc.codeLt
  have HC : Hid (∀ j (hj : j < zs.length), (w.alloc (.cells (zs.map Value.string).toArray 9)).cell? ⟨w.heap.size, j, none⟩ = some (.string zs[j])) := fun j hj => strs_cell' w zs 9 j hj
  have HG : Hid (w.grownBy (w.alloc (.cells (zs.map Value.string).toArray 9)) (some pc)) := grownBy_below (World.grownBy.refl w (some pc)) hbel (Nat.le_refl _)
  clear hbel
  generalize w.alloc (.cells (zs.map Value.string).toArray 9) = W at *
  have hne : w.heap.size ≠ pc := by omega
  generalize w.heap.size = g at *
  go_enter Try.func33, Try.ntmps33
  go_wp2_with fail
  refine (below_any (n : Int) pc a len cap _ hc1 (by omega)).mono ?_
  rintro e w1 ⟨j, hj, _, rfl, hc2, hg1⟩
  have hj1 : j < n := by have := hj (by omega); omega
  have hx := HC.out j (by omega)
  have HM : Hid (zs[j]'(by omega) ∈ zs) := List.getElem_mem _
  generalize zs[j]'(by omega) = x at hx HM
  have hx1 : w1.cell? ⟨g, j, none⟩ = some (.string x) := hg1.cell hx (fun e => hne (Option.some.inj e))
  have hj2 : (j : Int) < (n : Int) := by omega
  clear hj
  go_wp2
  go_ret
  exact ⟨x, HM.out, rfl, hc2, HG.out.trans hg1⟩

theorem emp_le : emp.size ≤ 200 := by decide

/-- A drawn record. -/
def RcR (Pr : Rc → Prop) (pc : Nat) (a : Option Addr) (len cap : Nat) (w : World) (e : Ending) (w' : World) : Prop :=
  ∃ r : Rc, Pr r ∧ e = .returned r.v ∧ Cur w' pc a len cap ∧ w.grownBy w' (some pc)
def Rc.slim (r : Rc) : Prop := r.user.size ≤ 200 ∧ r.name.size ≤ 200 ∧ r.text.size ≤ 200



end Go.Proofs.Ytichbcpidkkblaa
