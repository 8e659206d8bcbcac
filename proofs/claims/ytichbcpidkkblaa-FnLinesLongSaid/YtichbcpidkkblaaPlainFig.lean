/- Plain facts on the values of figures, with no program in them. -/
import Derived.WalkKit
import Derived.Laws.BitsAllLaws
namespace Go.Proofs.Ytichbcpidkkblaa

/-- The value of a figure of a base (16: a to f too). -/
def digV (sixteen : Bool) (c : UInt8) : Option Nat :=
  if 48 ≤ c.toNat ∧ c.toNat ≤ 57 then some (c.toNat - 48) else if sixteen = true ∧ 97 ≤ c.toNat ∧ c.toNat ≤ 102 then some (c.toNat - 87) else none

/-- The values of the figures of a text, as far as they are figures. -/
def valsOf (x : Bool) : List UInt8 → List UInt8
  | [] => []
  | c :: cs => match digV x c with
    | some v => UInt8.ofNat v :: valsOf x cs
    | none => []

theorem digV_lt {x : Bool} {c : UInt8} {v : Nat} (h : digV x c = some v) : v < 16 := by
  unfold digV at h
  split at h
  · simp at h; omega
  · split at h
    · simp at h; omega
    · simp at h

theorem valsOf_le (x : Bool) (l : List UInt8) : (valsOf x l).length ≤ l.length := by
  induction l with
  | nil => simp [valsOf]
  | cons c cs ih =>
    unfold valsOf
    split
    · simp; exact ih
    · simp

theorem valsOf_none {x : Bool} : ∀ {l : List UInt8} {k : Nat}, k ≤ (valsOf x l).length → (h : k < l.length) → digV x l[k] = none → (valsOf x l).length = k := by
  intro l
  induction l with
  | nil => intro k _ h; simp at h
  | cons c cs ih =>
    intro k hk h hd
    cases hv : digV x c with
    | none =>
      simp only [valsOf, hv, List.length_nil] at hk ⊢
      omega
    | some v =>
      simp only [valsOf, hv, List.length_cons] at hk ⊢
      cases k with
      | zero => simp [hv] at hd
      | succ k =>
        have := ih (k := k) (by omega) (by simpa using h) (by simpa using hd)
        omega

theorem valsOf_some {x : Bool} : ∀ {l : List UInt8} {k v : Nat}, k ≤ (valsOf x l).length → (h : k < l.length) → digV x l[k] = some v → (valsOf x l)[k]? = some (UInt8.ofNat v) := by
  intro l
  induction l with
  | nil => intro k _ _ h; simp at h
  | cons c cs ih =>
    intro k w hk h hd
    cases hv : digV x c with
    | none =>
      simp only [valsOf, hv, List.length_nil] at hk
      obtain rfl : k = 0 := by omega
      simp [hv] at hd
    | some v =>
      simp only [valsOf, hv, List.length_cons] at hk ⊢
      cases k with
      | zero => simp [hv] at hd; simp [hd]
      | succ k =>
        have := ih (k := k) (v := w) (by omega) (by simpa using h) (by simpa using hd)
        simpa using this

theorem valsOf_lt16 {x : Bool} : ∀ {l : List UInt8} {c : UInt8}, c ∈ valsOf x l → c.toNat < 16 := by
  intro l
  induction l with
  | nil => intro c h; simp [valsOf] at h
  | cons a cs ih =>
    intro c h
    unfold valsOf at h
    split at h
    · rename_i v hv
      rcases List.mem_cons.1 h with rfl | h
      · have := digV_lt hv
        rw [UInt8.toNat_ofNat']; omega
      · exact ih h
    · simp at h

theorem take_next {l : List UInt8} {k : Nat} {v : UInt8} (h : l[k]? = some v) : l.take (k + 1) = l.take k ++ [v] := by
  rw [List.take_add_one, h]; rfl

/-- Two values to a byte. -/
def pairsOf : List UInt8 → List UInt8
  | a :: b :: r => UInt8.ofNat (16 * a.toNat + b.toNat) :: pairsOf r
  | _ => []

theorem pairsOf_append : ∀ (j : Nat) (l : List UInt8) (a b : UInt8), l.length = 2 * j → pairsOf (l ++ [a, b]) = pairsOf l ++ [UInt8.ofNat (16 * a.toNat + b.toNat)] := by
  intro j
  induction j with
  | zero => intro l a b h; obtain rfl := List.length_eq_zero_iff.1 h; rfl
  | succ j ih =>
    intro l a b h
    match l, h with
    | x :: y :: r, h =>
      have := ih r a b (by simp at h; omega)
      simp only [List.cons_append, pairsOf, this]

theorem pairsOf_length : ∀ (j : Nat) (l : List UInt8), l.length = 2 * j → (pairsOf l).length = j := by
  intro j
  induction j with
  | zero => intro l h; obtain rfl := List.length_eq_zero_iff.1 h; rfl
  | succ j ih =>
    intro l h
    match l, h with
    | x :: y :: r, h =>
      have := ih r (by simp at h; omega)
      simp only [pairsOf, List.length_cons, this]

theorem pairs_next {l : List UInt8} {j : Nat} {a b : UInt8} (h1 : l[2 * j]? = some a) (h2 : l[2 * j + 1]? = some b) :
    pairsOf (l.take (2 * (j + 1))) = pairsOf (l.take (2 * j)) ++ [UInt8.ofNat (16 * a.toNat + b.toNat)] := by
  have hl : 2 * j + 1 < l.length := (List.getElem?_eq_some_iff.1 h2).1
  rw [show 2 * (j + 1) = 2 * j + 1 + 1 by omega, take_next h2, take_next h1, List.append_assoc]
  exact pairsOf_append j _ _ _ (by simp; omega)

theorem pair_toNat {a b : Nat} (ha : a < 16) (hb : b < 16) : (UInt8.ofNat (16 * a + b)).toNat = 16 * a + b := by
  rw [UInt8.toNat_ofNat']; omega

theorem shl_or (a b : Nat) (ha : a < 16) (hb : b < 16) : bits .or .u8 ((a : Int) * 16) (b : Int) = ((16 * a + b : Nat) : Int) := by
  have e : (a : Int) * 16 = ((16 * a : Nat) : Int) := by omega
  rw [e, u8_or_nat (16 * a) b (by omega) (by omega)]
  have := Nat.shiftLeft_add_eq_or_of_lt (i := 4) (b := b) (by omega) a
  rw [Nat.shiftLeft_eq, show a * 2 ^ 4 = 16 * a by omega] at this
  rw [this]

/-- The value of a figure as a number, -1 of what is none. -/
def valN (c : Nat) : Int := if 48 ≤ c ∧ c ≤ 57 then (c : Int) - 48 else if 97 ≤ c ∧ c ≤ 102 then (c : Int) - 87 else -1

theorem valN_some {c : UInt8} {v : Nat} (h : digV true c = some v) : valN c.toNat = (v : Int) := by
  unfold digV at h
  unfold valN
  split at h
  · rename_i h1
    simp at h
    rw [if_pos h1]; omega
  · rename_i h1
    split at h
    · rename_i h2
      simp at h
      rw [if_neg h1, if_pos h2.2]; omega
    · simp at h

theorem valN_none {c : UInt8} (h : digV true c = none) : valN c.toNat = -1 := by
  unfold digV at h
  unfold valN
  split at h
  · simp at h
  · rename_i h1
    split at h
    · simp at h
    · rename_i h2
      rw [if_neg h1, if_neg (fun h3 => h2 ⟨rfl, h3⟩)]

/-- Whether a text is the figures of some bytes. -/
abbrev isHex (l : List UInt8) : Prop := l.length ≤ 40000 ∧ l.length % 2 = 0 ∧ (valsOf true l).length = l.length

theorem digV_dec {x : Bool} {c : UInt8} (h1 : 48 ≤ c.toNat) (h2 : c.toNat ≤ 57) : digV x c = some (c.toNat - 48) := by rw [digV, if_pos ⟨h1, h2⟩]
theorem digV_hex {c : UInt8} (h1 : 97 ≤ c.toNat) (h2 : c.toNat ≤ 102) : digV true c = some (c.toNat - 87) := by
  rw [digV, if_neg (by omega), if_pos ⟨rfl, h1, h2⟩]
theorem digV_bad {x : Bool} {c : UInt8} (h1 : ¬ (48 ≤ c.toNat ∧ c.toNat ≤ 57)) (h2 : ¬ (x = true ∧ 97 ≤ c.toNat ∧ c.toNat ≤ 102)) : digV x c = none := by
  rw [digV, if_neg h1, if_neg h2]

end Go.Proofs.Ytichbcpidkkblaa
