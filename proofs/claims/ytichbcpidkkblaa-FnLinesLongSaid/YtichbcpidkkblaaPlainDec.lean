/- Plain facts on decimal figures, with no program in them. -/
import Derived.WalkKit
namespace Go.Proofs.Ytichbcpidkkblaa

def figD (x : Nat) : UInt8 := UInt8.ofNat (48 + x)
theorem figD_toNat {x : Nat} (h : x < 10) : (figD x).toNat = 48 + x := by
  rw [figD, UInt8.toNat_ofNat']; omega

/-- The figures of a number that is not 0; nothing of 0. -/
def digsF : Nat → Nat → List UInt8
  | 0, _ => []
  | f + 1, n => if n = 0 then [] else digsF f (n / 10) ++ [figD (n % 10)]
def digs (n : Nat) : List UInt8 := digsF n n
/-- The figures of a number. -/
def dec (n : Nat) : List UInt8 := if n = 0 then [48] else digs n

theorem digsF_more : ∀ (f g n : Nat), n ≤ f → n ≤ g → digsF f n = digsF g n := by
  intro f
  induction f with
  | zero => intro g n hf hg; obtain rfl : n = 0 := by omega
            cases g <;> simp [digsF]
  | succ f ih =>
    intro g n hf hg
    cases g with
    | zero => obtain rfl : n = 0 := by omega
              simp [digsF]
    | succ g =>
      simp only [digsF]
      split
      · rfl
      · rw [ih g (n / 10) (by omega) (by omega)]

theorem digs_zero : digs 0 = [] := rfl
theorem digs_step {n : Nat} (h : n ≠ 0) : digs n = digs (n / 10) ++ [figD (n % 10)] := by
  unfold digs
  cases n with
  | zero => omega
  | succ n => rw [digsF, if_neg h, digsF_more n ((n + 1) / 10) ((n + 1) / 10) (by omega) (Nat.le_refl _)]

theorem digsF_len : ∀ (f n : Nat), (digsF f n).length ≤ f := by
  intro f
  induction f with
  | zero => intro n; simp [digsF]
  | succ f ih =>
    intro n
    simp only [digsF]
    split
    · simp
    · have := ih (n / 10); simp; omega
theorem digs_len (n : Nat) : (digs n).length ≤ n := digsF_len n n

theorem digs_push {m n : Nat} {acc : List UInt8} (h : digs m ++ acc = digs n) (hm : m ≠ 0) : digs (m / 10) ++ (figD (m % 10) :: acc) = digs n := by
  rw [← h, digs_step hm]; simp

/-- The number that figures tell. -/
def val (l : List UInt8) : Nat := l.foldl (fun a c => 10 * a + (c.toNat - 48)) 0
theorem val_snoc (l : List UInt8) (c : UInt8) : val (l ++ [c]) = 10 * val l + (c.toNat - 48) := by simp [val]
theorem val_nil : val [] = 0 := rfl

def allDig (l : List UInt8) : Prop := ∀ c ∈ l, 48 ≤ c.toNat ∧ c.toNat ≤ 57

theorem val_lt : ∀ (n : Nat) (l : List UInt8), l.length = n → allDig l → val l < 10 ^ n := by
  intro n
  induction n with
  | zero => intro l h _; obtain rfl := List.length_eq_zero_iff.1 h; simp [val]
  | succ n ih =>
    intro l h ha
    rcases List.eq_nil_or_concat l with rfl | ⟨init, c, rfl⟩
    · simp at h
    · have h1 := ih init (by simp at h; omega) (fun x hx => ha x (by simp [hx]))
      have h2 := ha c (by simp)
      rw [List.concat_eq_append, val_snoc, Nat.pow_succ]
      omega

theorem figD_back {c : UInt8} (h : 48 ≤ c.toNat ∧ c.toNat ≤ 57) : figD (c.toNat - 48) = c := by
  apply UInt8.toNat_inj.1
  rw [figD_toNat (by omega)]; omega

theorem digs_val : ∀ (n : Nat) (l : List UInt8), l.length = n → allDig l → l ≠ [] → l.head? ≠ some 48 → digs (val l) = l ∧ 0 < val l := by
  intro n
  induction n with
  | zero => intro l h _ hne; exact absurd (List.length_eq_zero_iff.1 h) hne
  | succ n ih =>
    intro l h ha hne hh
    rcases List.eq_nil_or_concat l with rfl | ⟨init, c, rfl⟩
    · exact absurd rfl hne
    · rw [List.concat_eq_append] at *
      have hc := ha c (by simp)
      rw [val_snoc]
      by_cases hi : init = []
      · subst hi
        have h48 : c.toNat ≠ 48 := by
          intro e
          apply hh
          simp
          apply UInt8.toNat_inj.1
          rw [e]; rfl
        rw [val_nil]
        have hp : 10 * 0 + (c.toNat - 48) ≠ 0 := by omega
        refine ⟨?_, by omega⟩
        rw [digs_step hp, show (10 * 0 + (c.toNat - 48)) / 10 = 0 by omega, digs_zero, show (10 * 0 + (c.toNat - 48)) % 10 = c.toNat - 48 by omega, figD_back hc]
      · have hh2 : init.head? ≠ some 48 := by
          intro e
          apply hh
          rw [List.head?_append, e]; rfl
        obtain ⟨h1, h2⟩ := ih init (by simp at h; omega) (fun x hx => ha x (by simp [hx])) hi hh2
        refine ⟨?_, by omega⟩
        rw [digs_step (by omega), show (10 * val init + (c.toNat - 48)) / 10 = val init by omega, h1, show (10 * val init + (c.toNat - 48)) % 10 = c.toNat - 48 by omega, figD_back hc]

theorem digs_head : ∀ (n m : Nat), m ≤ n → m ≠ 0 → (digs m).head? ≠ some 48 ∧ digs m ≠ [] := by
  intro n
  induction n with
  | zero => intro m h1 h2; omega
  | succ n ih =>
    intro m h1 h2
    rw [digs_step h2]
    by_cases h3 : m / 10 = 0
    · rw [h3, digs_zero]
      refine ⟨?_, by simp⟩
      intro e
      simp at e
      have := congrArg UInt8.toNat e
      rw [figD_toNat (by omega)] at this
      have h48 : (48 : UInt8).toNat = 48 := rfl
      omega
    · obtain ⟨a1, a2⟩ := ih (m / 10) (by omega) h3
      refine ⟨?_, by simp⟩
      cases hd : digs (m / 10) with
      | nil => exact absurd hd a2
      | cons x xs => rw [hd] at a1; simpa using a1

/-- A text of figures is the figures of its number, just when it opens with no needless nought. -/
theorem dec_val {l : List UInt8} (ha : allDig l) (hne : l ≠ []) : dec (val l) = l ↔ (l.head? ≠ some 48 ∨ l.length = 1) := by
  constructor
  · intro h
    by_cases hz : val l = 0
    · rw [dec, if_pos hz] at h
      right; rw [← h]; rfl
    · left
      rw [dec, if_neg hz] at h
      have := (digs_head _ _ (Nat.le_refl _) hz).1
      rw [h] at this
      exact this
  · intro h
    by_cases hh : l.head? = some 48
    · rcases h with h | h
      · exact absurd hh h
      · match l, h, hh with
        | [c], _, hh => simp at hh; subst hh; rfl
    · obtain ⟨h1, h2⟩ := digs_val _ l rfl ha hne hh
      rw [dec, if_neg (by omega), h1]

theorem dec_nil : dec (val []) ≠ [] := by decide

theorem digs_len_half : ∀ (n m : Nat), m ≤ n → (digs m).length ≤ m / 2 + 1 := by
  intro n
  induction n with
  | zero => intro m h; obtain rfl : m = 0 := by omega
            simp [digs_zero]
  | succ n ih =>
    intro m h
    by_cases h0 : m = 0
    · subst h0; simp [digs_zero]
    · rw [digs_step h0]
      by_cases h1 : m / 10 = 0
      · rw [h1, digs_zero]; simp
      · have := ih (m / 10) (by omega)
        simp; omega

theorem digs_len_half2 (n : Nat) : (digs n).length ≤ n / 2 + 1 := digs_len_half n n (Nat.le_refl _)

end Go.Proofs.Ytichbcpidkkblaa
