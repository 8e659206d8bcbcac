/- Plain facts, with no program in them: what is written is read back. -/
import Derived.Test.YtichbcpidkkblaaPlainRead
import Derived.Test.YtichbcpidkkblaaPlainHex
import Derived.Test.YtichbcpidkkblaaPlainFig
import Derived.Test.YtichbcpidkkblaaPlainDec
namespace Go.Proofs.Ytichbcpidkkblaa

theorem rg_vt : ∀ (f n i m : Nat) (rest : List UInt8), n < 128 ^ (f + 1) → rg (f + 1) (vt n ++ rest) i m = some (m + n * 128 ^ i, i + (vt n).length) := by
  intro f
  induction f with
  | zero =>
    intro n i m rest h
    have hn : n ≤ 127 := by simpa using Nat.le_of_lt_succ h
    rw [vt_small hn]
    simp only [List.cons_append, List.nil_append, rg, loByte_toNat (show n < 256 by omega)]
    rw [if_pos (by omega), Nat.mod_eq_of_lt (by omega)]
    rfl
  | succ f ih =>
    intro n i m rest h
    by_cases hn : n ≤ 127
    · rw [vt_small hn]
      simp only [List.cons_append, List.nil_append, rg, loByte_toNat (show n < 256 by omega)]
      rw [if_pos (by omega), Nat.mod_eq_of_lt (by omega)]
      rfl
    · rw [vt_big (by omega), List.cons_append, rg, hiByte_toNat, if_neg (by omega), ih (n / 128) _ _ _ (by rw [Nat.pow_succ] at h; omega)]
      have e1 : (n % 128 + 128) % 128 = n % 128 := by omega
      have e2 : n / 128 * 128 ^ (i + 1) = n / 128 * 128 * 128 ^ i := by rw [Nat.pow_succ, Nat.mul_comm (128 ^ i) 128, Nat.mul_assoc]
      have e3 : n * 128 ^ i = n % 128 * 128 ^ i + n / 128 * 128 * 128 ^ i := by
        rw [← Nat.add_mul]; congr 1; omega
      rw [e1, e2, e3]
      simp only [Option.some.injEq, Prod.mk.injEq, List.length_cons]
      omega

/-- A number's bytes behind others, and ahead of others, are read. -/
theorem rv_back (pre rest : List UInt8) (n : Nat) (h : n ≤ 1000000000) : rv (pre ++ (vt n ++ rest)) pre.length = some (n, pre.length + (vt n).length) := by
  have hd : (pre ++ (vt n ++ rest)).drop pre.length = vt n ++ rest := by simp
  have hr : rg 5 ((pre ++ (vt n ++ rest)).drop pre.length) 0 0 = some (n, (vt n).length) := by
    rw [hd, rg_vt 4 n 0 0 rest (by omega)]
    simp
  refine rv_yes hr h ?_
  rw [hd]
  simp

theorem val_digs : ∀ (n m : Nat), m ≤ n → val (digs m) = m := by
  intro n
  induction n with
  | zero => intro m h; obtain rfl : m = 0 := by omega
            rfl
  | succ n ih =>
    intro m h
    by_cases h0 : m = 0
    · subst h0; rfl
    · rw [digs_step h0, val_snoc, ih (m / 10) (by omega), figD_toNat (by omega)]
      omega

theorem allDig_digs : ∀ (n m : Nat), m ≤ n → allDig (digs m) := by
  intro n
  induction n with
  | zero => intro m h c hc; obtain rfl : m = 0 := by omega
            simp [digs_zero] at hc
  | succ n ih =>
    intro m h
    by_cases h0 : m = 0
    · subst h0; intro c hc; simp [digs_zero] at hc
    · rw [digs_step h0]
      intro c hc
      rcases List.mem_append.1 hc with h1 | h1
      · exact ih (m / 10) (by omega) c h1
      · simp at h1
        subst h1
        rw [figD_toNat (by omega)]
        omega

theorem digs_short : ∀ (k m : Nat), m < 10 ^ k → (digs m).length ≤ k := by
  intro k
  induction k with
  | zero => intro m h; obtain rfl : m = 0 := by simpa using h
            simp [digs_zero]
  | succ k ih =>
    intro m h
    by_cases h0 : m = 0
    · subst h0; simp [digs_zero]
    · rw [digs_step h0]
      have := ih (m / 10) (by rw [Nat.pow_succ] at h; omega)
      simp
      exact this

/-- The figures of a number tell it. -/
theorem dec_back (n : Nat) (h : n ≤ 1000000000) : (dec n).length ≤ 10 ∧ allDig (dec n) ∧ val (dec n) = n := by
  by_cases h0 : n = 0
  · subst h0
    refine ⟨by decide, ?_, by decide⟩
    intro c hc
    have : dec 0 = [48] := rfl
    rw [this] at hc
    simp at hc
    subst hc
    decide
  · rw [dec, if_neg h0]
    exact ⟨digs_short 10 n (by omega), allDig_digs n n (Nat.le_refl _), val_digs n n (Nat.le_refl _)⟩

theorem digV_fig : ∀ x, x < 16 → digV true (fig x) = some x := by decide +kernel

theorem valsOf_hex : ∀ l : List UInt8, valsOf true (hexOf l) = l.flatMap fun c => [UInt8.ofNat (c.toNat / 16), UInt8.ofNat (c.toNat % 16)] := by
  intro l
  induction l with
  | nil => rfl
  | cons c l ih =>
    have hc : c.toNat < 256 := UInt8.toNat_lt _
    have e : hexOf (c :: l) = fig (c.toNat / 16) :: fig (c.toNat % 16) :: hexOf l := rfl
    rw [e, valsOf, digV_fig _ (by omega)]
    simp only
    rw [valsOf, digV_fig _ (by omega)]
    simp only [List.flatMap_cons, List.cons_append, List.nil_append, ih]

theorem pairs_hex : ∀ l : List UInt8, pairsOf (l.flatMap fun c => [UInt8.ofNat (c.toNat / 16), UInt8.ofNat (c.toNat % 16)]) = l := by
  intro l
  induction l with
  | nil => rfl
  | cons c l ih =>
    have hc : c.toNat < 256 := UInt8.toNat_lt _
    simp only [List.flatMap_cons, List.cons_append, List.nil_append, pairsOf, ih]
    congr 1
    apply UInt8.toNat_inj.1
    rw [UInt8.toNat_ofNat', UInt8.toNat_ofNat', UInt8.toNat_ofNat']
    omega

/-- Figures written are read back. -/
theorem hex_back (l : List UInt8) (h : l.length ≤ 20000) : isHex (hexOf l) ∧ pairsOf (valsOf true (hexOf l)) = l := by
  have h1 := hexOf_length l
  have h2 : (valsOf true (hexOf l)).length = (hexOf l).length := by
    rw [valsOf_hex, h1]
    clear h h1
    induction l with
    | nil => rfl
    | cons c l ih => simp only [List.flatMap_cons, List.length_append, List.length_cons, List.length_nil]; omega
  exact ⟨⟨by omega, by omega, h2⟩, by rw [valsOf_hex, pairs_hex]⟩

end Go.Proofs.Ytichbcpidkkblaa
