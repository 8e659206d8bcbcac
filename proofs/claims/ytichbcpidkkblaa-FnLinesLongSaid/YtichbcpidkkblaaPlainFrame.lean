/- Plain facts, with no program in them: frames, their texts, and what is read of a text. -/
import Derived.Test.YtichbcpidkkblaaPlainRead
import Derived.Test.YtichbcpidkkblaaPlainBa
namespace Go.Proofs.Ytichbcpidkkblaa

theorem vt_short : ∀ (k n : Nat), n < 128 ^ (k + 1) → (vt n).length ≤ k + 1 := by
  intro k
  induction k with
  | zero =>
    intro n h
    rw [vt_small (by simpa using Nat.le_of_lt_succ h)]
    simp
  | succ k ih =>
    intro n h
    by_cases hn : n ≤ 127
    · rw [vt_small hn]; simp
    · rw [vt_big (by omega)]
      have := ih (n / 128) (by rw [Nat.pow_succ] at h; omega)
      simpa using this

theorem vt_five {n : Nat} (h : n ≤ 1000000000) : (vt n).length ≤ 5 := vt_short 4 n (by omega)
theorem vt_two {n : Nat} (h : n ≤ 180) : (vt n).length ≤ 2 := vt_short 1 n (by omega)

/-- The bytes of a number. -/
def vtB (n : Nat) : ByteArray := ⟨(vt n).toArray⟩
theorem vtB_size (n : Nat) : (vtB n).size = (vt n).length := by simp [vtB, ByteArray.size]
theorem vtB_list (n : Nat) : (vtB n).data.toList = vt n := by simp [vtB]

structure Fr where
  gen : Int
  seq : Int
  body : ByteArray

def Fr.ok (f : Fr) : Prop := (1 ≤ f.gen ∧ f.gen ≤ 1000000000) ∧ (1 ≤ f.seq ∧ f.seq ≤ 1000000000) ∧ 1 ≤ f.body.size ∧ f.body.size ≤ 180
instance decFrOk (f : Fr) : Decidable f.ok := by unfold Fr.ok; infer_instance

/-- What is sealed of a frame. -/
def Fr.raw (f : Fr) : ByteArray := vtB f.gen.toNat ++ vtB f.seq.toNat ++ (vtB f.body.size ++ f.body)
/-- Its text, of whatever sum. -/
def Fr.text (f : Fr) (four : ByteArray → ByteArray) : ByteArray := f.raw ++ four f.raw

theorem Fr.raw_size {f : Fr} (h : f.ok) : f.raw.size ≤ 192 := by
  obtain ⟨h1, h2, h3, h4⟩ := h
  have a := vt_five (n := f.gen.toNat) (by omega)
  have b := vt_five (n := f.seq.toNat) (by omega)
  have c := vt_two h4
  simp only [Fr.raw, ByteArray.size_append, vtB_size]
  omega

/-- What a number is read from is its bytes. -/
theorem rv_bytes {s : ByteArray} {k n b : Nat} (h : rv s.data.toList k = some (n, b)) (hk : k ≤ s.size) : n ≤ 1000000000 ∧ k < b ∧ b ≤ s.size ∧ s.extract k b = vtB n := by
  have h0 : k ≤ s.data.toList.length := by rw [ba_len]; exact hk
  obtain ⟨h1, h2, h3⟩ := rv_le h0 h
  rw [ba_len] at h3
  refine ⟨h1, h2, h3, ?_⟩
  apply ba_ext
  rw [extract_data, vtB_list]
  unfold rv at h
  split at h
  · split at h
    · rename_i m c hR h4
      simp at h
      obtain ⟨rfl, rfl⟩ := h
      rw [h4.2]
      congr 1
      omega
    · simp at h
  · simp at h

/-- What lies ahead of a frame's sum, and the place behind it. -/
def ru (s : ByteArray) (k : Nat) : Option (Fr × Nat) :=
  match rv s.data.toList k with
  | none => none
  | some (g, a) =>
    match rv s.data.toList a with
    | none => none
    | some (q, b) =>
      match rv s.data.toList b with
      | none => none
      | some (n, c) => if n ≤ 20000 ∧ n + c ≤ s.size then some (⟨g, q, s.extract c (c + n)⟩, c + n) else none

theorem ru_no1 {s : ByteArray} {k : Nat} (h : rv s.data.toList k = none) : ru s k = none := by rw [ru, h]
theorem ru_no2 {s : ByteArray} {k g a : Nat} (h : rv s.data.toList k = some (g, a)) (h2 : rv s.data.toList a = none) : ru s k = none := by rw [ru, h]; simp only [h2]
theorem ru_no3 {s : ByteArray} {k g a q b : Nat} (h : rv s.data.toList k = some (g, a)) (h2 : rv s.data.toList a = some (q, b)) (h3 : rv s.data.toList b = none) : ru s k = none := by rw [ru, h]; simp only [h2, h3]
theorem ru_no4 {s : ByteArray} {k g a q b n c : Nat} (h : rv s.data.toList k = some (g, a)) (h2 : rv s.data.toList a = some (q, b)) (h3 : rv s.data.toList b = some (n, c)) (h4 : ¬ (n ≤ 20000 ∧ n + c ≤ s.size)) : ru s k = none := by rw [ru, h]; simp only [h2, h3, if_neg h4]
theorem ru_yes {s : ByteArray} {k g a q b n c : Nat} (h : rv s.data.toList k = some (g, a)) (h2 : rv s.data.toList a = some (q, b)) (h3 : rv s.data.toList b = some (n, c)) (h4 : n ≤ 20000 ∧ n + c ≤ s.size) : ru s k = some (⟨g, q, s.extract c (c + n)⟩, c + n) := by rw [ru, h]; simp only [h2, h3, if_pos h4]

theorem ru_ways {s : ByteArray} {k e : Nat} {f : Fr} (h : ru s k = some (f, e)) : ∃ g a q b n c : Nat, rv s.data.toList k = some (g, a) ∧ rv s.data.toList a = some (q, b) ∧ rv s.data.toList b = some (n, c) ∧ n ≤ 20000 ∧ n + c ≤ s.size ∧ f = ⟨g, q, s.extract c (c + n)⟩ ∧ e = c + n := by
  unfold ru at h
  split at h
  · simp at h
  · rename_i g a h1
    split at h
    · simp at h
    · rename_i q b h2
      split at h
      · simp at h
      · rename_i n c h3
        split at h
        · rename_i h4
          simp at h
          exact ⟨g, a, q, b, n, c, h1, h2, h3, h4.1, h4.2, h.1.symm, h.2.symm⟩
        · simp at h

theorem ru_raw {s : ByteArray} {k e : Nat} {f : Fr} (h : ru s k = some (f, e)) (hk : k ≤ s.size) : f.raw = s.extract k e ∧ k + 3 ≤ e ∧ e ≤ s.size ∧ (0 ≤ f.gen ∧ f.gen ≤ 1000000000) ∧ (0 ≤ f.seq ∧ f.seq ≤ 1000000000) ∧ f.body.size ≤ 20000 := by
  obtain ⟨g, a, q, b, n, c, h1, h2, h3, h4, h5, rfl, rfl⟩ := ru_ways h
  obtain ⟨g1, g2, g3, g4⟩ := rv_bytes h1 hk
  obtain ⟨q1, q2, q3, q4⟩ := rv_bytes h2 g3
  obtain ⟨n1, n2, n3, n4⟩ := rv_bytes h3 q3
  have hsz : (s.extract c (c + n)).size = n := by rw [ByteArray.size_extract]; omega
  refine ⟨?_, by omega, by omega, by simp only; omega, by simp only; omega, by rw [hsz]; exact h4⟩
  simp only [Fr.raw, hsz, Int.toNat_natCast]
  rw [← g4, ← q4, ← n4, extract_join s (by omega) (by omega), extract_join s (by omega) (by omega), extract_join s (by omega) (by omega)]

/-- The frame whose text stands in s from k on, and the place behind it. -/
def rf (four : ByteArray → ByteArray) (s : ByteArray) (k : Nat) : Option (Fr × Nat) :=
  match ru s k with
  | some (f, e) => if f.ok ∧ e + 4 ≤ s.size ∧ f.text four = s.extract k (e + 4) then some (f, e + 4) else none
  | none => none

variable {four : ByteArray → ByteArray}

theorem rf_none {s : ByteArray} {k : Nat} (h : ru s k = none) : rf four s k = none := by rw [rf, h]
theorem rf_no {s : ByteArray} {k e : Nat} {f : Fr} (h : ru s k = some (f, e)) (h2 : ¬ (f.ok ∧ e + 4 ≤ s.size ∧ f.text four = s.extract k (e + 4))) : rf four s k = none := by rw [rf, h]; simp only [if_neg h2]
theorem rf_yes {s : ByteArray} {k e : Nat} {f : Fr} (h : ru s k = some (f, e)) (h2 : f.ok ∧ e + 4 ≤ s.size ∧ f.text four = s.extract k (e + 4)) : rf four s k = some (f, e + 4) := by rw [rf, h]; simp only [if_pos h2]

theorem rf_some {s : ByteArray} {k e : Nat} {f : Fr} (h : rf four s k = some (f, e)) (hk : k ≤ s.size) : f.ok ∧ k < e ∧ e ≤ s.size ∧ f.text four = s.extract k e := by
  unfold rf at h
  split at h
  · rename_i f' e' hu
    split at h
    · rename_i h2
      simp at h
      obtain ⟨rfl, rfl⟩ := h
      have := (ru_raw hu hk).2.1
      exact ⟨h2.1, by omega, h2.2.1, h2.2.2⟩
    · simp at h
  · simp at h

/-- Frames of a Gen, one behind the other, each with the place behind it. -/
def sqF (four : ByteArray → ByteArray) : Nat → ByteArray → Int → Nat → List (Fr × Nat)
  | 0, _, _, _ => []
  | n + 1, s, g, k =>
    match rf four s k with
    | some (f, e) => if f.gen = g then (f, e) :: sqF four n s g e else []
    | none => []
def sq (four : ByteArray → ByteArray) (s : ByteArray) (g : Int) (k : Nat) : List (Fr × Nat) := sqF four (s.size + 1 - k) s g k

theorem sqF_more : ∀ (n m : Nat) (s : ByteArray) (g : Int) (k : Nat), k ≤ s.size → s.size < n + k → s.size < m + k → sqF four n s g k = sqF four m s g k := by
  intro n
  induction n with
  | zero => intro m s g k h0 h1; omega
  | succ n ih =>
    intro m s g k h0 h1 h2
    cases m with
    | zero => omega
    | succ m =>
      rw [sqF, sqF]
      split
      · rename_i f e hr
        obtain ⟨_, h3, h4, _⟩ := rf_some hr h0
        rw [ih m s g e h4 (by omega) (by omega)]
      · rfl

theorem sq_yes {s : ByteArray} {g : Int} {k e : Nat} {f : Fr} (hk : k ≤ s.size) (h : rf four s k = some (f, e)) (hg : f.gen = g) : sq four s g k = (f, e) :: sq four s g e := by
  obtain ⟨_, h3, h4, _⟩ := rf_some h hk
  rw [sq, show s.size + 1 - k = (s.size - k) + 1 by omega, sqF, h]
  simp only [if_pos hg]
  rw [sq, sqF_more (s.size - k) (s.size + 1 - e) s g e h4 (by omega) (by omega)]
theorem sq_no {s : ByteArray} {g : Int} {k e : Nat} {f : Fr} (h : rf four s k = some (f, e)) (hg : ¬ f.gen = g) : sq four s g k = [] := by
  rw [sq]
  cases s.size + 1 - k with
  | zero => rfl
  | succ n => rw [sqF, h]; simp only [if_neg hg]
theorem sq_none {s : ByteArray} {g : Int} {k : Nat} (h : rf four s k = none) : sq four s g k = [] := by
  rw [sq]
  cases s.size + 1 - k with
  | zero => rfl
  | succ n => rw [sqF, h]

/-- The place behind the last one. -/
def behind : Nat → List (Fr × Nat) → Nat
  | k, [] => k
  | _, x :: l => behind x.2 l

theorem behind_append : ∀ (l m : List (Fr × Nat)) (k : Nat), behind k (l ++ m) = behind (behind k l) m := by
  intro l
  induction l with
  | nil => intro m k; rfl
  | cons x l ih => intro m k; exact ih m x.2
theorem behind_snoc (l : List (Fr × Nat)) (x : Fr × Nat) (k : Nat) : behind k (l ++ [x]) = x.2 := by rw [behind_append]; rfl

/-- Every one of them is right, and short; and there are no more than bytes. -/
theorem sqF_all : ∀ (n : Nat) (s : ByteArray) (g : Int) (k : Nat), k ≤ s.size → (∀ x ∈ sqF four n s g k, x.1.ok ∧ x.2 ≤ s.size) ∧ (sqF four n s g k).length + k ≤ s.size ∧ behind k (sqF four n s g k) ≤ s.size := by
  intro n
  induction n with
  | zero => intro s g k hk; exact ⟨by simp [sqF], by simpa [sqF] using hk, by simpa [sqF, behind] using hk⟩
  | succ n ih =>
    intro s g k hk
    rw [sqF]
    split
    · rename_i f e hr
      obtain ⟨h1, h3, h4, _⟩ := rf_some hr hk
      split
      · obtain ⟨i1, i2, i3⟩ := ih s g e h4
        refine ⟨?_, by simp; omega, i3⟩
        intro x hx
        rcases List.mem_cons.1 hx with rfl | hx
        · exact ⟨h1, h4⟩
        · exact i1 x hx
      · exact ⟨by simp, by simpa using hk, hk⟩
    · exact ⟨by simp, by simpa using hk, hk⟩

theorem sq_all {s : ByteArray} {g : Int} {k : Nat} (hk : k ≤ s.size) : (∀ x ∈ sq four s g k, x.1.ok ∧ x.2 ≤ s.size) ∧ (sq four s g k).length + k ≤ s.size ∧ behind k (sq four s g k) ≤ s.size := sqF_all _ s g k hk

end Go.Proofs.Ytichbcpidkkblaa
