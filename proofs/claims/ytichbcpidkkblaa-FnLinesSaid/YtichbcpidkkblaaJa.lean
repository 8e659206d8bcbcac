/- Texts of our own, joined. -/
import Derived.WalkKit
import Derived.Laws.BitsAllLaws
import Derived.Laws.BitsLemmas
import Derived.Test.YtichbcpidkkblaaRows
import Derived.Laws.BytesArg
import Derived.Laws.Bits128
/- Plain facts on the bytes of a number, with no program in them: the groups of seven bits of a number, the lowest first. -/
namespace Go.Proofs.Ytichbcpidkkblaa

/-- A byte that more follows: the lowest seven bits of m, and 128. -/
def hiByte (m : Nat) : UInt8 := UInt8.ofNat (m % 128 + 128)
/-- The last byte. -/
def loByte (m : Nat) : UInt8 := UInt8.ofNat m

theorem hiByte_toNat (m : Nat) : (hiByte m).toNat = m % 128 + 128 := by
  rw [hiByte, UInt8.toNat_ofNat']
  omega

theorem loByte_toNat {m : Nat} (h : m < 256) : (loByte m).toNat = m := by
  rw [loByte, UInt8.toNat_ofNat']
  omega

def vtF : Nat → Nat → List UInt8
  | 0, n => [loByte n]
  | f + 1, n => if 127 < n then hiByte n :: vtF f (n / 128) else [loByte n]

def vt (n : Nat) : List UInt8 := vtF n n

theorem vtF_more : ∀ (f g n : Nat), n ≤ f → n ≤ g → vtF f n = vtF g n := by
  intro f
  induction f with
  | zero =>
    intro g n hf hg
    obtain rfl : n = 0 := by omega
    cases g <;> simp [vtF]
  | succ f ih =>
    intro g n hf hg
    cases g with
    | zero => obtain rfl : n = 0 := by omega
              simp [vtF]
    | succ g =>
      simp only [vtF]
      split
      · rw [ih g (n / 128) (by omega) (by omega)]
      · rfl

theorem vt_big {n : Nat} (h : 127 < n) : vt n = hiByte n :: vt (n / 128) := by
  unfold vt
  cases n with
  | zero => omega
  | succ n =>
    rw [vtF, if_pos h, vtF_more n ((n + 1) / 128) ((n + 1) / 128) (by omega) (Nat.le_refl _)]

theorem vt_small {n : Nat} (h : n ≤ 127) : vt n = [loByte n] := by
  unfold vt
  cases n with
  | zero => rfl
  | succ n => rw [vtF, if_neg (by omega)]

theorem vtF_len : ∀ (f n : Nat), (vtF f n).length ≤ f + 1 := by
  intro f
  induction f with
  | zero => intro n; simp [vtF]
  | succ f ih =>
    intro n
    simp only [vtF]
    split
    · simp; exact ih _
    · simp

theorem vt_len (n : Nat) : (vt n).length ≤ n + 1 := vtF_len n n

/-- What has been written and what is still to be written are together what is asked for. -/
theorem vt_step {acc : List UInt8} {m n : Nat} (h : acc ++ vt m = vt n) (hm : 127 < m) : (acc ++ [hiByte m]) ++ vt (m / 128) = vt n := by
  rw [vt_big hm] at h
  simpa using h

theorem vt_end {acc : List UInt8} {m n : Nat} (h : acc ++ vt m = vt n) (hm : m ≤ 127) : acc ++ [loByte m] = vt n := by
  rw [vt_small hm] at h
  exact h

theorem vt_acc {acc : List UInt8} {m n : Nat} (h : acc ++ vt m = vt n) : acc.length ≤ n + 1 := by
  have h1 := congrArg List.length h
  have h2 := vt_len n
  simp at h1
  omega

end Go.Proofs.Ytichbcpidkkblaa

/- Plain facts on reading a number in groups of seven bits, with no program in them. -/
namespace Go.Proofs.Ytichbcpidkkblaa

/-- The groups from the first byte of a list on, the i-th of them next: the number, and how many bytes there were. -/
def rg : Nat → List UInt8 → Nat → Nat → Option (Nat × Nat)
  | 0, _, _, _ => none
  | _ + 1, [], _, _ => none
  | f + 1, c :: cs, i, n => if c.toNat < 128 then some (n + c.toNat % 128 * 128 ^ i, i + 1) else rg f cs (i + 1) (n + c.toNat % 128 * 128 ^ i)

theorem rg_lo {l : List UInt8} {k i n : Nat} (hi : i < 5) (hlt : k + i < l.length) (hc : l[k + i].toNat < 128) :
    rg (5 - i) (l.drop (k + i)) i n = some (n + l[k + i].toNat % 128 * 128 ^ i, i + 1) := by
  rw [List.drop_eq_getElem_cons hlt, show 5 - i = (4 - i) + 1 by omega, rg, if_pos hc]

theorem rg_hi {l : List UInt8} {k i n : Nat} (hi : i < 5) (hlt : k + i < l.length) (hc : ¬ l[k + i].toNat < 128) :
    rg (5 - i) (l.drop (k + i)) i n = rg (5 - (i + 1)) (l.drop (k + (i + 1))) (i + 1) (n + l[k + i].toNat % 128 * 128 ^ i) := by
  rw [List.drop_eq_getElem_cons hlt, show 5 - i = (4 - i) + 1 by omega, rg, if_neg hc, show 5 - (i + 1) = 4 - i by omega, show k + (i + 1) = k + i + 1 by omega]

theorem rg_out {l : List UInt8} {k i n : Nat} (h : ¬ (i < 5 ∧ k + i < l.length)) : rg (5 - i) (l.drop (k + i)) i n = none := by
  by_cases hi : i < 5
  · have : l.drop (k + i) = [] := by apply List.drop_eq_nil_of_le; omega
    rw [this, show 5 - i = (4 - i) + 1 by omega, rg]
  · rw [show 5 - i = 0 by omega, rg]

theorem rg_bound : ∀ (f : Nat) (l : List UInt8) (i n m c : Nat), rg f l i n = some (m, c) → n < 128 ^ i → m < 128 ^ (i + f) ∧ i < c ∧ c ≤ i + f ∧ c ≤ i + l.length := by
  intro f
  induction f with
  | zero => intro l i n m c h; simp [rg] at h
  | succ f ih =>
    intro l i n m c h hn
    cases l with
    | nil => simp [rg] at h
    | cons b bs =>
      have hb : b.toNat % 128 * 128 ^ i ≤ 127 * 128 ^ i := Nat.mul_le_mul_right _ (by omega)
      have hp : 128 ^ (i + 1) = 128 * 128 ^ i := by rw [Nat.pow_succ, Nat.mul_comm]
      rw [rg] at h
      split at h
      · simp at h
        obtain ⟨rfl, rfl⟩ := h
        have hq : 128 ^ (i + 1) ≤ 128 ^ (i + (f + 1)) := Nat.pow_le_pow_right (by omega) (by omega)
        simp
        omega
      · obtain ⟨h1, h2, h3, h4⟩ := ih bs (i + 1) _ m c h (by omega)
        rw [show i + 1 + f = i + (f + 1) by omega] at h1
        simp
        omega

/-- The number whose bytes stand in l from k on, and the place behind it. -/
def rv (l : List UInt8) (k : Nat) : Option (Nat × Nat) :=
  match rg 5 (l.drop k) 0 0 with
  | some (n, c) => if n ≤ 1000000000 ∧ vt n = (l.drop k).take c then some (n, k + c) else none
  | none => none

theorem rv_none {l : List UInt8} {k : Nat} (h : rg 5 (l.drop k) 0 0 = none) : rv l k = none := by rw [rv, h]
theorem rv_yes {l : List UInt8} {k n c : Nat} (h : rg 5 (l.drop k) 0 0 = some (n, c)) (h1 : n ≤ 1000000000) (h2 : vt n = (l.drop k).take c) : rv l k = some (n, k + c) := by rw [rv, h]; simp [h1, h2]
theorem rv_no {l : List UInt8} {k n c : Nat} (h : rg 5 (l.drop k) 0 0 = some (n, c)) (h1 : ¬ (n ≤ 1000000000 ∧ vt n = (l.drop k).take c)) : rv l k = none := by rw [rv, h]; simp only [if_neg h1]

theorem rv_le {l : List UInt8} {k n b : Nat} (hk : k ≤ l.length) (h : rv l k = some (n, b)) : n ≤ 1000000000 ∧ k < b ∧ b ≤ l.length := by
  unfold rv at h
  split at h
  · rename_i m c hR
    split at h
    · rename_i h2
      simp at h
      obtain ⟨rfl, rfl⟩ := h
      obtain ⟨_, b2, _, b4⟩ := rg_bound 5 _ 0 0 _ _ hR (by decide)
      simp at b4
      omega
    · simp at h
  · simp at h

end Go.Proofs.Ytichbcpidkkblaa

/- Plain facts on rows of bytes. -/
namespace Go.Proofs.Ytichbcpidkkblaa

theorem extract_data (s : ByteArray) (i j : Nat) : (s.extract i j).data.toList = (s.data.toList.drop i).take (j - i) := by
  obtain ⟨⟨l⟩⟩ := s
  have := ByteArray.extract_mk l i j
  rw [this]

theorem ba_ext {a b : ByteArray} (h : a.data.toList = b.data.toList) : a = b := by
  obtain ⟨⟨a⟩⟩ := a
  obtain ⟨⟨b⟩⟩ := b
  simp at h
  rw [h]

theorem ba_len (s : ByteArray) : s.data.toList.length = s.size := by rw [Array.length_toList]; rfl

theorem ba_append_list (a b : ByteArray) : (a ++ b).data.toList = a.data.toList ++ b.data.toList := by simp

theorem extract_join (s : ByteArray) {i j k : Nat} (h1 : i ≤ j) (h2 : j ≤ k) : s.extract i j ++ s.extract j k = s.extract i k := by
  apply ba_ext
  rw [ba_append_list, extract_data, extract_data, extract_data]
  have e : k - i = (j - i) + (k - j) := by omega
  have e2 : j = i + (j - i) := by omega
  rw [e, List.take_add, List.drop_drop, ← e2]

theorem extract_all (s : ByteArray) : s.extract 0 s.size = s := by
  apply ba_ext
  rw [extract_data, List.drop_zero, Nat.sub_zero, ← ba_len, List.take_length]

theorem ba_nil : (⟨#[]⟩ : ByteArray) = ByteArray.empty := rfl

end Go.Proofs.Ytichbcpidkkblaa

/- Plain facts, with no program in them: frames, their texts, and what is read of a text. -/
namespace Go.Proofs.Ytichbcpidkkblaa

theorem vt_short : ∀ (k n : Nat), n < 128 ^ (k + 1) → (vt n).length ≤ k + 1 := by
  intro k
  induction k with
  | zero =>
    intro n h
    rw [vt_small (by simpa using Nat.le_of_lt_succ h)]
    simp
  | succ k ih =>
    intro n h
    by_cases hn : n ≤ 127
    · rw [vt_small hn]; simp
    · rw [vt_big (by omega)]
      have := ih (n / 128) (by rw [Nat.pow_succ] at h; omega)
      simpa using this

theorem vt_five {n : Nat} (h : n ≤ 1000000000) : (vt n).length ≤ 5 := vt_short 4 n (by omega)
theorem vt_two {n : Nat} (h : n ≤ 180) : (vt n).length ≤ 2 := vt_short 1 n (by omega)

/-- The bytes of a number. -/
def vtB (n : Nat) : ByteArray := ⟨(vt n).toArray⟩
theorem vtB_size (n : Nat) : (vtB n).size = (vt n).length := by simp [vtB, ByteArray.size]
theorem vtB_list (n : Nat) : (vtB n).data.toList = vt n := by simp [vtB]

structure Fr where
  gen : Int
  seq : Int
  body : ByteArray

def Fr.ok (f : Fr) : Prop := (1 ≤ f.gen ∧ f.gen ≤ 1000000000) ∧ (1 ≤ f.seq ∧ f.seq ≤ 1000000000) ∧ 1 ≤ f.body.size ∧ f.body.size ≤ 180
instance decFrOk (f : Fr) : Decidable f.ok := by unfold Fr.ok; infer_instance

/-- What is sealed of a frame. -/
def Fr.raw (f : Fr) : ByteArray := vtB f.gen.toNat ++ vtB f.seq.toNat ++ (vtB f.body.size ++ f.body)
/-- Its text, of whatever sum. -/
def Fr.text (f : Fr) (four : ByteArray → ByteArray) : ByteArray := f.raw ++ four f.raw

theorem Fr.raw_size {f : Fr} (h : f.ok) : f.raw.size ≤ 192 := by
  obtain ⟨h1, h2, h3, h4⟩ := h
  have a := vt_five (n := f.gen.toNat) (by omega)
  have b := vt_five (n := f.seq.toNat) (by omega)
  have c := vt_two h4
  simp only [Fr.raw, ByteArray.size_append, vtB_size]
  omega

/-- What a number is read from is its bytes. -/
theorem rv_bytes {s : ByteArray} {k n b : Nat} (h : rv s.data.toList k = some (n, b)) (hk : k ≤ s.size) : n ≤ 1000000000 ∧ k < b ∧ b ≤ s.size ∧ s.extract k b = vtB n := by
  have h0 : k ≤ s.data.toList.length := by rw [ba_len]; exact hk
  obtain ⟨h1, h2, h3⟩ := rv_le h0 h
  rw [ba_len] at h3
  refine ⟨h1, h2, h3, ?_⟩
  apply ba_ext
  rw [extract_data, vtB_list]
  unfold rv at h
  split at h
  · split at h
    · rename_i m c hR h4
      simp at h
      obtain ⟨rfl, rfl⟩ := h
      rw [h4.2]
      congr 1
      omega
    · simp at h
  · simp at h

/-- What lies ahead of a frame's sum, and the place behind it. -/
def ru (s : ByteArray) (k : Nat) : Option (Fr × Nat) :=
  match rv s.data.toList k with
  | none => none
  | some (g, a) =>
    match rv s.data.toList a with
    | none => none
    | some (q, b) =>
      match rv s.data.toList b with
      | none => none
      | some (n, c) => if n ≤ 20000 ∧ n + c ≤ s.size then some (⟨g, q, s.extract c (c + n)⟩, c + n) else none

theorem ru_no1 {s : ByteArray} {k : Nat} (h : rv s.data.toList k = none) : ru s k = none := by rw [ru, h]
theorem ru_no2 {s : ByteArray} {k g a : Nat} (h : rv s.data.toList k = some (g, a)) (h2 : rv s.data.toList a = none) : ru s k = none := by rw [ru, h]; simp only [h2]
theorem ru_no3 {s : ByteArray} {k g a q b : Nat} (h : rv s.data.toList k = some (g, a)) (h2 : rv s.data.toList a = some (q, b)) (h3 : rv s.data.toList b = none) : ru s k = none := by rw [ru, h]; simp only [h2, h3]
theorem ru_no4 {s : ByteArray} {k g a q b n c : Nat} (h : rv s.data.toList k = some (g, a)) (h2 : rv s.data.toList a = some (q, b)) (h3 : rv s.data.toList b = some (n, c)) (h4 : ¬ (n ≤ 20000 ∧ n + c ≤ s.size)) : ru s k = none := by rw [ru, h]; simp only [h2, h3, if_neg h4]
theorem ru_yes {s : ByteArray} {k g a q b n c : Nat} (h : rv s.data.toList k = some (g, a)) (h2 : rv s.data.toList a = some (q, b)) (h3 : rv s.data.toList b = some (n, c)) (h4 : n ≤ 20000 ∧ n + c ≤ s.size) : ru s k = some (⟨g, q, s.extract c (c + n)⟩, c + n) := by rw [ru, h]; simp only [h2, h3, if_pos h4]

theorem ru_ways {s : ByteArray} {k e : Nat} {f : Fr} (h : ru s k = some (f, e)) : ∃ g a q b n c : Nat, rv s.data.toList k = some (g, a) ∧ rv s.data.toList a = some (q, b) ∧ rv s.data.toList b = some (n, c) ∧ n ≤ 20000 ∧ n + c ≤ s.size ∧ f = ⟨g, q, s.extract c (c + n)⟩ ∧ e = c + n := by
  unfold ru at h
  split at h
  · simp at h
  · rename_i g a h1
    split at h
    · simp at h
    · rename_i q b h2
      split at h
      · simp at h
      · rename_i n c h3
        split at h
        · rename_i h4
          simp at h
          exact ⟨g, a, q, b, n, c, h1, h2, h3, h4.1, h4.2, h.1.symm, h.2.symm⟩
        · simp at h

theorem ru_raw {s : ByteArray} {k e : Nat} {f : Fr} (h : ru s k = some (f, e)) (hk : k ≤ s.size) : f.raw = s.extract k e ∧ k + 3 ≤ e ∧ e ≤ s.size ∧ (0 ≤ f.gen ∧ f.gen ≤ 1000000000) ∧ (0 ≤ f.seq ∧ f.seq ≤ 1000000000) ∧ f.body.size ≤ 20000 := by
  obtain ⟨g, a, q, b, n, c, h1, h2, h3, h4, h5, rfl, rfl⟩ := ru_ways h
  obtain ⟨g1, g2, g3, g4⟩ := rv_bytes h1 hk
  obtain ⟨q1, q2, q3, q4⟩ := rv_bytes h2 g3
  obtain ⟨n1, n2, n3, n4⟩ := rv_bytes h3 q3
  have hsz : (s.extract c (c + n)).size = n := by rw [ByteArray.size_extract]; omega
  refine ⟨?_, by omega, by omega, by simp only; omega, by simp only; omega, by rw [hsz]; exact h4⟩
  simp only [Fr.raw, hsz, Int.toNat_natCast]
  rw [← g4, ← q4, ← n4, extract_join s (by omega) (by omega), extract_join s (by omega) (by omega), extract_join s (by omega) (by omega)]

/-- The frame whose text stands in s from k on, and the place behind it. -/
def rf (four : ByteArray → ByteArray) (s : ByteArray) (k : Nat) : Option (Fr × Nat) :=
  match ru s k with
  | some (f, e) => if f.ok ∧ e + 4 ≤ s.size ∧ f.text four = s.extract k (e + 4) then some (f, e + 4) else none
  | none => none

variable {four : ByteArray → ByteArray}

theorem rf_none {s : ByteArray} {k : Nat} (h : ru s k = none) : rf four s k = none := by rw [rf, h]
theorem rf_no {s : ByteArray} {k e : Nat} {f : Fr} (h : ru s k = some (f, e)) (h2 : ¬ (f.ok ∧ e + 4 ≤ s.size ∧ f.text four = s.extract k (e + 4))) : rf four s k = none := by rw [rf, h]; simp only [if_neg h2]
theorem rf_yes {s : ByteArray} {k e : Nat} {f : Fr} (h : ru s k = some (f, e)) (h2 : f.ok ∧ e + 4 ≤ s.size ∧ f.text four = s.extract k (e + 4)) : rf four s k = some (f, e + 4) := by rw [rf, h]; simp only [if_pos h2]

theorem rf_some {s : ByteArray} {k e : Nat} {f : Fr} (h : rf four s k = some (f, e)) (hk : k ≤ s.size) : f.ok ∧ k < e ∧ e ≤ s.size ∧ f.text four = s.extract k e := by
  unfold rf at h
  split at h
  · rename_i f' e' hu
    split at h
    · rename_i h2
      simp at h
      obtain ⟨rfl, rfl⟩ := h
      have := (ru_raw hu hk).2.1
      exact ⟨h2.1, by omega, h2.2.1, h2.2.2⟩
    · simp at h
  · simp at h

/-- Frames of a Gen, one behind the other, each with the place behind it. -/
def sqF (four : ByteArray → ByteArray) : Nat → ByteArray → Int → Nat → List (Fr × Nat)
  | 0, _, _, _ => []
  | n + 1, s, g, k =>
    match rf four s k with
    | some (f, e) => if f.gen = g then (f, e) :: sqF four n s g e else []
    | none => []
def sq (four : ByteArray → ByteArray) (s : ByteArray) (g : Int) (k : Nat) : List (Fr × Nat) := sqF four (s.size + 1 - k) s g k

theorem sqF_more : ∀ (n m : Nat) (s : ByteArray) (g : Int) (k : Nat), k ≤ s.size → s.size < n + k → s.size < m + k → sqF four n s g k = sqF four m s g k := by
  intro n
  induction n with
  | zero => intro m s g k h0 h1; omega
  | succ n ih =>
    intro m s g k h0 h1 h2
    cases m with
    | zero => omega
    | succ m =>
      rw [sqF, sqF]
      split
      · rename_i f e hr
        obtain ⟨_, h3, h4, _⟩ := rf_some hr h0
        rw [ih m s g e h4 (by omega) (by omega)]
      · rfl

theorem sq_yes {s : ByteArray} {g : Int} {k e : Nat} {f : Fr} (hk : k ≤ s.size) (h : rf four s k = some (f, e)) (hg : f.gen = g) : sq four s g k = (f, e) :: sq four s g e := by
  obtain ⟨_, h3, h4, _⟩ := rf_some h hk
  rw [sq, show s.size + 1 - k = (s.size - k) + 1 by omega, sqF, h]
  simp only [if_pos hg]
  rw [sq, sqF_more (s.size - k) (s.size + 1 - e) s g e h4 (by omega) (by omega)]
theorem sq_no {s : ByteArray} {g : Int} {k e : Nat} {f : Fr} (h : rf four s k = some (f, e)) (hg : ¬ f.gen = g) : sq four s g k = [] := by
  rw [sq]
  cases s.size + 1 - k with
  | zero => rfl
  | succ n => rw [sqF, h]; simp only [if_neg hg]
theorem sq_none {s : ByteArray} {g : Int} {k : Nat} (h : rf four s k = none) : sq four s g k = [] := by
  rw [sq]
  cases s.size + 1 - k with
  | zero => rfl
  | succ n => rw [sqF, h]

/-- The place behind the last one. -/
def behind : Nat → List (Fr × Nat) → Nat
  | k, [] => k
  | _, x :: l => behind x.2 l

theorem behind_append : ∀ (l m : List (Fr × Nat)) (k : Nat), behind k (l ++ m) = behind (behind k l) m := by
  intro l
  induction l with
  | nil => intro m k; rfl
  | cons x l ih => intro m k; exact ih m x.2
theorem behind_snoc (l : List (Fr × Nat)) (x : Fr × Nat) (k : Nat) : behind k (l ++ [x]) = x.2 := by rw [behind_append]; rfl

/-- Every one of them is right, and short; and there are no more than bytes. -/
theorem sqF_all : ∀ (n : Nat) (s : ByteArray) (g : Int) (k : Nat), k ≤ s.size → (∀ x ∈ sqF four n s g k, x.1.ok ∧ x.2 ≤ s.size) ∧ (sqF four n s g k).length + k ≤ s.size ∧ behind k (sqF four n s g k) ≤ s.size := by
  intro n
  induction n with
  | zero => intro s g k hk; exact ⟨by simp [sqF], by simpa [sqF] using hk, by simpa [sqF, behind] using hk⟩
  | succ n ih =>
    intro s g k hk
    rw [sqF]
    split
    · rename_i f e hr
      obtain ⟨h1, h3, h4, _⟩ := rf_some hr hk
      split
      · obtain ⟨i1, i2, i3⟩ := ih s g e h4
        refine ⟨?_, by simp; omega, i3⟩
        intro x hx
        rcases List.mem_cons.1 hx with rfl | hx
        · exact ⟨h1, h4⟩
        · exact i1 x hx
      · exact ⟨by simp, by simpa using hk, hk⟩
    · exact ⟨by simp, by simpa using hk, hk⟩

theorem sq_all {s : ByteArray} {g : Int} {k : Nat} (hk : k ≤ s.size) : (∀ x ∈ sq four s g k, x.1.ok ∧ x.2 ≤ s.size) ∧ (sq four s g k).length + k ≤ s.size ∧ behind k (sq four s g k) ≤ s.size := sqF_all _ s g k hk

end Go.Proofs.Ytichbcpidkkblaa

/- Plain facts on hexadecimal figures, with no program in them. -/
namespace Go.Proofs.Ytichbcpidkkblaa

/-- A figure, of a number below 16. -/
def fig (x : Nat) : UInt8 := if x < 10 then UInt8.ofNat (48 + x) else UInt8.ofNat (87 + x)

theorem fig_toNat {x : Nat} (h : x < 16) : (fig x).toNat = if x < 10 then 48 + x else 87 + x := by
  unfold fig
  split <;> (rw [UInt8.toNat_ofNat']; omega)

/-- Two figures for each byte, the higher half first. -/
def hexOf (l : List UInt8) : List UInt8 := l.flatMap fun c => [fig (c.toNat / 16), fig (c.toNat % 16)]

theorem hexOf_length (l : List UInt8) : (hexOf l).length = 2 * l.length := by
  induction l with
  | nil => rfl
  | cons c l ih => simp only [hexOf, List.flatMap_cons, List.length_append, List.length_cons, List.length_nil] at ih ⊢; omega

theorem hexOf_take {l : List UInt8} {k : Nat} (h : k < l.length) : hexOf (l.take (k + 1)) = hexOf (l.take k) ++ [fig (l[k].toNat / 16), fig (l[k].toNat % 16)] := by
  rw [List.take_succ_eq_append_getElem h, hexOf, List.flatMap_append]
  rfl

/-- The figure as it stands in the sixteen figures. -/
theorem figure_at : ∀ x, x < 16 → (⟨#[48, 49, 50, 51, 52, 53, 54, 55, 56, 57, 97, 98, 99, 100, 101, 102]⟩ : ByteArray)[x]? = some (fig x) := by
  decide +kernel

end Go.Proofs.Ytichbcpidkkblaa

/- Plain facts on the values of figures, with no program in them. -/
namespace Go.Proofs.Ytichbcpidkkblaa

/-- The value of a figure of a base (16: a to f too). -/
def digV (sixteen : Bool) (c : UInt8) : Option Nat :=
  if 48 ≤ c.toNat ∧ c.toNat ≤ 57 then some (c.toNat - 48) else if sixteen = true ∧ 97 ≤ c.toNat ∧ c.toNat ≤ 102 then some (c.toNat - 87) else none

/-- The values of the figures of a text, as far as they are figures. -/
def valsOf (x : Bool) : List UInt8 → List UInt8
  | [] => []
  | c :: cs => match digV x c with
    | some v => UInt8.ofNat v :: valsOf x cs
    | none => []

theorem digV_lt {x : Bool} {c : UInt8} {v : Nat} (h : digV x c = some v) : v < 16 := by
  unfold digV at h
  split at h
  · simp at h; omega
  · split at h
    · simp at h; omega
    · simp at h

theorem valsOf_le (x : Bool) (l : List UInt8) : (valsOf x l).length ≤ l.length := by
  induction l with
  | nil => simp [valsOf]
  | cons c cs ih =>
    unfold valsOf
    split
    · simp; exact ih
    · simp

theorem valsOf_none {x : Bool} : ∀ {l : List UInt8} {k : Nat}, k ≤ (valsOf x l).length → (h : k < l.length) → digV x l[k] = none → (valsOf x l).length = k := by
  intro l
  induction l with
  | nil => intro k _ h; simp at h
  | cons c cs ih =>
    intro k hk h hd
    cases hv : digV x c with
    | none =>
      simp only [valsOf, hv, List.length_nil] at hk ⊢
      omega
    | some v =>
      simp only [valsOf, hv, List.length_cons] at hk ⊢
      cases k with
      | zero => simp [hv] at hd
      | succ k =>
        have := ih (k := k) (by omega) (by simpa using h) (by simpa using hd)
        omega

theorem valsOf_some {x : Bool} : ∀ {l : List UInt8} {k v : Nat}, k ≤ (valsOf x l).length → (h : k < l.length) → digV x l[k] = some v → (valsOf x l)[k]? = some (UInt8.ofNat v) := by
  intro l
  induction l with
  | nil => intro k _ _ h; simp at h
  | cons c cs ih =>
    intro k w hk h hd
    cases hv : digV x c with
    | none =>
      simp only [valsOf, hv, List.length_nil] at hk
      obtain rfl : k = 0 := by omega
      simp [hv] at hd
    | some v =>
      simp only [valsOf, hv, List.length_cons] at hk ⊢
      cases k with
      | zero => simp [hv] at hd; simp [hd]
      | succ k =>
        have := ih (k := k) (v := w) (by omega) (by simpa using h) (by simpa using hd)
        simpa using this

theorem valsOf_lt16 {x : Bool} : ∀ {l : List UInt8} {c : UInt8}, c ∈ valsOf x l → c.toNat < 16 := by
  intro l
  induction l with
  | nil => intro c h; simp [valsOf] at h
  | cons a cs ih =>
    intro c h
    unfold valsOf at h
    split at h
    · rename_i v hv
      rcases List.mem_cons.1 h with rfl | h
      · have := digV_lt hv
        rw [UInt8.toNat_ofNat']; omega
      · exact ih h
    · simp at h

theorem take_next {l : List UInt8} {k : Nat} {v : UInt8} (h : l[k]? = some v) : l.take (k + 1) = l.take k ++ [v] := by
  rw [List.take_add_one, h]; rfl

/-- Two values to a byte. -/
def pairsOf : List UInt8 → List UInt8
  | a :: b :: r => UInt8.ofNat (16 * a.toNat + b.toNat) :: pairsOf r
  | _ => []

theorem pairsOf_append : ∀ (j : Nat) (l : List UInt8) (a b : UInt8), l.length = 2 * j → pairsOf (l ++ [a, b]) = pairsOf l ++ [UInt8.ofNat (16 * a.toNat + b.toNat)] := by
  intro j
  induction j with
  | zero => intro l a b h; obtain rfl := List.length_eq_zero_iff.1 h; rfl
  | succ j ih =>
    intro l a b h
    match l, h with
    | x :: y :: r, h =>
      have := ih r a b (by simp at h; omega)
      simp only [List.cons_append, pairsOf, this]

theorem pairsOf_length : ∀ (j : Nat) (l : List UInt8), l.length = 2 * j → (pairsOf l).length = j := by
  intro j
  induction j with
  | zero => intro l h; obtain rfl := List.length_eq_zero_iff.1 h; rfl
  | succ j ih =>
    intro l h
    match l, h with
    | x :: y :: r, h =>
      have := ih r (by simp at h; omega)
      simp only [pairsOf, List.length_cons, this]

theorem pairs_next {l : List UInt8} {j : Nat} {a b : UInt8} (h1 : l[2 * j]? = some a) (h2 : l[2 * j + 1]? = some b) :
    pairsOf (l.take (2 * (j + 1))) = pairsOf (l.take (2 * j)) ++ [UInt8.ofNat (16 * a.toNat + b.toNat)] := by
  have hl : 2 * j + 1 < l.length := (List.getElem?_eq_some_iff.1 h2).1
  rw [show 2 * (j + 1) = 2 * j + 1 + 1 by omega, take_next h2, take_next h1, List.append_assoc]
  exact pairsOf_append j _ _ _ (by simp; omega)

theorem pair_toNat {a b : Nat} (ha : a < 16) (hb : b < 16) : (UInt8.ofNat (16 * a + b)).toNat = 16 * a + b := by
  rw [UInt8.toNat_ofNat']; omega

theorem shl_or (a b : Nat) (ha : a < 16) (hb : b < 16) : bits .or .u8 ((a : Int) * 16) (b : Int) = ((16 * a + b : Nat) : Int) := by
  have e : (a : Int) * 16 = ((16 * a : Nat) : Int) := by omega
  rw [e, u8_or_nat (16 * a) b (by omega) (by omega)]
  have := Nat.shiftLeft_add_eq_or_of_lt (i := 4) (b := b) (by omega) a
  rw [Nat.shiftLeft_eq, show a * 2 ^ 4 = 16 * a by omega] at this
  rw [this]

/-- The value of a figure as a number, -1 of what is none. -/
def valN (c : Nat) : Int := if 48 ≤ c ∧ c ≤ 57 then (c : Int) - 48 else if 97 ≤ c ∧ c ≤ 102 then (c : Int) - 87 else -1

theorem valN_some {c : UInt8} {v : Nat} (h : digV true c = some v) : valN c.toNat = (v : Int) := by
  unfold digV at h
  unfold valN
  split at h
  · rename_i h1
    simp at h
    rw [if_pos h1]; omega
  · rename_i h1
    split at h
    · rename_i h2
      simp at h
      rw [if_neg h1, if_pos h2.2]; omega
    · simp at h

theorem valN_none {c : UInt8} (h : digV true c = none) : valN c.toNat = -1 := by
  unfold digV at h
  unfold valN
  split at h
  · simp at h
  · rename_i h1
    split at h
    · simp at h
    · rename_i h2
      rw [if_neg h1, if_neg (fun h3 => h2 ⟨rfl, h3⟩)]

/-- Whether a text is the figures of some bytes. -/
abbrev isHex (l : List UInt8) : Prop := l.length ≤ 40000 ∧ l.length % 2 = 0 ∧ (valsOf true l).length = l.length

theorem digV_dec {x : Bool} {c : UInt8} (h1 : 48 ≤ c.toNat) (h2 : c.toNat ≤ 57) : digV x c = some (c.toNat - 48) := by rw [digV, if_pos ⟨h1, h2⟩]
theorem digV_hex {c : UInt8} (h1 : 97 ≤ c.toNat) (h2 : c.toNat ≤ 102) : digV true c = some (c.toNat - 87) := by
  rw [digV, if_neg (by omega), if_pos ⟨rfl, h1, h2⟩]
theorem digV_bad {x : Bool} {c : UInt8} (h1 : ¬ (48 ≤ c.toNat ∧ c.toNat ≤ 57)) (h2 : ¬ (x = true ∧ 97 ≤ c.toNat ∧ c.toNat ≤ 102)) : digV x c = none := by
  rw [digV, if_neg h1, if_neg h2]

end Go.Proofs.Ytichbcpidkkblaa

/- Plain facts on decimal figures, with no program in them. -/
namespace Go.Proofs.Ytichbcpidkkblaa

def figD (x : Nat) : UInt8 := UInt8.ofNat (48 + x)
theorem figD_toNat {x : Nat} (h : x < 10) : (figD x).toNat = 48 + x := by
  rw [figD, UInt8.toNat_ofNat']; omega

/-- The figures of a number that is not 0; nothing of 0. -/
def digsF : Nat → Nat → List UInt8
  | 0, _ => []
  | f + 1, n => if n = 0 then [] else digsF f (n / 10) ++ [figD (n % 10)]
def digs (n : Nat) : List UInt8 := digsF n n
/-- The figures of a number. -/
def dec (n : Nat) : List UInt8 := if n = 0 then [48] else digs n

theorem digsF_more : ∀ (f g n : Nat), n ≤ f → n ≤ g → digsF f n = digsF g n := by
  intro f
  induction f with
  | zero => intro g n hf hg; obtain rfl : n = 0 := by omega
            cases g <;> simp [digsF]
  | succ f ih =>
    intro g n hf hg
    cases g with
    | zero => obtain rfl : n = 0 := by omega
              simp [digsF]
    | succ g =>
      simp only [digsF]
      split
      · rfl
      · rw [ih g (n / 10) (by omega) (by omega)]

theorem digs_zero : digs 0 = [] := rfl
theorem digs_step {n : Nat} (h : n ≠ 0) : digs n = digs (n / 10) ++ [figD (n % 10)] := by
  unfold digs
  cases n with
  | zero => omega
  | succ n => rw [digsF, if_neg h, digsF_more n ((n + 1) / 10) ((n + 1) / 10) (by omega) (Nat.le_refl _)]

theorem digsF_len : ∀ (f n : Nat), (digsF f n).length ≤ f := by
  intro f
  induction f with
  | zero => intro n; simp [digsF]
  | succ f ih =>
    intro n
    simp only [digsF]
    split
    · simp
    · have := ih (n / 10); simp; omega
theorem digs_len (n : Nat) : (digs n).length ≤ n := digsF_len n n

theorem digs_push {m n : Nat} {acc : List UInt8} (h : digs m ++ acc = digs n) (hm : m ≠ 0) : digs (m / 10) ++ (figD (m % 10) :: acc) = digs n := by
  rw [← h, digs_step hm]; simp

/-- The number that figures tell. -/
def val (l : List UInt8) : Nat := l.foldl (fun a c => 10 * a + (c.toNat - 48)) 0
theorem val_snoc (l : List UInt8) (c : UInt8) : val (l ++ [c]) = 10 * val l + (c.toNat - 48) := by simp [val]
theorem val_nil : val [] = 0 := rfl

def allDig (l : List UInt8) : Prop := ∀ c ∈ l, 48 ≤ c.toNat ∧ c.toNat ≤ 57

theorem val_lt : ∀ (n : Nat) (l : List UInt8), l.length = n → allDig l → val l < 10 ^ n := by
  intro n
  induction n with
  | zero => intro l h _; obtain rfl := List.length_eq_zero_iff.1 h; simp [val]
  | succ n ih =>
    intro l h ha
    rcases List.eq_nil_or_concat l with rfl | ⟨init, c, rfl⟩
    · simp at h
    · have h1 := ih init (by simp at h; omega) (fun x hx => ha x (by simp [hx]))
      have h2 := ha c (by simp)
      rw [List.concat_eq_append, val_snoc, Nat.pow_succ]
      omega

theorem figD_back {c : UInt8} (h : 48 ≤ c.toNat ∧ c.toNat ≤ 57) : figD (c.toNat - 48) = c := by
  apply UInt8.toNat_inj.1
  rw [figD_toNat (by omega)]; omega

theorem digs_val : ∀ (n : Nat) (l : List UInt8), l.length = n → allDig l → l ≠ [] → l.head? ≠ some 48 → digs (val l) = l ∧ 0 < val l := by
  intro n
  induction n with
  | zero => intro l h _ hne; exact absurd (List.length_eq_zero_iff.1 h) hne
  | succ n ih =>
    intro l h ha hne hh
    rcases List.eq_nil_or_concat l with rfl | ⟨init, c, rfl⟩
    · exact absurd rfl hne
    · rw [List.concat_eq_append] at *
      have hc := ha c (by simp)
      rw [val_snoc]
      by_cases hi : init = []
      · subst hi
        have h48 : c.toNat ≠ 48 := by
          intro e
          apply hh
          simp
          apply UInt8.toNat_inj.1
          rw [e]; rfl
        rw [val_nil]
        have hp : 10 * 0 + (c.toNat - 48) ≠ 0 := by omega
        refine ⟨?_, by omega⟩
        rw [digs_step hp, show (10 * 0 + (c.toNat - 48)) / 10 = 0 by omega, digs_zero, show (10 * 0 + (c.toNat - 48)) % 10 = c.toNat - 48 by omega, figD_back hc]
      · have hh2 : init.head? ≠ some 48 := by
          intro e
          apply hh
          rw [List.head?_append, e]; rfl
        obtain ⟨h1, h2⟩ := ih init (by simp at h; omega) (fun x hx => ha x (by simp [hx])) hi hh2
        refine ⟨?_, by omega⟩
        rw [digs_step (by omega), show (10 * val init + (c.toNat - 48)) / 10 = val init by omega, h1, show (10 * val init + (c.toNat - 48)) % 10 = c.toNat - 48 by omega, figD_back hc]

theorem digs_head : ∀ (n m : Nat), m ≤ n → m ≠ 0 → (digs m).head? ≠ some 48 ∧ digs m ≠ [] := by
  intro n
  induction n with
  | zero => intro m h1 h2; omega
  | succ n ih =>
    intro m h1 h2
    rw [digs_step h2]
    by_cases h3 : m / 10 = 0
    · rw [h3, digs_zero]
      refine ⟨?_, by simp⟩
      intro e
      simp at e
      have := congrArg UInt8.toNat e
      rw [figD_toNat (by omega)] at this
      have h48 : (48 : UInt8).toNat = 48 := rfl
      omega
    · obtain ⟨a1, a2⟩ := ih (m / 10) (by omega) h3
      refine ⟨?_, by simp⟩
      cases hd : digs (m / 10) with
      | nil => exact absurd hd a2
      | cons x xs => rw [hd] at a1; simpa using a1

/-- A text of figures is the figures of its number, just when it opens with no needless nought. -/
theorem dec_val {l : List UInt8} (ha : allDig l) (hne : l ≠ []) : dec (val l) = l ↔ (l.head? ≠ some 48 ∨ l.length = 1) := by
  constructor
  · intro h
    by_cases hz : val l = 0
    · rw [dec, if_pos hz] at h
      right; rw [← h]; rfl
    · left
      rw [dec, if_neg hz] at h
      have := (digs_head _ _ (Nat.le_refl _) hz).1
      rw [h] at this
      exact this
  · intro h
    by_cases hh : l.head? = some 48
    · rcases h with h | h
      · exact absurd hh h
      · match l, h, hh with
        | [c], _, hh => simp at hh; subst hh; rfl
    · obtain ⟨h1, h2⟩ := digs_val _ l rfl ha hne hh
      rw [dec, if_neg (by omega), h1]

theorem dec_nil : dec (val []) ≠ [] := by decide

theorem digs_len_half : ∀ (n m : Nat), m ≤ n → (digs m).length ≤ m / 2 + 1 := by
  intro n
  induction n with
  | zero => intro m h; obtain rfl : m = 0 := by omega
            simp [digs_zero]
  | succ n ih =>
    intro m h
    by_cases h0 : m = 0
    · subst h0; simp [digs_zero]
    · rw [digs_step h0]
      by_cases h1 : m / 10 = 0
      · rw [h1, digs_zero]; simp
      · have := ih (m / 10) (by omega)
        simp; omega

theorem digs_len_half2 (n : Nat) : (digs n).length ≤ n / 2 + 1 := digs_len_half n n (Nat.le_refl _)

end Go.Proofs.Ytichbcpidkkblaa

/- Plain facts, with no program in them: what is written is read back. -/
namespace Go.Proofs.Ytichbcpidkkblaa

theorem rg_vt : ∀ (f n i m : Nat) (rest : List UInt8), n < 128 ^ (f + 1) → rg (f + 1) (vt n ++ rest) i m = some (m + n * 128 ^ i, i + (vt n).length) := by
  intro f
  induction f with
  | zero =>
    intro n i m rest h
    have hn : n ≤ 127 := by simpa using Nat.le_of_lt_succ h
    rw [vt_small hn]
    simp only [List.cons_append, List.nil_append, rg, loByte_toNat (show n < 256 by omega)]
    rw [if_pos (by omega), Nat.mod_eq_of_lt (by omega)]
    rfl
  | succ f ih =>
    intro n i m rest h
    by_cases hn : n ≤ 127
    · rw [vt_small hn]
      simp only [List.cons_append, List.nil_append, rg, loByte_toNat (show n < 256 by omega)]
      rw [if_pos (by omega), Nat.mod_eq_of_lt (by omega)]
      rfl
    · rw [vt_big (by omega), List.cons_append, rg, hiByte_toNat, if_neg (by omega), ih (n / 128) _ _ _ (by rw [Nat.pow_succ] at h; omega)]
      have e1 : (n % 128 + 128) % 128 = n % 128 := by omega
      have e2 : n / 128 * 128 ^ (i + 1) = n / 128 * 128 * 128 ^ i := by rw [Nat.pow_succ, Nat.mul_comm (128 ^ i) 128, Nat.mul_assoc]
      have e3 : n * 128 ^ i = n % 128 * 128 ^ i + n / 128 * 128 * 128 ^ i := by
        rw [← Nat.add_mul]; congr 1; omega
      rw [e1, e2, e3]
      simp only [Option.some.injEq, Prod.mk.injEq, List.length_cons]
      omega

/-- A number's bytes behind others, and ahead of others, are read. -/
theorem rv_back (pre rest : List UInt8) (n : Nat) (h : n ≤ 1000000000) : rv (pre ++ (vt n ++ rest)) pre.length = some (n, pre.length + (vt n).length) := by
  have hd : (pre ++ (vt n ++ rest)).drop pre.length = vt n ++ rest := by simp
  have hr : rg 5 ((pre ++ (vt n ++ rest)).drop pre.length) 0 0 = some (n, (vt n).length) := by
    rw [hd, rg_vt 4 n 0 0 rest (by omega)]
    simp
  refine rv_yes hr h ?_
  rw [hd]
  simp

theorem val_digs : ∀ (n m : Nat), m ≤ n → val (digs m) = m := by
  intro n
  induction n with
  | zero => intro m h; obtain rfl : m = 0 := by omega
            rfl
  | succ n ih =>
    intro m h
    by_cases h0 : m = 0
    · subst h0; rfl
    · rw [digs_step h0, val_snoc, ih (m / 10) (by omega), figD_toNat (by omega)]
      omega

theorem allDig_digs : ∀ (n m : Nat), m ≤ n → allDig (digs m) := by
  intro n
  induction n with
  | zero => intro m h c hc; obtain rfl : m = 0 := by omega
            simp [digs_zero] at hc
  | succ n ih =>
    intro m h
    by_cases h0 : m = 0
    · subst h0; intro c hc; simp [digs_zero] at hc
    · rw [digs_step h0]
      intro c hc
      rcases List.mem_append.1 hc with h1 | h1
      · exact ih (m / 10) (by omega) c h1
      · simp at h1
        subst h1
        rw [figD_toNat (by omega)]
        omega

theorem digs_short : ∀ (k m : Nat), m < 10 ^ k → (digs m).length ≤ k := by
  intro k
  induction k with
  | zero => intro m h; obtain rfl : m = 0 := by simpa using h
            simp [digs_zero]
  | succ k ih =>
    intro m h
    by_cases h0 : m = 0
    · subst h0; simp [digs_zero]
    · rw [digs_step h0]
      have := ih (m / 10) (by rw [Nat.pow_succ] at h; omega)
      simp
      exact this

/-- The figures of a number tell it. -/
theorem dec_back (n : Nat) (h : n ≤ 1000000000) : (dec n).length ≤ 10 ∧ allDig (dec n) ∧ val (dec n) = n := by
  by_cases h0 : n = 0
  · subst h0
    refine ⟨by decide, ?_, by decide⟩
    intro c hc
    have : dec 0 = [48] := rfl
    rw [this] at hc
    simp at hc
    subst hc
    decide
  · rw [dec, if_neg h0]
    exact ⟨digs_short 10 n (by omega), allDig_digs n n (Nat.le_refl _), val_digs n n (Nat.le_refl _)⟩

theorem digV_fig : ∀ x, x < 16 → digV true (fig x) = some x := by decide +kernel

theorem valsOf_hex : ∀ l : List UInt8, valsOf true (hexOf l) = l.flatMap fun c => [UInt8.ofNat (c.toNat / 16), UInt8.ofNat (c.toNat % 16)] := by
  intro l
  induction l with
  | nil => rfl
  | cons c l ih =>
    have hc : c.toNat < 256 := UInt8.toNat_lt _
    have e : hexOf (c :: l) = fig (c.toNat / 16) :: fig (c.toNat % 16) :: hexOf l := rfl
    rw [e, valsOf, digV_fig _ (by omega)]
    simp only
    rw [valsOf, digV_fig _ (by omega)]
    simp only [List.flatMap_cons, List.cons_append, List.nil_append, ih]

theorem pairs_hex : ∀ l : List UInt8, pairsOf (l.flatMap fun c => [UInt8.ofNat (c.toNat / 16), UInt8.ofNat (c.toNat % 16)]) = l := by
  intro l
  induction l with
  | nil => rfl
  | cons c l ih =>
    have hc : c.toNat < 256 := UInt8.toNat_lt _
    simp only [List.flatMap_cons, List.cons_append, List.nil_append, pairsOf, ih]
    congr 1
    apply UInt8.toNat_inj.1
    rw [UInt8.toNat_ofNat', UInt8.toNat_ofNat', UInt8.toNat_ofNat']
    omega

/-- Figures written are read back. -/
theorem hex_back (l : List UInt8) (h : l.length ≤ 20000) : isHex (hexOf l) ∧ pairsOf (valsOf true (hexOf l)) = l := by
  have h1 := hexOf_length l
  have h2 : (valsOf true (hexOf l)).length = (hexOf l).length := by
    rw [valsOf_hex, h1]
    clear h h1
    induction l with
    | nil => rfl
    | cons c l ih => simp only [List.flatMap_cons, List.length_append, List.length_cons, List.length_nil]; omega
  exact ⟨⟨by omega, by omega, h2⟩, by rw [valsOf_hex, pairs_hex]⟩

end Go.Proofs.Ytichbcpidkkblaa

/- Plain facts on records: what is right, their texts, and that they come back from them. -/
namespace Go.Proofs.Ytichbcpidkkblaa

/-- A record. -/
structure Rc where
  kind : Int
  valid : Int
  uid : Int
  next : Int
  flags : Int
  user : ByteArray
  name : ByteArray
  text : ByteArray

/-- A word: 1 to 8 letters. -/
def wdOk (s : ByteArray) : Prop := (1 ≤ s.size ∧ s.size ≤ 8) ∧ ∀ b ∈ s.data.toList, 97 ≤ b.toNat ∧ b.toNat ≤ 122
instance decWdOk (s : ByteArray) : Decidable (wdOk s) := by unfold wdOk; infer_instance

def emp : ByteArray := ⟨#[]⟩

/-- A right record. -/
def Rc.ok (r : Rc) : Prop := (1 ≤ r.kind ∧ r.kind ≤ 5) ∧ (1 ≤ r.valid ∧ r.valid ≤ 9999) ∧
  (if r.kind = 1 then wdOk r.user ∧ wdOk r.name ∧ 1 ≤ r.next ∧ r.next ≤ 10000 else r.user = emp ∧ r.name = emp ∧ r.next = 0) ∧
  (if 3 ≤ r.kind then 1 ≤ r.uid ∧ r.uid ≤ 9999 else r.uid = 0) ∧
  (if r.kind = 3 ∨ r.kind = 4 then 0 ≤ r.flags ∧ r.flags ≤ 7 else r.flags = 0) ∧
  (if r.kind = 3 then r.text.size ≤ 100 else r.text = emp)
instance decRcOk (r : Rc) : Decidable r.ok := by unfold Rc.ok; infer_instance

/-- The bytes of a record's text. -/
def Rc.tl (r : Rc) : List UInt8 := UInt8.ofNat r.kind.toNat :: (vt r.valid.toNat ++ (vt r.uid.toNat ++ (vt r.next.toNat ++ (vt r.flags.toNat ++ ((vt r.user.size ++ r.user.data.toList) ++ ((vt r.name.size ++ r.name.data.toList) ++ (vt r.text.size ++ r.text.data.toList)))))))
def Rc.tx (r : Rc) : ByteArray := ⟨r.tl.toArray⟩
theorem Rc.tx_list (r : Rc) : r.tx.data.toList = r.tl := by simp [Rc.tx]

/-- What is right has small numbers and short texts. -/
theorem Rc.ok_small {r : Rc} (h : r.ok) : (1 ≤ r.kind ∧ r.kind ≤ 5) ∧ (0 ≤ r.valid ∧ r.valid ≤ 9999) ∧ (0 ≤ r.uid ∧ r.uid ≤ 9999) ∧ (0 ≤ r.next ∧ r.next ≤ 10000) ∧ (0 ≤ r.flags ∧ r.flags ≤ 7) ∧ r.user.size ≤ 8 ∧ r.name.size ≤ 8 ∧ r.text.size ≤ 100 := by
  obtain ⟨h1, h2, h3, h4, h5, h6⟩ := h
  have he : emp.size = 0 := rfl
  have a3 : (0 ≤ r.next ∧ r.next ≤ 10000) ∧ r.user.size ≤ 8 ∧ r.name.size ≤ 8 := by
    split at h3
    · exact ⟨by omega, h3.1.1.2, h3.2.1.1.2⟩
    · rw [h3.1, h3.2.1, he]; omega
  have a4 : 0 ≤ r.uid ∧ r.uid ≤ 9999 := by split at h4 <;> omega
  have a5 : 0 ≤ r.flags ∧ r.flags ≤ 7 := by split at h5 <;> omega
  have a6 : r.text.size ≤ 100 := by
    split at h6
    · exact h6
    · rw [h6, he]; omega
  exact ⟨h1, by omega, a4, a3.1, a5, a3.2.1, a3.2.2, a6⟩

theorem tl_len (s : ByteArray) : s.data.toList.length = s.size := by rw [Array.length_toList]; rfl

theorem vt_two' {n : Nat} (h : n ≤ 10000) : (vt n).length ≤ 2 := vt_short 1 n (by omega)
theorem Rc.tl_le {r : Rc} (h : r.ok) : r.tl.length ≤ 131 ∧ 1 ≤ r.tl.length := by
  obtain ⟨_, h2, h3, h4, h5, h6, h7, h8⟩ := r.ok_small h
  have a1 := vt_two' (n := r.valid.toNat) (by omega)
  have a2 := vt_two' (n := r.uid.toNat) (by omega)
  have a3 := vt_two' (n := r.next.toNat) (by omega)
  have a4 := vt_two' (n := r.flags.toNat) (by omega)
  have a5 := vt_two' (n := r.user.size) (by omega)
  have a6 := vt_two' (n := r.name.size) (by omega)
  have a7 := vt_two' (n := r.text.size) (by omega)
  unfold Rc.tl
  simp only [List.length_cons, List.length_append, tl_len]
  omega
theorem Rc.tx_le {r : Rc} (h : r.ok) : r.tx.size ≤ 131 ∧ 1 ≤ r.tx.size := by
  have := r.tl_le h
  have e : r.tx.size = r.tl.length := by rw [← tl_len, r.tx_list]
  rw [e]; exact this

/-- A short text read. -/
def rsO (s : ByteArray) (k : Nat) : Option (ByteArray × Nat) :=
  match rv s.data.toList k with
  | some (n, b) => if n ≤ 20000 ∧ n + b ≤ s.size then some (s.extract b (b + n), b + n) else none
  | none => none

/-- A record's fields read, one behind the other. -/
def prs (t : ByteArray) : Option Rc :=
  match t.data.toList with
  | [] => none
  | k :: _ => match rv t.data.toList 1 with
    | none => none
    | some (v, a) => match rv t.data.toList a with
      | none => none
      | some (u, b) => match rv t.data.toList b with
        | none => none
        | some (n, c) => match rv t.data.toList c with
          | none => none
          | some (f, d) => match rsO t d with
            | none => none
            | some (x, e) => match rsO t e with
              | none => none
              | some (y, g) => match rsO t g with
                | none => none
                | some (z, _) => some ⟨k.toNat, v, u, n, f, x, y, z⟩

/-- The right record whose text this is. -/
def rrO (t : ByteArray) : Option Rc := match prs t with
  | some r => if r.ok ∧ r.tx = t then some r else none
  | none => none

theorem rrO_some {t : ByteArray} {r : Rc} (h : rrO t = some r) : r.ok ∧ r.tx = t := by
  unfold rrO at h
  split at h
  · split at h
    · rename_i hc; cases h; exact hc
    · cases h
  · cases h

theorem ext_mid (pre l rest : List UInt8) : (⟨(pre ++ (l ++ rest)).toArray⟩ : ByteArray).extract pre.length (pre.length + l.length) = ⟨l.toArray⟩ := by
  obtain ⟨x, hx⟩ : ∃ x : ByteArray, x = (⟨(pre ++ (l ++ rest)).toArray⟩ : ByteArray).extract pre.length (pre.length + l.length) := ⟨_, rfl⟩
  have : x.data.toList = l := by
    rw [hx, ByteArray.data_extract, Array.toList_extract, List.extract_eq_take_drop]
    simp
  rw [← hx]
  obtain ⟨⟨y⟩⟩ := x
  simp at this
  rw [this]

/-- A short text that was written is read. -/
theorem rsO_back (pre rest : List UInt8) (s : ByteArray) (h : s.size ≤ 20000) : rsO ⟨(pre ++ ((vt s.size ++ s.data.toList) ++ rest)).toArray⟩ pre.length = some (s, pre.length + (vt s.size).length + s.size) := by
  have e0 : (⟨(pre ++ ((vt s.size ++ s.data.toList) ++ rest)).toArray⟩ : ByteArray).data.toList = pre ++ (vt s.size ++ (s.data.toList ++ rest)) := by simp
  have e1 := rv_back pre (s.data.toList ++ rest) s.size (by omega)
  unfold rsO
  rw [e0, e1]
  have hz : (⟨(pre ++ ((vt s.size ++ s.data.toList) ++ rest)).toArray⟩ : ByteArray).size = pre.length + (vt s.size).length + s.size + rest.length := by
    rw [← tl_len, e0]
    simp; omega
  simp only [hz]
  rw [if_pos ⟨h, by omega⟩]
  have e2 := ext_mid (pre ++ vt s.size) s.data.toList rest
  rw [List.length_append, tl_len] at e2
  have e3 : (pre ++ ((vt s.size ++ s.data.toList) ++ rest)) = (pre ++ vt s.size ++ (s.data.toList ++ rest)) := by simp
  rw [e3, e2]

theorem rv_at {L pre rest : List UInt8} {n p : Nat} (hL : L = pre ++ (vt n ++ rest)) (hp : p = pre.length) (hn : n ≤ 1000000000) : rv L p = some (n, p + (vt n).length) := by
  rw [hL, hp]; exact rv_back pre rest n hn
theorem rs_at {t s : ByteArray} {pre rest : List UInt8} {p : Nat} (hL : t.data.toList = pre ++ ((vt s.size ++ s.data.toList) ++ rest)) (hp : p = pre.length) (hn : s.size ≤ 20000) : rsO t p = some (s, p + (vt s.size).length + s.size) := by
  have e : t = ⟨(pre ++ ((vt s.size ++ s.data.toList) ++ rest)).toArray⟩ := by
    obtain ⟨⟨l⟩⟩ := t
    simp only at hL
    rw [hL]
  rw [e, hp]; exact rsO_back pre rest s hn

/-- A right record comes back from its text. -/
theorem prs_back {r : Rc} (h : r.ok) : prs r.tx = some r := by
  obtain ⟨h1, h2, h3, h4, h5, h6, h7, h8⟩ := r.ok_small h
  obtain ⟨kind, valid, uid, next, flags, user, name, text⟩ := r
  simp only at h1 h2 h3 h4 h5 h6 h7 h8
  obtain ⟨V, rfl⟩ := Int.eq_ofNat_of_zero_le h2.1
  obtain ⟨U, rfl⟩ := Int.eq_ofNat_of_zero_le h3.1
  obtain ⟨N, rfl⟩ := Int.eq_ofNat_of_zero_le h4.1
  obtain ⟨F, rfl⟩ := Int.eq_ofNat_of_zero_le h5.1
  obtain ⟨K, rfl⟩ := Int.eq_ofNat_of_zero_le (show 0 ≤ kind by omega)
  have hk : (UInt8.ofNat K).toNat = K := by
    rw [show (UInt8.ofNat K).toNat = K % 256 from rfl]; omega
  obtain ⟨t, ht⟩ : ∃ t, Rc.tx ⟨K, V, U, N, F, user, name, text⟩ = t := ⟨_, rfl⟩
  obtain ⟨L, hL⟩ : ∃ L, t.data.toList = L := ⟨_, rfl⟩
  have hLL : L = UInt8.ofNat K :: (vt V ++ (vt U ++ (vt N ++ (vt F ++ ((vt user.size ++ user.data.toList) ++ ((vt name.size ++ name.data.toList) ++ (vt text.size ++ text.data.toList))))))) := by
    rw [← hL, ← ht, Rc.tx_list]; rfl
  rw [ht]
  have s1 : rv L 1 = _ := rv_at (pre := [UInt8.ofNat K]) (n := V) (by rw [hLL]; rfl) rfl (by omega)
  have s2 : rv L (1 + (vt V).length) = _ := rv_at (pre := [UInt8.ofNat K] ++ vt V) (n := U) (by rw [hLL]; simp only [List.append_assoc]; rfl) (by simp; omega) (by omega)
  have s3 : rv L (1 + (vt V).length + (vt U).length) = _ := rv_at (pre := [UInt8.ofNat K] ++ vt V ++ vt U) (n := N) (by rw [hLL]; simp only [List.append_assoc]; rfl) (by simp; omega) (by omega)
  have s4 : rv L (1 + (vt V).length + (vt U).length + (vt N).length) = _ := rv_at (pre := [UInt8.ofNat K] ++ vt V ++ vt U ++ vt N) (n := F) (by rw [hLL]; simp only [List.append_assoc]; rfl) (by simp; omega) (by omega)
  have s5 : rsO t (1 + (vt V).length + (vt U).length + (vt N).length + (vt F).length) = _ := rs_at (pre := [UInt8.ofNat K] ++ vt V ++ vt U ++ vt N ++ vt F) (s := user) (by rw [hL, hLL]; simp only [List.append_assoc]; rfl) (by simp; omega) (by omega)
  have s6 : rsO t (1 + (vt V).length + (vt U).length + (vt N).length + (vt F).length + (vt user.size).length + user.size) = _ := rs_at (pre := [UInt8.ofNat K] ++ vt V ++ vt U ++ vt N ++ vt F ++ (vt user.size ++ user.data.toList)) (s := name) (by rw [hL, hLL]; simp only [List.append_assoc]; rfl) (by simp; omega) (by omega)
  have s7 : rsO t (1 + (vt V).length + (vt U).length + (vt N).length + (vt F).length + (vt user.size).length + user.size + (vt name.size).length + name.size) = _ := rs_at (pre := [UInt8.ofNat K] ++ vt V ++ vt U ++ vt N ++ vt F ++ (vt user.size ++ user.data.toList) ++ (vt name.size ++ name.data.toList)) (s := text) (rest := []) (by rw [hL, hLL]; simp only [List.append_assoc, List.append_nil]; rfl) (by simp; omega) (by omega)
  unfold prs
  rw [hL]
  rw [hLL] at s1 s2 s3 s4 ⊢
  simp only [s1, s2, s3, s4, s5, s6, s7, hk]

theorem rrO_back {r : Rc} (h : r.ok) : rrO r.tx = some r := by
  unfold rrO
  rw [prs_back h]
  exact if_pos ⟨h, rfl⟩

/-- Nothing else is read of a text than the right record whose text it is. -/
theorem rrO_none {t : ByteArray} (h : rrO t = none) (r : Rc) (hr : r.ok) : r.tx ≠ t := fun e => by rw [← e, rrO_back hr] at h; cases h

end Go.Proofs.Ytichbcpidkkblaa

/- What a list of bytes is that a call builds in memory of its own, and the laws by which it grows and becomes a string. -/
namespace Go.Proofs.Ytichbcpidkkblaa
open Go.RowKit

theorem Try.info_u8 : (Try.prog.info? 5).map (fun i => (i.zero, i.size, i.bytes)) = some (some (.int .u8 0), 1, 1) := by kernel_rfl

/-- The bytes as the cells of a row. -/
def bytesV (l : List UInt8) : List Value := l.map fun c => .int .u8 (c.toNat : Int)

theorem bytesV_length (l : List UInt8) : (bytesV l).length = l.length := by simp [bytesV]

/-- The slice v holds the bytes l in memory that the call made itself (blocks from B on); below B all is as it was in w0. -/
structure Buf (B : Nat) (w0 w : World) (v : Value) (l : List UInt8) : Prop where
  own : w.ownsRow B 5 1 v l.length (bytesV l)
  bel : Below B w0 w
  le : B ≤ w.heap.size

theorem Buf.alloc {B : Nat} {w0 w : World} {v : Value} {l : List UInt8} (h : Buf B w0 w v l) (o : Obj) : Buf B w0 (w.alloc o) v l :=
  ⟨h.own.alloc o, h.bel.alloc h.le o, by have := h.le; simp; omega⟩

theorem Buf.drew {B : Nat} {w0 w : World} {v : Value} {l : List UInt8} (h : Buf B w0 w v l) : Buf B w0 w.drew v l :=
  ⟨h.own.drew, h.bel.drew, h.le⟩

/-- An append of the bytes that lie at ad. -/
theorem wpList_append_bytes {w0 w : World} {ops : Array Oper} {rest : List Oper} {o : Oper} {a : Act} {Q : Exit → Act → World → Prop} (hgd : o.guard = none) (s x : Operand)
    (ho : o.op = .call { callee := .builtin .append, args := #[s, x], argTypes := #[22, 22] })
    (B : Nat) (v : Value) (l : List UInt8) (hs : a.eval s = v) (hb : Buf B w0 w v l)
    (ad : Addr) (news : List UInt8) (c : Nat) (hx : a.eval x = .slice (some ad) news.length c)
    (hnews : ∀ j u, (bytesV news)[j]? = some u → w.cell? (ad.add j) = some u)
    (hlen : l.length + news.length ≤ 140737488355328)
    (h : ∀ v' w', Buf B w0 w' v' (l ++ news) → wpList Try.prog ops Q rest (a.put o.dst v') w') : wpList Try.prog ops Q (o :: rest) a w := by
  obtain ⟨i0, hi, hz0, hz1, hz2⟩ := info_parts Try.info_u8
  refine wpList_append_own _ hgd s x 22 ho B 5 i0 (.int .u8 0) 1 1 Try.underlying22 hi hz0 hz1 hz2 rfl (by decide) v l.length (bytesV l) hs hb.own ad news.length c (bytesV news) hx (by simp [bytesV]) hnews ?_ (by unfold maxLen; omega) (by omega) hb.le ?_
  · intro u hu
    simp only [bytesV, List.mem_map] at hu
    obtain ⟨c, _, rfl⟩ := hu
    rfl
  · intro v' w' hown hgrow _
    refine h v' w' ⟨?_, hb.bel.grown hgrow hb.le (fun k hk => (hb.own.lt k hk).1), Nat.le_trans hb.le hgrow.size⟩
    have e1 : (l ++ news).length = l.length + news.length := by simp
    have e2 : bytesV (l ++ news) = bytesV l ++ bytesV news := by simp [bytesV]
    rw [e1, e2]
    exact hown

/-- A slice over a new row of no bytes yet. -/
theorem Buf.fresh (w : World) (cur : Array Value) (cap : Nat) (hs : cur.size = cap) (hm : cap ≤ maxLen) :
    Buf w.heap.size w (w.alloc (.cells cur 5)) (.slice (some ⟨w.heap.size, 0, none⟩) 0 cap) [] :=
  ⟨World.ownsRow_made w cur cap (Nat.le_refl _) hm (by omega), (Below.refl _ _).alloc (Nat.le_refl _) _, by simp⟩

/-- The one cell of a new block, as an append asks for it. -/
theorem one_new (w : World) (x : Int) (b : UInt8) (h : x = (b.toNat : Int)) :
    ∀ j u, (bytesV [b])[j]? = some u → (w.alloc (.cells #[.int .u8 x] 5)).cell? ((⟨w.heap.size, 0, none⟩ : Addr).add j) = some u := by
  subst h
  intro j u hj
  match j, hj with
  | 0, hj => simp [bytesV] at hj; subst hj; simp [Addr.add]
  | j + 1, hj => simp [bytesV] at hj

/-- string(b) of such bytes. -/
theorem Buf.toString {B : Nat} {w0 w : World} {v : Value} {l : List UInt8} (h : Buf B w0 w v l) :
    (convert 22 9 v).run Try.prog w = .ok (.string ⟨l.toArray⟩) w := by
  rcases h.own.2 with ⟨rfl, h0⟩ | ⟨g, cap, cur, rfl, hg, hh, hnc, hcp, hcs, htake⟩
  · obtain rfl := List.length_eq_zero_iff.1 h0
    exact run_convert_bytes_nil (P := Try.prog) w 22 5 Try.underlying22 Try.underlying5 0 0 9 Try.underlying9
  · refine run_convert_bytes_back (P := Try.prog) w 22 9 5 ⟨g, 0, none⟩ cap l Try.underlying22 Try.underlying5 Try.underlying9 fun j hj => ?_
    rw [Addr.add_lit, Nat.zero_add, h.own.cellAt j (by omega)]
    simp [bytesV, hj]

end Go.Proofs.Ytichbcpidkkblaa

/- The bytes of a number: what spec.l01Var, spec.VarText and impl.VarText hand back. -/
namespace Go.Proofs.Ytichbcpidkkblaa
open Go.RowKit



/-- What VarText hands back, of every number. -/
def varT (n : Int) : Value := if 0 ≤ n ∧ n ≤ 1000000000 then .tuple #[.string ⟨(vt n.toNat).toArray⟩, .bool true] else .tuple #[.string ⟨#[]⟩, .bool false]

theorem varT_yes {n : Int} (h : 0 ≤ n ∧ n ≤ 1000000000) : varT n = .tuple #[.string ⟨(vt n.toNat).toArray⟩, .bool true] := by rw [varT, if_pos h]
theorem varT_no {n : Int} (h : ¬ (0 ≤ n ∧ n ≤ 1000000000)) : varT n = .tuple #[.string ⟨#[]⟩, .bool false] := by rw [varT, if_neg h]



end Go.Proofs.Ytichbcpidkkblaa
