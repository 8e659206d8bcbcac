/- Texts of our own, joined. -/
import Derived.Test.YtieenkloiicnkaaGreatDoorJr
import Derived.Laws.Concat
import Derived.Deep.RegionHeld3
import Derived.Test.YtieenkloiicnkaaGreatDoorJp
import Derived.Test.YtieenkloiicnkaaGreatDoorJb
/- Sealed texts: what Sealed and Unsealed hand back. -/
namespace Go.Proofs.YtieenkloiicnkaaGreatDoor
open Go.RowKit

def fourOf (s : ByteArray) : ByteArray := ⟨(four (sumL 4294967295 s.data.toList)).toArray⟩
theorem fourOf_size (s : ByteArray) : (fourOf s).size = 4 := rfl

def seT (s : ByteArray) : Value :=
  if s.size ≤ 20000 then .tuple #[.string (s ++ fourOf s), .bool true] else .tuple #[.string ⟨#[]⟩, .bool false]
theorem seT_yes {s : ByteArray} (h : s.size ≤ 20000) : seT s = .tuple #[.string (s ++ fourOf s), .bool true] := by rw [seT, if_pos h]
theorem seT_no {s : ByteArray} (h : ¬ s.size ≤ 20000) : seT s = .tuple #[.string ⟨#[]⟩, .bool false] := by rw [seT, if_neg h]

theorem specSealed_any (s : ByteArray) (w : World) (hs : s.size ≤ 1099511627776) :
    Calls Tryz.prog 83 #[.string s] w fun e w' => e = .returned (seT s) ∧ Below w.heap.size w w' := by
  by_cases h : s.size ≤ 20000
  · have hl := sumL_lt (s := 4294967295) (by decide) s.data.toList
    have hadd := fun wx => run_string_add_sum (P := Tryz.prog) (w := wx) s (fourOf s) (by rw [fourOf_size]; omega)
    go_enter Tryz.func83, Tryz.ntmps83
    go_wp2_with (first | (go_at_call 119; refine (specSumOf_any _ _ hs).mono ?_; rintro e w1 ⟨rfl, rfl⟩) | (go_at_call 118; refine (specFour_any _ _ hl).mono ?_; rintro e w2 ⟨rfl, hb2⟩; rw [← fourOf]))
    go_ret2
    exact ⟨by rw [seT_yes h]; rfl, hb2⟩
  · go_enter Tryz.func83, Tryz.ntmps83
    go_wp2
    go_ret2
    exact ⟨by rw [seT_no h]; rfl, Below.refl _ _⟩

theorem implSealed_any (s : ByteArray) (w : World) (hs : s.size ≤ 1099511627776) (ht : SumTab w) :
    Calls Tryz.prog 124 #[.string s] w fun e w' => e = .returned (seT s) ∧ Below w.heap.size w w' := by
  by_cases h : s.size ≤ 20000
  · have hl := sumL_lt (s := 4294967295) (by decide) s.data.toList
    have hadd := fun wx => run_string_add_sum (P := Tryz.prog) (w := wx) s (fourOf s) (by rw [fourOf_size]; omega)
    go_enter Tryz.func124, Tryz.ntmps124
    go_wp2_with (first | (go_at_call 157; refine (implSumOf_any _ _ hs ht).mono ?_; rintro e w1 ⟨rfl, hb1⟩) | (go_at_call 158; refine (implText_any _ _ hl).mono ?_; rintro e w2 ⟨rfl, hb2⟩; rw [← fourOf]))
    go_ret2
    exact ⟨by rw [seT_yes h]; rfl, hb1.trans (hb2.mono hb1.size)⟩
  · go_enter Tryz.func124, Tryz.ntmps124
    go_wp2
    go_ret2
    exact ⟨by rw [seT_no h]; rfl, Below.refl _ _⟩

end Go.Proofs.YtieenkloiicnkaaGreatDoor

/- The text of a check, plainly. -/
namespace Go.Proofs.YtieenkloiicnkaaGreatDoor

def ckNs (c : Ck) (i : Nat) : List Int := [c.st, c.ng, c.ns, c.nv, (c.refs.length : Int)] ++ (c.refs.take i).flatMap (fun r => [r.1, r.2])
def numsT (l : List Int) : List UInt8 := l.flatMap (fun n => vt n.toNat)
def ckBd (c : Ck) (i : Nat) : ByteArray := ⟨(numsT (ckNs c i)).toArray⟩
def ckSe (c : Ck) : ByteArray := ckBd c c.refs.length ++ fourOf (ckBd c c.refs.length)
def ckTx (c : Ck) : ByteArray := vtB (ckSe c).size ++ ckSe c
noncomputable def ctT (c : Ck) : Value := if ckB c = true then .tuple #[.string (ckTx c), .bool true] else .tuple #[.string ⟨#[]⟩, .bool false]
theorem ctT_yes {c : Ck} (h : ckB c = true) : ctT c = .tuple #[.string (ckTx c), .bool true] := if_pos h
theorem ctT_no {c : Ck} (h : ckB c = false) : ctT c = .tuple #[.string ⟨#[]⟩, .bool false] := by unfold ctT; rw [h]; rfl

theorem numsT_append (l m : List Int) : numsT (l ++ m) = numsT l ++ numsT m := by unfold numsT; rw [List.flatMap_append]
theorem ba_eq {a b : ByteArray} (h : a.data.toList = b.data.toList) : a = b := by
  obtain ⟨⟨a⟩⟩ := a
  obtain ⟨⟨b⟩⟩ := b
  simp only at h
  rw [h]
theorem ckNs_step {c : Ck} {i : Nat} {r : Rf} (h : c.refs[i]? = some r) : ckNs c (i + 1) = ckNs c i ++ [r.1, r.2] := by
  unfold ckNs
  rw [List.take_add_one, h, List.flatMap_append, List.append_assoc]
  simp
theorem ckBd_step {c : Ck} {i : Nat} {r : Rf} (h : c.refs[i]? = some r) : ckBd c (i + 1) = ckBd c i ++ vtB r.1.toNat ++ vtB r.2.toNat := by
  apply ba_eq
  unfold ckBd
  rw [ckNs_step h, numsT_append]
  simp [numsT, vtB]
theorem ckBd_zero (c : Ck) : ckBd c 0 = vtB c.st.toNat ++ vtB c.ng.toNat ++ vtB c.ns.toNat ++ vtB c.nv.toNat ++ vtB c.refs.length := by
  apply ba_eq
  simp [ckBd, ckNs, numsT, vtB]
theorem vt_one {n : Nat} (h : n ≤ 127) : (vt n).length ≤ 1 := by rw [vt_small h]; simp

theorem Ck.ref_in {c : Ck} (h : c.ok) {i : Nat} {r : Rf} (hr : c.refs[i]? = some r) : (0 ≤ r.1 ∧ r.1 ≤ 10) ∧ 1 ≤ r.2 ∧ r.2 ≤ 1000000000 := by
  have h1 := h.2.2 i r hr
  have h2 : 1 ≤ c.ng ∧ c.ng ≤ 1000000000 := h.1.2.1
  exact ⟨h1.1, h1.2.1.1, by have := h1.2.1.2; omega⟩
theorem ckBd_len {c : Ck} (h : c.ok) : ∀ i, i ≤ c.refs.length → (ckBd c i).size ≤ 21 + 6 * i
  | 0, _ => by
    have e : (ckBd c 0).size = (numsT (ckNs c 0)).length := by simp [ckBd, ByteArray.size]
    rw [e]
    have v := fun {n : Int} (hn : 1 ≤ n ∧ n ≤ 1000000000) => vt_five (n := n.toNat) (by omega)
    have a := v h.1.1
    have b := v h.1.2.1
    have d := v h.1.2.2.1
    have f := v h.1.2.2.2
    have g := vt_one (n := c.refs.length) (by have := h.2.1.2; omega)
    simp [ckNs, numsT]
    omega
  | i + 1, hi => by
    obtain ⟨r, hr⟩ : ∃ r, c.refs[i]? = some r := ⟨_, List.getElem?_eq_getElem (by omega)⟩
    have ih := ckBd_len h i (by omega)
    have hin := c.ref_in h hr
    have a := vt_one (n := r.1.toNat) (by omega)
    have b := vt_five (n := r.2.toNat) (by omega)
    rw [ckBd_step hr, ByteArray.size_append, ByteArray.size_append, vtB_size, vtB_size]
    omega
theorem ckSe_len {c : Ck} (h : c.ok) : (ckBd c c.refs.length).size ≤ 87 ∧ (ckSe c).size ≤ 91 ∧ (ckTx c).size ≤ 92 := by
  have h1 := ckBd_len h c.refs.length (Nat.le_refl _)
  have h2 := h.2.1.2
  have h3 : (ckSe c).size = (ckBd c c.refs.length).size + 4 := by unfold ckSe; rw [ByteArray.size_append, fourOf_size]
  have h4 : (ckTx c).size = (vt (ckSe c).size).length + (ckSe c).size := by unfold ckTx; rw [ByteArray.size_append, vtB_size]
  have h5 := vt_one (n := (ckSe c).size) (by omega)
  omega
theorem ckNs_in {c : Ck} (h : c.ok) : ∀ n ∈ ckNs c c.refs.length, 0 ≤ n ∧ n ≤ 1000000000 := fun n hn => by
  unfold ckNs at hn
  rw [List.take_length] at hn
  rcases List.mem_append.1 hn with hn | hn
  · have h1 : 1 ≤ c.st ∧ c.st ≤ 1000000000 := h.1.1
    have h2 : 1 ≤ c.ng ∧ c.ng ≤ 1000000000 := h.1.2.1
    have h3 : 1 ≤ c.ns ∧ c.ns ≤ 1000000000 := h.1.2.2.1
    have h4 : 1 ≤ c.nv ∧ c.nv ≤ 1000000000 := h.1.2.2.2
    have h5 := h.2.1.2
    simp at hn
    rcases hn with rfl | rfl | rfl | rfl | rfl <;> omega
  · obtain ⟨r, hr, hm⟩ := List.mem_flatMap.1 hn
    obtain ⟨i, hi⟩ := List.getElem?_of_mem hr
    have := c.ref_in h hi
    simp at hm
    rcases hm with rfl | rfl <;> omega
theorem ckNs_len (c : Ck) (i : Nat) (h : i ≤ c.refs.length) : (ckNs c i).length = 5 + 2 * i := by
  unfold ckNs
  rw [List.length_append]
  have : ∀ l : List Rf, (l.flatMap (fun r => [r.1, r.2])).length = 2 * l.length := fun l => by
    induction l with
    | nil => rfl
    | cons x t ih => rw [List.flatMap_cons, List.length_append, ih]; simp; omega
  rw [this, List.length_take]
  simp
  omega
theorem numsT_take {l : List Int} {i : Nat} {n : Int} (h : l[i]? = some n) : numsT (l.take (i + 1)) = numsT (l.take i) ++ vt n.toNat := by
  rw [List.take_add_one, h, numsT_append]
  simp [numsT]
theorem numsT_bound {l : List Int} (h : ∀ n ∈ l, 0 ≤ n ∧ n ≤ 1000000000) : (numsT l).length ≤ 5 * l.length := by
  induction l with
  | nil => simp [numsT]
  | cons x t ih =>
    have e : numsT (x :: t) = vt x.toNat ++ numsT t := rfl
    have h1 := vt_five (n := x.toNat) (by have := h x (List.mem_cons_self ..); omega)
    have h2 := ih (fun n hn => h n (List.mem_cons_of_mem _ hn))
    rw [e, List.length_append, List.length_cons]
    omega

end Go.Proofs.YtieenkloiicnkaaGreatDoor
