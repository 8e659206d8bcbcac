/- Texts of our own, joined. -/
import Derived.Test.YtlnpegknjhbdnaaDoorJc
import Derived.Test.YtlnpegknjhbdnaaDoorJa
import Derived.WalkKit
import Derived.Laws.BitsAllLaws
import Derived.Test.YtlnpegknjhbdnaaDoorJb
import Derived.WalkSpells
import Derived.WalkSmall
import Derived.Deep.RegionHeld3
import Derived.Deep.QuietTactic
import Derived.BigQuiet
import Derived.Shelf.LaysM
import Derived.Shelf.Strconv.Clone
import Derived.Laws.Concat
import Derived.Deep.DeepCutAuto
/- Checks come back from their texts, plainly. -/
namespace Go.Proofs.YtlnpegknjhbdnaaDoor

/-- So many numbers read from a place on. -/
def rdNs (l : List UInt8) (k : Nat) : Nat → Option (List Nat × Nat)
  | 0 => some ([], k)
  | m + 1 => match rdNs l k m with
    | none => none
    | some (ns, p) => match rv l p with
      | none => none
      | some (n, q) => some (ns ++ [n], q)
theorem rdNs_go {l : List UInt8} {k m : Nat} {ns : List Nat} {p n q : Nat} (h : rdNs l k m = some (ns, p)) (h2 : rv l p = some (n, q)) : rdNs l k (m + 1) = some (ns ++ [n], q) := by
  show (match rdNs l k m with | none => none | some (ns, p) => match rv l p with | none => none | some (n, q) => some (ns ++ [n], q)) = _
  rw [h]
  simp only
  rw [h2]
theorem rdNs_stop {l : List UInt8} {k m : Nat} {ns : List Nat} {p : Nat} (h : rdNs l k m = some (ns, p)) (h2 : rv l p = none) : rdNs l k (m + 1) = none := by
  show (match rdNs l k m with | none => none | some (ns, p) => match rv l p with | none => none | some (n, q) => some (ns ++ [n], q)) = _
  rw [h]
  simp only
  rw [h2]
theorem rdNs_none {l : List UInt8} {k m : Nat} (h : rdNs l k m = none) : ∀ j, m ≤ j → rdNs l k j = none := by
  intro j hj
  induction hj with
  | refl => exact h
  | step _ ih =>
    rename_i j _
    show (match rdNs l k j with | none => none | some (ns, p) => match rv l p with | none => none | some (n, q) => some (ns ++ [n], q)) = _
    rw [ih]
theorem rdNs_le {l : List UInt8} {k : Nat} (hk : k ≤ l.length) : ∀ (m : Nat) (ns : List Nat) (p : Nat), rdNs l k m = some (ns, p) → p ≤ l.length ∧ ns.length = m ∧ ∀ n ∈ ns, n ≤ 1000000000
  | 0, ns, p, h => by cases h; exact ⟨hk, rfl, fun n hn => by cases hn⟩
  | m + 1, ns, p, h => by
    have h' : (match rdNs l k m with | none => none | some (ns, p) => match rv l p with | none => none | some (n, q) => some (ns ++ [n], q)) = some (ns, p) := h
    split at h'
    · cases h'
    · rename_i ns1 p1 h1
      obtain ⟨a, b, c⟩ := rdNs_le hk m ns1 p1 h1
      split at h'
      · cases h'
      · rename_i n q h2
        cases h'
        have := rv_le a h2
        refine ⟨this.2.2, by simp [b], fun x hx => ?_⟩
        rcases List.mem_append.1 hx with hx | hx
        · exact c x hx
        · rw [List.mem_singleton.1 hx]; exact this.1
/-- The bytes of numbers. -/
def nT (l : List Nat) : List UInt8 := l.flatMap vt
theorem nT_append (l m : List Nat) : nT (l ++ m) = nT l ++ nT m := by unfold nT; rw [List.flatMap_append]
theorem rdNs_back (pre : List UInt8) (ns : List Nat) (rest : List UInt8) (h : ∀ n ∈ ns, n ≤ 1000000000) : ∀ i, i ≤ ns.length → rdNs (pre ++ (nT ns ++ rest)) pre.length i = some (ns.take i, pre.length + (nT (ns.take i)).length)
  | 0, _ => by simp [rdNs, nT]
  | i + 1, hi => by
    have ih := rdNs_back pre ns rest h i (by omega)
    obtain ⟨n, hn⟩ : ∃ n, ns[i]? = some n := ⟨_, List.getElem?_eq_getElem (by omega)⟩
    have e : ns.take (i + 1) = ns.take i ++ [n] := by rw [List.take_add_one, hn]; rfl
    have es : nT ns = nT (ns.take i) ++ (vt n ++ nT (ns.drop (i + 1))) := by
      have e2 : ns = ns.take i ++ (n :: ns.drop (i + 1)) := by
        obtain ⟨hlt, hv⟩ := List.getElem?_eq_some_iff.1 hn
        rw [← hv, ← List.drop_eq_getElem_cons hlt, List.take_append_drop]
      have e3 := congrArg nT e2
      rw [nT_append] at e3
      exact e3
    have hb := rv_back (pre ++ nT (ns.take i)) (nT (ns.drop (i + 1)) ++ rest) n (h n (List.mem_of_getElem? hn))
    have el : (pre ++ nT (ns.take i)) ++ (vt n ++ (nT (ns.drop (i + 1)) ++ rest)) = pre ++ (nT ns ++ rest) := by rw [es]; simp [List.append_assoc]
    rw [el, List.length_append] at hb
    rw [rdNs_go ih hb, e, nT_append]
    simp [nT, Nat.add_assoc]

/-- Consecutive numbers, two by two. -/
def prsI : List Nat → List Rf
  | a :: b :: t => ((a : Int), (b : Int)) :: prsI t
  | _ => []
def ckOfN (st ng ns nv : Nat) (qs : List Nat) : Ck := ⟨st, ng, ns, nv, prsI qs⟩
theorem prsI_two (l : List Nat) (a b : Nat) (h : l.length % 2 = 0) : prsI (l ++ [a, b]) = prsI l ++ [((a : Int), (b : Int))] := by
  induction l using prsI.induct with
  | case1 x y t ih => simp only [List.cons_append, prsI]; rw [ih (by simp at h; omega)]
  | case2 l hl =>
    match l, hl, h with
    | [], _, _ => rfl
    | [x], _, h => simp at h
    | x :: y :: t, hl, _ => exact absurd rfl (hl x y t)
theorem prsI_len (l : List Nat) : (prsI l).length = l.length / 2 := by
  induction l using prsI.induct with
  | case1 x y t ih => simp only [prsI, List.length_cons, ih]; omega
  | case2 l hl =>
    match l, hl with
    | [], _ => rfl
    | [x], _ => simp [prsI]
    | x :: y :: t, hl => exact absurd rfl (hl x y t)
theorem prsI_flat (rs : List Rf) (h : ∀ r ∈ rs, 0 ≤ r.1 ∧ 0 ≤ r.2) : prsI (rs.flatMap (fun r => [r.1.toNat, r.2.toNat])) = rs := by
  induction rs with
  | nil => rfl
  | cons r t ih =>
    have h1 := h r (List.mem_cons_self ..)
    have e : (r :: t).flatMap (fun r => [r.1.toNat, r.2.toNat]) = r.1.toNat :: r.2.toNat :: t.flatMap (fun r => [r.1.toNat, r.2.toNat]) := rfl
    rw [e, prsI, ih (fun x hx => h x (List.mem_cons_of_mem _ hx)), Int.toNat_of_nonneg h1.1, Int.toNat_of_nonneg h1.2]

/-- The numbers of a check, as they are read. -/
def ckNat (c : Ck) : List Nat := [c.st.toNat, c.ng.toNat, c.ns.toNat, c.nv.toNat, c.refs.length] ++ c.refs.flatMap (fun r => [r.1.toNat, r.2.toNat])
theorem ckNat_len (c : Ck) : (ckNat c).length = 5 + 2 * c.refs.length := by
  unfold ckNat
  rw [List.length_append]
  have : ∀ l : List Rf, (l.flatMap (fun r => [r.1.toNat, r.2.toNat])).length = 2 * l.length := fun l => by
    induction l with
    | nil => rfl
    | cons x t ih => rw [List.flatMap_cons, List.length_append, ih]; simp; omega
  rw [this]; simp
theorem flat_T (l : List Rf) : (l.flatMap (fun r => [r.1.toNat, r.2.toNat])).flatMap vt = (l.flatMap (fun r => [r.1, r.2])).flatMap (fun n => vt n.toNat) := by
  induction l with
  | nil => rfl
  | cons r t ih => rw [List.flatMap_cons, List.flatMap_cons, List.flatMap_append, List.flatMap_append, ih]; simp
theorem ckNat_T (c : Ck) : nT (ckNat c) = numsT (ckNs c c.refs.length) := by
  unfold ckNat ckNs nT numsT
  rw [List.take_length, List.flatMap_append, List.flatMap_append, flat_T]
  simp
theorem ckNat_in {c : Ck} (h : c.ok) : ∀ n ∈ ckNat c, n ≤ 1000000000 := fun n hn => by
  have hi := ckNs_in h
  unfold ckNat at hn
  rcases List.mem_append.1 hn with hn | hn
  · have h1 : 1 ≤ c.st ∧ c.st ≤ 1000000000 := h.1.1
    have h2 : 1 ≤ c.ng ∧ c.ng ≤ 1000000000 := h.1.2.1
    have h3 : 1 ≤ c.ns ∧ c.ns ≤ 1000000000 := h.1.2.2.1
    have h4 : 1 ≤ c.nv ∧ c.nv ≤ 1000000000 := h.1.2.2.2
    have h5 := h.2.1.2
    simp at hn
    rcases hn with rfl | rfl | rfl | rfl | rfl <;> omega
  · obtain ⟨r, hr, hm⟩ := List.mem_flatMap.1 hn
    obtain ⟨i, hi⟩ := List.getElem?_of_mem hr
    have := c.ref_in h hi
    simp at hm
    rcases hm with rfl | rfl <;> omega
theorem ck_back {c : Ck} (h : c.ok) : ckOfN c.st.toNat c.ng.toNat c.ns.toNat c.nv.toNat (c.refs.flatMap (fun r => [r.1.toNat, r.2.toNat])) = c := by
  have h1 : 1 ≤ c.st ∧ c.st ≤ 1000000000 := h.1.1
  have h2 : 1 ≤ c.ng ∧ c.ng ≤ 1000000000 := h.1.2.1
  have h3 : 1 ≤ c.ns ∧ c.ns ≤ 1000000000 := h.1.2.2.1
  have h4 : 1 ≤ c.nv ∧ c.nv ≤ 1000000000 := h.1.2.2.2
  unfold ckOfN
  rw [prsI_flat _ (fun r hr => by obtain ⟨i, hi⟩ := List.getElem?_of_mem hr; have := c.ref_in h hi; omega), Int.toNat_of_nonneg (by omega), Int.toNat_of_nonneg (by omega), Int.toNat_of_nonneg (by omega), Int.toNat_of_nonneg (by omega)]

/-- A right check whose text t begins with. -/
def Hit (t : ByteArray) (c : Ck) : Prop := c.ok ∧ (ckTx c).data.toList <+: t.data.toList
theorem ckTx_list (c : Ck) : (ckTx c).data.toList = vt (ckSe c).size ++ (nT (ckNat c) ++ (fourOf (ckBd c c.refs.length)).data.toList) := by
  rw [ckNat_T]
  have h1 : (ckTx c).data.toList = vt (ckSe c).size ++ (ckSe c).data.toList := by
    unfold ckTx
    rw [ByteArray.data_append, Array.toList_append, vtB_list]
  have h2 : (ckSe c).data.toList = (ckBd c c.refs.length).data.toList ++ (fourOf (ckBd c c.refs.length)).data.toList := by
    unfold ckSe
    rw [ByteArray.data_append, Array.toList_append]
  rw [h1, h2]
  simp [ckBd]
/-- What is read of a text that begins with a check's. -/
theorem hit_read {t : ByteArray} {c : Ck} (h : Hit t c) : ∃ p q, rdNs t.data.toList 0 6 = some ([(ckSe c).size, c.st.toNat, c.ng.toNat, c.ns.toNat, c.nv.toNat, c.refs.length], p) ∧ rdNs t.data.toList p (2 * c.refs.length) = some (c.refs.flatMap (fun r => [r.1.toNat, r.2.toNat]), q) := by
  obtain ⟨hok, rest, hr⟩ := h
  have hs := ckSe_len hok
  have hl : t.data.toList = [] ++ (nT ((ckSe c).size :: ckNat c) ++ ((fourOf (ckBd c c.refs.length)).data.toList ++ rest)) := by
    rw [← hr, ckTx_list]
    show _ = (vt (ckSe c).size ++ nT (ckNat c)) ++ _
    simp [List.append_assoc]
  have hall : ∀ n ∈ (ckSe c).size :: ckNat c, n ≤ 1000000000 := fun n hn => by
    rcases List.mem_cons.1 hn with rfl | hn
    · omega
    · exact ckNat_in hok n hn
  have h6 := rdNs_back [] ((ckSe c).size :: ckNat c) ((fourOf (ckBd c c.refs.length)).data.toList ++ rest) hall 6 (by rw [List.length_cons, ckNat_len]; omega)
  rw [← hl] at h6
  have e6 : ((ckSe c).size :: ckNat c).take 6 = [(ckSe c).size, c.st.toNat, c.ng.toNat, c.ns.toNat, c.nv.toNat, c.refs.length] := by simp [ckNat]
  rw [e6] at h6
  simp only [List.length_nil, Nat.zero_add] at h6
  have hl2 : t.data.toList = nT [(ckSe c).size, c.st.toNat, c.ng.toNat, c.ns.toNat, c.nv.toNat, c.refs.length] ++ (nT (c.refs.flatMap (fun r => [r.1.toNat, r.2.toNat])) ++ ((fourOf (ckBd c c.refs.length)).data.toList ++ rest)) := by
    rw [hl, show (ckSe c).size :: ckNat c = [(ckSe c).size, c.st.toNat, c.ng.toNat, c.ns.toNat, c.nv.toNat, c.refs.length] ++ c.refs.flatMap (fun r => [r.1.toNat, r.2.toNat]) by simp [ckNat], nT_append]
    simp [List.append_assoc]
  have hfl : (c.refs.flatMap (fun r => [r.1.toNat, r.2.toNat])).length = 2 * c.refs.length := by have := ckNat_len c; unfold ckNat at this; rw [List.length_append] at this; simp at this ⊢; omega
  have hq := rdNs_back (nT [(ckSe c).size, c.st.toNat, c.ng.toNat, c.ns.toNat, c.nv.toNat, c.refs.length]) (c.refs.flatMap (fun r => [r.1.toNat, r.2.toNat])) ((fourOf (ckBd c c.refs.length)).data.toList ++ rest) (fun n hn => ckNat_in hok n (by unfold ckNat; exact List.mem_append_right _ hn)) (2 * c.refs.length) (by omega)
  rw [← hl2, ← hfl, List.take_length, hfl] at hq
  exact ⟨_, _, h6, hq⟩
theorem hit_one {t : ByteArray} {c d : Ck} (h : Hit t c) (k : Hit t d) : c = d := by
  obtain ⟨p, q, a1, a2⟩ := hit_read h
  obtain ⟨p', q', b1, b2⟩ := hit_read k
  rw [a1] at b1
  have e := Option.some.inj b1
  simp only [Prod.mk.injEq, List.cons.injEq, and_true] at e
  obtain ⟨⟨_, e1, e2, e3, e4, e5⟩, rfl⟩ := e
  rw [← e5, a2] at b2
  have e6 := congrArg Prod.fst (Option.some.inj b2)
  simp only at e6
  rw [← ck_back h.1, ← ck_back k.1, e1, e2, e3, e4, e6]
noncomputable def rkO (t : ByteArray) : Option Ck := @dite _ (∃ c, Hit t c) (Classical.propDecidable _) (fun h => some (Classical.choose h)) (fun _ => none)
theorem rkO_some {t : ByteArray} {c : Ck} (h : Hit t c) : rkO t = some c := by
  unfold rkO
  rw [dif_pos ⟨c, h⟩]
  exact congrArg some (hit_one (Classical.choose_spec (⟨c, h⟩ : ∃ c, Hit t c)) h)
theorem rkO_none {t : ByteArray} (h : ∀ c, ¬ Hit t c) : rkO t = none := by
  unfold rkO
  rw [dif_neg (fun ⟨c, hc⟩ => h c hc)]
theorem rkO_ok {t : ByteArray} {c : Ck} (h : rkO t = some c) : c.ok := by
  unfold rkO at h
  split at h
  · rename_i hx
    rw [← Option.some.inj h]
    exact (Classical.choose_spec hx).1
  · cases h

/-- The ways in which nothing is read. -/
theorem miss6 {t : ByteArray} (h : rdNs t.data.toList 0 6 = none) : rkO t = none := rkO_none fun c hc => by
  obtain ⟨p, q, a1, _⟩ := hit_read hc
  rw [h] at a1; cases a1
theorem miss11 {t : ByteArray} {l st ng ns nv m p : Nat} (h : rdNs t.data.toList 0 6 = some ([l, st, ng, ns, nv, m], p)) (hm : 11 < m) : rkO t = none := rkO_none fun c hc => by
  obtain ⟨p', q, a1, _⟩ := hit_read hc
  rw [h] at a1
  have e := Option.some.inj a1
  simp only [Prod.mk.injEq, List.cons.injEq, and_true] at e
  have := hc.1.2.1.2
  omega
theorem missQ {t : ByteArray} {l st ng ns nv m p : Nat} (h : rdNs t.data.toList 0 6 = some ([l, st, ng, ns, nv, m], p)) (h2 : rdNs t.data.toList p (2 * m) = none) : rkO t = none := rkO_none fun c hc => by
  obtain ⟨p', q, a1, a2⟩ := hit_read hc
  rw [h] at a1
  have e := Option.some.inj a1
  simp only [Prod.mk.injEq, List.cons.injEq, and_true] at e
  obtain ⟨⟨_, _, _, _, _, e5⟩, rfl⟩ := e
  rw [← e5, h2] at a2
  cases a2
theorem rk_read {t : ByteArray} {l st ng ns nv m p q : Nat} {qs : List Nat} (h : rdNs t.data.toList 0 6 = some ([l, st, ng, ns, nv, m], p)) (h2 : rdNs t.data.toList p (2 * m) = some (qs, q)) (hn : ¬ Hit t (ckOfN st ng ns nv qs)) : rkO t = none := rkO_none fun c hc => by
  obtain ⟨p', q', a1, a2⟩ := hit_read hc
  rw [h] at a1
  have e := Option.some.inj a1
  simp only [Prod.mk.injEq, List.cons.injEq, and_true] at e
  obtain ⟨⟨_, e1, e2, e3, e4, e5⟩, rfl⟩ := e
  rw [← e5, h2] at a2
  have e6 := congrArg Prod.fst (Option.some.inj a2)
  simp only at e6
  refine hn ?_
  rw [e1, e2, e3, e4, e6, ck_back hc.1]
  exact hc

end Go.Proofs.YtlnpegknjhbdnaaDoor

/- Plain facts on bits, as the walk spells them: groups of seven bits put together. -/
namespace Go.Proofs.YtlnpegknjhbdnaaDoor
open Go.RowKit

theorem i64_or_nat (a b : Nat) (ha : a < 9223372036854775808) (hb : b < 9223372036854775808) : bits .or .i64 (a : Int) (b : Int) = ((a ||| b : Nat) : Int) := by
  have h : a ||| b < 2 ^ 63 := Nat.or_lt_two_pow ha hb
  have ea : BitVec.ofInt 64 (a : Int) = BitVec.ofNat 64 a := by simp
  have eb : BitVec.ofInt 64 (b : Int) = BitVec.ofNat 64 b := by simp
  have e : (BitVec.ofNat 64 a ||| BitVec.ofNat 64 b).toNat = a ||| b := by
    rw [BitVec.toNat_or, BitVec.toNat_ofNat, BitVec.toNat_ofNat, Nat.mod_eq_of_lt (by omega), Nat.mod_eq_of_lt (by omega)]
  show IntKind.i64.wrap (((BitVec.ofInt 64 (a : Int) ||| BitVec.ofInt 64 (b : Int)).toNat : Nat) : Int) = _
  rw [ea, eb, e, IntWalk.i64_in _ ⟨by omega, by omega⟩]

theorem or_shifted (n c i : Nat) (hn : n < 128 ^ i) : n ||| c * 128 ^ i = n + c * 128 ^ i := by
  have e : (128 : Nat) ^ i = 2 ^ (7 * i) := by rw [Nat.pow_mul]
  rw [e] at hn ⊢
  have := Nat.shiftLeft_add_eq_or_of_lt hn c
  rw [Nat.shiftLeft_eq] at this
  rw [Nat.or_comm, ← this, Nat.add_comm]

theorem group_or (n c i : Nat) (hn : n < 128 ^ i) (hi : i < 5) (hc : c < 256) :
    bits .or .i64 (n : Int) (wrap64 (wrap64 (bits .and .u8 (c : Int) 127) * 2 ^ (7 * i))) = ((n + c % 128 * 128 ^ i : Nat) : Int) := by
  have h1 : bits .and .u8 (c : Int) 127 = ((c % 128 : Nat) : Int) := by
    have := u8_and_nat c 127 hc (by decide)
    rw [Nat.and_two_pow_sub_one_eq_mod c 7] at this
    exact this
  have hp : (128 : Nat) ^ i ≤ 128 ^ 4 := Nat.pow_le_pow_right (by decide) (by omega)
  have hm : c % 128 * 128 ^ i ≤ 127 * 128 ^ 4 := Nat.mul_le_mul (by omega) hp
  have e : (2 : Int) ^ (7 * i) = ((128 ^ i : Nat) : Int) := by rw [Int.natCast_pow, Int.pow_mul]; rfl
  have w1 : wrap64 ((c % 128 : Nat) : Int) = ((c % 128 : Nat) : Int) := IntWalk.wrap64_in _ ⟨by omega, by omega⟩
  have w2 : wrap64 ((c % 128 * 128 ^ i : Nat) : Int) = ((c % 128 * 128 ^ i : Nat) : Int) := IntWalk.wrap64_in _ ⟨by omega, by omega⟩
  rw [h1, w1, e, ← Int.natCast_mul, w2, i64_or_nat _ _ (by omega) (by omega), or_shifted _ _ _ hn]

theorem group_add (n c i : Nat) (hn : n < 128 ^ i) (hi : i < 5) :
    wrap64 ((n : Int) + wrap64 ((c : Int) % 128 * 128 ^ i)) = ((n + c % 128 * 128 ^ i : Nat) : Int) := by
  have hp : (128 : Nat) ^ i ≤ 128 ^ 4 := Nat.pow_le_pow_right (by decide) (by omega)
  have hm : c % 128 * 128 ^ i ≤ 127 * 128 ^ 4 := Nat.mul_le_mul (by omega) hp
  have e : (c : Int) % 128 * 128 ^ i = ((c % 128 * 128 ^ i : Nat) : Int) := by simp
  have w2 : wrap64 ((c % 128 * 128 ^ i : Nat) : Int) = ((c % 128 * 128 ^ i : Nat) : Int) := IntWalk.wrap64_in _ ⟨by omega, by omega⟩
  have w3 : wrap64 ((n + c % 128 * 128 ^ i : Nat) : Int) = ((n + c % 128 * 128 ^ i : Nat) : Int) := IntWalk.wrap64_in _ ⟨by omega, by omega⟩
  rw [e, w2, ← Int.natCast_add, w3]

theorem scale_next (i : Nat) (hi : i < 5) : wrap64 ((128 : Int) ^ i * 128) = ((128 ^ (i + 1) : Nat) : Int) := by
  have hp : (128 : Nat) ^ (i + 1) ≤ 128 ^ 5 := Nat.pow_le_pow_right (by decide) (by omega)
  have e : (128 : Int) ^ i * 128 = ((128 ^ (i + 1) : Nat) : Int) := by rw [Nat.pow_succ]; simp
  rw [e]
  generalize (128 : Nat) ^ (i + 1) = x at hp ⊢
  exact IntWalk.wrap64_in _ ⟨by omega, by omega⟩

end Go.Proofs.YtlnpegknjhbdnaaDoor

/- Reading a number: what impl.readGroups, impl.ReadVar and spec.ReadVar hand back. -/
namespace Go.Proofs.YtlnpegknjhbdnaaDoor
open Go.RowKit

/-- What readGroups hands back. -/
def grT (s : ByteArray) (k : Nat) : Value :=
  match rg 5 (s.data.toList.drop k) 0 0 with
  | some (n, c) => .tuple #[.int .i64 n, .int .i64 ((k : Int) + c), .bool true]
  | none => .tuple #[.int .i64 0, .int .i64 0, .bool false]

theorem grT_some {s : ByteArray} {k n c : Nat} (h : rg 5 (s.data.toList.drop k) 0 0 = some (n, c)) : grT s k = .tuple #[.int .i64 n, .int .i64 ((k : Int) + c), .bool true] := by rw [grT, h]
theorem grT_none {s : ByteArray} {k : Nat} (h : rg 5 (s.data.toList.drop k) 0 0 = none) : grT s k = .tuple #[.int .i64 0, .int .i64 0, .bool false] := by rw [grT, h]

theorem ret_iib {a b a' b' : Int} {c c' : Bool} (h1 : a = a') (h2 : b = b') (h3 : c = c') : Ending.returned (.tuple #[.int .i64 a, .int .i64 b, .bool c]) = .returned (.tuple #[.int .i64 a', .int .i64 b', .bool c']) := by rw [h1, h2, h3]

theorem next_lt {n c i : Nat} (hn : n < 128 ^ i) : n + c % 128 * 128 ^ i < 128 ^ (i + 1) := by
  have hb : c % 128 * 128 ^ i ≤ 127 * 128 ^ i := Nat.mul_le_mul_right _ (by omega)
  have hp : 128 ^ (i + 1) = 128 * 128 ^ i := by rw [Nat.pow_succ, Nat.mul_comm]
  omega

set_option maxRecDepth 100000 in
set_option maxHeartbeats 1000000 in
theorem readGroups_any (s : ByteArray) (k : Nat) (w : World) (hk : k ≤ s.size) (hs : s.size ≤ 1099511627776) :
    Calls Tryd.prog 57 #[.string s, .int .i64 k] w fun e w' => e = .returned (grT s k) ∧ w' = w := by
  obtain ⟨R, hR0⟩ : ∃ R, rg 5 (s.data.toList.drop k) 0 0 = R := ⟨_, rfl⟩
  have hR : Hid (rg 5 (s.data.toList.drop k) 0 0 = R) := hR0
  clear hR0
  go_enter Tryd.func57, Tryd.ntmps57
  go_wp2
  go_loop [7, 8] (fun nv iv => ∃ i n : Nat, i ≤ 5 ∧ iv = .int .i64 i ∧ nv = .int .i64 n ∧ n < 128 ^ i ∧ rg (5 - i) (s.data.toList.drop (k + i)) i n = R) (fun _ iv => 5 - (intOf iv).toNat)
  case atStart => exact ⟨0, 0, by omega, rfl, rfl, by omega, hR.out⟩
  case round =>
    obtain ⟨i, n, hi, rfl, rfl, hn, hr0⟩ := hrel
    have hr : Hid (rg (5 - i) (s.data.toList.drop (k + i)) i n = R) := hr0
    clear hr0
    by_cases hlt : i < 5 ∧ k + i < s.size
    · obtain ⟨h1, h2⟩ := hlt
      have hl : k + i < s.data.toList.length := by simpa using h2
      have hb : s[k + i].toNat < 256 := UInt8.toNat_lt _
      by_cases hc : s[k + i].toNat < 128
      · go_wp2
        go_ret3
        refine ⟨?_, rfl⟩
        rw [grT_some (hR.out.trans (hr.out.symm.trans (rg_lo (l := s.data.toList) h1 hl hc)))]
        exact ret_iib (group_or _ _ _ hn h1 hb) (by omega) rfl
      · go_wp2
        go_round
        case rel => exact ⟨i + 1, n + s[k + i].toNat % 128 * 128 ^ i, by omega, by go_num, by rw [group_or _ _ _ hn h1 hb], next_lt hn, (rg_hi (l := s.data.toList) h1 hl hc).symm.trans hr.out⟩
        case measure => simp [intOf]; omega
    · have hz := grT_none (hR.out.trans (hr.out.symm.trans (rg_out (l := s.data.toList) (by simpa using hlt))))
      have hZ : Hid (grT s k = .tuple #[.int .i64 0, .int .i64 0, .bool false]) := hz
      clear hz
      by_cases h1 : i < 5
      · have h2 : ¬ k + i < s.size := fun h => hlt ⟨h1, h⟩
        go_wp2
        go_ret3
        refine ⟨?_, rfl⟩
        rw [hZ.out]
        exact ret_iib rfl rfl rfl
      · go_wp2
        go_ret3
        refine ⟨?_, rfl⟩
        rw [hZ.out]
        exact ret_iib rfl rfl rfl

end Go.Proofs.YtlnpegknjhbdnaaDoor

/- Reading a number: what impl.ReadVar and spec.ReadVar hand back. -/
namespace Go.Proofs.YtlnpegknjhbdnaaDoor
open Go.RowKit

theorem extract_list (s : ByteArray) (k c : Nat) : (s.extract k (k + c)).toList = (s.data.toList.drop k).take c := by
  obtain ⟨⟨l⟩⟩ := s
  have := ByteArray.extract_mk l k (k + c)
  rw [show k + c - k = c by omega] at this
  rw [this, ByteArray.toList_eq]

theorem slice_cut (s : ByteArray) (k i : Nat) (h : k + (i + 1) ≤ s.size) (wx : World) :
    (Instr.slice 9 (.string s) (some (.int .i64 (k : Int))) (some (.int .i64 ((k : Int) + (i : Int) + 1))) none).run Tryd.prog wx = .ok (.string (s.extract k (k + (i + 1)))) wx := by
  have := run_slice_string (P := Tryd.prog) (w := wx) 9 s .i64 .i64 (k : Int) ((k : Int) + (i : Int) + 1) Tryd.underlying9 (by omega) (by omega) (by omega)
  rw [this]
  congr 3

def zeroT : Value := .tuple #[.int .i64 0, .int .i64 0, .bool false]

/-- What ReadVar hands back. -/
def rvT (s : ByteArray) (at' : Int) : Value :=
  if 0 ≤ at' ∧ at' ≤ s.size then
    match rv s.data.toList at'.toNat with
    | some (n, b) => .tuple #[.int .i64 n, .int .i64 b, .bool true]
    | none => zeroT
  else zeroT

theorem rvT_out {s : ByteArray} {at' : Int} (h : ¬ (0 ≤ at' ∧ at' ≤ s.size)) : rvT s at' = zeroT := by rw [rvT, if_neg h]
theorem rvT_some {s : ByteArray} {k n b : Nat} (hk : k ≤ s.size) (h : rv s.data.toList k = some (n, b)) : rvT s k = .tuple #[.int .i64 n, .int .i64 b, .bool true] := by
  rw [rvT, if_pos (by omega), Int.toNat_natCast, h]
theorem rvT_none {s : ByteArray} {k : Nat} (hk : k ≤ s.size) (h : rv s.data.toList k = none) : rvT s k = zeroT := by
  rw [rvT, if_pos (by omega), Int.toNat_natCast, h]

set_option maxRecDepth 100000 in
set_option maxHeartbeats 1000000 in
theorem implReadVar_any (s : ByteArray) (a : Int) (w : World) (hs : s.size ≤ 1099511627776) :
    Calls Tryd.prog 46 #[.string s, .int .i64 a] w fun e w' => e = .returned (rvT s a) ∧ Below w.heap.size w w' := by
  by_cases h : 0 ≤ a ∧ a ≤ s.size
  · obtain ⟨k, rfl⟩ := Int.eq_ofNat_of_zero_le h.1
    have hk : k ≤ s.size := by omega
    clear h
    rcases hR0 : rg 5 (s.data.toList.drop k) 0 0 with _ | ⟨n, c⟩
    · have hg : Hid (grT s k = _) := grT_none hR0
      have hz : Hid (rvT s k = _) := rvT_none hk (rv_none hR0)
      clear hR0
      go_enter Tryd.func46, Tryd.ntmps46
      go_wp2_with (go_at_call 57; refine (readGroups_any _ _ _ hk hs).mono ?_; rintro e w1 ⟨rfl, rfl⟩; rw [hg.out])
      go_ret3
      exact ⟨by rw [hz.out]; exact ret_iib rfl rfl rfl, Below.refl _ _⟩
    · have hg : Hid (grT s k = _) := grT_some hR0
      have hR : Hid (rg 5 (s.data.toList.drop k) 0 0 = some (n, c)) := hR0
      obtain ⟨b1, b2, b3, b4⟩ := rg_bound 5 _ 0 0 n c hR0 (by decide)
      clear hR0
      simp at b1 b4
      have b5 : k + c ≤ s.size := by omega
      by_cases hn : n ≤ 1000000000
      · by_cases hv : vt n = (s.data.toList.drop k).take c
        · have he : (vt n == (s.extract k (k + c)).toList) = true := by rw [extract_list]; simp [hv]
          have hz : Hid (rvT s k = _) := rvT_some hk (rv_yes hR.out hn hv)
          clear hv
          go_enter Tryd.func46, Tryd.ntmps46
          go_wp2_with (first | (go_at_call 57; refine (readGroups_any _ _ _ hk hs).mono ?_; rintro e w1 ⟨rfl, rfl⟩; rw [hg.out]) | (go_at_call 36; refine (implVarText_any _ _).mono ?_; rintro e w2 ⟨rfl, hb2⟩; rw [varT_yes (by omega), Int.toNat_natCast]))
          go_ret3
          exact ⟨by rw [hz.out]; exact ret_iib rfl (by omega) rfl, hb2⟩
        · have he : (vt n == (s.extract k (k + c)).toList) = false := by rw [extract_list]; simp [hv]
          have hz : Hid (rvT s k = _) := rvT_none hk (rv_no hR.out (fun h => hv h.2))
          clear hv
          go_enter Tryd.func46, Tryd.ntmps46
          go_wp2_with (first | (go_at_call 57; refine (readGroups_any _ _ _ hk hs).mono ?_; rintro e w1 ⟨rfl, rfl⟩; rw [hg.out]) | (go_at_call 36; refine (implVarText_any _ _).mono ?_; rintro e w2 ⟨rfl, hb2⟩; rw [varT_yes (by omega), Int.toNat_natCast]))
          go_ret3
          exact ⟨by rw [hz.out]; exact ret_iib rfl rfl rfl, hb2⟩
      · have hz : Hid (rvT s k = _) := rvT_none hk (rv_no hR.out (fun h => hn h.1))
        go_enter Tryd.func46, Tryd.ntmps46
        go_wp2_with (first | (go_at_call 57; refine (readGroups_any _ _ _ hk hs).mono ?_; rintro e w1 ⟨rfl, rfl⟩; rw [hg.out]) | (go_at_call 36; refine (implVarText_any _ _).mono ?_; rintro e w2 ⟨rfl, hb2⟩; rw [varT_no (by omega)]))
        go_ret3
        exact ⟨by rw [hz.out]; exact ret_iib rfl rfl rfl, hb2⟩
  · have hz : Hid (rvT s a = _) := rvT_out h
    by_cases h1 : a < 0
    · go_enter Tryd.func46, Tryd.ntmps46
      go_wp2
      go_ret3
      exact ⟨by rw [hz.out]; exact ret_iib rfl rfl rfl, Below.refl _ _⟩
    · have h2 : (s.size : Int) < a := by omega
      go_enter Tryd.func46, Tryd.ntmps46
      go_wp2
      go_ret3
      exact ⟨by rw [hz.out]; exact ret_iib rfl rfl rfl, Below.refl _ _⟩

set_option maxRecDepth 100000 in
set_option maxHeartbeats 1000000 in
theorem specReadVar_any (s : ByteArray) (a : Int) (w : World) (hs : s.size ≤ 1099511627776) :
    Calls Tryd.prog 18 #[.string s, .int .i64 a] w fun e w' => e = .returned (rvT s a) ∧ Below w.heap.size w w' := by
  by_cases h : 0 ≤ a ∧ a ≤ s.size
  · obtain ⟨k, rfl⟩ := Int.eq_ofNat_of_zero_le h.1
    have hk : k ≤ s.size := by omega
    have h1 : decide ((0 : Int) ≤ (k : Int)) = true := by simp
    have h2 : decide ((k : Int) ≤ (s.size : Int)) = true := by simp; omega
    clear h
    obtain ⟨R, hR0⟩ : ∃ R, rg 5 (s.data.toList.drop k) 0 0 = R := ⟨_, rfl⟩
    have hR : Hid (rg 5 (s.data.toList.drop k) 0 0 = R) := hR0
    clear hR0
    go_enter Tryd.func18, Tryd.ntmps18
    go_wp2_with (go_at_call 30; refine (l01In_any _ _ _ _).mono ?_; rintro e w1 ⟨rfl, rfl⟩)
    go_loop [7, 8, 9] (fun nv sv iv => ∃ i n : Nat, i ≤ 5 ∧ iv = .int .i64 ((k : Int) + i) ∧ sv = .int .i64 ((128 ^ i : Nat) : Int) ∧ nv = .int .i64 n ∧ n < 128 ^ i ∧ rg (5 - i) (s.data.toList.drop (k + i)) i n = R) (fun _ _ iv => 5 - (intOf iv - k).toNat)
    case atStart => exact ⟨0, 0, by omega, by simp, by simp, rfl, by omega, hR.out⟩
    case round =>
      obtain ⟨i, n, hi, rfl, rfl, rfl, hn, hr0⟩ := hrel
      have hr : Hid (rg (5 - i) (s.data.toList.drop (k + i)) i n = R) := hr0
      clear hr0
      by_cases hlt : i < 5 ∧ k + i < s.size
      · obtain ⟨h1, h2⟩ := hlt
        have hl : k + i < s.data.toList.length := by simpa using h2
        have hb : s[k + i].toNat < 256 := UInt8.toNat_lt _
        by_cases hc : s[k + i].toNat < 128
        · go_wp2
          rw [group_add _ _ _ hn h1]
          have hr1 := rg_lo (l := s.data.toList) (n := n) h1 hl hc
          rw [hr.out, ← hR.out] at hr1
          generalize hm0 : n + s[k + i].toNat % 128 * 128 ^ i = m
          have hr2 : rg 5 (s.data.toList.drop k) 0 0 = some (m, i + 1) := by rw [← hm0]; exact hr1
          have hr3 : Hid (rg 5 (s.data.toList.drop k) 0 0 = some (m, i + 1)) := hr2
          have b5 : k + (i + 1) ≤ s.size := by omega
          clear hr1 hr2 hm0
          by_cases hm : m ≤ 1000000000
          · by_cases hv : vt m = (s.data.toList.drop k).take (i + 1)
            · have he : (vt m == (s.extract k (k + (i + 1))).toList) = true := by rw [extract_list]; simp [hv]
              have hz : Hid (rvT s k = _) := rvT_some hk (rv_yes hr3.out hm hv)
              clear hv
              have g1 : decide ((1000000000 : Int) < (m : Int)) = false := by simp; omega
              have g2 : IntKind.i64.wrap ((k : Int) + (i : Int) + 1) = (k : Int) + (i : Int) + 1 := IntWalk.i64_in _ ⟨by omega, by omega⟩
              have g3 := slice_cut s k i b5
              go_region_held3 (fun _ => True) (trivial) ((go_at_call 22; refine (l01Var_any _ _ hm).mono ?_; rintro e w2 ⟨rfl, hb2⟩))
              go_wp2
              go_ret3
              exact ⟨by rw [hz.out]; exact ret_iib rfl (by omega) rfl, (Below.refl _ _).drew.trans hb2⟩
            · have he : (vt m == (s.extract k (k + (i + 1))).toList) = false := by rw [extract_list]; simp [hv]
              have hz : Hid (rvT s k = _) := rvT_none hk (rv_no hr3.out (fun h => hv h.2))
              clear hv
              have g1 : decide ((1000000000 : Int) < (m : Int)) = false := by simp; omega
              have g2 : IntKind.i64.wrap ((k : Int) + (i : Int) + 1) = (k : Int) + (i : Int) + 1 := IntWalk.i64_in _ ⟨by omega, by omega⟩
              have g3 := slice_cut s k i b5
              go_region_held3 (fun _ => True) (trivial) ((go_at_call 22; refine (l01Var_any _ _ hm).mono ?_; rintro e w2 ⟨rfl, hb2⟩))
              go_wp2
              go_ret3
              exact ⟨by rw [hz.out]; exact ret_iib rfl rfl rfl, (Below.refl _ _).drew.trans hb2⟩
          · have hz : Hid (rvT s k = _) := rvT_none hk (rv_no hr3.out (fun h => hm h.1))
            have g1 : decide ((1000000000 : Int) < (m : Int)) = true := by simp; omega
            go_quiet (fail)
            go_wp2
            go_ret3
            exact ⟨by rw [hz.out]; exact ret_iib rfl rfl rfl, below_drewN (Below.refl _ _) _⟩
        · go_wp2
          go_round
          case rel => exact ⟨i + 1, n + s[k + i].toNat % 128 * 128 ^ i, by omega, by go_num, by rw [scale_next i h1], by rw [group_add _ _ _ hn h1], next_lt hn, (rg_hi (l := s.data.toList) h1 hl hc).symm.trans hr.out⟩
          case measure => simp [intOf]; omega
      · have hz : Hid (rvT s k = _) := rvT_none hk (rv_none (hR.out.trans (hr.out.symm.trans (rg_out (l := s.data.toList) (by simpa using hlt)))))
        by_cases h1 : k + i < s.size
        · have h2 : ¬ i < 5 := fun h => hlt ⟨h, h1⟩
          go_wp2
          go_ret3
          exact ⟨by rw [hz.out]; exact ret_iib rfl rfl rfl, Below.refl _ _⟩
        · go_wp2
          go_ret3
          exact ⟨by rw [hz.out]; exact ret_iib rfl rfl rfl, Below.refl _ _⟩
  · have hz : Hid (rvT s a = _) := rvT_out h
    have h1 : (decide ((0 : Int) ≤ a) && decide (a ≤ (s.size : Int))) = false := by
      simp only [Bool.and_eq_false_iff, decide_eq_false_iff_not]
      omega
    go_enter Tryd.func18, Tryd.ntmps18
    go_wp2_with (go_at_call 30; refine (l01In_any _ _ _ _).mono ?_; rintro e w1 ⟨rfl, rfl⟩; simp only [h1])
    go_ret3
    exact ⟨by rw [hz.out]; exact ret_iib rfl rfl rfl, Below.refl _ _⟩

end Go.Proofs.YtlnpegknjhbdnaaDoor

/- strings.Clone hands back the same bytes and changes nothing that was there: out of the library's own theorem on internal/stringslite.Clone, at the numbers of this program. -/
namespace Go.Proofs.YtlnpegknjhbdnaaDoor
open Go.Shelf Go.RowKit

end Go.Proofs.YtlnpegknjhbdnaaDoor

/- A text behind its length, and read back: what ShortText and ReadShort hand back. -/
namespace Go.Proofs.YtlnpegknjhbdnaaDoor
open Go.RowKit

/-- What ShortText hands back. -/
def shT (s : ByteArray) : Value :=
  if s.size ≤ 20000 then .tuple #[.string (⟨(vt s.size).toArray⟩ ++ s), .bool true] else .tuple #[.string ⟨#[]⟩, .bool false]
theorem shT_yes {s : ByteArray} (h : s.size ≤ 20000) : shT s = .tuple #[.string (⟨(vt s.size).toArray⟩ ++ s), .bool true] := by rw [shT, if_pos h]
theorem shT_no {s : ByteArray} (h : ¬ s.size ≤ 20000) : shT s = .tuple #[.string ⟨#[]⟩, .bool false] := by rw [shT, if_neg h]

theorem vt_size (n : Nat) : (ByteArray.mk (vt n).toArray).size ≤ n + 1 := by
  have := vt_len n
  simpa [ByteArray.size] using this


theorem implShortText_any (s : ByteArray) (w : World) (hs : s.size ≤ 1099511627776) :
    Calls Tryd.prog 40 #[.string s] w fun e w' => e = .returned (shT s) ∧ Below w.heap.size w w' := by
  by_cases h : s.size ≤ 20000
  · have hv := vt_size s.size
    have hadd := fun wx => run_string_add_sum (P := Tryd.prog) (w := wx) ⟨(vt s.size).toArray⟩ s (by omega)
    go_enter Tryd.func40, Tryd.ntmps40
    go_wp2_with (go_at_call 36; refine (implVarText_any _ _).mono ?_; rintro e w1 ⟨rfl, hb1⟩; rw [varT_yes (by omega), Int.toNat_natCast])
    go_ret2
    exact ⟨by rw [shT_yes h]; rfl, hb1⟩
  · go_enter Tryd.func40, Tryd.ntmps40
    go_wp2
    go_ret2
    exact ⟨by rw [shT_no h]; rfl, Below.refl _ _⟩

def zeroS : Value := .tuple #[.string ⟨#[]⟩, .int .i64 0, .bool false]

/-- What ReadShort hands back. -/
def rsT (s : ByteArray) (a : Int) : Value :=
  if 0 ≤ a ∧ a ≤ s.size then
    match rv s.data.toList a.toNat with
    | some (n, b) => if n ≤ 20000 ∧ n + b ≤ s.size then .tuple #[.string (s.extract b (b + n)), .int .i64 ((b : Int) + n), .bool true] else zeroS
    | none => zeroS
  else zeroS

theorem rsT_out {s : ByteArray} {a : Int} (h : ¬ (0 ≤ a ∧ a ≤ s.size)) : rsT s a = zeroS := by rw [rsT, if_neg h]
theorem rsT_none {s : ByteArray} {k : Nat} (hk : k ≤ s.size) (h : rv s.data.toList k = none) : rsT s k = zeroS := by
  rw [rsT, if_pos (by omega), Int.toNat_natCast, h]
theorem rsT_no {s : ByteArray} {k n b : Nat} (hk : k ≤ s.size) (h : rv s.data.toList k = some (n, b)) (h2 : ¬ (n ≤ 20000 ∧ n + b ≤ s.size)) : rsT s k = zeroS := by
  rw [rsT, if_pos (by omega), Int.toNat_natCast, h]
  simp only [if_neg h2]
theorem rsT_yes {s : ByteArray} {k n b : Nat} (hk : k ≤ s.size) (h : rv s.data.toList k = some (n, b)) (h2 : n ≤ 20000 ∧ n + b ≤ s.size) : rsT s k = .tuple #[.string (s.extract b (b + n)), .int .i64 ((b : Int) + n), .bool true] := by
  rw [rsT, if_pos (by omega), Int.toNat_natCast, h]
  simp only [if_pos h2]

/-- The ways of ReadShort: nothing is read; what is read is too long; it is a text. -/
theorem rs_ways (s : ByteArray) (a : Int) : (rvT s a = zeroT ∧ rsT s a = zeroS) ∨
    (∃ n b : Nat, rvT s a = .tuple #[.int .i64 n, .int .i64 b, .bool true] ∧ n ≤ 1000000000 ∧ b ≤ s.size ∧ ¬ (n ≤ 20000 ∧ n + b ≤ s.size) ∧ rsT s a = zeroS) ∨
    (∃ n b : Nat, rvT s a = .tuple #[.int .i64 n, .int .i64 b, .bool true] ∧ n ≤ 20000 ∧ n + b ≤ s.size ∧ rsT s a = .tuple #[.string (s.extract b (b + n)), .int .i64 ((b : Int) + n), .bool true]) := by
  by_cases h : 0 ≤ a ∧ a ≤ s.size
  · obtain ⟨k, rfl⟩ := Int.eq_ofNat_of_zero_le h.1
    have hk : k ≤ s.size := by omega
    rcases hr : rv s.data.toList k with _ | ⟨n, b⟩
    · exact .inl ⟨rvT_none hk hr, rsT_none hk hr⟩
    · have hle := rv_le (by simpa using hk) hr
      have hb : b ≤ s.size := by have := hle.2.2; simpa using this
      by_cases h2 : n ≤ 20000 ∧ n + b ≤ s.size
      · exact .inr (.inr ⟨n, b, rvT_some hk hr, h2.1, h2.2, rsT_yes hk hr h2⟩)
      · exact .inr (.inl ⟨n, b, rvT_some hk hr, hle.1, hb, h2, rsT_no hk hr h2⟩)
  · exact .inl ⟨rvT_out h, rsT_out h⟩

theorem slice_len (s : ByteArray) (b n : Nat) (h : n + b ≤ s.size) (wx : World) :
    (Instr.slice 9 (.string s) (some (.int .i64 (b : Int))) (some (.int .i64 ((b : Int) + (n : Int)))) none).run Tryd.prog wx = .ok (.string (s.extract b (b + n))) wx := by
  have := run_slice_string (P := Tryd.prog) (w := wx) 9 s .i64 .i64 (b : Int) ((b : Int) + (n : Int)) Tryd.underlying9 (by omega) (by omega) (by omega)
  rw [this]
  congr 3

set_option maxHeartbeats 400000 in
theorem specReadShort_any (s : ByteArray) (a : Int) (w : World) (hs : s.size ≤ 1099511627776) :
    Calls Tryd.prog 9 #[.string s, .int .i64 a] w fun e w' => e = .returned (rsT s a) ∧ Below w.heap.size w w' := by
  rcases rs_ways s a with ⟨hr0, hz0⟩ | ⟨n, b, hr0, h1, h2, h3, hz0⟩ | ⟨n, b, hr0, h1, h2, hz0⟩
  · have hr : Hid (rvT s a = _) := hr0
    have hz : Hid (rsT s a = _) := hz0
    clear hr0 hz0
    go_enter Tryd.func9, Tryd.ntmps9
    go_wp2_with (go_at_call 18; refine (specReadVar_any _ _ _ hs).mono ?_; rintro e w1 ⟨rfl, hb1⟩; rw [hr.out, zeroT])
    go_ret3
    exact ⟨by rw [hz.out]; rfl, hb1⟩
  · have hr : Hid (rvT s a = _) := hr0
    have hz : Hid (rsT s a = _) := hz0
    clear hr0 hz0
    by_cases h4 : n ≤ 20000
    · have h5 : (s.size : Int) - (b : Int) < (n : Int) := by omega
      go_enter Tryd.func9, Tryd.ntmps9
      go_wp2_with (go_at_call 18; refine (specReadVar_any _ _ _ hs).mono ?_; rintro e w1 ⟨rfl, hb1⟩; rw [hr.out])
      go_ret3
      exact ⟨by rw [hz.out]; rfl, hb1⟩
    · go_enter Tryd.func9, Tryd.ntmps9
      go_wp2_with (go_at_call 18; refine (specReadVar_any _ _ _ hs).mono ?_; rintro e w1 ⟨rfl, hb1⟩; rw [hr.out])
      go_ret3
      exact ⟨by rw [hz.out]; rfl, hb1⟩
  · have hr : Hid (rvT s a = _) := hr0
    have hz : Hid (rsT s a = _) := hz0
    clear hr0 hz0
    have hsl := slice_len s b n h2
    have h5 : ¬ (s.size : Int) - (b : Int) < (n : Int) := by omega
    go_enter Tryd.func9, Tryd.ntmps9
    go_wp2_with (go_at_call 18; refine (specReadVar_any _ _ _ hs).mono ?_; rintro e w1 ⟨rfl, hb1⟩; rw [hr.out])
    go_ret3
    exact ⟨by rw [hz.out]; rfl, hb1⟩


theorem shT_form (s : ByteArray) : ∃ (t : ByteArray) (f : Bool), shT s = .tuple #[.string t, .bool f] := by
  unfold shT
  split
  · exact ⟨_, _, rfl⟩
  · exact ⟨_, _, rfl⟩

theorem rsT_form (s : ByteArray) (a : Int) : ∃ (t : ByteArray) (b : Int) (f : Bool), rsT s a = .tuple #[.string t, .int .i64 b, .bool f] := by
  rcases rs_ways s a with ⟨_, h⟩ | ⟨_, _, _, _, _, _, h⟩ | ⟨_, _, _, _, _, h⟩
  · exact ⟨_, _, _, h⟩
  · exact ⟨_, _, _, h⟩
  · exact ⟨_, _, _, h⟩

end Go.Proofs.YtlnpegknjhbdnaaDoor

/- Records: the model's reader of a text. -/
namespace Go.Proofs.YtlnpegknjhbdnaaDoor
open Go.RowKit

/-- A number read at the cursor: what is handed back, the place behind it, whether it is bad. -/
def cuV (t : ByteArray) (p : Nat) (b : Bool) : Nat × Nat × Bool :=
  if b = true then (0, p, true) else match rv t.data.toList p with
    | some (n, q) => (n, q, false)
    | none => (0, p, true)
/-- A short text read at the cursor. -/
def cuS (t : ByteArray) (p : Nat) (b : Bool) : ByteArray × Nat × Bool :=
  if b = true then (⟨#[]⟩, p, true) else match rsO t p with
    | some (n, q) => (n, q, false)
    | none => (⟨#[]⟩, p, true)

theorem cuV_ways (t : ByteArray) (p : Nat) (b : Bool) (hp : p ≤ t.size) :
    ∃ (x q : Nat) (o : Bool), rvT t p = .tuple #[.int .i64 x, .int .i64 q, .bool o] ∧ (((b = true ∨ o = false) ∧ cuV t p b = (0, p, true)) ∨ ((b = false ∧ o = true) ∧ cuV t p b = (x, q, false))) := by
  rcases h : rv t.data.toList p with _ | ⟨n, q⟩
  · refine ⟨0, 0, false, rvT_none hp h, .inl ⟨.inr rfl, ?_⟩⟩
    cases b <;> simp [cuV, h]
  · refine ⟨n, q, true, rvT_some hp h, ?_⟩
    cases b with
    | false => exact .inr ⟨⟨rfl, rfl⟩, by simp [cuV, h]⟩
    | true => exact .inl ⟨.inl rfl, by simp [cuV]⟩
theorem cuV_le (t : ByteArray) (p : Nat) (b : Bool) (hp : p ≤ t.size) : (cuV t p b).2.1 ≤ t.size ∧ (cuV t p b).1 ≤ 1000000000 := by
  unfold cuV
  split
  · exact ⟨hp, Nat.zero_le _⟩
  · split
    · rename_i h
      have := rv_le (by simpa using hp) h
      refine ⟨?_, this.1⟩
      have := this.2.2
      simpa using this
    · exact ⟨hp, Nat.zero_le _⟩
theorem rsO_le {t : ByteArray} {p : Nat} {x : ByteArray} {q : Nat} (h : rsO t p = some (x, q)) : q ≤ t.size ∧ x.size ≤ t.size := by
  unfold rsO at h
  split at h
  · split at h
    · rename_i h2
      cases h
      refine ⟨by omega, ?_⟩
      rw [ByteArray.size_extract]; omega
    · cases h
  · cases h
theorem cuS_ways (t : ByteArray) (p : Nat) (b : Bool) (hp : p ≤ t.size) :
    ∃ (x : ByteArray) (q : Nat) (o : Bool), rsT t p = .tuple #[.string x, .int .i64 q, .bool o] ∧ (((b = true ∨ o = false) ∧ cuS t p b = (⟨#[]⟩, p, true)) ∨ ((b = false ∧ o = true) ∧ cuS t p b = (x, q, false))) := by
  rcases h : rv t.data.toList p with _ | ⟨n, q⟩
  · refine ⟨⟨#[]⟩, 0, false, rsT_none hp h, .inl ⟨.inr rfl, ?_⟩⟩
    cases b <;> simp [cuS, rsO, h]
  · by_cases h2 : n ≤ 20000 ∧ n + q ≤ t.size
    · refine ⟨t.extract q (q + n), q + n, true, by rw [rsT_yes hp h h2, Int.natCast_add], ?_⟩
      cases b with
      | false => exact .inr ⟨⟨rfl, rfl⟩, by simp [cuS, rsO, h, h2]⟩
      | true => exact .inl ⟨.inl rfl, by simp [cuS]⟩
    · refine ⟨⟨#[]⟩, 0, false, rsT_no hp h h2, .inl ⟨.inr rfl, ?_⟩⟩
      cases b <;> simp [cuS, rsO, h, h2]
theorem cuS_le (t : ByteArray) (p : Nat) (b : Bool) (hp : p ≤ t.size) : (cuS t p b).2.1 ≤ t.size ∧ (cuS t p b).1.size ≤ t.size := by
  unfold cuS
  split
  · exact ⟨hp, Nat.zero_le _⟩
  · split
    · rename_i h
      exact rsO_le h
    · exact ⟨hp, Nat.zero_le _⟩

/-- The reader stands in the block g. -/
def CuB (w : World) (g : Nat) (t : ByteArray) (p : Nat) (b : Bool) : Prop := Box w g #[.string t, .int .i64 (p : Int), .bool b] 36
theorem grown_below {w w' : World} (r : Option Nat) (hb : Below w.heap.size w w') : w.grownBy w' r := ⟨hb.os, hb.tape, hb.output, hb.size, fun k hk _ => hb.block k hk⟩

set_option maxRecDepth 100000 in
set_option maxHeartbeats 2000000 in
theorem l06Var_any (t : ByteArray) (p : Nat) (b : Bool) (g : Nat) (w : World) (hx : CuB w g t p b) (hp : p ≤ t.size) (hs : t.size ≤ 1099511627776) :
    Calls Tryd.prog 11 #[.pointer (some ⟨g, 0, none⟩)] w fun e w' => e = .returned (.int .i64 ((cuV t p b).1 : Int)) ∧ CuB w' g t (cuV t p b).2.1 (cuV t p b).2.2 ∧ w.grownBy w' (some g) := by
  obtain ⟨x, q, o, hr, hways⟩ := cuV_ways t p b hp
  have HR := Lib.hid hr
  have r0 : ∀ x, Below w.heap.size w x → x.cell? ⟨g, 0, none⟩ = some (.string t) := fun x hb => (Box.later hx hb).cell 0 _ rfl
  have r1 : ∀ x, Below w.heap.size w x → x.cell? ⟨g, 1, none⟩ = some (.int .i64 (p : Int)) := fun x hb => (Box.later hx hb).cell 1 _ rfl
  have HK0 : Hid (Below w.heap.size w w.drew) := (Below.refl _ _).drew
  have HX : Hid (Box w g #[.string t, .int .i64 (p : Int), .bool b] 36) := hx
  unfold CuB
  clear hr hx
  rcases hways with ⟨hb, hc⟩ | ⟨⟨hb, ho⟩, hc⟩
  · have HC := Lib.hid hc
    clear hc
    cases b with
    | true =>
      clear hb
      go_enter Tryd.func11, Tryd.ntmps11
      go_upto_region 1 with fail
      go_region_held3 (fun x => Below w.heap.size w x)
        (first | exact HK0.out | exact below_next (by assumption) kT)
        (first | (go_at_call 18; refine (specReadVar_any _ _ _ hs).mono ?_; rintro e wT ⟨rfl, kT⟩; rw [HR.out]))
      all_goals
        rename_i hHeld
        have BH := Lib.hid hHeld
        have yx := HX.out.later hHeld
        obtain ⟨z0, z1, z2, f0, f1, f2⟩ := yx.three
        have YX := Lib.hid yx
        clear r0 r1 hHeld yx kT
        go_wp2
        go_ret
        exact ⟨by rw [HC.out]; rfl, by rw [HC.out]; exact YX.out.set 2 _, (grown_below _ BH.out).trans (stored_grown _ _ _ _)⟩
    | false =>
      have ho : o = false := by rcases hb with h | h; cases h; exact h
      subst ho
      clear hb
      go_enter Tryd.func11, Tryd.ntmps11
      go_upto_region 1 with fail
      go_region_held3 (fun x => Below w.heap.size w x)
        (first | exact HK0.out | exact below_next (by assumption) kT)
        (first | (go_at_call 18; refine (specReadVar_any _ _ _ hs).mono ?_; rintro e wT ⟨rfl, kT⟩; rw [HR.out]))
      all_goals
        rename_i hHeld
        have BH := Lib.hid hHeld
        have yx := HX.out.later hHeld
        obtain ⟨z0, z1, z2, f0, f1, f2⟩ := yx.three
        have YX := Lib.hid yx
        clear r0 r1 hHeld yx kT
        go_wp2
        go_ret
        exact ⟨by rw [HC.out]; rfl, by rw [HC.out]; exact YX.out.set 2 _, (grown_below _ BH.out).trans (stored_grown _ _ _ _)⟩
  · have HC := Lib.hid hc
    clear hc
    subst hb
    subst ho
    go_enter Tryd.func11, Tryd.ntmps11
    go_upto_region 1 with fail
    go_region_held3 (fun x => Below w.heap.size w x)
      (first | exact HK0.out | exact below_next (by assumption) kT)
      (first | (go_at_call 18; refine (specReadVar_any _ _ _ hs).mono ?_; rintro e wT ⟨rfl, kT⟩; rw [HR.out]))
    all_goals
      rename_i hHeld
      have BH := Lib.hid hHeld
      have yx := HX.out.later hHeld
      obtain ⟨z0, z1, z2, f0, f1, f2⟩ := yx.three
      have YX := Lib.hid yx
      clear r0 r1 hHeld yx kT
      go_wp2
      go_ret
      exact ⟨by rw [HC.out]; rfl, by rw [HC.out]; exact YX.out.set 1 _, (grown_below _ BH.out).trans (stored_grown _ _ _ _)⟩


end Go.Proofs.YtlnpegknjhbdnaaDoor

/- Records: what the model's ReadRec hands back. -/
namespace Go.Proofs.YtlnpegknjhbdnaaDoor
open Go.RowKit

theorem cuV_go {t : ByteArray} {p : Nat} {b : Bool} {n q : Nat} (h : cuV t p b = (n, q, false)) : b = false ∧ rv t.data.toList p = some (n, q) := by
  unfold cuV at h
  cases b with
  | true => simp at h
  | false =>
    rcases hr : rv t.data.toList p with _ | ⟨n', q'⟩
    · simp [hr] at h
    · simp [hr] at h; exact ⟨rfl, by rw [h.1, h.2]⟩
theorem cuV_bad {t : ByteArray} {p : Nat} {n q : Nat} (h : cuV t p false = (n, q, true)) : rv t.data.toList p = none := by
  unfold cuV at h
  rcases hr : rv t.data.toList p with _ | ⟨n', q'⟩
  · rfl
  · simp [hr] at h
theorem cuS_go {t : ByteArray} {p : Nat} {b : Bool} {n : ByteArray} {q : Nat} (h : cuS t p b = (n, q, false)) : b = false ∧ rsO t p = some (n, q) := by
  unfold cuS at h
  cases b with
  | true => simp at h
  | false =>
    rcases hr : rsO t p with _ | ⟨n', q'⟩
    · simp [hr] at h
    · simp [hr] at h; exact ⟨rfl, by rw [h.1, h.2]⟩
theorem cuS_bad {t : ByteArray} {p : Nat} {n : ByteArray} {q : Nat} (h : cuS t p false = (n, q, true)) : rsO t p = none := by
  unfold cuS at h
  rcases hr : rsO t p with _ | ⟨n', q'⟩
  · rfl
  · simp [hr] at h

/-- What the reader has read is the record, unless it is bad. -/
theorem rd_told {t : ByteArray} {k : UInt8} {rest : List UInt8} (hk : t.data.toList = k :: rest) {n1 n2 n3 n4 : Nat} {x5 x6 x7 : ByteArray} {q1 q2 q3 q4 q5 q6 q7 : Nat} {d1 d2 d3 d4 d5 d6 d7 : Bool}
    (h1 : cuV t 1 false = (n1, q1, d1)) (h2 : cuV t q1 d1 = (n2, q2, d2)) (h3 : cuV t q2 d2 = (n3, q3, d3)) (h4 : cuV t q3 d3 = (n4, q4, d4))
    (h5 : cuS t q4 d4 = (x5, q5, d5)) (h6 : cuS t q5 d5 = (x6, q6, d6)) (h7 : cuS t q6 d6 = (x7, q7, d7)) :
    prs t = if d7 = true then none else some ⟨k.toNat, n1, n2, n3, n4, x5, x6, x7⟩ := by
  unfold prs
  cases d1 with
  | true =>
    have e1 := cuV_bad h1
    have : d7 = true := by
      cases d7 with
      | true => rfl
      | false => have a6 := cuS_go h7; have a5 := cuS_go (a6.1 ▸ h6); have a4 := cuS_go (a5.1 ▸ h5); have a3 := cuV_go (a4.1 ▸ h4); have a2 := cuV_go (a3.1 ▸ h3); have a1 := cuV_go (a2.1 ▸ h2); cases a1.1
    simp [hk, this, hk ▸ e1]
  | false =>
  have e1 := (cuV_go h1).2
  cases d2 with
  | true =>
    have e2 := cuV_bad h2
    have : d7 = true := by
      cases d7 with
      | true => rfl
      | false => have a6 := cuS_go h7; have a5 := cuS_go (a6.1 ▸ h6); have a4 := cuS_go (a5.1 ▸ h5); have a3 := cuV_go (a4.1 ▸ h4); have a2 := cuV_go (a3.1 ▸ h3); cases a2.1
    simp [hk, this, hk ▸ e1, hk ▸ e2]
  | false =>
  have e2 := (cuV_go h2).2
  cases d3 with
  | true =>
    have e3 := cuV_bad h3
    have : d7 = true := by
      cases d7 with
      | true => rfl
      | false => have a6 := cuS_go h7; have a5 := cuS_go (a6.1 ▸ h6); have a4 := cuS_go (a5.1 ▸ h5); have a3 := cuV_go (a4.1 ▸ h4); cases a3.1
    simp [hk, this, hk ▸ e1, hk ▸ e2, hk ▸ e3]
  | false =>
  have e3 := (cuV_go h3).2
  cases d4 with
  | true =>
    have e4 := cuV_bad h4
    have : d7 = true := by
      cases d7 with
      | true => rfl
      | false => have a6 := cuS_go h7; have a5 := cuS_go (a6.1 ▸ h6); have a4 := cuS_go (a5.1 ▸ h5); cases a4.1
    simp [hk, this, hk ▸ e1, hk ▸ e2, hk ▸ e3, hk ▸ e4]
  | false =>
  have e4 := (cuV_go h4).2
  cases d5 with
  | true =>
    have e5 := cuS_bad h5
    have : d7 = true := by
      cases d7 with
      | true => rfl
      | false => have a6 := cuS_go h7; have a5 := cuS_go (a6.1 ▸ h6); cases a5.1
    simp [hk, this, hk ▸ e1, hk ▸ e2, hk ▸ e3, hk ▸ e4, e5]
  | false =>
  have e5 := (cuS_go h5).2
  cases d6 with
  | true =>
    have e6 := cuS_bad h6
    have : d7 = true := by
      cases d7 with
      | true => rfl
      | false => have a6 := cuS_go h7; cases a6.1
    simp [hk, this, hk ▸ e1, hk ▸ e2, hk ▸ e3, hk ▸ e4, e5, e6]
  | false =>
  have e6 := (cuS_go h6).2
  cases d7 with
  | true =>
    have e7 := cuS_bad h7
    simp [hk, hk ▸ e1, hk ▸ e2, hk ▸ e3, hk ▸ e4, e5, e6, e7]
  | false =>
    have e7 := (cuS_go h7).2
    simp [hk, hk ▸ e1, hk ▸ e2, hk ▸ e3, hk ▸ e4, e5, e6, e7]

/-- No record. -/
def Rc.nil : Rc := ⟨0, 0, 0, 0, 0, emp, emp, emp⟩
/-- What ReadRec hands back. -/
def rrT (t : ByteArray) : Value := match rrO t with
  | some r => .tuple #[r.v, .bool true]
  | none => .tuple #[Rc.nil.v, .bool false]
theorem rrT_some {t : ByteArray} {r : Rc} (h : rrO t = some r) : rrT t = .tuple #[r.v, .bool true] := by rw [rrT, h]
theorem rrT_none {t : ByteArray} (h : rrO t = none) : rrT t = .tuple #[Rc.nil.v, .bool false] := by rw [rrT, h]
theorem rrO_emp : rrO emp = none := rfl
theorem rrO_bad {t : ByteArray} (h : prs t = none) : rrO t = none := by rw [rrO, h]
theorem rrO_if {t : ByteArray} {r : Rc} (h : prs t = some r) : rrO t = if r.ok ∧ r.tx = t then some r else none := by rw [rrO, h]

def set8 (w : World) (b : Nat) (v0 v1 v2 v3 v4 v5 v6 v7 : Value) : World := (((((((w.setCell ⟨b, 0, none⟩ v0).setCell ⟨b, 1, none⟩ v1).setCell ⟨b, 2, none⟩ v2).setCell ⟨b, 3, none⟩ v3).setCell ⟨b, 4, none⟩ v4).setCell ⟨b, 5, none⟩ v5).setCell ⟨b, 6, none⟩ v6).setCell ⟨b, 7, none⟩ v7
theorem Box.set8 {w : World} {b : Nat} {u0 u1 u2 u3 u4 u5 u6 u7 : Value} {t : TypeId} (h : Box w b #[u0, u1, u2, u3, u4, u5, u6, u7] t) (v0 v1 v2 v3 v4 v5 v6 v7 : Value) : Box (set8 w b v0 v1 v2 v3 v4 v5 v6 v7) b #[v0, v1, v2, v3, v4, v5, v6, v7] t :=
  have a0 : Box (w.setCell ⟨b, 0, none⟩ v0) b #[v0, u1, u2, u3, u4, u5, u6, u7] t := h.set 0 v0
  have a1 : Box ((w.setCell ⟨b, 0, none⟩ v0).setCell ⟨b, 1, none⟩ v1) b #[v0, v1, u2, u3, u4, u5, u6, u7] t := a0.set 1 v1
  have a2 : Box (((w.setCell ⟨b, 0, none⟩ v0).setCell ⟨b, 1, none⟩ v1).setCell ⟨b, 2, none⟩ v2) b #[v0, v1, v2, u3, u4, u5, u6, u7] t := a1.set 2 v2
  have a3 : Box ((((w.setCell ⟨b, 0, none⟩ v0).setCell ⟨b, 1, none⟩ v1).setCell ⟨b, 2, none⟩ v2).setCell ⟨b, 3, none⟩ v3) b #[v0, v1, v2, v3, u4, u5, u6, u7] t := a2.set 3 v3
  have a4 : Box (((((w.setCell ⟨b, 0, none⟩ v0).setCell ⟨b, 1, none⟩ v1).setCell ⟨b, 2, none⟩ v2).setCell ⟨b, 3, none⟩ v3).setCell ⟨b, 4, none⟩ v4) b #[v0, v1, v2, v3, v4, u5, u6, u7] t := a3.set 4 v4
  have a5 : Box ((((((w.setCell ⟨b, 0, none⟩ v0).setCell ⟨b, 1, none⟩ v1).setCell ⟨b, 2, none⟩ v2).setCell ⟨b, 3, none⟩ v3).setCell ⟨b, 4, none⟩ v4).setCell ⟨b, 5, none⟩ v5) b #[v0, v1, v2, v3, v4, v5, u6, u7] t := a4.set 5 v5
  have a6 : Box (((((((w.setCell ⟨b, 0, none⟩ v0).setCell ⟨b, 1, none⟩ v1).setCell ⟨b, 2, none⟩ v2).setCell ⟨b, 3, none⟩ v3).setCell ⟨b, 4, none⟩ v4).setCell ⟨b, 5, none⟩ v5).setCell ⟨b, 6, none⟩ v6) b #[v0, v1, v2, v3, v4, v5, v6, u7] t := a5.set 6 v6
  a6.set 7 v7
theorem below_set8 {B b : Nat} {w0 w : World} (h : Below B w0 w) (hb : B ≤ b) (v0 v1 v2 v3 v4 v5 v6 v7 : Value) : Below B w0 (set8 w b v0 v1 v2 v3 v4 v5 v6 v7) :=
  (((((((h.setCell (p := ⟨b, 0, none⟩) hb v0).setCell (p := ⟨b, 1, none⟩) hb v1).setCell (p := ⟨b, 2, none⟩) hb v2).setCell (p := ⟨b, 3, none⟩) hb v3).setCell (p := ⟨b, 4, none⟩) hb v4).setCell (p := ⟨b, 5, none⟩) hb v5).setCell (p := ⟨b, 6, none⟩) hb v6).setCell (p := ⟨b, 7, none⟩) hb v7
theorem grown_set8 (w : World) (b : Nat) (v0 v1 v2 v3 v4 v5 v6 v7 : Value) : w.grownBy (set8 w b v0 v1 v2 v3 v4 v5 v6 v7) (some b) :=
  (((((((stored_grown w b 0 v0).trans (stored_grown _ b 1 v1)).trans (stored_grown _ b 2 v2)).trans (stored_grown _ b 3 v3)).trans (stored_grown _ b 4 v4)).trans (stored_grown _ b 5 v5)).trans (stored_grown _ b 6 v6)).trans (stored_grown _ b 7 v7)
theorem Box.but {w X : World} {b g : Nat} {cs : Array Value} {t : TypeId} (h : Box w b cs t) (hg : w.grownBy X (some g)) (hne : b ≠ g) : Box X b cs t := (hg.block b h.lt (fun e => hne (Option.some.inj e))).trans h
theorem below_but {w w1 w2 : World} {g : Nat} (hb : Below w.heap.size w w1) (hp : w.heap.size ≤ g) (hg : w1.grownBy w2 (some g)) : Below w.heap.size w w2 :=
  hb.grown hg hb.size (fun k hk => by have := Option.some.inj hk; omega)

theorem Box.eight {w : World} {b : Nat} {u0 u1 u2 u3 u4 u5 u6 u7 : Value} {t : TypeId} (h : Box w b #[u0, u1, u2, u3, u4, u5, u6, u7] t) :
    w.cell? ⟨b, 0, none⟩ = some u0 ∧ w.cell? ⟨b, 1, none⟩ = some u1 ∧ w.cell? ⟨b, 2, none⟩ = some u2 ∧ w.cell? ⟨b, 3, none⟩ = some u3 ∧ w.cell? ⟨b, 4, none⟩ = some u4 ∧ w.cell? ⟨b, 5, none⟩ = some u5 ∧ w.cell? ⟨b, 6, none⟩ = some u6 ∧ w.cell? ⟨b, 7, none⟩ = some u7 ∧
    w.frozen? ⟨b, 0, none⟩ = false ∧ w.frozen? ⟨b, 1, none⟩ = false ∧ w.frozen? ⟨b, 2, none⟩ = false ∧ w.frozen? ⟨b, 3, none⟩ = false ∧ w.frozen? ⟨b, 4, none⟩ = false ∧ w.frozen? ⟨b, 5, none⟩ = false ∧ w.frozen? ⟨b, 6, none⟩ = false ∧ w.frozen? ⟨b, 7, none⟩ = false :=
  ⟨h.cell 0 _ rfl, h.cell 1 _ rfl, h.cell 2 _ rfl, h.cell 3 _ rfl, h.cell 4 _ rfl, h.cell 5 _ rfl, h.cell 6 _ rfl, h.cell 7 _ rfl, h.loose 0, h.loose 1, h.loose 2, h.loose 3, h.loose 4, h.loose 5, h.loose 6, h.loose 7⟩


theorem ba_beq (a b : ByteArray) : (a.toList == b.toList) = decide (a = b) := by
  by_cases h : a = b
  · simp [h]
  · have : ¬ a.toList = b.toList := fun e => h (by rw [Go.ByteArray.toList_eq, Go.ByteArray.toList_eq] at e; obtain ⟨⟨x⟩⟩ := a; obtain ⟨⟨y⟩⟩ := b; simp only at e; rw [e])
    rw [decide_eq_false h]
    simp [this]

/-- The end: what RecText hands back, and what ReadRec makes of it. -/
theorem rd_end {t : ByteArray} {r : Rc} {d : Bool} (h : prs t = if d = true then none else some r) :
    ∃ (bk : ByteArray) (o : Bool), rtT r = .tuple #[.string bk, .bool o] ∧ rrT t = if d = false ∧ o = true ∧ decide (bk = t) = true then .tuple #[r.v, .bool true] else .tuple #[Rc.nil.v, .bool false] := by
  by_cases hok : r.ok
  · refine ⟨r.tx, true, rtT_yes hok, ?_⟩
    cases d with
    | true => rw [rrT_none (rrO_bad h)]; simp
    | false =>
      have h' := rrO_if (show prs t = some r from h)
      by_cases he : r.tx = t
      · rw [if_pos ⟨hok, he⟩] at h'
        rw [rrT_some h', if_pos ⟨rfl, rfl, decide_eq_true he⟩]
      · rw [if_neg (fun c => he c.2)] at h'
        rw [rrT_none h', if_neg (fun c => he (of_decide_eq_true c.2.2))]
  · refine ⟨⟨#[]⟩, false, rtT_no hok, ?_⟩
    rw [if_neg (fun c => by cases c.2.1)]
    cases d with
    | true => exact rrT_none (rrO_bad h)
    | false =>
      have h' := rrO_if (show prs t = some r from h)
      rw [if_neg (fun c => hok c.1)] at h'
      exact rrT_none h'

theorem l06Var_at {t : ByteArray} {p : Nat} {b : Bool} {g : Nat} {w : World} {n q : Nat} {d : Bool} (h : cuV t p b = (n, q, d)) (hx : CuB w g t p b) (hp : p ≤ t.size) (hs : t.size ≤ 1099511627776) :
    Calls Tryd.prog 11 #[.pointer (some ⟨g, 0, none⟩)] w fun e w' => e = .returned (.int .i64 (n : Int)) ∧ CuB w' g t q d ∧ w.grownBy w' (some g) := by
  have := l06Var_any t p b g w hx hp hs
  rw [h] at this
  exact this


end Go.Proofs.YtlnpegknjhbdnaaDoor
