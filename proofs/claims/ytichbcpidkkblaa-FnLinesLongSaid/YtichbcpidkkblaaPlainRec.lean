/- Plain facts on records: what is right, their texts, and that they come back from them. -/
import Derived.Test.YtichbcpidkkblaaPlainFrame
import Derived.Test.YtichbcpidkkblaaPlainBack
namespace Go.Proofs.Ytichbcpidkkblaa

/-- A record. -/
structure Rc where
  kind : Int
  valid : Int
  uid : Int
  next : Int
  flags : Int
  user : ByteArray
  name : ByteArray
  text : ByteArray

/-- A word: 1 to 8 letters. -/
def wdOk (s : ByteArray) : Prop := (1 ≤ s.size ∧ s.size ≤ 8) ∧ ∀ b ∈ s.data.toList, 97 ≤ b.toNat ∧ b.toNat ≤ 122
instance decWdOk (s : ByteArray) : Decidable (wdOk s) := by unfold wdOk; infer_instance

def emp : ByteArray := ⟨#[]⟩

/-- A right record. -/
def Rc.ok (r : Rc) : Prop := (1 ≤ r.kind ∧ r.kind ≤ 5) ∧ (1 ≤ r.valid ∧ r.valid ≤ 9999) ∧
  (if r.kind = 1 then wdOk r.user ∧ wdOk r.name ∧ 1 ≤ r.next ∧ r.next ≤ 10000 else r.user = emp ∧ r.name = emp ∧ r.next = 0) ∧
  (if 3 ≤ r.kind then 1 ≤ r.uid ∧ r.uid ≤ 9999 else r.uid = 0) ∧
  (if r.kind = 3 ∨ r.kind = 4 then 0 ≤ r.flags ∧ r.flags ≤ 7 else r.flags = 0) ∧
  (if r.kind = 3 then r.text.size ≤ 100 else r.text = emp)
instance decRcOk (r : Rc) : Decidable r.ok := by unfold Rc.ok; infer_instance

/-- The bytes of a record's text. -/
def Rc.tl (r : Rc) : List UInt8 := UInt8.ofNat r.kind.toNat :: (vt r.valid.toNat ++ (vt r.uid.toNat ++ (vt r.next.toNat ++ (vt r.flags.toNat ++ ((vt r.user.size ++ r.user.data.toList) ++ ((vt r.name.size ++ r.name.data.toList) ++ (vt r.text.size ++ r.text.data.toList)))))))
def Rc.tx (r : Rc) : ByteArray := ⟨r.tl.toArray⟩
theorem Rc.tx_list (r : Rc) : r.tx.data.toList = r.tl := by simp [Rc.tx]

/-- What is right has small numbers and short texts. -/
theorem Rc.ok_small {r : Rc} (h : r.ok) : (1 ≤ r.kind ∧ r.kind ≤ 5) ∧ (0 ≤ r.valid ∧ r.valid ≤ 9999) ∧ (0 ≤ r.uid ∧ r.uid ≤ 9999) ∧ (0 ≤ r.next ∧ r.next ≤ 10000) ∧ (0 ≤ r.flags ∧ r.flags ≤ 7) ∧ r.user.size ≤ 8 ∧ r.name.size ≤ 8 ∧ r.text.size ≤ 100 := by
  obtain ⟨h1, h2, h3, h4, h5, h6⟩ := h
  have he : emp.size = 0 := rfl
  have a3 : (0 ≤ r.next ∧ r.next ≤ 10000) ∧ r.user.size ≤ 8 ∧ r.name.size ≤ 8 := by
    split at h3
    · exact ⟨by omega, h3.1.1.2, h3.2.1.1.2⟩
    · rw [h3.1, h3.2.1, he]; omega
  have a4 : 0 ≤ r.uid ∧ r.uid ≤ 9999 := by split at h4 <;> omega
  have a5 : 0 ≤ r.flags ∧ r.flags ≤ 7 := by split at h5 <;> omega
  have a6 : r.text.size ≤ 100 := by
    split at h6
    · exact h6
    · rw [h6, he]; omega
  exact ⟨h1, by omega, a4, a3.1, a5, a3.2.1, a3.2.2, a6⟩

theorem tl_len (s : ByteArray) : s.data.toList.length = s.size := by rw [Array.length_toList]; rfl

theorem vt_two' {n : Nat} (h : n ≤ 10000) : (vt n).length ≤ 2 := vt_short 1 n (by omega)
theorem Rc.tl_le {r : Rc} (h : r.ok) : r.tl.length ≤ 131 ∧ 1 ≤ r.tl.length := by
  obtain ⟨_, h2, h3, h4, h5, h6, h7, h8⟩ := r.ok_small h
  have a1 := vt_two' (n := r.valid.toNat) (by omega)
  have a2 := vt_two' (n := r.uid.toNat) (by omega)
  have a3 := vt_two' (n := r.next.toNat) (by omega)
  have a4 := vt_two' (n := r.flags.toNat) (by omega)
  have a5 := vt_two' (n := r.user.size) (by omega)
  have a6 := vt_two' (n := r.name.size) (by omega)
  have a7 := vt_two' (n := r.text.size) (by omega)
  unfold Rc.tl
  simp only [List.length_cons, List.length_append, tl_len]
  omega
theorem Rc.tx_le {r : Rc} (h : r.ok) : r.tx.size ≤ 131 ∧ 1 ≤ r.tx.size := by
  have := r.tl_le h
  have e : r.tx.size = r.tl.length := by rw [← tl_len, r.tx_list]
  rw [e]; exact this

/-- A short text read. -/
def rsO (s : ByteArray) (k : Nat) : Option (ByteArray × Nat) :=
  match rv s.data.toList k with
  | some (n, b) => if n ≤ 20000 ∧ n + b ≤ s.size then some (s.extract b (b + n), b + n) else none
  | none => none

/-- A record's fields read, one behind the other. -/
def prs (t : ByteArray) : Option Rc :=
  match t.data.toList with
  | [] => none
  | k :: _ => match rv t.data.toList 1 with
    | none => none
    | some (v, a) => match rv t.data.toList a with
      | none => none
      | some (u, b) => match rv t.data.toList b with
        | none => none
        | some (n, c) => match rv t.data.toList c with
          | none => none
          | some (f, d) => match rsO t d with
            | none => none
            | some (x, e) => match rsO t e with
              | none => none
              | some (y, g) => match rsO t g with
                | none => none
                | some (z, _) => some ⟨k.toNat, v, u, n, f, x, y, z⟩

/-- The right record whose text this is. -/
def rrO (t : ByteArray) : Option Rc := match prs t with
  | some r => if r.ok ∧ r.tx = t then some r else none
  | none => none

theorem rrO_some {t : ByteArray} {r : Rc} (h : rrO t = some r) : r.ok ∧ r.tx = t := by
  unfold rrO at h
  split at h
  · split at h
    · rename_i hc; cases h; exact hc
    · cases h
  · cases h

theorem ext_mid (pre l rest : List UInt8) : (⟨(pre ++ (l ++ rest)).toArray⟩ : ByteArray).extract pre.length (pre.length + l.length) = ⟨l.toArray⟩ := by
  obtain ⟨x, hx⟩ : ∃ x : ByteArray, x = (⟨(pre ++ (l ++ rest)).toArray⟩ : ByteArray).extract pre.length (pre.length + l.length) := ⟨_, rfl⟩
  have : x.data.toList = l := by
    rw [hx, ByteArray.data_extract, Array.toList_extract, List.extract_eq_take_drop]
    simp
  rw [← hx]
  obtain ⟨⟨y⟩⟩ := x
  simp at this
  rw [this]

/-- A short text that was written is read. -/
theorem rsO_back (pre rest : List UInt8) (s : ByteArray) (h : s.size ≤ 20000) : rsO ⟨(pre ++ ((vt s.size ++ s.data.toList) ++ rest)).toArray⟩ pre.length = some (s, pre.length + (vt s.size).length + s.size) := by
  have e0 : (⟨(pre ++ ((vt s.size ++ s.data.toList) ++ rest)).toArray⟩ : ByteArray).data.toList = pre ++ (vt s.size ++ (s.data.toList ++ rest)) := by simp
  have e1 := rv_back pre (s.data.toList ++ rest) s.size (by omega)
  unfold rsO
  rw [e0, e1]
  have hz : (⟨(pre ++ ((vt s.size ++ s.data.toList) ++ rest)).toArray⟩ : ByteArray).size = pre.length + (vt s.size).length + s.size + rest.length := by
    rw [← tl_len, e0]
    simp; omega
  simp only [hz]
  rw [if_pos ⟨h, by omega⟩]
  have e2 := ext_mid (pre ++ vt s.size) s.data.toList rest
  rw [List.length_append, tl_len] at e2
  have e3 : (pre ++ ((vt s.size ++ s.data.toList) ++ rest)) = (pre ++ vt s.size ++ (s.data.toList ++ rest)) := by simp
  rw [e3, e2]

theorem rv_at {L pre rest : List UInt8} {n p : Nat} (hL : L = pre ++ (vt n ++ rest)) (hp : p = pre.length) (hn : n ≤ 1000000000) : rv L p = some (n, p + (vt n).length) := by
  rw [hL, hp]; exact rv_back pre rest n hn
theorem rs_at {t s : ByteArray} {pre rest : List UInt8} {p : Nat} (hL : t.data.toList = pre ++ ((vt s.size ++ s.data.toList) ++ rest)) (hp : p = pre.length) (hn : s.size ≤ 20000) : rsO t p = some (s, p + (vt s.size).length + s.size) := by
  have e : t = ⟨(pre ++ ((vt s.size ++ s.data.toList) ++ rest)).toArray⟩ := by
    obtain ⟨⟨l⟩⟩ := t
    simp only at hL
    rw [hL]
  rw [e, hp]; exact rsO_back pre rest s hn

/-- A right record comes back from its text. -/
theorem prs_back {r : Rc} (h : r.ok) : prs r.tx = some r := by
  obtain ⟨h1, h2, h3, h4, h5, h6, h7, h8⟩ := r.ok_small h
  obtain ⟨kind, valid, uid, next, flags, user, name, text⟩ := r
  simp only at h1 h2 h3 h4 h5 h6 h7 h8
  obtain ⟨V, rfl⟩ := Int.eq_ofNat_of_zero_le h2.1
  obtain ⟨U, rfl⟩ := Int.eq_ofNat_of_zero_le h3.1
  obtain ⟨N, rfl⟩ := Int.eq_ofNat_of_zero_le h4.1
  obtain ⟨F, rfl⟩ := Int.eq_ofNat_of_zero_le h5.1
  obtain ⟨K, rfl⟩ := Int.eq_ofNat_of_zero_le (show 0 ≤ kind by omega)
  have hk : (UInt8.ofNat K).toNat = K := by
    rw [show (UInt8.ofNat K).toNat = K % 256 from rfl]; omega
  obtain ⟨t, ht⟩ : ∃ t, Rc.tx ⟨K, V, U, N, F, user, name, text⟩ = t := ⟨_, rfl⟩
  obtain ⟨L, hL⟩ : ∃ L, t.data.toList = L := ⟨_, rfl⟩
  have hLL : L = UInt8.ofNat K :: (vt V ++ (vt U ++ (vt N ++ (vt F ++ ((vt user.size ++ user.data.toList) ++ ((vt name.size ++ name.data.toList) ++ (vt text.size ++ text.data.toList))))))) := by
    rw [← hL, ← ht, Rc.tx_list]; rfl
  rw [ht]
  have s1 : rv L 1 = _ := rv_at (pre := [UInt8.ofNat K]) (n := V) (by rw [hLL]; rfl) rfl (by omega)
  have s2 : rv L (1 + (vt V).length) = _ := rv_at (pre := [UInt8.ofNat K] ++ vt V) (n := U) (by rw [hLL]; simp only [List.append_assoc]; rfl) (by simp; omega) (by omega)
  have s3 : rv L (1 + (vt V).length + (vt U).length) = _ := rv_at (pre := [UInt8.ofNat K] ++ vt V ++ vt U) (n := N) (by rw [hLL]; simp only [List.append_assoc]; rfl) (by simp; omega) (by omega)
  have s4 : rv L (1 + (vt V).length + (vt U).length + (vt N).length) = _ := rv_at (pre := [UInt8.ofNat K] ++ vt V ++ vt U ++ vt N) (n := F) (by rw [hLL]; simp only [List.append_assoc]; rfl) (by simp; omega) (by omega)
  have s5 : rsO t (1 + (vt V).length + (vt U).length + (vt N).length + (vt F).length) = _ := rs_at (pre := [UInt8.ofNat K] ++ vt V ++ vt U ++ vt N ++ vt F) (s := user) (by rw [hL, hLL]; simp only [List.append_assoc]; rfl) (by simp; omega) (by omega)
  have s6 : rsO t (1 + (vt V).length + (vt U).length + (vt N).length + (vt F).length + (vt user.size).length + user.size) = _ := rs_at (pre := [UInt8.ofNat K] ++ vt V ++ vt U ++ vt N ++ vt F ++ (vt user.size ++ user.data.toList)) (s := name) (by rw [hL, hLL]; simp only [List.append_assoc]; rfl) (by simp; omega) (by omega)
  have s7 : rsO t (1 + (vt V).length + (vt U).length + (vt N).length + (vt F).length + (vt user.size).length + user.size + (vt name.size).length + name.size) = _ := rs_at (pre := [UInt8.ofNat K] ++ vt V ++ vt U ++ vt N ++ vt F ++ (vt user.size ++ user.data.toList) ++ (vt name.size ++ name.data.toList)) (s := text) (rest := []) (by rw [hL, hLL]; simp only [List.append_assoc, List.append_nil]; rfl) (by simp; omega) (by omega)
  unfold prs
  rw [hL]
  rw [hLL] at s1 s2 s3 s4 ⊢
  simp only [s1, s2, s3, s4, s5, s6, s7, hk]

theorem rrO_back {r : Rc} (h : r.ok) : rrO r.tx = some r := by
  unfold rrO
  rw [prs_back h]
  exact if_pos ⟨h, rfl⟩

/-- Nothing else is read of a text than the right record whose text it is. -/
theorem rrO_none {t : ByteArray} (h : rrO t = none) (r : Rc) (hr : r.ok) : r.tx ≠ t := fun e => by rw [← e, rrO_back hr] at h; cases h

end Go.Proofs.Ytichbcpidkkblaa
