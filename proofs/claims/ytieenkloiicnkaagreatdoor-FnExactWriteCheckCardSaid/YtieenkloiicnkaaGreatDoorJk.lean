/- Texts of our own, joined. -/
import Derived.Test.YtieenkloiicnkaaGreatDoorJj
import Derived.Test.YtieenkloiicnkaaGreatDoorJa
import Derived.Laws.Bits128
import Derived.Test.YtieenkloiicnkaaGreatDoorJb
import Derived.Laws.Concat
import Derived.Lib.Hide
import Derived.Lib.ConvBytes
import Derived.Deep.RegionHeld3
import Derived.Deep.RegionLaw
import Derived.Deep.QuietTactic
import Derived.BigQuiet
/- Plain facts on records: what is right, their texts, and that they come back from them. -/
namespace Go.Proofs.YtieenkloiicnkaaGreatDoor

/-- A record. -/
structure Rc where
  kind : Int
  valid : Int
  uid : Int
  next : Int
  flags : Int
  user : ByteArray
  name : ByteArray
  text : ByteArray

/-- A word: 1 to 8 letters. -/
def wdOk (s : ByteArray) : Prop := (1 ≤ s.size ∧ s.size ≤ 8) ∧ ∀ b ∈ s.data.toList, 97 ≤ b.toNat ∧ b.toNat ≤ 122
instance decWdOk (s : ByteArray) : Decidable (wdOk s) := by unfold wdOk; infer_instance

def emp : ByteArray := ⟨#[]⟩

/-- A right record. -/
def Rc.ok (r : Rc) : Prop := (1 ≤ r.kind ∧ r.kind ≤ 5) ∧ (1 ≤ r.valid ∧ r.valid ≤ 9999) ∧
  (if r.kind = 1 then wdOk r.user ∧ wdOk r.name ∧ 1 ≤ r.next ∧ r.next ≤ 10000 else r.user = emp ∧ r.name = emp ∧ r.next = 0) ∧
  (if 3 ≤ r.kind then 1 ≤ r.uid ∧ r.uid ≤ 9999 else r.uid = 0) ∧
  (if r.kind = 3 ∨ r.kind = 4 then 0 ≤ r.flags ∧ r.flags ≤ 7 else r.flags = 0) ∧
  (if r.kind = 3 then r.text.size ≤ 100 else r.text = emp)
instance decRcOk (r : Rc) : Decidable r.ok := by unfold Rc.ok; infer_instance

/-- The bytes of a record's text. -/
def Rc.tl (r : Rc) : List UInt8 := UInt8.ofNat r.kind.toNat :: (vt r.valid.toNat ++ (vt r.uid.toNat ++ (vt r.next.toNat ++ (vt r.flags.toNat ++ ((vt r.user.size ++ r.user.data.toList) ++ ((vt r.name.size ++ r.name.data.toList) ++ (vt r.text.size ++ r.text.data.toList)))))))
def Rc.tx (r : Rc) : ByteArray := ⟨r.tl.toArray⟩
theorem Rc.tx_list (r : Rc) : r.tx.data.toList = r.tl := by simp [Rc.tx]

/-- What is right has small numbers and short texts. -/
theorem Rc.ok_small {r : Rc} (h : r.ok) : (1 ≤ r.kind ∧ r.kind ≤ 5) ∧ (0 ≤ r.valid ∧ r.valid ≤ 9999) ∧ (0 ≤ r.uid ∧ r.uid ≤ 9999) ∧ (0 ≤ r.next ∧ r.next ≤ 10000) ∧ (0 ≤ r.flags ∧ r.flags ≤ 7) ∧ r.user.size ≤ 8 ∧ r.name.size ≤ 8 ∧ r.text.size ≤ 100 := by
  obtain ⟨h1, h2, h3, h4, h5, h6⟩ := h
  have he : emp.size = 0 := rfl
  have a3 : (0 ≤ r.next ∧ r.next ≤ 10000) ∧ r.user.size ≤ 8 ∧ r.name.size ≤ 8 := by
    split at h3
    · exact ⟨by omega, h3.1.1.2, h3.2.1.1.2⟩
    · rw [h3.1, h3.2.1, he]; omega
  have a4 : 0 ≤ r.uid ∧ r.uid ≤ 9999 := by split at h4 <;> omega
  have a5 : 0 ≤ r.flags ∧ r.flags ≤ 7 := by split at h5 <;> omega
  have a6 : r.text.size ≤ 100 := by
    split at h6
    · exact h6
    · rw [h6, he]; omega
  exact ⟨h1, by omega, a4, a3.1, a5, a3.2.1, a3.2.2, a6⟩

theorem tl_len (s : ByteArray) : s.data.toList.length = s.size := by rw [Array.length_toList]; rfl

theorem vt_two' {n : Nat} (h : n ≤ 10000) : (vt n).length ≤ 2 := vt_short 1 n (by omega)
theorem Rc.tl_le {r : Rc} (h : r.ok) : r.tl.length ≤ 131 ∧ 1 ≤ r.tl.length := by
  obtain ⟨_, h2, h3, h4, h5, h6, h7, h8⟩ := r.ok_small h
  have a1 := vt_two' (n := r.valid.toNat) (by omega)
  have a2 := vt_two' (n := r.uid.toNat) (by omega)
  have a3 := vt_two' (n := r.next.toNat) (by omega)
  have a4 := vt_two' (n := r.flags.toNat) (by omega)
  have a5 := vt_two' (n := r.user.size) (by omega)
  have a6 := vt_two' (n := r.name.size) (by omega)
  have a7 := vt_two' (n := r.text.size) (by omega)
  unfold Rc.tl
  simp only [List.length_cons, List.length_append, tl_len]
  omega
theorem Rc.tx_le {r : Rc} (h : r.ok) : r.tx.size ≤ 131 ∧ 1 ≤ r.tx.size := by
  have := r.tl_le h
  have e : r.tx.size = r.tl.length := by rw [← tl_len, r.tx_list]
  rw [e]; exact this

/-- A short text read. -/
def rsO (s : ByteArray) (k : Nat) : Option (ByteArray × Nat) :=
  match rv s.data.toList k with
  | some (n, b) => if n ≤ 20000 ∧ n + b ≤ s.size then some (s.extract b (b + n), b + n) else none
  | none => none

/-- A record's fields read, one behind the other. -/
def prs (t : ByteArray) : Option Rc :=
  match t.data.toList with
  | [] => none
  | k :: _ => match rv t.data.toList 1 with
    | none => none
    | some (v, a) => match rv t.data.toList a with
      | none => none
      | some (u, b) => match rv t.data.toList b with
        | none => none
        | some (n, c) => match rv t.data.toList c with
          | none => none
          | some (f, d) => match rsO t d with
            | none => none
            | some (x, e) => match rsO t e with
              | none => none
              | some (y, g) => match rsO t g with
                | none => none
                | some (z, _) => some ⟨k.toNat, v, u, n, f, x, y, z⟩

/-- The right record whose text this is. -/
def rrO (t : ByteArray) : Option Rc := match prs t with
  | some r => if r.ok ∧ r.tx = t then some r else none
  | none => none

theorem rrO_some {t : ByteArray} {r : Rc} (h : rrO t = some r) : r.ok ∧ r.tx = t := by
  unfold rrO at h
  split at h
  · split at h
    · rename_i hc; cases h; exact hc
    · cases h
  · cases h

theorem ext_mid (pre l rest : List UInt8) : (⟨(pre ++ (l ++ rest)).toArray⟩ : ByteArray).extract pre.length (pre.length + l.length) = ⟨l.toArray⟩ := by
  obtain ⟨x, hx⟩ : ∃ x : ByteArray, x = (⟨(pre ++ (l ++ rest)).toArray⟩ : ByteArray).extract pre.length (pre.length + l.length) := ⟨_, rfl⟩
  have : x.data.toList = l := by
    rw [hx, ByteArray.data_extract, Array.toList_extract, List.extract_eq_take_drop]
    simp
  rw [← hx]
  obtain ⟨⟨y⟩⟩ := x
  simp at this
  rw [this]

/-- A short text that was written is read. -/
theorem rsO_back (pre rest : List UInt8) (s : ByteArray) (h : s.size ≤ 20000) : rsO ⟨(pre ++ ((vt s.size ++ s.data.toList) ++ rest)).toArray⟩ pre.length = some (s, pre.length + (vt s.size).length + s.size) := by
  have e0 : (⟨(pre ++ ((vt s.size ++ s.data.toList) ++ rest)).toArray⟩ : ByteArray).data.toList = pre ++ (vt s.size ++ (s.data.toList ++ rest)) := by simp
  have e1 := rv_back pre (s.data.toList ++ rest) s.size (by omega)
  unfold rsO
  rw [e0, e1]
  have hz : (⟨(pre ++ ((vt s.size ++ s.data.toList) ++ rest)).toArray⟩ : ByteArray).size = pre.length + (vt s.size).length + s.size + rest.length := by
    rw [← tl_len, e0]
    simp; omega
  simp only [hz]
  rw [if_pos ⟨h, by omega⟩]
  have e2 := ext_mid (pre ++ vt s.size) s.data.toList rest
  rw [List.length_append, tl_len] at e2
  have e3 : (pre ++ ((vt s.size ++ s.data.toList) ++ rest)) = (pre ++ vt s.size ++ (s.data.toList ++ rest)) := by simp
  rw [e3, e2]

theorem rv_at {L pre rest : List UInt8} {n p : Nat} (hL : L = pre ++ (vt n ++ rest)) (hp : p = pre.length) (hn : n ≤ 1000000000) : rv L p = some (n, p + (vt n).length) := by
  rw [hL, hp]; exact rv_back pre rest n hn
theorem rs_at {t s : ByteArray} {pre rest : List UInt8} {p : Nat} (hL : t.data.toList = pre ++ ((vt s.size ++ s.data.toList) ++ rest)) (hp : p = pre.length) (hn : s.size ≤ 20000) : rsO t p = some (s, p + (vt s.size).length + s.size) := by
  have e : t = ⟨(pre ++ ((vt s.size ++ s.data.toList) ++ rest)).toArray⟩ := by
    obtain ⟨⟨l⟩⟩ := t
    simp only at hL
    rw [hL]
  rw [e, hp]; exact rsO_back pre rest s hn

/-- A right record comes back from its text. -/
theorem prs_back {r : Rc} (h : r.ok) : prs r.tx = some r := by
  obtain ⟨h1, h2, h3, h4, h5, h6, h7, h8⟩ := r.ok_small h
  obtain ⟨kind, valid, uid, next, flags, user, name, text⟩ := r
  simp only at h1 h2 h3 h4 h5 h6 h7 h8
  obtain ⟨V, rfl⟩ := Int.eq_ofNat_of_zero_le h2.1
  obtain ⟨U, rfl⟩ := Int.eq_ofNat_of_zero_le h3.1
  obtain ⟨N, rfl⟩ := Int.eq_ofNat_of_zero_le h4.1
  obtain ⟨F, rfl⟩ := Int.eq_ofNat_of_zero_le h5.1
  obtain ⟨K, rfl⟩ := Int.eq_ofNat_of_zero_le (show 0 ≤ kind by omega)
  have hk : (UInt8.ofNat K).toNat = K := by
    rw [show (UInt8.ofNat K).toNat = K % 256 from rfl]; omega
  obtain ⟨t, ht⟩ : ∃ t, Rc.tx ⟨K, V, U, N, F, user, name, text⟩ = t := ⟨_, rfl⟩
  obtain ⟨L, hL⟩ : ∃ L, t.data.toList = L := ⟨_, rfl⟩
  have hLL : L = UInt8.ofNat K :: (vt V ++ (vt U ++ (vt N ++ (vt F ++ ((vt user.size ++ user.data.toList) ++ ((vt name.size ++ name.data.toList) ++ (vt text.size ++ text.data.toList))))))) := by
    rw [← hL, ← ht, Rc.tx_list]; rfl
  rw [ht]
  have s1 : rv L 1 = _ := rv_at (pre := [UInt8.ofNat K]) (n := V) (by rw [hLL]; rfl) rfl (by omega)
  have s2 : rv L (1 + (vt V).length) = _ := rv_at (pre := [UInt8.ofNat K] ++ vt V) (n := U) (by rw [hLL]; simp only [List.append_assoc]; rfl) (by simp; omega) (by omega)
  have s3 : rv L (1 + (vt V).length + (vt U).length) = _ := rv_at (pre := [UInt8.ofNat K] ++ vt V ++ vt U) (n := N) (by rw [hLL]; simp only [List.append_assoc]; rfl) (by simp; omega) (by omega)
  have s4 : rv L (1 + (vt V).length + (vt U).length + (vt N).length) = _ := rv_at (pre := [UInt8.ofNat K] ++ vt V ++ vt U ++ vt N) (n := F) (by rw [hLL]; simp only [List.append_assoc]; rfl) (by simp; omega) (by omega)
  have s5 : rsO t (1 + (vt V).length + (vt U).length + (vt N).length + (vt F).length) = _ := rs_at (pre := [UInt8.ofNat K] ++ vt V ++ vt U ++ vt N ++ vt F) (s := user) (by rw [hL, hLL]; simp only [List.append_assoc]; rfl) (by simp; omega) (by omega)
  have s6 : rsO t (1 + (vt V).length + (vt U).length + (vt N).length + (vt F).length + (vt user.size).length + user.size) = _ := rs_at (pre := [UInt8.ofNat K] ++ vt V ++ vt U ++ vt N ++ vt F ++ (vt user.size ++ user.data.toList)) (s := name) (by rw [hL, hLL]; simp only [List.append_assoc]; rfl) (by simp; omega) (by omega)
  have s7 : rsO t (1 + (vt V).length + (vt U).length + (vt N).length + (vt F).length + (vt user.size).length + user.size + (vt name.size).length + name.size) = _ := rs_at (pre := [UInt8.ofNat K] ++ vt V ++ vt U ++ vt N ++ vt F ++ (vt user.size ++ user.data.toList) ++ (vt name.size ++ name.data.toList)) (s := text) (rest := []) (by rw [hL, hLL]; simp only [List.append_assoc, List.append_nil]; rfl) (by simp; omega) (by omega)
  unfold prs
  rw [hL]
  rw [hLL] at s1 s2 s3 s4 ⊢
  simp only [s1, s2, s3, s4, s5, s6, s7, hk]

theorem rrO_back {r : Rc} (h : r.ok) : rrO r.tx = some r := by
  unfold rrO
  rw [prs_back h]
  exact if_pos ⟨h, rfl⟩

/-- Nothing else is read of a text than the right record whose text it is. -/
theorem rrO_none {t : ByteArray} (h : rrO t = none) (r : Rc) (hr : r.ok) : r.tx ≠ t := fun e => by rw [← e, rrO_back hr] at h; cases h

end Go.Proofs.YtieenkloiicnkaaGreatDoor

/- The bytes of a number: what spec.l01Var, spec.VarText and impl.VarText hand back. -/
namespace Go.Proofs.YtieenkloiicnkaaGreatDoor
open Go.RowKit

set_option maxHeartbeats 400000 in
theorem l01Var_any (n : Nat) (w : World) (hn : n ≤ 1000000000) :
    Calls Tryz.prog 82 #[.int .i64 n] w fun e w' => e = .returned (.string ⟨(vt n).toArray⟩) ∧ Below w.heap.size w w' := by
  have hst := Buf.fresh w #[] 0 rfl (by decide)
  go_enter Tryz.func82, Tryz.ntmps82
  go_wp2
  go_loopw [0, 3] (fun nv v wr => ∃ (m : Nat) (acc : List UInt8), m ≤ n ∧ nv = .int .i64 m ∧ acc ++ vt m = vt n ∧ Buf w.heap.size w wr v acc) (fun nv _ _ => (intOf nv).toNat)
  case atStart => exact ⟨n, [], Nat.le_refl _, rfl, rfl, hst⟩
  case round =>
    obtain ⟨m, acc, hm, rfl, hv0, hb⟩ := hrel
    have hv : Hid (acc ++ vt m = vt n) := hv0
    have hacc := vt_acc hv0
    clear hv0
    by_cases hlt : 127 < m
    · go_wp2_with (at_builtin; refine wpList_append_bytes rfl _ _ rfl _ _ acc rfl (hb.alloc _) ⟨wr.heap.size, 0, none⟩ [hiByte m] 1 rfl ?c1 ?c2 ?_)
      case c1 => exact one_new _ _ _ (by rw [hiByte_toNat]; omega)
      case c2 => simp; omega
      intro v' w1 hb'
      go_wp2
      go_roundw
      case rel => exact ⟨m / 128, acc ++ [hiByte m], by omega, by go_num, vt_step hv.out hlt, hb'⟩
      case measure => simp [intOf]; omega
    · go_wp2_with (at_builtin; refine wpList_append_bytes rfl _ _ rfl _ _ acc rfl (hb.alloc _) ⟨wr.heap.size, 0, none⟩ [loByte m] 1 rfl ?d1 ?d2 ?_)
      case d1 => exact one_new _ _ _ (by rw [loByte_toNat (by omega)])
      case d2 => simp; omega
      intro v' w1 hb'
      have hcv := hb'.toString
      go_wp2
      go_ret
      exact ⟨by rw [vt_end hv.out (by omega)]; rfl, hb'.bel⟩

theorem l01In_any (x a b : Int) (w : World) :
    Calls Tryz.prog 56 #[.int .i64 x, .int .i64 a, .int .i64 b] w fun e w' => e = .returned (.bool (decide (a ≤ x) && decide (x ≤ b))) ∧ w' = w := by
  by_cases h1 : a ≤ x
  · by_cases h2 : x ≤ b
    all_goals
      go_enter Tryz.func56, Tryz.ntmps56
      go_wp2
      go_ret
      exact ⟨by simp [h1, h2], rfl⟩
  · have h3 : decide (a ≤ x) = false := decide_eq_false h1
    go_enter Tryz.func56, Tryz.ntmps56
    go_wp2
    go_ret
    exact ⟨by simp, rfl⟩

/-- What VarText hands back, of every number. -/
def varT (n : Int) : Value := if 0 ≤ n ∧ n ≤ 1000000000 then .tuple #[.string ⟨(vt n.toNat).toArray⟩, .bool true] else .tuple #[.string ⟨#[]⟩, .bool false]

theorem varT_yes {n : Int} (h : 0 ≤ n ∧ n ≤ 1000000000) : varT n = .tuple #[.string ⟨(vt n.toNat).toArray⟩, .bool true] := by rw [varT, if_pos h]
theorem varT_no {n : Int} (h : ¬ (0 ≤ n ∧ n ≤ 1000000000)) : varT n = .tuple #[.string ⟨#[]⟩, .bool false] := by rw [varT, if_neg h]


set_option maxHeartbeats 400000 in
theorem implVarText_any (n : Int) (w : World) :
    Calls Tryz.prog 122 #[.int .i64 n] w fun e w' => e = .returned (varT n) ∧ Below w.heap.size w w' := by
  by_cases h : 0 ≤ n ∧ n ≤ 1000000000
  · obtain ⟨k, rfl⟩ := Int.eq_ofNat_of_zero_le h.1
    have hk : k ≤ 1000000000 := by omega
    have hmk : ∀ w, (Instr.makeSlice 157 (.int .i64 0) (.int .i64 5)).run Tryz.prog w = .ok (.slice (some ⟨w.heap.size, 0, none⟩) 0 5) (w.alloc (.cells #[.int .u8 0, .int .u8 0, .int .u8 0, .int .u8 0, .int .u8 0] 5)) := fun _ => by kernel_rfl
    have hst := Buf.fresh w #[.int .u8 0, .int .u8 0, .int .u8 0, .int .u8 0, .int .u8 0] 5 rfl (by decide)
    go_enter Tryz.func122, Tryz.ntmps122
    go_wp2
    go_loopw [0, 4] (fun nv v wr => ∃ (m : Nat) (acc : List UInt8), m ≤ k ∧ nv = .int .i64 m ∧ acc ++ vt m = vt k ∧ Buf w.heap.size w wr v acc) (fun nv _ _ => (intOf nv).toNat)
    case atStart => exact ⟨k, [], Nat.le_refl _, rfl, rfl, hst⟩
    case round =>
      obtain ⟨m, acc, hm, rfl, hv0, hb⟩ := hrel
      have hv : Hid (acc ++ vt m = vt k) := hv0
      have hacc := vt_acc hv0
      clear hv0 hmk
      by_cases hlt : 127 < m
      · go_wp2_with (at_builtin; refine wpList_append_bytes rfl _ _ rfl _ _ acc rfl (hb.alloc _) ⟨wr.heap.size, 0, none⟩ [hiByte m] 1 rfl ?c1 ?c2 ?_)
        case c1 => exact one_new _ _ _ (by rw [u8_or128_right _ (by omega) (by omega), hiByte_toNat]; omega)
        case c2 => simp; omega
        intro v' w1 hb'
        go_wp2
        go_roundw
        case rel => exact ⟨m / 128, acc ++ [hiByte m], by omega, by go_num, vt_step hv.out hlt, hb'⟩
        case measure => simp [intOf]; omega
      · go_wp2_with (at_builtin; refine wpList_append_bytes rfl _ _ rfl _ _ acc rfl (hb.alloc _) ⟨wr.heap.size, 0, none⟩ [loByte m] 1 rfl ?d1 ?d2 ?_)
        case d1 => exact one_new _ _ _ (by rw [loByte_toNat (by omega)])
        case d2 => simp; omega
        intro v' w1 hb'
        have hcv := hb'.toString
        go_wp2
        go_ret2
        exact ⟨by simp [varT, h, vt_end hv.out (show m ≤ 127 by omega)], hb'.bel⟩
  · have h0 : (decide (n < 0) || decide (1000000000 < n)) = true := by
      simp only [Bool.or_eq_true, decide_eq_true_eq]
      omega
    by_cases h1 : n < 0
    all_goals
      go_enter Tryz.func122, Tryz.ntmps122
      go_wp2
      go_ret2
      exact ⟨by simp [varT, h], Below.refl _ _⟩

end Go.Proofs.YtieenkloiicnkaaGreatDoor

/- Records: what the model's WordOk, RecOk, RecText hand back. -/
namespace Go.Proofs.YtieenkloiicnkaaGreatDoor
open Go.RowKit

/-- A record as a value. -/
def Rc.v (r : Rc) : Value := .agg #[.int .i64 r.kind, .int .i64 r.valid, .int .i64 r.uid, .int .i64 r.next, .int .i64 r.flags, .string r.user, .string r.name, .string r.text]
/-- Its cells. -/
def Rc.cs (r : Rc) : Array Value := #[.int .i64 r.kind, .int .i64 r.valid, .int .i64 r.uid, .int .i64 r.next, .int .i64 r.flags, .string r.user, .string r.name, .string r.text]

/-- The eight cells of a record's box. -/
theorem Box.rec {w : World} {b : Nat} {r : Rc} {t : TypeId} (h : Box w b r.cs t) : w.cell? ⟨b, 0, none⟩ = some (.int .i64 r.kind) ∧ w.cell? ⟨b, 1, none⟩ = some (.int .i64 r.valid) ∧ w.cell? ⟨b, 2, none⟩ = some (.int .i64 r.uid) ∧ w.cell? ⟨b, 3, none⟩ = some (.int .i64 r.next) ∧ w.cell? ⟨b, 4, none⟩ = some (.int .i64 r.flags) ∧ w.cell? ⟨b, 5, none⟩ = some (.string r.user) ∧ w.cell? ⟨b, 6, none⟩ = some (.string r.name) ∧ w.cell? ⟨b, 7, none⟩ = some (.string r.text) :=
  ⟨h.cell 0 _ rfl, h.cell 1 _ rfl, h.cell 2 _ rfl, h.cell 3 _ rfl, h.cell 4 _ rfl, h.cell 5 _ rfl, h.cell 6 _ rfl, h.cell 7 _ rfl⟩

theorem index_atW (s : ByteArray) (k : Nat) (h : k < s.size) (wx : World) :
    (Instr.index 9 (.string s) (.int .i64 (k : Int))).run Tryz.prog wx = .ok (.int .u8 (s[k].toNat : Int)) wx := by
  have hu := Tryz.underlying9
  simp [Instr.index, run_underlying hu, go_sem, h]

theorem l01In_yes (n lo hi : Int) (w : World) (h1 : lo ≤ n) (h2 : n ≤ hi) :
    Calls Tryz.prog 56 #[.int .i64 n, .int .i64 lo, .int .i64 hi] w fun e w' => e = .returned (.bool true) ∧ w = w' :=
  (l01In_any n lo hi w).mono fun _ _ h => ⟨by rw [h.1]; simp [h1, h2], h.2.symm⟩
theorem l01In_no (n lo hi : Int) (w : World) (h : ¬ (lo ≤ n ∧ n ≤ hi)) :
    Calls Tryz.prog 56 #[.int .i64 n, .int .i64 lo, .int .i64 hi] w fun e w' => e = .returned (.bool false) ∧ w = w' :=
  (l01In_any n lo hi w).mono fun _ _ h' => ⟨by rw [h'.1]; simp; omega, h'.2.symm⟩

set_option maxRecDepth 100000 in
theorem specWordOk_any (s : ByteArray) (w : World) (hs : s.size ≤ 1099511627776) :
    Calls Tryz.prog 181 #[.string s] w fun e w' => e = .returned (.bool (decide (wdOk s))) ∧ w = w' := by
  go_enter Tryz.func181, Tryz.ntmps181
  go_wp2
  go_loop [3] (fun iv => ∃ i : Nat, i ≤ s.size ∧ iv = .int .i64 (i : Int) ∧ ∀ j (hj : j < s.size), j < i → 97 ≤ s[j].toNat ∧ s[j].toNat ≤ 122) (fun iv => s.size - (intOf iv).toNat)
  case atStart => exact ⟨0, by omega, rfl, fun j _ hj => by omega⟩
  case round =>
    obtain ⟨i, hi, rfl, hall⟩ := hrel
    have HA := Lib.hid hall
    clear hall
    by_cases hlt : i < s.size
    · have hlt' : (i : Int) < (s.size : Int) := by omega
      have hix := index_atW s i hlt
      have HB : Hid (¬ (97 ≤ s[i].toNat ∧ s[i].toNat ≤ 122) → decide (wdOk s) = false) := fun h => decide_eq_false (fun hw => h (hw.2 _ (by
        show s.data[i] ∈ s.data.toList
        exact Array.getElem_mem_toList _)))
      have HN : Hid (97 ≤ s[i].toNat ∧ s[i].toNat ≤ 122 → ∀ j (hj : j < s.size), j < i + 1 → 97 ≤ s[j].toNat ∧ s[j].toNat ≤ 122) := by
        intro h j hj hji
        by_cases e : j = i
        · subst e; exact h
        · exact HA.out j hj (by omega)
      generalize s[i].toNat = c at hix HB HN
      by_cases h1 : c < 97
      · have h1' : (c : Int) < 97 := by omega
        go_wp2
        go_ret
        exact ⟨by rw [HB.out (by omega)]; rfl, rfl⟩
      · have h1' : ¬ (c : Int) < 97 := by omega
        by_cases h2 : 122 < c
        · have h2' : (122 : Int) < (c : Int) := by omega
          go_wp2
          go_ret
          exact ⟨by rw [HB.out (by omega)]; rfl, rfl⟩
        · have h2' : ¬ (122 : Int) < (c : Int) := by omega
          go_wp2
          go_round
          case rel => exact ⟨i + 1, by omega, by go_num, HN.out ⟨by omega, by omega⟩⟩
          case measure => simp [intOf]; omega
    · have hge : ¬ (i : Int) < (s.size : Int) := by omega
      have HE : Hid (decide (wdOk s) = decide (1 ≤ s.size ∧ s.size ≤ 8)) := show _ = _ from decide_eq_decide.2 ⟨fun h => h.1, fun h => ⟨h, fun b hb => by
        obtain ⟨j, hj, rfl⟩ := List.getElem_of_mem hb
        have hj2 : j < s.size := by rw [← tl_len]; exact hj
        exact HA.out j hj2 (by omega)⟩⟩
      by_cases hin : 1 ≤ s.size ∧ s.size ≤ 8
      · go_wp2_with (go_at_call 56; refine (l01In_yes _ _ _ _ (by omega) (by omega)).mono ?_; rintro e w5 ⟨rfl, rfl⟩)
        go_ret
        exact ⟨by rw [HE.out, decide_eq_true hin]; rfl, rfl⟩
      · go_wp2_with (go_at_call 56; refine (l01In_no _ _ _ _ (by omega)).mono ?_; rintro e w5 ⟨rfl, rfl⟩)
        go_ret
        exact ⟨by rw [HE.out, decide_eq_false hin]; rfl, rfl⟩

theorem emp_beq (s : ByteArray) : (s.toList == []) = decide (s = emp) := by
  rw [Go.ByteArray.toList_eq]
  by_cases h : s = emp
  · rw [decide_eq_true h, h]; rfl
  · rw [decide_eq_false h]
    refine beq_eq_false_iff_ne.2 fun e => h ?_
    obtain ⟨⟨l⟩⟩ := s
    simp at e
    rw [e]; rfl

set_option maxRecDepth 100000 in
set_option maxHeartbeats 4000000 in
theorem specRecOk_any (r : Rc) (w : World) (h1 : r.user.size ≤ 1099511627776) (h2 : r.name.size ≤ 1099511627776) (h3 : r.text.size ≤ 1099511627776) :
    Calls Tryz.prog 167 #[r.v] w fun e w' => e = .returned (.bool (decide r.ok)) ∧ Below w.heap.size w w' := by
  have b0 : Below w.heap.size w (w.alloc (.cells r.cs 71)) := (Below.refl _ _).alloc (Nat.le_refl _) _
  have hx := Box.new w r.cs 71
  obtain ⟨c0, c1, c2, c3, c4, c5, c6, c7⟩ := hx.rec
  obtain ⟨kind, valid, uid, next, flags, user, name, text⟩ := r
  unfold Rc.v
  unfold Rc.cs at c0 c1 c2 c3 c4 c5 c6 c7 b0
  simp only at c0 c1 c2 c3 c4 c5 c6 c7 b0 h1 h2 h3 ⊢
  clear hx
  obtain ⟨bu, hbu⟩ : ∃ bu, decide (wdOk user) = bu := ⟨_, rfl⟩
  obtain ⟨bn, hbn⟩ : ∃ bn, decide (wdOk name) = bn := ⟨_, rfl⟩
  obtain ⟨eu, heu⟩ : ∃ eu, decide (user = emp) = eu := ⟨_, rfl⟩
  obtain ⟨en, hen⟩ : ∃ en, decide (name = emp) = en := ⟨_, rfl⟩
  obtain ⟨et, het⟩ : ∃ et, decide (text = emp) = et := ⟨_, rfl⟩
  have qu : (user.toList == []) = eu := by rw [emp_beq, heu]
  have qn : (name.toList == []) = en := by rw [emp_beq, hen]
  have qt : (text.toList == []) = et := by rw [emp_beq, het]
  have HE : Hid (decide (Rc.ok ⟨kind, valid, uid, next, flags, user, name, text⟩) = decide ((1 ≤ kind ∧ kind ≤ 5) ∧ (1 ≤ valid ∧ valid ≤ 9999) ∧ (if kind = 1 then bu = true ∧ bn = true ∧ 1 ≤ next ∧ next ≤ 10000 else eu = true ∧ en = true ∧ next = 0) ∧ (if 3 ≤ kind then 1 ≤ uid ∧ uid ≤ 9999 else uid = 0) ∧ (if kind = 3 ∨ kind = 4 then 0 ≤ flags ∧ flags ≤ 7 else flags = 0) ∧ (if kind = 3 then text.size ≤ 100 else et = true))) := by
    rw [← hbu, ← hbn, ← heu, ← hen, ← het]
    simp only [decide_eq_true_eq]
    exact decide_eq_decide.2 Iff.rfl
  have HU := Lib.hid hbu
  have HN := Lib.hid hbn
  clear hbu hbn heu hen het
  go_enter Tryz.func167, Tryz.ntmps167
  by_cases hk : 1 ≤ kind ∧ kind ≤ 5
  · by_cases hv : 1 ≤ valid ∧ valid ≤ 9999
    · rcases (show kind = 1 ∨ kind = 2 ∨ kind = 3 ∨ kind = 4 ∨ kind = 5 by omega) with rfl | rfl | rfl | rfl | rfl
      · skip
        cases bu
        case false =>
          go_wp2_with (first | (go_at_call 56; first | (refine (l01In_yes _ _ _ _ (by omega) (by omega)).mono ?_; rintro e w5 ⟨rfl, rfl⟩) | (refine (l01In_no _ _ _ _ (by omega)).mono ?_; rintro e w5 ⟨rfl, rfl⟩)) | (go_at_call 181; refine (specWordOk_any _ _ (by first | exact h1 | exact h2)).mono ?_; rintro e w5 ⟨rfl, rfl⟩; first | rw [HU.out] | rw [HN.out]))
          go_ret
          exact ⟨by rw [HE.out, decide_eq_false (by simp)]; rfl, b0⟩
        cases bn
        case false =>
          go_wp2_with (first | (go_at_call 56; first | (refine (l01In_yes _ _ _ _ (by omega) (by omega)).mono ?_; rintro e w5 ⟨rfl, rfl⟩) | (refine (l01In_no _ _ _ _ (by omega)).mono ?_; rintro e w5 ⟨rfl, rfl⟩)) | (go_at_call 181; refine (specWordOk_any _ _ (by first | exact h1 | exact h2)).mono ?_; rintro e w5 ⟨rfl, rfl⟩; first | rw [HU.out] | rw [HN.out]))
          go_ret
          exact ⟨by rw [HE.out, decide_eq_false (by simp)]; rfl, b0⟩
        by_cases hnext : 1 ≤ next ∧ next ≤ 10000
        rotate_left
        · skip
          go_wp2_with (first | (go_at_call 56; first | (refine (l01In_yes _ _ _ _ (by omega) (by omega)).mono ?_; rintro e w5 ⟨rfl, rfl⟩) | (refine (l01In_no _ _ _ _ (by omega)).mono ?_; rintro e w5 ⟨rfl, rfl⟩)) | (go_at_call 181; refine (specWordOk_any _ _ (by first | exact h1 | exact h2)).mono ?_; rintro e w5 ⟨rfl, rfl⟩; first | rw [HU.out] | rw [HN.out]))
          go_ret
          exact ⟨by rw [HE.out, decide_eq_false (by simp; omega)]; rfl, b0⟩
        by_cases huid : uid = 0
        rotate_left
        · have huid' : (uid == 0) = false := beq_eq_false_iff_ne.2 huid
          go_wp2_with (first | (go_at_call 56; first | (refine (l01In_yes _ _ _ _ (by omega) (by omega)).mono ?_; rintro e w5 ⟨rfl, rfl⟩) | (refine (l01In_no _ _ _ _ (by omega)).mono ?_; rintro e w5 ⟨rfl, rfl⟩)) | (go_at_call 181; refine (specWordOk_any _ _ (by first | exact h1 | exact h2)).mono ?_; rintro e w5 ⟨rfl, rfl⟩; first | rw [HU.out] | rw [HN.out]))
          go_ret
          exact ⟨by rw [HE.out, decide_eq_false (by simp [huid])]; rfl, b0⟩
        subst huid
        by_cases hflags : flags = 0
        rotate_left
        · have hflags' : (flags == 0) = false := beq_eq_false_iff_ne.2 hflags
          go_wp2_with (first | (go_at_call 56; first | (refine (l01In_yes _ _ _ _ (by omega) (by omega)).mono ?_; rintro e w5 ⟨rfl, rfl⟩) | (refine (l01In_no _ _ _ _ (by omega)).mono ?_; rintro e w5 ⟨rfl, rfl⟩)) | (go_at_call 181; refine (specWordOk_any _ _ (by first | exact h1 | exact h2)).mono ?_; rintro e w5 ⟨rfl, rfl⟩; first | rw [HU.out] | rw [HN.out]))
          go_ret
          exact ⟨by rw [HE.out, decide_eq_false (by simp [hflags])]; rfl, b0⟩
        subst hflags
        go_wp2_with (first | (go_at_call 56; first | (refine (l01In_yes _ _ _ _ (by omega) (by omega)).mono ?_; rintro e w5 ⟨rfl, rfl⟩) | (refine (l01In_no _ _ _ _ (by omega)).mono ?_; rintro e w5 ⟨rfl, rfl⟩)) | (go_at_call 181; refine (specWordOk_any _ _ (by first | exact h1 | exact h2)).mono ?_; rintro e w5 ⟨rfl, rfl⟩; first | rw [HU.out] | rw [HN.out]))
        go_ret
        exact ⟨by rw [HE.out]; (cases et <;> simp [hv, hnext]), b0⟩
      · skip
        cases eu
        case false =>
          go_wp2_with (first | (go_at_call 56; first | (refine (l01In_yes _ _ _ _ (by omega) (by omega)).mono ?_; rintro e w5 ⟨rfl, rfl⟩) | (refine (l01In_no _ _ _ _ (by omega)).mono ?_; rintro e w5 ⟨rfl, rfl⟩)) | (go_at_call 181; refine (specWordOk_any _ _ (by first | exact h1 | exact h2)).mono ?_; rintro e w5 ⟨rfl, rfl⟩; first | rw [HU.out] | rw [HN.out]))
          go_ret
          exact ⟨by rw [HE.out, decide_eq_false (by simp)]; rfl, b0⟩
        cases en
        case false =>
          go_wp2_with (first | (go_at_call 56; first | (refine (l01In_yes _ _ _ _ (by omega) (by omega)).mono ?_; rintro e w5 ⟨rfl, rfl⟩) | (refine (l01In_no _ _ _ _ (by omega)).mono ?_; rintro e w5 ⟨rfl, rfl⟩)) | (go_at_call 181; refine (specWordOk_any _ _ (by first | exact h1 | exact h2)).mono ?_; rintro e w5 ⟨rfl, rfl⟩; first | rw [HU.out] | rw [HN.out]))
          go_ret
          exact ⟨by rw [HE.out, decide_eq_false (by simp)]; rfl, b0⟩
        by_cases hnext : next = 0
        rotate_left
        · have hnext' : (next == 0) = false := beq_eq_false_iff_ne.2 hnext
          go_wp2_with (first | (go_at_call 56; first | (refine (l01In_yes _ _ _ _ (by omega) (by omega)).mono ?_; rintro e w5 ⟨rfl, rfl⟩) | (refine (l01In_no _ _ _ _ (by omega)).mono ?_; rintro e w5 ⟨rfl, rfl⟩)) | (go_at_call 181; refine (specWordOk_any _ _ (by first | exact h1 | exact h2)).mono ?_; rintro e w5 ⟨rfl, rfl⟩; first | rw [HU.out] | rw [HN.out]))
          go_ret
          exact ⟨by rw [HE.out, decide_eq_false (by simp [hnext])]; rfl, b0⟩
        subst hnext
        by_cases huid : uid = 0
        rotate_left
        · have huid' : (uid == 0) = false := beq_eq_false_iff_ne.2 huid
          go_wp2_with (first | (go_at_call 56; first | (refine (l01In_yes _ _ _ _ (by omega) (by omega)).mono ?_; rintro e w5 ⟨rfl, rfl⟩) | (refine (l01In_no _ _ _ _ (by omega)).mono ?_; rintro e w5 ⟨rfl, rfl⟩)) | (go_at_call 181; refine (specWordOk_any _ _ (by first | exact h1 | exact h2)).mono ?_; rintro e w5 ⟨rfl, rfl⟩; first | rw [HU.out] | rw [HN.out]))
          go_ret
          exact ⟨by rw [HE.out, decide_eq_false (by simp [huid])]; rfl, b0⟩
        subst huid
        by_cases hflags : flags = 0
        rotate_left
        · have hflags' : (flags == 0) = false := beq_eq_false_iff_ne.2 hflags
          go_wp2_with (first | (go_at_call 56; first | (refine (l01In_yes _ _ _ _ (by omega) (by omega)).mono ?_; rintro e w5 ⟨rfl, rfl⟩) | (refine (l01In_no _ _ _ _ (by omega)).mono ?_; rintro e w5 ⟨rfl, rfl⟩)) | (go_at_call 181; refine (specWordOk_any _ _ (by first | exact h1 | exact h2)).mono ?_; rintro e w5 ⟨rfl, rfl⟩; first | rw [HU.out] | rw [HN.out]))
          go_ret
          exact ⟨by rw [HE.out, decide_eq_false (by simp [hflags])]; rfl, b0⟩
        subst hflags
        go_wp2_with (first | (go_at_call 56; first | (refine (l01In_yes _ _ _ _ (by omega) (by omega)).mono ?_; rintro e w5 ⟨rfl, rfl⟩) | (refine (l01In_no _ _ _ _ (by omega)).mono ?_; rintro e w5 ⟨rfl, rfl⟩)) | (go_at_call 181; refine (specWordOk_any _ _ (by first | exact h1 | exact h2)).mono ?_; rintro e w5 ⟨rfl, rfl⟩; first | rw [HU.out] | rw [HN.out]))
        go_ret
        exact ⟨by rw [HE.out]; (cases et <;> simp [hv]), b0⟩
      · skip
        cases eu
        case false =>
          go_wp2_with (first | (go_at_call 56; first | (refine (l01In_yes _ _ _ _ (by omega) (by omega)).mono ?_; rintro e w5 ⟨rfl, rfl⟩) | (refine (l01In_no _ _ _ _ (by omega)).mono ?_; rintro e w5 ⟨rfl, rfl⟩)) | (go_at_call 181; refine (specWordOk_any _ _ (by first | exact h1 | exact h2)).mono ?_; rintro e w5 ⟨rfl, rfl⟩; first | rw [HU.out] | rw [HN.out]))
          go_ret
          exact ⟨by rw [HE.out, decide_eq_false (by simp)]; rfl, b0⟩
        cases en
        case false =>
          go_wp2_with (first | (go_at_call 56; first | (refine (l01In_yes _ _ _ _ (by omega) (by omega)).mono ?_; rintro e w5 ⟨rfl, rfl⟩) | (refine (l01In_no _ _ _ _ (by omega)).mono ?_; rintro e w5 ⟨rfl, rfl⟩)) | (go_at_call 181; refine (specWordOk_any _ _ (by first | exact h1 | exact h2)).mono ?_; rintro e w5 ⟨rfl, rfl⟩; first | rw [HU.out] | rw [HN.out]))
          go_ret
          exact ⟨by rw [HE.out, decide_eq_false (by simp)]; rfl, b0⟩
        by_cases hnext : next = 0
        rotate_left
        · have hnext' : (next == 0) = false := beq_eq_false_iff_ne.2 hnext
          go_wp2_with (first | (go_at_call 56; first | (refine (l01In_yes _ _ _ _ (by omega) (by omega)).mono ?_; rintro e w5 ⟨rfl, rfl⟩) | (refine (l01In_no _ _ _ _ (by omega)).mono ?_; rintro e w5 ⟨rfl, rfl⟩)) | (go_at_call 181; refine (specWordOk_any _ _ (by first | exact h1 | exact h2)).mono ?_; rintro e w5 ⟨rfl, rfl⟩; first | rw [HU.out] | rw [HN.out]))
          go_ret
          exact ⟨by rw [HE.out, decide_eq_false (by simp [hnext])]; rfl, b0⟩
        subst hnext
        by_cases huid : 1 ≤ uid ∧ uid ≤ 9999
        rotate_left
        · skip
          go_wp2_with (first | (go_at_call 56; first | (refine (l01In_yes _ _ _ _ (by omega) (by omega)).mono ?_; rintro e w5 ⟨rfl, rfl⟩) | (refine (l01In_no _ _ _ _ (by omega)).mono ?_; rintro e w5 ⟨rfl, rfl⟩)) | (go_at_call 181; refine (specWordOk_any _ _ (by first | exact h1 | exact h2)).mono ?_; rintro e w5 ⟨rfl, rfl⟩; first | rw [HU.out] | rw [HN.out]))
          go_ret
          exact ⟨by rw [HE.out, decide_eq_false (by simp; omega)]; rfl, b0⟩
        by_cases hflags : 0 ≤ flags ∧ flags ≤ 7
        rotate_left
        · skip
          go_wp2_with (first | (go_at_call 56; first | (refine (l01In_yes _ _ _ _ (by omega) (by omega)).mono ?_; rintro e w5 ⟨rfl, rfl⟩) | (refine (l01In_no _ _ _ _ (by omega)).mono ?_; rintro e w5 ⟨rfl, rfl⟩)) | (go_at_call 181; refine (specWordOk_any _ _ (by first | exact h1 | exact h2)).mono ?_; rintro e w5 ⟨rfl, rfl⟩; first | rw [HU.out] | rw [HN.out]))
          go_ret
          exact ⟨by rw [HE.out, decide_eq_false (by simp; omega)]; rfl, b0⟩
        go_wp2_with (first | (go_at_call 56; first | (refine (l01In_yes _ _ _ _ (by omega) (by omega)).mono ?_; rintro e w5 ⟨rfl, rfl⟩) | (refine (l01In_no _ _ _ _ (by omega)).mono ?_; rintro e w5 ⟨rfl, rfl⟩)) | (go_at_call 181; refine (specWordOk_any _ _ (by first | exact h1 | exact h2)).mono ?_; rintro e w5 ⟨rfl, rfl⟩; first | rw [HU.out] | rw [HN.out]))
        go_ret
        exact ⟨by rw [HE.out]; (simp [hv, huid, hflags]; omega), b0⟩
      · skip
        cases eu
        case false =>
          go_wp2_with (first | (go_at_call 56; first | (refine (l01In_yes _ _ _ _ (by omega) (by omega)).mono ?_; rintro e w5 ⟨rfl, rfl⟩) | (refine (l01In_no _ _ _ _ (by omega)).mono ?_; rintro e w5 ⟨rfl, rfl⟩)) | (go_at_call 181; refine (specWordOk_any _ _ (by first | exact h1 | exact h2)).mono ?_; rintro e w5 ⟨rfl, rfl⟩; first | rw [HU.out] | rw [HN.out]))
          go_ret
          exact ⟨by rw [HE.out, decide_eq_false (by simp)]; rfl, b0⟩
        cases en
        case false =>
          go_wp2_with (first | (go_at_call 56; first | (refine (l01In_yes _ _ _ _ (by omega) (by omega)).mono ?_; rintro e w5 ⟨rfl, rfl⟩) | (refine (l01In_no _ _ _ _ (by omega)).mono ?_; rintro e w5 ⟨rfl, rfl⟩)) | (go_at_call 181; refine (specWordOk_any _ _ (by first | exact h1 | exact h2)).mono ?_; rintro e w5 ⟨rfl, rfl⟩; first | rw [HU.out] | rw [HN.out]))
          go_ret
          exact ⟨by rw [HE.out, decide_eq_false (by simp)]; rfl, b0⟩
        by_cases hnext : next = 0
        rotate_left
        · have hnext' : (next == 0) = false := beq_eq_false_iff_ne.2 hnext
          go_wp2_with (first | (go_at_call 56; first | (refine (l01In_yes _ _ _ _ (by omega) (by omega)).mono ?_; rintro e w5 ⟨rfl, rfl⟩) | (refine (l01In_no _ _ _ _ (by omega)).mono ?_; rintro e w5 ⟨rfl, rfl⟩)) | (go_at_call 181; refine (specWordOk_any _ _ (by first | exact h1 | exact h2)).mono ?_; rintro e w5 ⟨rfl, rfl⟩; first | rw [HU.out] | rw [HN.out]))
          go_ret
          exact ⟨by rw [HE.out, decide_eq_false (by simp [hnext])]; rfl, b0⟩
        subst hnext
        by_cases huid : 1 ≤ uid ∧ uid ≤ 9999
        rotate_left
        · skip
          go_wp2_with (first | (go_at_call 56; first | (refine (l01In_yes _ _ _ _ (by omega) (by omega)).mono ?_; rintro e w5 ⟨rfl, rfl⟩) | (refine (l01In_no _ _ _ _ (by omega)).mono ?_; rintro e w5 ⟨rfl, rfl⟩)) | (go_at_call 181; refine (specWordOk_any _ _ (by first | exact h1 | exact h2)).mono ?_; rintro e w5 ⟨rfl, rfl⟩; first | rw [HU.out] | rw [HN.out]))
          go_ret
          exact ⟨by rw [HE.out, decide_eq_false (by simp; omega)]; rfl, b0⟩
        by_cases hflags : 0 ≤ flags ∧ flags ≤ 7
        rotate_left
        · skip
          go_wp2_with (first | (go_at_call 56; first | (refine (l01In_yes _ _ _ _ (by omega) (by omega)).mono ?_; rintro e w5 ⟨rfl, rfl⟩) | (refine (l01In_no _ _ _ _ (by omega)).mono ?_; rintro e w5 ⟨rfl, rfl⟩)) | (go_at_call 181; refine (specWordOk_any _ _ (by first | exact h1 | exact h2)).mono ?_; rintro e w5 ⟨rfl, rfl⟩; first | rw [HU.out] | rw [HN.out]))
          go_ret
          exact ⟨by rw [HE.out, decide_eq_false (by simp; omega)]; rfl, b0⟩
        go_wp2_with (first | (go_at_call 56; first | (refine (l01In_yes _ _ _ _ (by omega) (by omega)).mono ?_; rintro e w5 ⟨rfl, rfl⟩) | (refine (l01In_no _ _ _ _ (by omega)).mono ?_; rintro e w5 ⟨rfl, rfl⟩)) | (go_at_call 181; refine (specWordOk_any _ _ (by first | exact h1 | exact h2)).mono ?_; rintro e w5 ⟨rfl, rfl⟩; first | rw [HU.out] | rw [HN.out]))
        go_ret
        exact ⟨by rw [HE.out]; (cases et <;> simp [hv, huid, hflags]), b0⟩
      · skip
        cases eu
        case false =>
          go_wp2_with (first | (go_at_call 56; first | (refine (l01In_yes _ _ _ _ (by omega) (by omega)).mono ?_; rintro e w5 ⟨rfl, rfl⟩) | (refine (l01In_no _ _ _ _ (by omega)).mono ?_; rintro e w5 ⟨rfl, rfl⟩)) | (go_at_call 181; refine (specWordOk_any _ _ (by first | exact h1 | exact h2)).mono ?_; rintro e w5 ⟨rfl, rfl⟩; first | rw [HU.out] | rw [HN.out]))
          go_ret
          exact ⟨by rw [HE.out, decide_eq_false (by simp)]; rfl, b0⟩
        cases en
        case false =>
          go_wp2_with (first | (go_at_call 56; first | (refine (l01In_yes _ _ _ _ (by omega) (by omega)).mono ?_; rintro e w5 ⟨rfl, rfl⟩) | (refine (l01In_no _ _ _ _ (by omega)).mono ?_; rintro e w5 ⟨rfl, rfl⟩)) | (go_at_call 181; refine (specWordOk_any _ _ (by first | exact h1 | exact h2)).mono ?_; rintro e w5 ⟨rfl, rfl⟩; first | rw [HU.out] | rw [HN.out]))
          go_ret
          exact ⟨by rw [HE.out, decide_eq_false (by simp)]; rfl, b0⟩
        by_cases hnext : next = 0
        rotate_left
        · have hnext' : (next == 0) = false := beq_eq_false_iff_ne.2 hnext
          go_wp2_with (first | (go_at_call 56; first | (refine (l01In_yes _ _ _ _ (by omega) (by omega)).mono ?_; rintro e w5 ⟨rfl, rfl⟩) | (refine (l01In_no _ _ _ _ (by omega)).mono ?_; rintro e w5 ⟨rfl, rfl⟩)) | (go_at_call 181; refine (specWordOk_any _ _ (by first | exact h1 | exact h2)).mono ?_; rintro e w5 ⟨rfl, rfl⟩; first | rw [HU.out] | rw [HN.out]))
          go_ret
          exact ⟨by rw [HE.out, decide_eq_false (by simp [hnext])]; rfl, b0⟩
        subst hnext
        by_cases huid : 1 ≤ uid ∧ uid ≤ 9999
        rotate_left
        · skip
          go_wp2_with (first | (go_at_call 56; first | (refine (l01In_yes _ _ _ _ (by omega) (by omega)).mono ?_; rintro e w5 ⟨rfl, rfl⟩) | (refine (l01In_no _ _ _ _ (by omega)).mono ?_; rintro e w5 ⟨rfl, rfl⟩)) | (go_at_call 181; refine (specWordOk_any _ _ (by first | exact h1 | exact h2)).mono ?_; rintro e w5 ⟨rfl, rfl⟩; first | rw [HU.out] | rw [HN.out]))
          go_ret
          exact ⟨by rw [HE.out, decide_eq_false (by simp; omega)]; rfl, b0⟩
        by_cases hflags : flags = 0
        rotate_left
        · have hflags' : (flags == 0) = false := beq_eq_false_iff_ne.2 hflags
          go_wp2_with (first | (go_at_call 56; first | (refine (l01In_yes _ _ _ _ (by omega) (by omega)).mono ?_; rintro e w5 ⟨rfl, rfl⟩) | (refine (l01In_no _ _ _ _ (by omega)).mono ?_; rintro e w5 ⟨rfl, rfl⟩)) | (go_at_call 181; refine (specWordOk_any _ _ (by first | exact h1 | exact h2)).mono ?_; rintro e w5 ⟨rfl, rfl⟩; first | rw [HU.out] | rw [HN.out]))
          go_ret
          exact ⟨by rw [HE.out, decide_eq_false (by simp [hflags])]; rfl, b0⟩
        subst hflags
        go_wp2_with (first | (go_at_call 56; first | (refine (l01In_yes _ _ _ _ (by omega) (by omega)).mono ?_; rintro e w5 ⟨rfl, rfl⟩) | (refine (l01In_no _ _ _ _ (by omega)).mono ?_; rintro e w5 ⟨rfl, rfl⟩)) | (go_at_call 181; refine (specWordOk_any _ _ (by first | exact h1 | exact h2)).mono ?_; rintro e w5 ⟨rfl, rfl⟩; first | rw [HU.out] | rw [HN.out]))
        go_ret
        exact ⟨by rw [HE.out]; (cases et <;> simp [hv, huid]), b0⟩
    · go_wp2_with (go_at_call 56; first | (refine (l01In_yes _ _ _ _ (by omega) (by omega)).mono ?_; rintro e w5 ⟨rfl, rfl⟩) | (refine (l01In_no _ _ _ _ (by omega)).mono ?_; rintro e w5 ⟨rfl, rfl⟩))
      go_ret
      exact ⟨by rw [HE.out, decide_eq_false (fun h => hv h.2.1)]; rfl, b0⟩
  · go_wp2_with (go_at_call 56; refine (l01In_no _ _ _ _ (by omega)).mono ?_; rintro e w5 ⟨rfl, rfl⟩)
    go_ret
    exact ⟨by rw [HE.out, decide_eq_false (fun h => hk h.1)]; rfl, b0⟩

end Go.Proofs.YtieenkloiicnkaaGreatDoor
