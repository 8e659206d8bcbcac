/- Texts of our own, joined. -/
import Derived.Test.YtlnpegknjhbdnaaDoorJa
import Derived.Test.YtlnpegknjhbdnaaDoorRows
import Derived.WalkKit
import Derived.Laws.BytesArg
import Derived.Laws.Bits128
import Derived.Maps.AppendAt
import Derived.Lib.ConvBytes
import Derived.Lib.Buffer
import Derived.Lib.SmallJoins
import Derived.Laws.Concat
import Derived.Lib.Hide
import Derived.Deep.RegionHeld3
import Derived.Deep.RegionLaw
import Derived.Deep.QuietTactic
import Derived.BigQuiet
import Derived.Deep.Cut
import Derived.Deep.Slices
import Derived.ProofKit
/- Plain facts on records: what is right, their texts, and that they come back from them. -/
namespace Go.Proofs.YtlnpegknjhbdnaaDoor

/-- A record. -/
structure Rc where
  kind : Int
  valid : Int
  uid : Int
  next : Int
  flags : Int
  user : ByteArray
  name : ByteArray
  text : ByteArray

/-- A word: 1 to 8 letters. -/
def wdOk (s : ByteArray) : Prop := (1 ≤ s.size ∧ s.size ≤ 8) ∧ ∀ b ∈ s.data.toList, 97 ≤ b.toNat ∧ b.toNat ≤ 122
instance decWdOk (s : ByteArray) : Decidable (wdOk s) := by unfold wdOk; infer_instance

def emp : ByteArray := ⟨#[]⟩

/-- A right record. -/
def Rc.ok (r : Rc) : Prop := (1 ≤ r.kind ∧ r.kind ≤ 5) ∧ (1 ≤ r.valid ∧ r.valid ≤ 9999) ∧
  (if r.kind = 1 then wdOk r.user ∧ wdOk r.name ∧ 1 ≤ r.next ∧ r.next ≤ 10000 else r.user = emp ∧ r.name = emp ∧ r.next = 0) ∧
  (if 3 ≤ r.kind then 1 ≤ r.uid ∧ r.uid ≤ 9999 else r.uid = 0) ∧
  (if r.kind = 3 ∨ r.kind = 4 then 0 ≤ r.flags ∧ r.flags ≤ 7 else r.flags = 0) ∧
  (if r.kind = 3 then r.text.size ≤ 100 else r.text = emp)
instance decRcOk (r : Rc) : Decidable r.ok := by unfold Rc.ok; infer_instance

/-- The bytes of a record's text. -/
def Rc.tl (r : Rc) : List UInt8 := UInt8.ofNat r.kind.toNat :: (vt r.valid.toNat ++ (vt r.uid.toNat ++ (vt r.next.toNat ++ (vt r.flags.toNat ++ ((vt r.user.size ++ r.user.data.toList) ++ ((vt r.name.size ++ r.name.data.toList) ++ (vt r.text.size ++ r.text.data.toList)))))))
def Rc.tx (r : Rc) : ByteArray := ⟨r.tl.toArray⟩
theorem Rc.tx_list (r : Rc) : r.tx.data.toList = r.tl := by simp [Rc.tx]

/-- What is right has small numbers and short texts. -/
theorem Rc.ok_small {r : Rc} (h : r.ok) : (1 ≤ r.kind ∧ r.kind ≤ 5) ∧ (0 ≤ r.valid ∧ r.valid ≤ 9999) ∧ (0 ≤ r.uid ∧ r.uid ≤ 9999) ∧ (0 ≤ r.next ∧ r.next ≤ 10000) ∧ (0 ≤ r.flags ∧ r.flags ≤ 7) ∧ r.user.size ≤ 8 ∧ r.name.size ≤ 8 ∧ r.text.size ≤ 100 := by
  obtain ⟨h1, h2, h3, h4, h5, h6⟩ := h
  have he : emp.size = 0 := rfl
  have a3 : (0 ≤ r.next ∧ r.next ≤ 10000) ∧ r.user.size ≤ 8 ∧ r.name.size ≤ 8 := by
    split at h3
    · exact ⟨by omega, h3.1.1.2, h3.2.1.1.2⟩
    · rw [h3.1, h3.2.1, he]; omega
  have a4 : 0 ≤ r.uid ∧ r.uid ≤ 9999 := by split at h4 <;> omega
  have a5 : 0 ≤ r.flags ∧ r.flags ≤ 7 := by split at h5 <;> omega
  have a6 : r.text.size ≤ 100 := by
    split at h6
    · exact h6
    · rw [h6, he]; omega
  exact ⟨h1, by omega, a4, a3.1, a5, a3.2.1, a3.2.2, a6⟩

theorem tl_len (s : ByteArray) : s.data.toList.length = s.size := by rw [Array.length_toList]; rfl

theorem vt_two' {n : Nat} (h : n ≤ 10000) : (vt n).length ≤ 2 := vt_short 1 n (by omega)
theorem Rc.tl_le {r : Rc} (h : r.ok) : r.tl.length ≤ 131 ∧ 1 ≤ r.tl.length := by
  obtain ⟨_, h2, h3, h4, h5, h6, h7, h8⟩ := r.ok_small h
  have a1 := vt_two' (n := r.valid.toNat) (by omega)
  have a2 := vt_two' (n := r.uid.toNat) (by omega)
  have a3 := vt_two' (n := r.next.toNat) (by omega)
  have a4 := vt_two' (n := r.flags.toNat) (by omega)
  have a5 := vt_two' (n := r.user.size) (by omega)
  have a6 := vt_two' (n := r.name.size) (by omega)
  have a7 := vt_two' (n := r.text.size) (by omega)
  unfold Rc.tl
  simp only [List.length_cons, List.length_append, tl_len]
  omega
theorem Rc.tx_le {r : Rc} (h : r.ok) : r.tx.size ≤ 131 ∧ 1 ≤ r.tx.size := by
  have := r.tl_le h
  have e : r.tx.size = r.tl.length := by rw [← tl_len, r.tx_list]
  rw [e]; exact this

/-- A short text read. -/
def rsO (s : ByteArray) (k : Nat) : Option (ByteArray × Nat) :=
  match rv s.data.toList k with
  | some (n, b) => if n ≤ 20000 ∧ n + b ≤ s.size then some (s.extract b (b + n), b + n) else none
  | none => none

/-- A record's fields read, one behind the other. -/
def prs (t : ByteArray) : Option Rc :=
  match t.data.toList with
  | [] => none
  | k :: _ => match rv t.data.toList 1 with
    | none => none
    | some (v, a) => match rv t.data.toList a with
      | none => none
      | some (u, b) => match rv t.data.toList b with
        | none => none
        | some (n, c) => match rv t.data.toList c with
          | none => none
          | some (f, d) => match rsO t d with
            | none => none
            | some (x, e) => match rsO t e with
              | none => none
              | some (y, g) => match rsO t g with
                | none => none
                | some (z, _) => some ⟨k.toNat, v, u, n, f, x, y, z⟩

/-- The right record whose text this is. -/
def rrO (t : ByteArray) : Option Rc := match prs t with
  | some r => if r.ok ∧ r.tx = t then some r else none
  | none => none

theorem rrO_some {t : ByteArray} {r : Rc} (h : rrO t = some r) : r.ok ∧ r.tx = t := by
  unfold rrO at h
  split at h
  · split at h
    · rename_i hc; cases h; exact hc
    · cases h
  · cases h

theorem ext_mid (pre l rest : List UInt8) : (⟨(pre ++ (l ++ rest)).toArray⟩ : ByteArray).extract pre.length (pre.length + l.length) = ⟨l.toArray⟩ := by
  obtain ⟨x, hx⟩ : ∃ x : ByteArray, x = (⟨(pre ++ (l ++ rest)).toArray⟩ : ByteArray).extract pre.length (pre.length + l.length) := ⟨_, rfl⟩
  have : x.data.toList = l := by
    rw [hx, ByteArray.data_extract, Array.toList_extract, List.extract_eq_take_drop]
    simp
  rw [← hx]
  obtain ⟨⟨y⟩⟩ := x
  simp at this
  rw [this]

/-- A short text that was written is read. -/
theorem rsO_back (pre rest : List UInt8) (s : ByteArray) (h : s.size ≤ 20000) : rsO ⟨(pre ++ ((vt s.size ++ s.data.toList) ++ rest)).toArray⟩ pre.length = some (s, pre.length + (vt s.size).length + s.size) := by
  have e0 : (⟨(pre ++ ((vt s.size ++ s.data.toList) ++ rest)).toArray⟩ : ByteArray).data.toList = pre ++ (vt s.size ++ (s.data.toList ++ rest)) := by simp
  have e1 := rv_back pre (s.data.toList ++ rest) s.size (by omega)
  unfold rsO
  rw [e0, e1]
  have hz : (⟨(pre ++ ((vt s.size ++ s.data.toList) ++ rest)).toArray⟩ : ByteArray).size = pre.length + (vt s.size).length + s.size + rest.length := by
    rw [← tl_len, e0]
    simp; omega
  simp only [hz]
  rw [if_pos ⟨h, by omega⟩]
  have e2 := ext_mid (pre ++ vt s.size) s.data.toList rest
  rw [List.length_append, tl_len] at e2
  have e3 : (pre ++ ((vt s.size ++ s.data.toList) ++ rest)) = (pre ++ vt s.size ++ (s.data.toList ++ rest)) := by simp
  rw [e3, e2]

theorem rv_at {L pre rest : List UInt8} {n p : Nat} (hL : L = pre ++ (vt n ++ rest)) (hp : p = pre.length) (hn : n ≤ 1000000000) : rv L p = some (n, p + (vt n).length) := by
  rw [hL, hp]; exact rv_back pre rest n hn
theorem rs_at {t s : ByteArray} {pre rest : List UInt8} {p : Nat} (hL : t.data.toList = pre ++ ((vt s.size ++ s.data.toList) ++ rest)) (hp : p = pre.length) (hn : s.size ≤ 20000) : rsO t p = some (s, p + (vt s.size).length + s.size) := by
  have e : t = ⟨(pre ++ ((vt s.size ++ s.data.toList) ++ rest)).toArray⟩ := by
    obtain ⟨⟨l⟩⟩ := t
    simp only at hL
    rw [hL]
  rw [e, hp]; exact rsO_back pre rest s hn

/-- A right record comes back from its text. -/
theorem prs_back {r : Rc} (h : r.ok) : prs r.tx = some r := by
  obtain ⟨h1, h2, h3, h4, h5, h6, h7, h8⟩ := r.ok_small h
  obtain ⟨kind, valid, uid, next, flags, user, name, text⟩ := r
  simp only at h1 h2 h3 h4 h5 h6 h7 h8
  obtain ⟨V, rfl⟩ := Int.eq_ofNat_of_zero_le h2.1
  obtain ⟨U, rfl⟩ := Int.eq_ofNat_of_zero_le h3.1
  obtain ⟨N, rfl⟩ := Int.eq_ofNat_of_zero_le h4.1
  obtain ⟨F, rfl⟩ := Int.eq_ofNat_of_zero_le h5.1
  obtain ⟨K, rfl⟩ := Int.eq_ofNat_of_zero_le (show 0 ≤ kind by omega)
  have hk : (UInt8.ofNat K).toNat = K := by
    rw [show (UInt8.ofNat K).toNat = K % 256 from rfl]; omega
  obtain ⟨t, ht⟩ : ∃ t, Rc.tx ⟨K, V, U, N, F, user, name, text⟩ = t := ⟨_, rfl⟩
  obtain ⟨L, hL⟩ : ∃ L, t.data.toList = L := ⟨_, rfl⟩
  have hLL : L = UInt8.ofNat K :: (vt V ++ (vt U ++ (vt N ++ (vt F ++ ((vt user.size ++ user.data.toList) ++ ((vt name.size ++ name.data.toList) ++ (vt text.size ++ text.data.toList))))))) := by
    rw [← hL, ← ht, Rc.tx_list]; rfl
  rw [ht]
  have s1 : rv L 1 = _ := rv_at (pre := [UInt8.ofNat K]) (n := V) (by rw [hLL]; rfl) rfl (by omega)
  have s2 : rv L (1 + (vt V).length) = _ := rv_at (pre := [UInt8.ofNat K] ++ vt V) (n := U) (by rw [hLL]; simp only [List.append_assoc]; rfl) (by simp; omega) (by omega)
  have s3 : rv L (1 + (vt V).length + (vt U).length) = _ := rv_at (pre := [UInt8.ofNat K] ++ vt V ++ vt U) (n := N) (by rw [hLL]; simp only [List.append_assoc]; rfl) (by simp; omega) (by omega)
  have s4 : rv L (1 + (vt V).length + (vt U).length + (vt N).length) = _ := rv_at (pre := [UInt8.ofNat K] ++ vt V ++ vt U ++ vt N) (n := F) (by rw [hLL]; simp only [List.append_assoc]; rfl) (by simp; omega) (by omega)
  have s5 : rsO t (1 + (vt V).length + (vt U).length + (vt N).length + (vt F).length) = _ := rs_at (pre := [UInt8.ofNat K] ++ vt V ++ vt U ++ vt N ++ vt F) (s := user) (by rw [hL, hLL]; simp only [List.append_assoc]; rfl) (by simp; omega) (by omega)
  have s6 : rsO t (1 + (vt V).length + (vt U).length + (vt N).length + (vt F).length + (vt user.size).length + user.size) = _ := rs_at (pre := [UInt8.ofNat K] ++ vt V ++ vt U ++ vt N ++ vt F ++ (vt user.size ++ user.data.toList)) (s := name) (by rw [hL, hLL]; simp only [List.append_assoc]; rfl) (by simp; omega) (by omega)
  have s7 : rsO t (1 + (vt V).length + (vt U).length + (vt N).length + (vt F).length + (vt user.size).length + user.size + (vt name.size).length + name.size) = _ := rs_at (pre := [UInt8.ofNat K] ++ vt V ++ vt U ++ vt N ++ vt F ++ (vt user.size ++ user.data.toList) ++ (vt name.size ++ name.data.toList)) (s := text) (rest := []) (by rw [hL, hLL]; simp only [List.append_assoc, List.append_nil]; rfl) (by simp; omega) (by omega)
  unfold prs
  rw [hL]
  rw [hLL] at s1 s2 s3 s4 ⊢
  simp only [s1, s2, s3, s4, s5, s6, s7, hk]

theorem rrO_back {r : Rc} (h : r.ok) : rrO r.tx = some r := by
  unfold rrO
  rw [prs_back h]
  exact if_pos ⟨h, rfl⟩

/-- Nothing else is read of a text than the right record whose text it is. -/
theorem rrO_none {t : ByteArray} (h : rrO t = none) (r : Rc) (hr : r.ok) : r.tx ≠ t := fun e => by rw [← e, rrO_back hr] at h; cases h

end Go.Proofs.YtlnpegknjhbdnaaDoor

/- What a list of bytes is that a call builds in memory of its own, and the laws by which it grows and becomes a string. -/
namespace Go.Proofs.YtlnpegknjhbdnaaDoor
open Go.RowKit

theorem Tryd.info_u8 : (Tryd.prog.info? 5).map (fun i => (i.zero, i.size, i.bytes)) = some (some (.int .u8 0), 1, 1) := by kernel_rfl

/-- The bytes as the cells of a row. -/
def bytesV (l : List UInt8) : List Value := l.map fun c => .int .u8 (c.toNat : Int)

theorem bytesV_length (l : List UInt8) : (bytesV l).length = l.length := by simp [bytesV]

/-- The slice v holds the bytes l in memory that the call made itself (blocks from B on); below B all is as it was in w0. -/
structure Buf (B : Nat) (w0 w : World) (v : Value) (l : List UInt8) : Prop where
  own : w.ownsRow B 5 1 v l.length (bytesV l)
  bel : Below B w0 w
  le : B ≤ w.heap.size

theorem Buf.alloc {B : Nat} {w0 w : World} {v : Value} {l : List UInt8} (h : Buf B w0 w v l) (o : Obj) : Buf B w0 (w.alloc o) v l :=
  ⟨h.own.alloc o, h.bel.alloc h.le o, by have := h.le; simp; omega⟩

theorem Buf.drew {B : Nat} {w0 w : World} {v : Value} {l : List UInt8} (h : Buf B w0 w v l) : Buf B w0 w.drew v l :=
  ⟨h.own.drew, h.bel.drew, h.le⟩

/-- An append of the bytes that lie at ad. -/
theorem wpList_append_bytes {w0 w : World} {ops : Array Oper} {rest : List Oper} {o : Oper} {a : Act} {Q : Exit → Act → World → Prop} (hgd : o.guard = none) (s x : Operand)
    (ho : o.op = .call { callee := .builtin .append, args := #[s, x], argTypes := #[66, 66] })
    (B : Nat) (v : Value) (l : List UInt8) (hs : a.eval s = v) (hb : Buf B w0 w v l)
    (ad : Addr) (news : List UInt8) (c : Nat) (hx : a.eval x = .slice (some ad) news.length c)
    (hnews : ∀ j u, (bytesV news)[j]? = some u → w.cell? (ad.add j) = some u)
    (hlen : l.length + news.length ≤ 140737488355328)
    (h : ∀ v' w', Buf B w0 w' v' (l ++ news) → wpList Tryd.prog ops Q rest (a.put o.dst v') w') : wpList Tryd.prog ops Q (o :: rest) a w := by
  obtain ⟨i0, hi, hz0, hz1, hz2⟩ := info_parts Tryd.info_u8
  refine wpList_append_own _ hgd s x 66 ho B 5 i0 (.int .u8 0) 1 1 Tryd.underlying66 hi hz0 hz1 hz2 rfl (by decide) v l.length (bytesV l) hs hb.own ad news.length c (bytesV news) hx (by simp [bytesV]) hnews ?_ (by unfold maxLen; omega) (by omega) hb.le ?_
  · intro u hu
    simp only [bytesV, List.mem_map] at hu
    obtain ⟨c, _, rfl⟩ := hu
    rfl
  · intro v' w' hown hgrow _
    refine h v' w' ⟨?_, hb.bel.grown hgrow hb.le (fun k hk => (hb.own.lt k hk).1), Nat.le_trans hb.le hgrow.size⟩
    have e1 : (l ++ news).length = l.length + news.length := by simp
    have e2 : bytesV (l ++ news) = bytesV l ++ bytesV news := by simp [bytesV]
    rw [e1, e2]
    exact hown

/-- A slice over a new row of no bytes yet. -/
theorem Buf.fresh (w : World) (cur : Array Value) (cap : Nat) (hs : cur.size = cap) (hm : cap ≤ maxLen) :
    Buf w.heap.size w (w.alloc (.cells cur 5)) (.slice (some ⟨w.heap.size, 0, none⟩) 0 cap) [] :=
  ⟨World.ownsRow_made w cur cap (Nat.le_refl _) hm (by omega), (Below.refl _ _).alloc (Nat.le_refl _) _, by simp⟩

/-- The one cell of a new block, as an append asks for it. -/
theorem one_new (w : World) (x : Int) (b : UInt8) (h : x = (b.toNat : Int)) :
    ∀ j u, (bytesV [b])[j]? = some u → (w.alloc (.cells #[.int .u8 x] 5)).cell? ((⟨w.heap.size, 0, none⟩ : Addr).add j) = some u := by
  subst h
  intro j u hj
  match j, hj with
  | 0, hj => simp [bytesV] at hj; subst hj; simp [Addr.add]
  | j + 1, hj => simp [bytesV] at hj

/-- string(b) of such bytes. -/
theorem Buf.toString {B : Nat} {w0 w : World} {v : Value} {l : List UInt8} (h : Buf B w0 w v l) :
    (convert 66 9 v).run Tryd.prog w = .ok (.string ⟨l.toArray⟩) w := by
  rcases h.own.2 with ⟨rfl, h0⟩ | ⟨g, cap, cur, rfl, hg, hh, hnc, hcp, hcs, htake⟩
  · obtain rfl := List.length_eq_zero_iff.1 h0
    exact run_convert_bytes_nil (P := Tryd.prog) w 66 5 Tryd.underlying66 Tryd.underlying5 0 0 9 Tryd.underlying9
  · refine run_convert_bytes_back (P := Tryd.prog) w 66 9 5 ⟨g, 0, none⟩ cap l Tryd.underlying66 Tryd.underlying5 Tryd.underlying9 fun j hj => ?_
    rw [Addr.add_lit, Nat.zero_add, h.own.cellAt j (by omega)]
    simp [bytesV, hj]

end Go.Proofs.YtlnpegknjhbdnaaDoor

/- The bytes of a number: what spec.l01Var, spec.VarText and impl.VarText hand back. -/
namespace Go.Proofs.YtlnpegknjhbdnaaDoor
open Go.RowKit

set_option maxHeartbeats 400000 in
theorem l01Var_any (n : Nat) (w : World) (hn : n ≤ 1000000000) :
    Calls Tryd.prog 22 #[.int .i64 n] w fun e w' => e = .returned (.string ⟨(vt n).toArray⟩) ∧ Below w.heap.size w w' := by
  have hst := Buf.fresh w #[] 0 rfl (by decide)
  go_enter Tryd.func22, Tryd.ntmps22
  go_wp2
  go_loopw [0, 3] (fun nv v wr => ∃ (m : Nat) (acc : List UInt8), m ≤ n ∧ nv = .int .i64 m ∧ acc ++ vt m = vt n ∧ Buf w.heap.size w wr v acc) (fun nv _ _ => (intOf nv).toNat)
  case atStart => exact ⟨n, [], Nat.le_refl _, rfl, rfl, hst⟩
  case round =>
    obtain ⟨m, acc, hm, rfl, hv0, hb⟩ := hrel
    have hv : Hid (acc ++ vt m = vt n) := hv0
    have hacc := vt_acc hv0
    clear hv0
    by_cases hlt : 127 < m
    · go_wp2_with (at_builtin; refine wpList_append_bytes rfl _ _ rfl _ _ acc rfl (hb.alloc _) ⟨wr.heap.size, 0, none⟩ [hiByte m] 1 rfl ?c1 ?c2 ?_)
      case c1 => exact one_new _ _ _ (by rw [hiByte_toNat]; omega)
      case c2 => simp; omega
      intro v' w1 hb'
      go_wp2
      go_roundw
      case rel => exact ⟨m / 128, acc ++ [hiByte m], by omega, by go_num, vt_step hv.out hlt, hb'⟩
      case measure => simp [intOf]; omega
    · go_wp2_with (at_builtin; refine wpList_append_bytes rfl _ _ rfl _ _ acc rfl (hb.alloc _) ⟨wr.heap.size, 0, none⟩ [loByte m] 1 rfl ?d1 ?d2 ?_)
      case d1 => exact one_new _ _ _ (by rw [loByte_toNat (by omega)])
      case d2 => simp; omega
      intro v' w1 hb'
      have hcv := hb'.toString
      go_wp2
      go_ret
      exact ⟨by rw [vt_end hv.out (by omega)]; rfl, hb'.bel⟩

theorem l01In_any (x a b : Int) (w : World) :
    Calls Tryd.prog 30 #[.int .i64 x, .int .i64 a, .int .i64 b] w fun e w' => e = .returned (.bool (decide (a ≤ x) && decide (x ≤ b))) ∧ w' = w := by
  by_cases h1 : a ≤ x
  · by_cases h2 : x ≤ b
    all_goals
      go_enter Tryd.func30, Tryd.ntmps30
      go_wp2
      go_ret
      exact ⟨by simp [h1, h2], rfl⟩
  · have h3 : decide (a ≤ x) = false := decide_eq_false h1
    go_enter Tryd.func30, Tryd.ntmps30
    go_wp2
    go_ret
    exact ⟨by simp, rfl⟩

/-- What VarText hands back, of every number. -/
def varT (n : Int) : Value := if 0 ≤ n ∧ n ≤ 1000000000 then .tuple #[.string ⟨(vt n.toNat).toArray⟩, .bool true] else .tuple #[.string ⟨#[]⟩, .bool false]

theorem varT_yes {n : Int} (h : 0 ≤ n ∧ n ≤ 1000000000) : varT n = .tuple #[.string ⟨(vt n.toNat).toArray⟩, .bool true] := by rw [varT, if_pos h]
theorem varT_no {n : Int} (h : ¬ (0 ≤ n ∧ n ≤ 1000000000)) : varT n = .tuple #[.string ⟨#[]⟩, .bool false] := by rw [varT, if_neg h]


set_option maxHeartbeats 400000 in
theorem implVarText_any (n : Int) (w : World) :
    Calls Tryd.prog 36 #[.int .i64 n] w fun e w' => e = .returned (varT n) ∧ Below w.heap.size w w' := by
  by_cases h : 0 ≤ n ∧ n ≤ 1000000000
  · obtain ⟨k, rfl⟩ := Int.eq_ofNat_of_zero_le h.1
    have hk : k ≤ 1000000000 := by omega
    have hmk : ∀ w, (Instr.makeSlice 66 (.int .i64 0) (.int .i64 5)).run Tryd.prog w = .ok (.slice (some ⟨w.heap.size, 0, none⟩) 0 5) (w.alloc (.cells #[.int .u8 0, .int .u8 0, .int .u8 0, .int .u8 0, .int .u8 0] 5)) := fun _ => by kernel_rfl
    have hst := Buf.fresh w #[.int .u8 0, .int .u8 0, .int .u8 0, .int .u8 0, .int .u8 0] 5 rfl (by decide)
    go_enter Tryd.func36, Tryd.ntmps36
    go_wp2
    go_loopw [0, 4] (fun nv v wr => ∃ (m : Nat) (acc : List UInt8), m ≤ k ∧ nv = .int .i64 m ∧ acc ++ vt m = vt k ∧ Buf w.heap.size w wr v acc) (fun nv _ _ => (intOf nv).toNat)
    case atStart => exact ⟨k, [], Nat.le_refl _, rfl, rfl, hst⟩
    case round =>
      obtain ⟨m, acc, hm, rfl, hv0, hb⟩ := hrel
      have hv : Hid (acc ++ vt m = vt k) := hv0
      have hacc := vt_acc hv0
      clear hv0 hmk
      by_cases hlt : 127 < m
      · go_wp2_with (at_builtin; refine wpList_append_bytes rfl _ _ rfl _ _ acc rfl (hb.alloc _) ⟨wr.heap.size, 0, none⟩ [hiByte m] 1 rfl ?c1 ?c2 ?_)
        case c1 => exact one_new _ _ _ (by rw [u8_or128_right _ (by omega) (by omega), hiByte_toNat]; omega)
        case c2 => simp; omega
        intro v' w1 hb'
        go_wp2
        go_roundw
        case rel => exact ⟨m / 128, acc ++ [hiByte m], by omega, by go_num, vt_step hv.out hlt, hb'⟩
        case measure => simp [intOf]; omega
      · go_wp2_with (at_builtin; refine wpList_append_bytes rfl _ _ rfl _ _ acc rfl (hb.alloc _) ⟨wr.heap.size, 0, none⟩ [loByte m] 1 rfl ?d1 ?d2 ?_)
        case d1 => exact one_new _ _ _ (by rw [loByte_toNat (by omega)])
        case d2 => simp; omega
        intro v' w1 hb'
        have hcv := hb'.toString
        go_wp2
        go_ret2
        exact ⟨by simp [varT, h, vt_end hv.out (show m ≤ 127 by omega)], hb'.bel⟩
  · have h0 : (decide (n < 0) || decide (1000000000 < n)) = true := by
      simp only [Bool.or_eq_true, decide_eq_true_eq]
      omega
    by_cases h1 : n < 0
    all_goals
      go_enter Tryd.func36, Tryd.ntmps36
      go_wp2
      go_ret2
      exact ⟨by simp [varT, h], Below.refl _ _⟩

end Go.Proofs.YtlnpegknjhbdnaaDoor

/- Appends to a list of bytes beside other memory of the call's own: what else lies there stays; inside a region that draws its order too; and the bytes of a string laid in a row of their own. -/
namespace Go.Proofs.YtlnpegknjhbdnaaDoor
open Go.RowKit

/-- Behind an append from v to v': v' lies where v lay, or in a new block; every other block is as it was. -/
structure Keeps (w w' : World) (v v' : Value) : Prop where
  place : v'.ownBlock = v.ownBlock ∨ v'.ownBlock = some w.heap.size
  other : ∀ g, g < w.heap.size → some g ≠ v.ownBlock → w'.heap[g]? = w.heap[g]?
  size : w.heap.size ≤ w'.heap.size

theorem Keeps.block {w w' : World} {v v' : Value} (h : Keeps w w' v v') {g : Nat} {o : Obj} (hg : w.heap[g]? = some o) (ha : v.ownBlock ≠ some g) : w'.heap[g]? = some o ∧ v'.ownBlock ≠ some g := by
  have hlt : g < w.heap.size := by
    by_cases hh : g < w.heap.size
    · exact hh
    · rw [Array.getElem?_eq_none (by omega)] at hg; cases hg
  refine ⟨(h.other g hlt (Ne.symm ha)).trans hg, ?_⟩
  rcases h.place with e | e
  · rw [e]; exact ha
  · rw [e]; intro e2; have := Option.some.inj e2; omega

theorem heap_drew (w : World) (g : Nat) : (w.drew).heap[g]? = w.heap[g]? := rfl
theorem heap_alloc_some {w : World} {g : Nat} {o : Obj} (h : w.heap[g]? = some o) (x : Obj) : (w.alloc x).heap[g]? = some o := by
  have hlt : g < w.heap.size := by
    by_cases hh : g < w.heap.size
    · exact hh
    · rw [Array.getElem?_eq_none (by omega)] at h; cases h
  rw [Below.heap_alloc w x g hlt, h]

theorem run_append_bytes {w0 w : World} (ty : TypeId) (B : Nat) (v : Value) (l : List UInt8) (hb : Buf B w0 w v l)
    (ad : Addr) (news : List UInt8) (c : Nat) (hnews : ∀ j u, (bytesV news)[j]? = some u → w.cell? (ad.add j) = some u)
    (hlen : l.length + news.length ≤ 140737488355328) :
    ∃ v' w', (Builtin.append_ #[66, 66] ty #[v, .slice (some ad) news.length c]).run Tryd.prog w = .ok v' w' ∧ Buf B w0 w' v' (l ++ news) ∧ Keeps w w' v v' := by
  obtain ⟨i0, hi, hz0, hz1, hz2⟩ := info_parts Tryd.info_u8
  obtain ⟨v', w', h1, h2, h3, _, h5⟩ := run_append_own_at (P := Tryd.prog) w B 66 ty 5 i0 (.int .u8 0) 1 1 Tryd.underlying66 hi hz0 hz1 hz2 rfl (by decide) v l.length (bytesV l) hb.own ad news.length c (bytesV news) (by simp [bytesV]) hnews
    (by intro u hu; simp only [bytesV, List.mem_map] at hu; obtain ⟨c, _, rfl⟩ := hu; rfl) (by unfold maxLen; omega) (by omega) hb.le
  have e1 : (l ++ news).length = l.length + news.length := by simp
  have e2 : bytesV (l ++ news) = bytesV l ++ bytesV news := by simp [bytesV]
  exact ⟨v', w', h1, ⟨by rw [e1, e2]; exact h2, hb.bel.grown h3 hb.le (fun k hk => (hb.own.lt k hk).1), Nat.le_trans hb.le h3.size⟩, ⟨h5, fun g hg hne => h3.block g hg hne, h3.size⟩⟩

theorem wp_append_bytes {w0 w : World} {o : Oper} {a : Act} {K : Act → World → Prop} {Q : Exit → Act → World → Prop} (s x : Operand)
    (ho : o.op = .call { callee := .builtin .append, args := #[s, x], argTypes := #[66, 66] })
    (B : Nat) (v : Value) (l : List UInt8) (hs : a.eval s = v) (hb : Buf B w0 w v l)
    (ad : Addr) (news : List UInt8) (c : Nat) (hx : a.eval x = .slice (some ad) news.length c)
    (hnews : ∀ j u, (bytesV news)[j]? = some u → w.cell? (ad.add j) = some u)
    (hlen : l.length + news.length ≤ 140737488355328)
    (h : ∀ v' w', Buf B w0 w' v' (l ++ news) → Keeps w w' v v' → K (a.put o.dst v') w') : o.wp Tryd.prog a w K Q := by
  obtain ⟨v', w', hr, h2, h3⟩ := run_append_bytes o.type B v l hb ad news c hnews hlen
  unfold Oper.wp execOp
  simp only [ho, resolve, invoke, builtin, Sem.run_bind, Sem.run_pure, Result.andThen_ok, List.map_toArray, List.map_cons, List.map_nil, hs, hx, hr]
  exact h v' w' h2 h3

/-- The same at a list of operations that goes in its own order. -/
theorem wpList_append_kept {w0 w : World} {ops : Array Oper} {rest : List Oper} {o : Oper} {a : Act} {Q : Exit → Act → World → Prop} (hgd : o.guard = none) (s x : Operand)
    (ho : o.op = .call { callee := .builtin .append, args := #[s, x], argTypes := #[66, 66] })
    (B : Nat) (v : Value) (l : List UInt8) (hs : a.eval s = v) (hb : Buf B w0 w v l)
    (ad : Addr) (news : List UInt8) (c : Nat) (hx : a.eval x = .slice (some ad) news.length c)
    (hnews : ∀ j u, (bytesV news)[j]? = some u → w.cell? (ad.add j) = some u)
    (hlen : l.length + news.length ≤ 140737488355328)
    (h : ∀ v' w', Buf B w0 w' v' (l ++ news) → Keeps w w' v v' → wpList Tryd.prog ops Q rest (a.put o.dst v') w') : wpList Tryd.prog ops Q (o :: rest) a w :=
  wpList_plain hgd fun _ hK => wp_append_bytes s x ho B v l hs hb ad news c hx hnews hlen fun v' w' h2 h3 => hK _ _ (h v' w' h2 h3)

/-- The same at a step of a region that draws its order. -/
theorem step_append_bytes {w0 w : World} {ops : Array Oper} {o : Oper} {a : Act} {K : Act → World → Prop} {Q : Exit → Act → World → Prop} {E : Prop} (hgd : o.guard = none) (s x : Operand)
    (ho : o.op = .call { callee := .builtin .append, args := #[s, x], argTypes := #[66, 66] })
    (B : Nat) (v : Value) (l : List UInt8) (hs : a.eval s = v) (hb : Buf B w0 w v l)
    (ad : Addr) (news : List UInt8) (c : Nat) (hx : a.eval x = .slice (some ad) news.length c)
    (hnews : ∀ j u, (bytesV news)[j]? = some u → w.cell? (ad.add j) = some u)
    (hlen : l.length + news.length ≤ 140737488355328)
    (h : ∀ v' w', Buf B w0 w' v' (l ++ news) → Keeps w w' v v' → K (a.put o.dst v') w') :
    if Region.wanted o (yielded ops a.tmps) = true then Oper.wp Tryd.prog o a w K Q else E := by
  have hw : Region.wanted o (yielded ops a.tmps) = true := by simp [Region.wanted, hgd]
  rw [if_pos hw]
  exact wp_append_bytes s x ho B v l hs hb ad news c hx hnews hlen h

/-- Two cells of a new block, as an append asks for them; behind a draw. -/
theorem two_new (w : World) (x y : Int) (b c : UInt8) (hx : x = (b.toNat : Int)) (hy : y = (c.toNat : Int)) :
    ∀ j u, (bytesV [b, c])[j]? = some u → ((w.alloc (.cells #[.int .u8 x, .int .u8 y] 5)).drew).cell? ((⟨w.heap.size, 0, none⟩ : Addr).add j) = some u := by
  subst hx hy
  intro j u hj
  match j, hj with
  | 0, hj => simp [bytesV] at hj; subst hj; simp [Addr.add]
  | 1, hj => simp [bytesV] at hj; subst hj; simp [Addr.add]
  | j + 2, hj => simp [bytesV] at hj

/-- The row that []byte(s) lays: its block is there, whatever is laid behind it. -/
theorem bytes_block (w : World) (s : ByteArray) : ∃ o : Obj, (Lib.bytesWorld w 5 s).heap[w.heap.size]? = some o ∧
    ∀ wx : World, wx.heap[w.heap.size]? = some o → ∀ j (hj : j < s.size), wx.cell? ⟨w.heap.size, j, none⟩ = some (.int .u8 (s[j].toNat : Int)) := by
  refine ⟨_, Lib.bytesWorld_at_new w 5 s, fun wx hx j hj => ?_⟩
  have h1 := Lib.bytesWorld_cell w 5 s j hj
  rw [World.cell?_of_block (w := Lib.bytesWorld w 5 s) (a := ⟨w.heap.size, j, none⟩) (by rw [hx, Lib.bytesWorld_at_new]), h1]
  have : s.data.toList.getD j 0 = s[j] := by
    rw [List.getD_eq_getElem?_getD, List.getElem?_eq_getElem (by simpa using hj)]; rfl
  rw [this]

theorem Buf.bytesWorld {B : Nat} {w0 w : World} {v : Value} {l : List UInt8} (h : Buf B w0 w v l) (s : ByteArray) : Buf B w0 (Lib.bytesWorld w 5 s) v l := by
  have hg : w.grownBy (Lib.bytesWorld w 5 s) none := ⟨rfl, rfl, rfl, by rw [Lib.bytesWorld_size]; omega, fun k hk _ => Lib.bytesWorld_at_old w 5 s k hk⟩
  refine ⟨h.own.kept hg ?_, h.bel.grown hg h.le (fun k hk => by cases hk), Nat.le_trans h.le hg.size⟩
  cases hv : v.ownBlock with
  | none => exact .inl rfl
  | some k => exact .inr (by simp)

/-- make([]byte, 0, n). -/
theorem wpList_make_bytes {w : World} {ops : Array Oper} {rest : List Oper} {o : Oper} {a : Act} {Q : Exit → Act → World → Prop} (hg : o.guard = none) (l c : Operand) (hop : o.op = Op.makeSlice 66 l c)
    (kl kc : IntKind) (C : Int) (n : Nat) (hl : a.eval l = .int kl 0) (hc : a.eval c = .int kc C) (hC : C = (n : Int)) (hn : n ≤ 281474976710656)
    (h : ∀ w' g, Buf w.heap.size w w' (.slice (some ⟨g, 0, none⟩) 0 n) [] → g < w'.heap.size → wpList Tryd.prog ops Q rest (a.put o.dst (.slice (some ⟨g, 0, none⟩) 0 n)) w') : wpList Tryd.prog ops Q (o :: rest) a w := by
  obtain ⟨i0, hi, hz0, hz1, hz2⟩ := info_parts Tryd.info_u8
  refine wpList_make_own w hg l c 66 hop w.heap.size 5 i0 (.int .u8 0) 1 Tryd.underlying66 hi hz0 hz1 kl kc C n hl hc hC (by rw [hz2]; omega) (by unfold maxLen; omega) (Nat.le_refl _) ?_
  intro w' hown hgrow
  exact h w' w.heap.size ⟨hown, (Below.refl _ _).grown hgrow (Nat.le_refl _) (fun k hk => by cases hk), hgrow.size⟩ (hown.lt w.heap.size rfl).2

theorem Buf.form {B : Nat} {w0 w : World} {v : Value} {l : List UInt8} (h : Buf B w0 w v l) : ∃ (a : Option Addr) (cap : Nat), v = .slice a l.length cap := by
  rcases h.own.2 with ⟨rfl, h0⟩ | ⟨g, cap, cur, rfl, _⟩
  · exact ⟨none, 0, by rw [h0]⟩
  · exact ⟨_, _, rfl⟩

/-- Where something is held, it lies at the head of a row of the call's own, and each byte is in its cell. -/
theorem Buf.at {B : Nat} {w0 w : World} {v : Value} {l : List UInt8} (h : Buf B w0 w v l) (hl : l ≠ []) : ∃ g cap : Nat, v = .slice (some ⟨g, 0, none⟩) l.length cap ∧ l.length ≤ cap ∧ B ≤ g ∧ g < w.heap.size ∧
    ∀ j b, l[j]? = some b → w.cell? ⟨g, j, none⟩ = some (.int .u8 (b.toNat : Int)) := by
  rcases h.own.2 with ⟨rfl, h0⟩ | ⟨g, cap, cur, rfl, hg, hh, hnc, hcp, hcs, htake⟩
  · exact absurd (List.length_eq_zero_iff.1 h0) hl
  · refine ⟨g, cap, rfl, hnc, hg, (h.own.lt g rfl).2, fun j b hj => ?_⟩
    have hlt : j < l.length := (List.getElem?_eq_some_iff.1 hj).1
    rw [h.own.cellAt j (by omega)]
    simp [bytesV, hj]

end Go.Proofs.YtlnpegknjhbdnaaDoor

/- A variable of the call's own. -/
namespace Go.Proofs.YtlnpegknjhbdnaaDoor
open Go.RowKit

theorem stored_grown (w : World) (g i : Nat) (v : Value) : w.grownBy (w.setCell ⟨g, i, none⟩ v) (some g) :=
  have b := (Below.refl 0 w).setCell (p := ⟨g, i, none⟩) (Nat.zero_le _) v
  ⟨b.os, b.tape, b.output, b.size, fun k _ hne => Below.heap_setCell w _ _ _ (fun e => hne (by rw [e]))⟩

variable {w w' : World}

/-- A variable of the call's own: its cells stand in the block b. -/
def Box (w : World) (b : Nat) (cs : Array Value) (t : TypeId) : Prop := w.heap[b]? = some (.cells cs t (0, 0))

theorem Box.new (w : World) (cs : Array Value) (t : TypeId) : Box (w.alloc (.cells cs t)) w.heap.size cs t := heap_alloc_new w _
theorem Box.lt {b : Nat} {cs : Array Value} {t : TypeId} (h : Box w b cs t) : b < w.heap.size := (Array.getElem?_eq_some_iff.1 h).1
theorem Box.cell {b : Nat} {cs : Array Value} {t : TypeId} (h : Box w b cs t) (j : Nat) (u : Value) (hu : cs[j]? = some u) : w.cell? ⟨b, j, none⟩ = some u := by
  rw [Joins.cell_of_block h, hu]
theorem Box.loose {b : Nat} {cs : Array Value} {t : TypeId} (h : Box w b cs t) (j : Nat) : w.frozen? ⟨b, j, none⟩ = false := Joins.unfrozen_of_block h j
theorem Box.later {b : Nat} {cs : Array Value} {t : TypeId} (h : Box w b cs t) (hb : Below w.heap.size w w') : Box w' b cs t := (hb.block b h.lt).trans h
theorem Box.under {b B : Nat} {cs : Array Value} {t : TypeId} (h : Box w b cs t) (hb : Below B w w') (hl : b < B) : Box w' b cs t := (hb.block b hl).trans h
theorem Box.set {b : Nat} {cs : Array Value} {t : TypeId} (h : Box w b cs t) (j : Nat) (u : Value) : Box (w.setCell ⟨b, j, none⟩ u) b (cs.setIfInBounds j u) t := Joins.block_setCell h u
theorem Box.other {b g : Nat} {cs : Array Value} {t : TypeId} (h : Box w b cs t) (hne : b ≠ g) (j : Nat) (u : Value) : Box (w.setCell ⟨g, j, none⟩ u) b cs t :=
  ((stored_grown w g j u).block b h.lt (fun e => hne (Option.some.inj e))).trans h

/-- The three cells of a variable. -/
theorem Box.three {b : Nat} {u0 u1 u2 : Value} {t : TypeId} (h : Box w b #[u0, u1, u2] t) : w.cell? ⟨b, 0, none⟩ = some u0 ∧ w.cell? ⟨b, 1, none⟩ = some u1 ∧ w.cell? ⟨b, 2, none⟩ = some u2 ∧ w.frozen? ⟨b, 0, none⟩ = false ∧ w.frozen? ⟨b, 1, none⟩ = false ∧ w.frozen? ⟨b, 2, none⟩ = false :=
  ⟨h.cell 0 _ rfl, h.cell 1 _ rfl, h.cell 2 _ rfl, h.loose 0, h.loose 1, h.loose 2⟩
/-- The three cells stored. -/
def set3 (w : World) (b : Nat) (v0 v1 v2 : Value) : World := ((w.setCell ⟨b, 0, none⟩ v0).setCell ⟨b, 1, none⟩ v1).setCell ⟨b, 2, none⟩ v2
theorem Box.set3 {b : Nat} {u0 u1 u2 : Value} {t : TypeId} (h : Box w b #[u0, u1, u2] t) (v0 v1 v2 : Value) : Box (set3 w b v0 v1 v2) b #[v0, v1, v2] t := ((h.set 0 v0).set 1 v1).set 2 v2
theorem below_set3 {B b : Nat} {w0 : World} (h : Below B w0 w) (hb : B ≤ b) (v0 v1 v2 : Value) : Below B w0 (set3 w b v0 v1 v2) :=
  ((h.setCell (p := ⟨b, 0, none⟩) hb v0).setCell (p := ⟨b, 1, none⟩) hb v1).setCell (p := ⟨b, 2, none⟩) hb v2

end Go.Proofs.YtlnpegknjhbdnaaDoor

/- Records: what the model's WordOk, RecOk, RecText hand back. -/
namespace Go.Proofs.YtlnpegknjhbdnaaDoor
open Go.RowKit

/-- A record as a value. -/
def Rc.v (r : Rc) : Value := .agg #[.int .i64 r.kind, .int .i64 r.valid, .int .i64 r.uid, .int .i64 r.next, .int .i64 r.flags, .string r.user, .string r.name, .string r.text]
/-- Its cells. -/
def Rc.cs (r : Rc) : Array Value := #[.int .i64 r.kind, .int .i64 r.valid, .int .i64 r.uid, .int .i64 r.next, .int .i64 r.flags, .string r.user, .string r.name, .string r.text]

/-- The eight cells of a record's box. -/
theorem Box.rec {w : World} {b : Nat} {r : Rc} {t : TypeId} (h : Box w b r.cs t) : w.cell? ⟨b, 0, none⟩ = some (.int .i64 r.kind) ∧ w.cell? ⟨b, 1, none⟩ = some (.int .i64 r.valid) ∧ w.cell? ⟨b, 2, none⟩ = some (.int .i64 r.uid) ∧ w.cell? ⟨b, 3, none⟩ = some (.int .i64 r.next) ∧ w.cell? ⟨b, 4, none⟩ = some (.int .i64 r.flags) ∧ w.cell? ⟨b, 5, none⟩ = some (.string r.user) ∧ w.cell? ⟨b, 6, none⟩ = some (.string r.name) ∧ w.cell? ⟨b, 7, none⟩ = some (.string r.text) :=
  ⟨h.cell 0 _ rfl, h.cell 1 _ rfl, h.cell 2 _ rfl, h.cell 3 _ rfl, h.cell 4 _ rfl, h.cell 5 _ rfl, h.cell 6 _ rfl, h.cell 7 _ rfl⟩

theorem index_atW (s : ByteArray) (k : Nat) (h : k < s.size) (wx : World) :
    (Instr.index 9 (.string s) (.int .i64 (k : Int))).run Tryd.prog wx = .ok (.int .u8 (s[k].toNat : Int)) wx := by
  have hu := Tryd.underlying9
  simp [Instr.index, run_underlying hu, go_sem, h]

theorem l01In_yes (n lo hi : Int) (w : World) (h1 : lo ≤ n) (h2 : n ≤ hi) :
    Calls Tryd.prog 30 #[.int .i64 n, .int .i64 lo, .int .i64 hi] w fun e w' => e = .returned (.bool true) ∧ w = w' :=
  (l01In_any n lo hi w).mono fun _ _ h => ⟨by rw [h.1]; simp [h1, h2], h.2.symm⟩
theorem l01In_no (n lo hi : Int) (w : World) (h : ¬ (lo ≤ n ∧ n ≤ hi)) :
    Calls Tryd.prog 30 #[.int .i64 n, .int .i64 lo, .int .i64 hi] w fun e w' => e = .returned (.bool false) ∧ w = w' :=
  (l01In_any n lo hi w).mono fun _ _ h' => ⟨by rw [h'.1]; simp; omega, h'.2.symm⟩


theorem emp_beq (s : ByteArray) : (s.toList == []) = decide (s = emp) := by
  rw [Go.ByteArray.toList_eq]
  by_cases h : s = emp
  · rw [decide_eq_true h, h]; rfl
  · rw [decide_eq_false h]
    refine beq_eq_false_iff_ne.2 fun e => h ?_
    obtain ⟨⟨l⟩⟩ := s
    simp at e
    rw [e]; rfl


end Go.Proofs.YtlnpegknjhbdnaaDoor

/- Records: what the model's RecText hands back. -/
namespace Go.Proofs.YtlnpegknjhbdnaaDoor
open Go.RowKit

/-- What RecText hands back. -/
def rtT (r : Rc) : Value := if r.ok then .tuple #[.string r.tx, .bool true] else .tuple #[.string ⟨#[]⟩, .bool false]
theorem rtT_yes {r : Rc} (h : r.ok) : rtT r = .tuple #[.string r.tx, .bool true] := if_pos h
theorem rtT_no {r : Rc} (h : ¬ r.ok) : rtT r = .tuple #[.string ⟨#[]⟩, .bool false] := if_neg h

/-- A short text's bytes. -/
def shB (s : ByteArray) : ByteArray := vtB s.size ++ s

theorem l01VarZ_any (n : Int) (w : World) (h0 : 0 ≤ n) (hn : n ≤ 1000000000) :
    Calls Tryd.prog 22 #[.int .i64 n] w fun e w' => e = .returned (.string (vtB n.toNat)) ∧ Below w.heap.size w w' := by
  have := l01Var_any n.toNat w (by omega)
  rw [Int.toNat_of_nonneg h0] at this
  exact this

theorem specShortB_any (s : ByteArray) (w : World) (hs : s.size ≤ 1000000) :
    Calls Tryd.prog 24 #[.string s] w fun e w' => e = .returned (.string (shB s)) ∧ Below w.heap.size w w' := by
  have hv : (vtB s.size).size ≤ s.size + 1 := by rw [vtB_size]; exact vt_len _
  have hadd := fun wx => run_string_add_sum (P := Tryd.prog) (w := wx) (vtB s.size) s (by omega)
  obtain ⟨V, hV⟩ : ∃ V, vtB s.size = V := ⟨_, rfl⟩
  rw [hV] at hadd
  have HV := Lib.hid hV
  clear hV
  go_enter Tryd.func24, Tryd.ntmps24
  go_wp2_with (go_at_call 22; refine (l01VarZ_any _ _ (by omega) (by omega)).mono ?_; rintro e w1 ⟨rfl, k1⟩; rw [Int.toNat_natCast, HV.out])
  go_ret
  exact ⟨by unfold shB; rw [HV.out]; rfl, k1⟩

theorem tx_sum (r : Rc) : r.tx = (⟨#[UInt8.ofNat r.kind.toNat]⟩ : ByteArray) ++ vtB r.valid.toNat ++ vtB r.uid.toNat ++ vtB r.next.toNat ++ vtB r.flags.toNat ++ shB r.user ++ shB r.name ++ shB r.text := by
  obtain ⟨x, hx⟩ : ∃ x, (⟨#[UInt8.ofNat r.kind.toNat]⟩ : ByteArray) ++ vtB r.valid.toNat ++ vtB r.uid.toNat ++ vtB r.next.toNat ++ vtB r.flags.toNat ++ shB r.user ++ shB r.name ++ shB r.text = x := ⟨_, rfl⟩
  have : x.data.toList = r.tl := by
    rw [← hx]
    simp only [shB, ByteArray.data_append, Array.toList_append, vtB_list, Rc.tl, List.append_assoc]
    rfl
  rw [hx]
  obtain ⟨⟨y⟩⟩ := x
  simp only at this
  rw [this]; rfl

theorem vtB_five {n : Nat} (h : n ≤ 1000000000) : (vtB n).size ≤ 5 := by rw [vtB_size]; exact vt_five h
theorem belNew (x : World) (o : Obj) : Below x.heap.size x (x.alloc o) := (Below.refl _ _).alloc (Nat.le_refl _) _
theorem kind_byte (k : Int) (h1 : 1 ≤ k) (h2 : k ≤ 5) : k = ((UInt8.ofNat k.toNat).toNat : Int) := by
  have : (UInt8.ofNat k.toNat).toNat = k.toNat % 256 := UInt8.toNat_ofNat'
  rw [this]; omega
theorem kind_wrap (k : Int) (h1 : 1 ≤ k) (h2 : k ≤ 5) : IntKind.u8.wrap k = k := by
  have : k = 1 ∨ k = 2 ∨ k = 3 ∨ k = 4 ∨ k = 5 := by omega
  rcases this with rfl | rfl | rfl | rfl | rfl <;> decide
theorem below_next {W x y : World} (h : Below W.heap.size W x) (hb : Below x.heap.size x y) : Below W.heap.size W y := h.trans (hb.mono h.size)

theorem wpAnyH_sharper {P : Program} {md : Region.Mode} {ops : Array Oper} {Q : Exit → Act → World → Prop} {S S' : World → Prop} (h : ∀ w, S' w → S w) :
    ∀ {fuel : Nat} {listed : Array Bool} {a : Act} {w : World}, wpAnyH P md ops Q S' fuel listed a w → wpAnyH P md ops Q S fuel listed a w
  | 0, _, _, _, H => H
  | _ + 1, _, _, _, H => ⟨H.1, fun i hi => wpOp_mono (fun _ _ h' => ⟨h _ h'.1, wpAnyH_sharper h h'.2⟩) (H.2 i hi)⟩
theorem takeL {P : Program} {md : Region.Mode} {l : List Oper} {Q : Exit → Act → World → Prop} {S : World → Prop} {i : Nat} {oi : Oper} {v : Value} {fuel : Nat} {listed : Array Bool} {a : Act} {w : World} (hi : l[i]? = some oi)
    (hs : Region.noSelect l.toArray = true) (hf : Region.free md l.toArray listed i = true) (hr : (Region.ready md l.toArray listed).contains i = true)
    (hQ : ∀ c a w, Q (.panic c) (a.put oi.dst v) w → Q (.panic c) a w) (hy : YieldsIf P l.toArray S oi v a) (hS : S w)
    (h : wpAnyH P md l.toArray Q S fuel (listed.setIfInBounds i true) (a.put oi.dst v) w) : wpAnyH P md l.toArray Q S (fuel + 1) listed a w :=
  wpAnyH_take (by rw [List.getElem?_toArray]; exact hi) hs hf hr hQ hy hS h
theorem readyOne {P : Program} {md : Region.Mode} {l : List Oper} {Q : Exit → Act → World → Prop} {S : World → Prop} {i : Nat} {o : Oper} {fuel : Nat} {listed : Array Bool} {a : Act} {w : World} (hi : l[i]? = some o)
    (h : ∀ K' : Act → World → Prop, Shut (∀ a w, S w → (S w → wpAnyH P md l.toArray Q S fuel (listed.setIfInBounds i true) a w) → K' a w) → if Region.wanted o (yielded l.toArray a.tmps) = true then Oper.wp P o a w K' Q else K' (a.put o.dst undef) w) :
    AllReadyH P md l.toArray Q S fuel listed a w [i] :=
  AllReadyH.cons (by rw [List.getElem?_toArray]; exact hi) h AllReadyH.nil
theorem readyTwo {P : Program} {md : Region.Mode} {l : List Oper} {Q : Exit → Act → World → Prop} {S : World → Prop} {i j : Nat} {o o' : Oper} {fuel : Nat} {listed : Array Bool} {a : Act} {w : World} (hi : l[i]? = some o) (hj : l[j]? = some o')
    (h : ∀ K' : Act → World → Prop, Shut (∀ a w, S w → (S w → wpAnyH P md l.toArray Q S fuel (listed.setIfInBounds i true) a w) → K' a w) → if Region.wanted o (yielded l.toArray a.tmps) = true then Oper.wp P o a w K' Q else K' (a.put o.dst undef) w)
    (h' : ∀ K' : Act → World → Prop, Shut (∀ a w, S w → (S w → wpAnyH P md l.toArray Q S fuel (listed.setIfInBounds j true) a w) → K' a w) → if Region.wanted o' (yielded l.toArray a.tmps) = true then Oper.wp P o' a w K' Q else K' (a.put o'.dst undef) w) :
    AllReadyH P md l.toArray Q S fuel listed a w [i, j] :=
  AllReadyH.cons (by rw [List.getElem?_toArray]; exact hi) h (readyOne hj h')
theorem belNew0 (x : World) (o : Obj) : Below x.heap.size x (x.alloc o).drew := ((Below.refl _ _).alloc (Nat.le_refl _) _).drew
theorem keepS {W x y : World} {p : Addr} {v : Value} (h : Below W.heap.size W x ∧ x.cell? p = some v) (hb : Below x.heap.size x y) : Below W.heap.size W y ∧ y.cell? p = some v :=
  ⟨h.1.trans (hb.mono h.1.size), (hb.cell (World.block_lt_of_cell? _ _ h.2)).trans h.2⟩


end Go.Proofs.YtlnpegknjhbdnaaDoor

/- Lists copied element by element. -/
namespace Go.Proofs.YtlnpegknjhbdnaaDoor
open Go.RowKit

/-- The first i elements of l, then nothing yet. -/
def copyTo {α : Type} (z : α) (l : List α) (i : Nat) : List α := l.take i ++ List.replicate (l.length - i) z
theorem copyTo_length {α : Type} {z : α} {l : List α} {i : Nat} (h : i ≤ l.length) : (copyTo z l i).length = l.length := by simp [copyTo]; omega
theorem copyTo_zero {α : Type} (z : α) (l : List α) : copyTo z l 0 = List.replicate l.length z := by simp [copyTo]
theorem copyTo_all {α : Type} {z : α} {l : List α} {i : Nat} (h : l.length ≤ i) : copyTo z l i = l := by
  rw [copyTo, List.take_of_length_le h, show l.length - i = 0 by omega]; simp
theorem copyTo_at {α : Type} {z : α} {l : List α} {i : Nat} (h : i < l.length) : (copyTo z l i)[i]? = some z := by
  have hm : (l.take i).length = i := by simp; omega
  rw [copyTo, List.getElem?_append_right (by omega), hm, Nat.sub_self, List.getElem?_replicate, if_pos (by omega)]
theorem copyTo_set {α : Type} {z : α} {l : List α} {i : Nat} (h : i < l.length) : (copyTo z l i).set i l[i] = copyTo z l (i + 1) := by
  have hm : (l.take i).length = i := by simp; omega
  rw [copyTo, List.set_append_right _ _ (by omega), hm, Nat.sub_self, copyTo, List.take_succ_eq_append_getElem h, List.append_assoc]
  have : l.length - i = (l.length - (i + 1)) + 1 := by omega
  rw [this, List.replicate_succ]
  rfl

theorem Rows'.at {α : Type} {E : Enc α} {w : World} {a : Option Addr} {cap : Nat} {l : List α} (h : Rows' E w (.slice a l.length cap) l) (i : Nat) (hi : i < l.length) :
    ∃ g off : Nat, a = some ⟨g, off, none⟩ ∧ ∀ w', Below w.heap.size w w' → ∀ k u, (E.f l[i])[k]? = some u → w'.cell? ⟨g, off + i * E.sz + k, none⟩ = some u := by
  rcases h.ways with ⟨h0, _⟩ | ⟨_, g, off, c, hv, hc, hg, hcl⟩
  · rw [h0] at hi; simp at hi
  · simp only [Value.slice.injEq] at hv
    exact ⟨g, off, hv.1, fun w' hb k u hu => (hb.cell (p := ⟨g, off + i * E.sz + k, none⟩) hg).trans (hcl i _ (List.getElem?_eq_getElem hi) k u hu)⟩

end Go.Proofs.YtlnpegknjhbdnaaDoor

/- Lists that came in: a row read cell by cell is a list. -/
namespace Go.Proofs.YtlnpegknjhbdnaaDoor
open Go.RowKit Go.ChangeShapes Go.WideShapes Go.ChangeAt Go.Deep Go.Joins

section
variable {W : World}

theorem rows_of_cells {α : Type} [Inhabited α] (E : Enc α) {a : Addr} {len cap : Nat} (hl : len ≤ cap) (hp : ∀ i, i < len → ∃ x : α, ∀ k u, (E.f x)[k]? = some u → W.cell? (a.add (i * E.sz + k)) = some u) (Pr : α → Prop)
    (hpr : ∀ i, i < len → ∀ x : α, (∀ k u, (E.f x)[k]? = some u → W.cell? (a.add (i * E.sz + k)) = some u) → Pr x) :
    ∃ l : List α, l.length = len ∧ Rows' E W (.slice (some a) len cap) l ∧ ∀ x ∈ l, Pr x := by
  obtain ⟨f, hf⟩ := choose_lt hp
  refine ⟨(List.range len).map f, by simp, ?_, ?_⟩
  · by_cases h0 : len = 0
    · subst h0
      exact .inl ⟨rfl, _, _, rfl⟩
    · have hsp : a.spot = none := by
        have hne : (E.f (f 0))[0]? = some ((E.f (f 0))[0]'(by rw [E.len]; exact E.pos)) := List.getElem?_eq_getElem _
        have := hf 0 (by omega) 0 _ hne
        have h2 := World.cell?_spot this
        simpa [Addr.add] using h2
      obtain ⟨b, off, spot⟩ := a
      simp only at hsp
      subst hsp
      refine .inr ⟨b, off, cap, by simp, by simpa using hl, ?_, ?_⟩
      · have hne : (E.f (f 0))[0]? = some ((E.f (f 0))[0]'(by rw [E.len]; exact E.pos)) := List.getElem?_eq_getElem _
        have := hf 0 (by omega) 0 _ hne
        rw [Addr.add_lit] at this
        exact World.block_lt_of_cell? W _ this
      · intro j x hj k u hu
        have hjl : j < len := by have := (List.getElem?_eq_some_iff.1 hj).1; simpa using this
        have hx : f j = x := by simpa [hjl] using hj
        subst hx
        have := hf j hjl k u hu
        rw [Addr.add_lit] at this
        rw [Nat.add_assoc]
        exact this
  · intro x hx
    simp only [List.mem_map, List.mem_range] at hx
    obtain ⟨i, hi, rfl⟩ := hx
    exact hpr i hi _ (hf i hi)
end

end Go.Proofs.YtlnpegknjhbdnaaDoor

/- How numbers, texts and writes lie in memory. -/
namespace Go.Proofs.YtlnpegknjhbdnaaDoor
open Go.RowKit


def intE : Enc Int where
  ty := 3
  sty := 68
  sz := 1
  bytes := 8
  zero := .int .i64 0
  f := fun n => [.int .i64 n]
  len := fun _ => rfl
  pos := by decide
  one := fun _ u hu => by simp at hu; subst hu; rfl
  und := Tryd.underlying68
  info := by kernel_rfl
  zc := rfl
  z0 := 0
  zf := rfl

/-- A write: where, and what. -/
structure Wr where
  at_ : Int
  text : ByteArray



end Go.Proofs.YtlnpegknjhbdnaaDoor

/- What a list of texts is that a call builds in memory of its own, and the laws by which it grows, is read and is written. -/
namespace Go.Proofs.YtlnpegknjhbdnaaDoor
open Go.RowKit

theorem Tryd.info_str : (Tryd.prog.info? 9).map (fun i => (i.zero, i.size, i.bytes)) = some (some (.string ⟨#[]⟩), 1, 16) := by kernel_rfl

def strV (l : List ByteArray) : List Value := l.map fun c => .string c
theorem strV_length (l : List ByteArray) : (strV l).length = l.length := by simp [strV]

/-- The slice v holds the texts l in memory that the call made itself (blocks from B on); below B all is as it was in w0. -/
structure SBuf (B : Nat) (w0 w : World) (v : Value) (l : List ByteArray) : Prop where
  own : w.ownsRow B 9 1 v l.length (strV l)
  bel : Below B w0 w
  le : B ≤ w.heap.size

theorem SBuf.alloc {B : Nat} {w0 w : World} {v : Value} {l : List ByteArray} (h : SBuf B w0 w v l) (o : Obj) : SBuf B w0 (w.alloc o) v l :=
  ⟨h.own.alloc o, h.bel.alloc h.le o, by have := h.le; simp; omega⟩
theorem SBuf.drew {B : Nat} {w0 w : World} {v : Value} {l : List ByteArray} (h : SBuf B w0 w v l) : SBuf B w0 w.drew v l :=
  ⟨h.own.drew, h.bel.drew, h.le⟩
theorem SBuf.fresh (w : World) : SBuf w.heap.size w (w.alloc (.cells #[] 9)) (.slice (some ⟨w.heap.size, 0, none⟩) 0 0) [] :=
  ⟨World.ownsRow_made w #[] 0 (Nat.le_refl _) (by decide) rfl, (Below.refl _ _).alloc (Nat.le_refl _) _, by simp⟩

/-- What is laid behind the heap's end, and nothing else, leaves the texts where they are. -/
theorem SBuf.later {B : Nat} {w0 w w' : World} {v : Value} {l : List ByteArray} (h : SBuf B w0 w v l) (hb : Below w.heap.size w w') : SBuf B w0 w' v l := by
  have hg : w.grownBy w' none := ⟨hb.os, hb.tape, hb.output, hb.size, fun k hk _ => hb.block k hk⟩
  refine ⟨h.own.kept hg ?_, h.bel.trans (hb.mono h.le), Nat.le_trans h.le hb.size⟩
  cases hv : v.ownBlock with
  | none => exact .inl rfl
  | some k => exact .inr (by simp)

theorem SBuf.form {B : Nat} {w0 w : World} {v : Value} {l : List ByteArray} (h : SBuf B w0 w v l) : ∃ (a : Option Addr) (cap : Nat), v = .slice a l.length cap := by
  rcases h.own.2 with ⟨rfl, h0⟩ | ⟨g, cap, cur, rfl, _⟩
  · exact ⟨none, 0, by rw [h0]⟩
  · exact ⟨_, _, rfl⟩

/-- Texts that can be read: each in its cell of a row; nothing where there is none. -/
def Strs (w : World) (v : Value) (l : List ByteArray) : Prop :=
  (l = [] ∧ ∃ (a : Option Addr) (cap : Nat), v = .slice a 0 cap) ∨
  ∃ g cap : Nat, v = .slice (some ⟨g, 0, none⟩) l.length cap ∧ l.length ≤ cap ∧ g < w.heap.size ∧ ∀ j b, l[j]? = some b → w.cell? ⟨g, j, none⟩ = some (.string b)

theorem SBuf.strs {B : Nat} {w0 w : World} {v : Value} {l : List ByteArray} (h : SBuf B w0 w v l) : Strs w v l := by
  rcases h.own.2 with ⟨rfl, h0⟩ | ⟨g, cap, cur, rfl, hg, hh, hnc, hcp, hcs, htake⟩
  · exact .inl ⟨List.length_eq_zero_iff.1 h0, _, _, rfl⟩
  · refine .inr ⟨g, cap, rfl, hnc, (h.own.lt g rfl).2, fun j b hj => ?_⟩
    have hlt : j < l.length := (List.getElem?_eq_some_iff.1 hj).1
    rw [h.own.cellAt j (by omega)]
    simp [strV, hj]

theorem Strs.later {w w' : World} {v : Value} {l : List ByteArray} (h : Strs w v l) (hb : Below w.heap.size w w') : Strs w' v l := by
  rcases h with h | ⟨g, cap, hv, hc, hg, hcl⟩
  · exact .inl h
  · exact .inr ⟨g, cap, hv, hc, Nat.lt_of_lt_of_le hg hb.size, fun j b hj => (hb.cell (p := ⟨g, j, none⟩) hg).trans (hcl j b hj)⟩

/-- A store into the row. -/
theorem SBuf.stored {B : Nat} {w0 w : World} {g cap : Nat} {l : List ByteArray} (h : SBuf B w0 w (.slice (some ⟨g, 0, none⟩) l.length cap) l) (j : Nat) (t : ByteArray) :
    SBuf B w0 (w.setCell ⟨g, j, none⟩ (.string t)) (.slice (some ⟨g, 0, none⟩) l.length cap) (l.set j t) := by
  have hst := h.own.stored j (.string t)
  have e : strV (l.set j t) = (strV l).set j (.string t) := by simp [strV, List.map_set]
  refine ⟨?_, h.bel.setCell (h.own.lt g rfl).1 _, by have := h.le; simpa using this⟩
  have hl : (l.set j t).length = l.length := by simp
  rw [hl, e]
  exact hst.1

theorem SBuf.under {w0 w1 w : World} {v : Value} {l : List ByteArray} (hb : Below w0.heap.size w0 w1) (h : SBuf w1.heap.size w1 w v l) : SBuf w0.heap.size w0 w v l := by
  refine ⟨⟨h.own.1, ?_⟩, hb.trans (h.bel.mono hb.size), Nat.le_trans hb.size h.le⟩
  rcases h.own.2 with h1 | ⟨g, cap, cur, h1, h2, h3⟩
  · exact .inl h1
  · exact .inr ⟨g, cap, cur, h1, Nat.le_trans hb.size h2, h3⟩

end Go.Proofs.YtlnpegknjhbdnaaDoor

/- What a value owns: its memory lies between two marks of the heap, and what is written elsewhere leaves it alone. -/
namespace Go.Proofs.YtlnpegknjhbdnaaDoor
open Go.RowKit

/-- Whatever was there outside the blocks B .. T-1 is as it was. -/
structure Kept (B T : Nat) (w w' : World) : Prop where
  os : w'.os = w.os
  tape : w'.tape = w.tape
  output : w'.output = w.output
  size : w.heap.size ≤ w'.heap.size
  block : ∀ k, k < w.heap.size → (k < B ∨ T ≤ k) → w'.heap[k]? = w.heap[k]?

theorem Kept.of_below {w w' : World} (hb : Below w.heap.size w w') (B T : Nat) : Kept B T w w' := ⟨hb.os, hb.tape, hb.output, hb.size, fun k hk _ => hb.block k hk⟩
theorem Kept.of_grown {w w' : World} {r : Option Nat} {B T : Nat} (h : w.grownBy w' r) (hr : ∀ k, r = some k → B ≤ k ∧ k < T) : Kept B T w w' :=
  ⟨h.os, h.tape, h.output, h.size, fun k hk hout => h.block k hk (fun e => by have := hr k e.symm; omega)⟩
theorem Kept.trans {B T : Nat} {w w1 w2 : World} (h : Kept B T w w1) (h2 : Kept B T w1 w2) : Kept B T w w2 :=
  ⟨h2.os.trans h.os, h2.tape.trans h.tape, h2.output.trans h.output, Nat.le_trans h.size h2.size, fun k hk hout => (h2.block k (Nat.lt_of_lt_of_le hk h.size) hout).trans (h.block k hk hout)⟩
theorem Kept.below {B T B0 : Nat} {w0 w w' : World} (h : Kept B T w w') (hb : Below B0 w0 w) (h0 : B0 ≤ B) (hs : B0 ≤ w.heap.size) : Below B0 w0 w' :=
  ⟨h.os.trans hb.os, h.tape.trans hb.tape, h.output.trans hb.output, Nat.le_trans hb.size h.size, fun k hk => (h.block k (Nat.lt_of_lt_of_le hk hs) (.inl (Nat.lt_of_lt_of_le hk h0))).trans (hb.block k hk)⟩

variable {α : Type} {E : Enc α} {B T : Nat} {w w' : World} {v : Value} {l : List α}

/-- The slice v holds the elements l in a row of its own, in one of the blocks B .. T-1. -/
def LOwn (E : Enc α) (B T : Nat) (w : World) (v : Value) (l : List α) : Prop := RBuf E B w w v l ∧ T ≤ w.heap.size ∧ ∀ k, v.ownBlock = some k → k < T

theorem RBuf.lown {w0 : World} (h : RBuf E B w0 w v l) : LOwn E B w.heap.size w v l := ⟨h.here, Nat.le_refl _, fun k hk => (h.own.lt k hk).2⟩

theorem LOwn.kept {B' T' : Nat} (h : LOwn E B T w v l) (hk : Kept B' T' w w') (hd : T ≤ B' ∨ T' ≤ B) : LOwn E B T w' v l := by
  refine ⟨⟨⟨h.1.own.1, ?_⟩, Below.refl _ _, Nat.le_trans h.1.le hk.size⟩, Nat.le_trans h.2.1 hk.size, h.2.2⟩
  rcases h.1.own.2 with h1 | ⟨g, cap, cur, h1, h2, h3, h4⟩
  · exact .inl h1
  · have hg := h.2.2 g (by rw [h1]; rfl)
    refine .inr ⟨g, cap, cur, h1, h2, ?_, h4⟩
    rw [hk.block g (Nat.lt_of_lt_of_le hg h.2.1) (by omega)]
    exact h3

theorem LOwn.later (h : LOwn E B T w v l) (hb : Below w.heap.size w w') : LOwn E B T w' v l :=
  h.kept (Kept.of_below hb T T) (.inl (Nat.le_refl _))

theorem LOwn.wider {T' : Nat} (h : LOwn E B T w v l) (hT : T ≤ T') (hs : T' ≤ w.heap.size) : LOwn E B T' w v l := ⟨h.1, hs, fun k hk => Nat.lt_of_lt_of_le (h.2.2 k hk) hT⟩

theorem LOwn.deeper {B' : Nat} (h : LOwn E B T w v l) (hB : B' ≤ B) : LOwn E B' T w v l := ⟨h.1.down (Below.refl _ _) hB, h.2⟩

theorem LOwn.rows (h : LOwn E B T w v l) : Rows' E w v l := h.1.rows

/-- A store by another name leaves a row alone whose block is another. -/
theorem LOwn.grown {r : Option Nat} (h : LOwn E B T w v l) (hg : w.grownBy w' r) (hne : v.ownBlock = none ∨ v.ownBlock ≠ r) : LOwn E B T w' v l :=
  ⟨⟨h.1.own.kept hg hne, Below.refl _ _, Nat.le_trans h.1.le hg.size⟩, Nat.le_trans h.2.1 hg.size, h.2.2⟩

/-- A store below the row's base leaves it alone. -/
theorem LOwn.store (h : LOwn E B T w v l) (g i : Nat) (u : Value) (hg : g < B) : LOwn E B T (w.setCell ⟨g, i, none⟩ u) v l := by
  refine h.grown (stored_grown w g i u) ?_
  cases hv : v.ownBlock with
  | none => exact .inl rfl
  | some k => exact .inr (by intro e; have := (h.1.own.lt k hv).1; have := Option.some.inj e; omega)

theorem LOwn.storeHi (h : LOwn E B T w v l) (g i : Nat) (u : Value) (hg : T ≤ g) : LOwn E B T (w.setCell ⟨g, i, none⟩ u) v l := by
  refine h.grown (stored_grown w g i u) ?_
  cases hv : v.ownBlock with
  | none => exact .inl rfl
  | some k => exact .inr (by intro e; have := h.2.2 k hv; have := Option.some.inj e; omega)

end Go.Proofs.YtlnpegknjhbdnaaDoor
