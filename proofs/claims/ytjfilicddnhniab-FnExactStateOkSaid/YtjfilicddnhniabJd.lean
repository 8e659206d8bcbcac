/- Texts of our own, joined. -/
import Derived.Shelf.LaysM
import Derived.Shelf.Strconv.Clone
import Derived.Test.YtjfilicddnhniabJb
import Derived.Test.YtjfilicddnhniabJc
import Derived.Laws.Concat
import Derived.Deep.DeepCutAuto
import Derived.Test.YtjfilicddnhniabJa
import Derived.Lib.Hide
import Derived.Deep.RegionHeld3
import Derived.Deep.QuietTactic
import Derived.BigQuiet
/- strings.Clone hands back the same bytes and changes nothing that was there: out of the library's own theorem on internal/stringslite.Clone, at the numbers of this program. -/
namespace Go.Proofs.Ytjfilicddnhniab
open Go.Shelf Go.RowKit

def cloneRen : Go.Shelf.Ren := ⟨fun | 316 => 102 | n => n, fun | 9 => 9 | 3 => 3 | 4 => 4 | 37 => 113 | 0 => 0 | 127 => 160 | 5 => 5 | n => n, fun | n => n⟩

theorem cloneLaid : Go.Proofs.LaysM.n316 Try.prog cloneRen := {
  mixed := by kernel_rfl
  f316 := Try.func102.trans (congrArg some (by kernel_rfl))
  t0 := Try.underlying0
  a0 := Try.isAgg0
  z0 := Try.sizeOf0
  v0 := Try.zeroValue0
  t3 := Try.underlying3
  a3 := Try.isAgg3
  z3 := Try.sizeOf3
  v3 := Try.zeroValue3
  t4 := Try.underlying4
  a4 := Try.isAgg4
  z4 := Try.sizeOf4
  v4 := Try.zeroValue4
  t9 := Try.underlying9
  a9 := Try.isAgg9
  z9 := Try.sizeOf9
  v9 := Try.zeroValue9
  t37 := Try.underlying113
  a37 := Try.isAgg113
  z37 := Try.sizeOf113
  v37 := Try.zeroValue113
  t127 := Try.underlying160
  a127 := Try.isAgg160
  z127 := Try.sizeOf160
  v127 := Try.zeroValue160
  t5 := Try.underlying5
  a5 := Try.isAgg5
  z5 := Try.sizeOf5
  v5 := Try.zeroValue5
  i0 := by kernel_rfl
  i3 := by kernel_rfl
  i4 := by kernel_rfl
  i5 := by kernel_rfl
  i9 := by kernel_rfl
  i37 := by kernel_rfl
  i127 := by kernel_rfl }

theorem innerClone_any (s : ByteArray) (w : World) (hlim : s.size ≤ 281474976710656) :
    Calls Try.prog 102 #[.string s] w fun e w' => e = .returned (.string s) ∧ Below w.heap.size w w' := Any.stringslite_Clone cloneLaid s w hlim

theorem clone_any (s : ByteArray) (w : World) (hlim : s.size ≤ 281474976710656) :
    Calls Try.prog 84 #[.string s] w fun e w' => e = .returned (.string s) ∧ Below w.heap.size w w' := by
  go_enter Try.func84, Try.ntmps84
  go_wp2_with (go_at_call 102; refine (innerClone_any _ _ hlim).mono ?_; rintro e w1 ⟨rfl, hb1⟩)
  go_ret
  exact ⟨rfl, hb1⟩

end Go.Proofs.Ytjfilicddnhniab

/- A text behind its length, and read back: what ShortText and ReadShort hand back. -/
namespace Go.Proofs.Ytjfilicddnhniab
open Go.RowKit

/-- What ShortText hands back. -/
def shT (s : ByteArray) : Value :=
  if s.size ≤ 20000 then .tuple #[.string (⟨(vt s.size).toArray⟩ ++ s), .bool true] else .tuple #[.string ⟨#[]⟩, .bool false]
theorem shT_yes {s : ByteArray} (h : s.size ≤ 20000) : shT s = .tuple #[.string (⟨(vt s.size).toArray⟩ ++ s), .bool true] := by rw [shT, if_pos h]
theorem shT_no {s : ByteArray} (h : ¬ s.size ≤ 20000) : shT s = .tuple #[.string ⟨#[]⟩, .bool false] := by rw [shT, if_neg h]

theorem vt_size (n : Nat) : (ByteArray.mk (vt n).toArray).size ≤ n + 1 := by
  have := vt_len n
  simpa [ByteArray.size] using this



def zeroS : Value := .tuple #[.string ⟨#[]⟩, .int .i64 0, .bool false]

/-- What ReadShort hands back. -/
def rsT (s : ByteArray) (a : Int) : Value :=
  if 0 ≤ a ∧ a ≤ s.size then
    match rv s.data.toList a.toNat with
    | some (n, b) => if n ≤ 20000 ∧ n + b ≤ s.size then .tuple #[.string (s.extract b (b + n)), .int .i64 ((b : Int) + n), .bool true] else zeroS
    | none => zeroS
  else zeroS

theorem rsT_out {s : ByteArray} {a : Int} (h : ¬ (0 ≤ a ∧ a ≤ s.size)) : rsT s a = zeroS := by rw [rsT, if_neg h]
theorem rsT_none {s : ByteArray} {k : Nat} (hk : k ≤ s.size) (h : rv s.data.toList k = none) : rsT s k = zeroS := by
  rw [rsT, if_pos (by omega), Int.toNat_natCast, h]
theorem rsT_no {s : ByteArray} {k n b : Nat} (hk : k ≤ s.size) (h : rv s.data.toList k = some (n, b)) (h2 : ¬ (n ≤ 20000 ∧ n + b ≤ s.size)) : rsT s k = zeroS := by
  rw [rsT, if_pos (by omega), Int.toNat_natCast, h]
  simp only [if_neg h2]
theorem rsT_yes {s : ByteArray} {k n b : Nat} (hk : k ≤ s.size) (h : rv s.data.toList k = some (n, b)) (h2 : n ≤ 20000 ∧ n + b ≤ s.size) : rsT s k = .tuple #[.string (s.extract b (b + n)), .int .i64 ((b : Int) + n), .bool true] := by
  rw [rsT, if_pos (by omega), Int.toNat_natCast, h]
  simp only [if_pos h2]

/-- The ways of ReadShort: nothing is read; what is read is too long; it is a text. -/
theorem rs_ways (s : ByteArray) (a : Int) : (rvT s a = zeroT ∧ rsT s a = zeroS) ∨
    (∃ n b : Nat, rvT s a = .tuple #[.int .i64 n, .int .i64 b, .bool true] ∧ n ≤ 1000000000 ∧ b ≤ s.size ∧ ¬ (n ≤ 20000 ∧ n + b ≤ s.size) ∧ rsT s a = zeroS) ∨
    (∃ n b : Nat, rvT s a = .tuple #[.int .i64 n, .int .i64 b, .bool true] ∧ n ≤ 20000 ∧ n + b ≤ s.size ∧ rsT s a = .tuple #[.string (s.extract b (b + n)), .int .i64 ((b : Int) + n), .bool true]) := by
  by_cases h : 0 ≤ a ∧ a ≤ s.size
  · obtain ⟨k, rfl⟩ := Int.eq_ofNat_of_zero_le h.1
    have hk : k ≤ s.size := by omega
    rcases hr : rv s.data.toList k with _ | ⟨n, b⟩
    · exact .inl ⟨rvT_none hk hr, rsT_none hk hr⟩
    · have hle := rv_le (by simpa using hk) hr
      have hb : b ≤ s.size := by have := hle.2.2; simpa using this
      by_cases h2 : n ≤ 20000 ∧ n + b ≤ s.size
      · exact .inr (.inr ⟨n, b, rvT_some hk hr, h2.1, h2.2, rsT_yes hk hr h2⟩)
      · exact .inr (.inl ⟨n, b, rvT_some hk hr, hle.1, hb, h2, rsT_no hk hr h2⟩)
  · exact .inl ⟨rvT_out h, rsT_out h⟩

theorem slice_len (s : ByteArray) (b n : Nat) (h : n + b ≤ s.size) (wx : World) :
    (Instr.slice 9 (.string s) (some (.int .i64 (b : Int))) (some (.int .i64 ((b : Int) + (n : Int)))) none).run Try.prog wx = .ok (.string (s.extract b (b + n))) wx := by
  have := run_slice_string (P := Try.prog) (w := wx) 9 s .i64 .i64 (b : Int) ((b : Int) + (n : Int)) Try.underlying9 (by omega) (by omega) (by omega)
  rw [this]
  congr 3



theorem shT_form (s : ByteArray) : ∃ (t : ByteArray) (f : Bool), shT s = .tuple #[.string t, .bool f] := by
  unfold shT
  split
  · exact ⟨_, _, rfl⟩
  · exact ⟨_, _, rfl⟩

theorem rsT_form (s : ByteArray) (a : Int) : ∃ (t : ByteArray) (b : Int) (f : Bool), rsT s a = .tuple #[.string t, .int .i64 b, .bool f] := by
  rcases rs_ways s a with ⟨_, h⟩ | ⟨_, _, _, _, _, _, h⟩ | ⟨_, _, _, _, _, h⟩
  · exact ⟨_, _, _, h⟩
  · exact ⟨_, _, _, h⟩
  · exact ⟨_, _, _, h⟩

end Go.Proofs.Ytjfilicddnhniab

/- Records: the model's reader of a text. -/
namespace Go.Proofs.Ytjfilicddnhniab
open Go.RowKit

/-- A number read at the cursor: what is handed back, the place behind it, whether it is bad. -/
def cuV (t : ByteArray) (p : Nat) (b : Bool) : Nat × Nat × Bool :=
  if b = true then (0, p, true) else match rv t.data.toList p with
    | some (n, q) => (n, q, false)
    | none => (0, p, true)
/-- A short text read at the cursor. -/
def cuS (t : ByteArray) (p : Nat) (b : Bool) : ByteArray × Nat × Bool :=
  if b = true then (⟨#[]⟩, p, true) else match rsO t p with
    | some (n, q) => (n, q, false)
    | none => (⟨#[]⟩, p, true)

theorem cuV_ways (t : ByteArray) (p : Nat) (b : Bool) (hp : p ≤ t.size) :
    ∃ (x q : Nat) (o : Bool), rvT t p = .tuple #[.int .i64 x, .int .i64 q, .bool o] ∧ (((b = true ∨ o = false) ∧ cuV t p b = (0, p, true)) ∨ ((b = false ∧ o = true) ∧ cuV t p b = (x, q, false))) := by
  rcases h : rv t.data.toList p with _ | ⟨n, q⟩
  · refine ⟨0, 0, false, rvT_none hp h, .inl ⟨.inr rfl, ?_⟩⟩
    cases b <;> simp [cuV, h]
  · refine ⟨n, q, true, rvT_some hp h, ?_⟩
    cases b with
    | false => exact .inr ⟨⟨rfl, rfl⟩, by simp [cuV, h]⟩
    | true => exact .inl ⟨.inl rfl, by simp [cuV]⟩
theorem cuV_le (t : ByteArray) (p : Nat) (b : Bool) (hp : p ≤ t.size) : (cuV t p b).2.1 ≤ t.size ∧ (cuV t p b).1 ≤ 1000000000 := by
  unfold cuV
  split
  · exact ⟨hp, Nat.zero_le _⟩
  · split
    · rename_i h
      have := rv_le (by simpa using hp) h
      refine ⟨?_, this.1⟩
      have := this.2.2
      simpa using this
    · exact ⟨hp, Nat.zero_le _⟩
theorem rsO_le {t : ByteArray} {p : Nat} {x : ByteArray} {q : Nat} (h : rsO t p = some (x, q)) : q ≤ t.size ∧ x.size ≤ t.size := by
  unfold rsO at h
  split at h
  · split at h
    · rename_i h2
      cases h
      refine ⟨by omega, ?_⟩
      rw [ByteArray.size_extract]; omega
    · cases h
  · cases h
theorem cuS_ways (t : ByteArray) (p : Nat) (b : Bool) (hp : p ≤ t.size) :
    ∃ (x : ByteArray) (q : Nat) (o : Bool), rsT t p = .tuple #[.string x, .int .i64 q, .bool o] ∧ (((b = true ∨ o = false) ∧ cuS t p b = (⟨#[]⟩, p, true)) ∨ ((b = false ∧ o = true) ∧ cuS t p b = (x, q, false))) := by
  rcases h : rv t.data.toList p with _ | ⟨n, q⟩
  · refine ⟨⟨#[]⟩, 0, false, rsT_none hp h, .inl ⟨.inr rfl, ?_⟩⟩
    cases b <;> simp [cuS, rsO, h]
  · by_cases h2 : n ≤ 20000 ∧ n + q ≤ t.size
    · refine ⟨t.extract q (q + n), q + n, true, by rw [rsT_yes hp h h2, Int.natCast_add], ?_⟩
      cases b with
      | false => exact .inr ⟨⟨rfl, rfl⟩, by simp [cuS, rsO, h, h2]⟩
      | true => exact .inl ⟨.inl rfl, by simp [cuS]⟩
    · refine ⟨⟨#[]⟩, 0, false, rsT_no hp h h2, .inl ⟨.inr rfl, ?_⟩⟩
      cases b <;> simp [cuS, rsO, h, h2]
theorem cuS_le (t : ByteArray) (p : Nat) (b : Bool) (hp : p ≤ t.size) : (cuS t p b).2.1 ≤ t.size ∧ (cuS t p b).1.size ≤ t.size := by
  unfold cuS
  split
  · exact ⟨hp, Nat.zero_le _⟩
  · split
    · rename_i h
      exact rsO_le h
    · exact ⟨hp, Nat.zero_le _⟩



end Go.Proofs.Ytjfilicddnhniab

/- Records: what the model's ReadRec hands back. -/
namespace Go.Proofs.Ytjfilicddnhniab
open Go.RowKit

theorem cuV_go {t : ByteArray} {p : Nat} {b : Bool} {n q : Nat} (h : cuV t p b = (n, q, false)) : b = false ∧ rv t.data.toList p = some (n, q) := by
  unfold cuV at h
  cases b with
  | true => simp at h
  | false =>
    rcases hr : rv t.data.toList p with _ | ⟨n', q'⟩
    · simp [hr] at h
    · simp [hr] at h; exact ⟨rfl, by rw [h.1, h.2]⟩
theorem cuV_bad {t : ByteArray} {p : Nat} {n q : Nat} (h : cuV t p false = (n, q, true)) : rv t.data.toList p = none := by
  unfold cuV at h
  rcases hr : rv t.data.toList p with _ | ⟨n', q'⟩
  · rfl
  · simp [hr] at h
theorem cuS_go {t : ByteArray} {p : Nat} {b : Bool} {n : ByteArray} {q : Nat} (h : cuS t p b = (n, q, false)) : b = false ∧ rsO t p = some (n, q) := by
  unfold cuS at h
  cases b with
  | true => simp at h
  | false =>
    rcases hr : rsO t p with _ | ⟨n', q'⟩
    · simp [hr] at h
    · simp [hr] at h; exact ⟨rfl, by rw [h.1, h.2]⟩
theorem cuS_bad {t : ByteArray} {p : Nat} {n : ByteArray} {q : Nat} (h : cuS t p false = (n, q, true)) : rsO t p = none := by
  unfold cuS at h
  rcases hr : rsO t p with _ | ⟨n', q'⟩
  · rfl
  · simp [hr] at h

/-- What the reader has read is the record, unless it is bad. -/
theorem rd_told {t : ByteArray} {k : UInt8} {rest : List UInt8} (hk : t.data.toList = k :: rest) {n1 n2 n3 n4 : Nat} {x5 x6 x7 : ByteArray} {q1 q2 q3 q4 q5 q6 q7 : Nat} {d1 d2 d3 d4 d5 d6 d7 : Bool}
    (h1 : cuV t 1 false = (n1, q1, d1)) (h2 : cuV t q1 d1 = (n2, q2, d2)) (h3 : cuV t q2 d2 = (n3, q3, d3)) (h4 : cuV t q3 d3 = (n4, q4, d4))
    (h5 : cuS t q4 d4 = (x5, q5, d5)) (h6 : cuS t q5 d5 = (x6, q6, d6)) (h7 : cuS t q6 d6 = (x7, q7, d7)) :
    prs t = if d7 = true then none else some ⟨k.toNat, n1, n2, n3, n4, x5, x6, x7⟩ := by
  unfold prs
  cases d1 with
  | true =>
    have e1 := cuV_bad h1
    have : d7 = true := by
      cases d7 with
      | true => rfl
      | false => have a6 := cuS_go h7; have a5 := cuS_go (a6.1 ▸ h6); have a4 := cuS_go (a5.1 ▸ h5); have a3 := cuV_go (a4.1 ▸ h4); have a2 := cuV_go (a3.1 ▸ h3); have a1 := cuV_go (a2.1 ▸ h2); cases a1.1
    simp [hk, this, hk ▸ e1]
  | false =>
  have e1 := (cuV_go h1).2
  cases d2 with
  | true =>
    have e2 := cuV_bad h2
    have : d7 = true := by
      cases d7 with
      | true => rfl
      | false => have a6 := cuS_go h7; have a5 := cuS_go (a6.1 ▸ h6); have a4 := cuS_go (a5.1 ▸ h5); have a3 := cuV_go (a4.1 ▸ h4); have a2 := cuV_go (a3.1 ▸ h3); cases a2.1
    simp [hk, this, hk ▸ e1, hk ▸ e2]
  | false =>
  have e2 := (cuV_go h2).2
  cases d3 with
  | true =>
    have e3 := cuV_bad h3
    have : d7 = true := by
      cases d7 with
      | true => rfl
      | false => have a6 := cuS_go h7; have a5 := cuS_go (a6.1 ▸ h6); have a4 := cuS_go (a5.1 ▸ h5); have a3 := cuV_go (a4.1 ▸ h4); cases a3.1
    simp [hk, this, hk ▸ e1, hk ▸ e2, hk ▸ e3]
  | false =>
  have e3 := (cuV_go h3).2
  cases d4 with
  | true =>
    have e4 := cuV_bad h4
    have : d7 = true := by
      cases d7 with
      | true => rfl
      | false => have a6 := cuS_go h7; have a5 := cuS_go (a6.1 ▸ h6); have a4 := cuS_go (a5.1 ▸ h5); cases a4.1
    simp [hk, this, hk ▸ e1, hk ▸ e2, hk ▸ e3, hk ▸ e4]
  | false =>
  have e4 := (cuV_go h4).2
  cases d5 with
  | true =>
    have e5 := cuS_bad h5
    have : d7 = true := by
      cases d7 with
      | true => rfl
      | false => have a6 := cuS_go h7; have a5 := cuS_go (a6.1 ▸ h6); cases a5.1
    simp [hk, this, hk ▸ e1, hk ▸ e2, hk ▸ e3, hk ▸ e4, e5]
  | false =>
  have e5 := (cuS_go h5).2
  cases d6 with
  | true =>
    have e6 := cuS_bad h6
    have : d7 = true := by
      cases d7 with
      | true => rfl
      | false => have a6 := cuS_go h7; cases a6.1
    simp [hk, this, hk ▸ e1, hk ▸ e2, hk ▸ e3, hk ▸ e4, e5, e6]
  | false =>
  have e6 := (cuS_go h6).2
  cases d7 with
  | true =>
    have e7 := cuS_bad h7
    simp [hk, hk ▸ e1, hk ▸ e2, hk ▸ e3, hk ▸ e4, e5, e6, e7]
  | false =>
    have e7 := (cuS_go h7).2
    simp [hk, hk ▸ e1, hk ▸ e2, hk ▸ e3, hk ▸ e4, e5, e6, e7]

/-- No record. -/
def Rc.nil : Rc := ⟨0, 0, 0, 0, 0, emp, emp, emp⟩
/-- What ReadRec hands back. -/
def rrT (t : ByteArray) : Value := match rrO t with
  | some r => .tuple #[r.v, .bool true]
  | none => .tuple #[Rc.nil.v, .bool false]
theorem rrT_some {t : ByteArray} {r : Rc} (h : rrO t = some r) : rrT t = .tuple #[r.v, .bool true] := by rw [rrT, h]
theorem rrT_none {t : ByteArray} (h : rrO t = none) : rrT t = .tuple #[Rc.nil.v, .bool false] := by rw [rrT, h]
theorem rrO_emp : rrO emp = none := rfl
theorem rrO_bad {t : ByteArray} (h : prs t = none) : rrO t = none := by rw [rrO, h]
theorem rrO_if {t : ByteArray} {r : Rc} (h : prs t = some r) : rrO t = if r.ok ∧ r.tx = t then some r else none := by rw [rrO, h]

def set8 (w : World) (b : Nat) (v0 v1 v2 v3 v4 v5 v6 v7 : Value) : World := (((((((w.setCell ⟨b, 0, none⟩ v0).setCell ⟨b, 1, none⟩ v1).setCell ⟨b, 2, none⟩ v2).setCell ⟨b, 3, none⟩ v3).setCell ⟨b, 4, none⟩ v4).setCell ⟨b, 5, none⟩ v5).setCell ⟨b, 6, none⟩ v6).setCell ⟨b, 7, none⟩ v7
theorem Box.set8 {w : World} {b : Nat} {u0 u1 u2 u3 u4 u5 u6 u7 : Value} {t : TypeId} (h : Box w b #[u0, u1, u2, u3, u4, u5, u6, u7] t) (v0 v1 v2 v3 v4 v5 v6 v7 : Value) : Box (set8 w b v0 v1 v2 v3 v4 v5 v6 v7) b #[v0, v1, v2, v3, v4, v5, v6, v7] t :=
  have a0 : Box (w.setCell ⟨b, 0, none⟩ v0) b #[v0, u1, u2, u3, u4, u5, u6, u7] t := h.set 0 v0
  have a1 : Box ((w.setCell ⟨b, 0, none⟩ v0).setCell ⟨b, 1, none⟩ v1) b #[v0, v1, u2, u3, u4, u5, u6, u7] t := a0.set 1 v1
  have a2 : Box (((w.setCell ⟨b, 0, none⟩ v0).setCell ⟨b, 1, none⟩ v1).setCell ⟨b, 2, none⟩ v2) b #[v0, v1, v2, u3, u4, u5, u6, u7] t := a1.set 2 v2
  have a3 : Box ((((w.setCell ⟨b, 0, none⟩ v0).setCell ⟨b, 1, none⟩ v1).setCell ⟨b, 2, none⟩ v2).setCell ⟨b, 3, none⟩ v3) b #[v0, v1, v2, v3, u4, u5, u6, u7] t := a2.set 3 v3
  have a4 : Box (((((w.setCell ⟨b, 0, none⟩ v0).setCell ⟨b, 1, none⟩ v1).setCell ⟨b, 2, none⟩ v2).setCell ⟨b, 3, none⟩ v3).setCell ⟨b, 4, none⟩ v4) b #[v0, v1, v2, v3, v4, u5, u6, u7] t := a3.set 4 v4
  have a5 : Box ((((((w.setCell ⟨b, 0, none⟩ v0).setCell ⟨b, 1, none⟩ v1).setCell ⟨b, 2, none⟩ v2).setCell ⟨b, 3, none⟩ v3).setCell ⟨b, 4, none⟩ v4).setCell ⟨b, 5, none⟩ v5) b #[v0, v1, v2, v3, v4, v5, u6, u7] t := a4.set 5 v5
  have a6 : Box (((((((w.setCell ⟨b, 0, none⟩ v0).setCell ⟨b, 1, none⟩ v1).setCell ⟨b, 2, none⟩ v2).setCell ⟨b, 3, none⟩ v3).setCell ⟨b, 4, none⟩ v4).setCell ⟨b, 5, none⟩ v5).setCell ⟨b, 6, none⟩ v6) b #[v0, v1, v2, v3, v4, v5, v6, u7] t := a5.set 6 v6
  a6.set 7 v7
theorem below_set8 {B b : Nat} {w0 w : World} (h : Below B w0 w) (hb : B ≤ b) (v0 v1 v2 v3 v4 v5 v6 v7 : Value) : Below B w0 (set8 w b v0 v1 v2 v3 v4 v5 v6 v7) :=
  (((((((h.setCell (p := ⟨b, 0, none⟩) hb v0).setCell (p := ⟨b, 1, none⟩) hb v1).setCell (p := ⟨b, 2, none⟩) hb v2).setCell (p := ⟨b, 3, none⟩) hb v3).setCell (p := ⟨b, 4, none⟩) hb v4).setCell (p := ⟨b, 5, none⟩) hb v5).setCell (p := ⟨b, 6, none⟩) hb v6).setCell (p := ⟨b, 7, none⟩) hb v7
theorem grown_set8 (w : World) (b : Nat) (v0 v1 v2 v3 v4 v5 v6 v7 : Value) : w.grownBy (set8 w b v0 v1 v2 v3 v4 v5 v6 v7) (some b) :=
  (((((((stored_grown w b 0 v0).trans (stored_grown _ b 1 v1)).trans (stored_grown _ b 2 v2)).trans (stored_grown _ b 3 v3)).trans (stored_grown _ b 4 v4)).trans (stored_grown _ b 5 v5)).trans (stored_grown _ b 6 v6)).trans (stored_grown _ b 7 v7)
theorem Box.but {w X : World} {b g : Nat} {cs : Array Value} {t : TypeId} (h : Box w b cs t) (hg : w.grownBy X (some g)) (hne : b ≠ g) : Box X b cs t := (hg.block b h.lt (fun e => hne (Option.some.inj e))).trans h
theorem below_but {w w1 w2 : World} {g : Nat} (hb : Below w.heap.size w w1) (hp : w.heap.size ≤ g) (hg : w1.grownBy w2 (some g)) : Below w.heap.size w w2 :=
  hb.grown hg hb.size (fun k hk => by have := Option.some.inj hk; omega)

theorem Box.eight {w : World} {b : Nat} {u0 u1 u2 u3 u4 u5 u6 u7 : Value} {t : TypeId} (h : Box w b #[u0, u1, u2, u3, u4, u5, u6, u7] t) :
    w.cell? ⟨b, 0, none⟩ = some u0 ∧ w.cell? ⟨b, 1, none⟩ = some u1 ∧ w.cell? ⟨b, 2, none⟩ = some u2 ∧ w.cell? ⟨b, 3, none⟩ = some u3 ∧ w.cell? ⟨b, 4, none⟩ = some u4 ∧ w.cell? ⟨b, 5, none⟩ = some u5 ∧ w.cell? ⟨b, 6, none⟩ = some u6 ∧ w.cell? ⟨b, 7, none⟩ = some u7 ∧
    w.frozen? ⟨b, 0, none⟩ = false ∧ w.frozen? ⟨b, 1, none⟩ = false ∧ w.frozen? ⟨b, 2, none⟩ = false ∧ w.frozen? ⟨b, 3, none⟩ = false ∧ w.frozen? ⟨b, 4, none⟩ = false ∧ w.frozen? ⟨b, 5, none⟩ = false ∧ w.frozen? ⟨b, 6, none⟩ = false ∧ w.frozen? ⟨b, 7, none⟩ = false :=
  ⟨h.cell 0 _ rfl, h.cell 1 _ rfl, h.cell 2 _ rfl, h.cell 3 _ rfl, h.cell 4 _ rfl, h.cell 5 _ rfl, h.cell 6 _ rfl, h.cell 7 _ rfl, h.loose 0, h.loose 1, h.loose 2, h.loose 3, h.loose 4, h.loose 5, h.loose 6, h.loose 7⟩


theorem ba_beq (a b : ByteArray) : (a.toList == b.toList) = decide (a = b) := by
  by_cases h : a = b
  · simp [h]
  · have : ¬ a.toList = b.toList := fun e => h (by rw [Go.ByteArray.toList_eq, Go.ByteArray.toList_eq] at e; obtain ⟨⟨x⟩⟩ := a; obtain ⟨⟨y⟩⟩ := b; simp only at e; rw [e])
    rw [decide_eq_false h]
    simp [this]

/-- The end: what RecText hands back, and what ReadRec makes of it. -/
theorem rd_end {t : ByteArray} {r : Rc} {d : Bool} (h : prs t = if d = true then none else some r) :
    ∃ (bk : ByteArray) (o : Bool), rtT r = .tuple #[.string bk, .bool o] ∧ rrT t = if d = false ∧ o = true ∧ decide (bk = t) = true then .tuple #[r.v, .bool true] else .tuple #[Rc.nil.v, .bool false] := by
  by_cases hok : r.ok
  · refine ⟨r.tx, true, rtT_yes hok, ?_⟩
    cases d with
    | true => rw [rrT_none (rrO_bad h)]; simp
    | false =>
      have h' := rrO_if (show prs t = some r from h)
      by_cases he : r.tx = t
      · rw [if_pos ⟨hok, he⟩] at h'
        rw [rrT_some h', if_pos ⟨rfl, rfl, decide_eq_true he⟩]
      · rw [if_neg (fun c => he c.2)] at h'
        rw [rrT_none h', if_neg (fun c => he (of_decide_eq_true c.2.2))]
  · refine ⟨⟨#[]⟩, false, rtT_no hok, ?_⟩
    rw [if_neg (fun c => by cases c.2.1)]
    cases d with
    | true => exact rrT_none (rrO_bad h)
    | false =>
      have h' := rrO_if (show prs t = some r from h)
      rw [if_neg (fun c => hok c.1)] at h'
      exact rrT_none h'



end Go.Proofs.Ytjfilicddnhniab

/- Frames: what FrameOk hands back, of the model and of the program. -/
namespace Go.Proofs.Ytjfilicddnhniab
open Go.RowKit

/-- A frame as a value. -/
def Fr.v (f : Fr) : Value := .agg #[.int .i64 f.gen, .int .i64 f.seq, .string f.body]
def Fr.numOk (n : Int) : Prop := 1 ≤ n ∧ n ≤ 1000000000
instance (n : Int) : Decidable (Fr.numOk n) := by unfold Fr.numOk; infer_instance

theorem numberOk_any (n : Int) (w : World) : Calls Try.prog 74 #[.int .i64 n] w fun e w' => e = .returned (.bool (decide (Fr.numOk n))) ∧ w = w' := by
  by_cases h1 : 1 ≤ n
  · by_cases h2 : n ≤ 1000000000
    all_goals
      have e : decide (Fr.numOk n) = decide (n ≤ 1000000000) := by simp [Fr.numOk, h1]
      rw [e]
      go_enter Try.func74, Try.ntmps74
      go_wp2
      go_ret
      simp [h2]
  · have e : decide (Fr.numOk n) = false := by simp [Fr.numOk, h1]
    rw [e]
    go_enter Try.func74, Try.ntmps74
    go_wp2
    go_ret
    simp


theorem in_any (x a b : Int) (w : World) :
    Calls Try.prog 41 #[.int .i64 x, .int .i64 a, .int .i64 b] w fun e w' => e = .returned (.bool (decide (a ≤ x ∧ x ≤ b))) ∧ w = w' := by
  refine (l01In_any x a b w).mono ?_
  rintro e w' ⟨rfl, rfl⟩
  exact ⟨by simp, rfl⟩


end Go.Proofs.Ytjfilicddnhniab

/- Items: what the model's ItemFrame and FrameItem hand back. -/
namespace Go.Proofs.Ytjfilicddnhniab
open Go.RowKit

/-- An item's value: its number and its record's cells. -/
def itV (seq : Int) (r : Rc) : Value := .agg #[.int .i64 seq, .int .i64 r.kind, .int .i64 r.valid, .int .i64 r.uid, .int .i64 r.next, .int .i64 r.flags, .string r.user, .string r.name, .string r.text]
/-- What ItemFrame hands back. -/
def ifT (seq : Int) (r : Rc) (gen : Int) : Value :=
  if r.ok ∧ (⟨gen, seq, r.tx⟩ : Fr).ok then .tuple #[(⟨gen, seq, r.tx⟩ : Fr).v, .bool true] else .tuple #[.agg #[.int .i64 0, .int .i64 0, .string ⟨#[]⟩], .bool false]
theorem ifT_yes {seq : Int} {r : Rc} {gen : Int} (h : r.ok) (h2 : (⟨gen, seq, r.tx⟩ : Fr).ok) : ifT seq r gen = .tuple #[(⟨gen, seq, r.tx⟩ : Fr).v, .bool true] := if_pos ⟨h, h2⟩
theorem ifT_no {seq : Int} {r : Rc} {gen : Int} (h : ¬ (r.ok ∧ (⟨gen, seq, r.tx⟩ : Fr).ok)) : ifT seq r gen = .tuple #[.agg #[.int .i64 0, .int .i64 0, .string ⟨#[]⟩], .bool false] := if_neg h


/-- What FrameItem hands back. -/
def fiT (f : Fr) : Value := if f.ok then (match rrO f.body with
  | some r => .tuple #[itV f.seq r, .bool true]
  | none => .tuple #[itV 0 Rc.nil, .bool false]) else .tuple #[itV 0 Rc.nil, .bool false]
theorem fiT_out {f : Fr} (h : ¬ f.ok) : fiT f = .tuple #[itV 0 Rc.nil, .bool false] := if_neg h
theorem fiT_none {f : Fr} (h : rrO f.body = none) : fiT f = .tuple #[itV 0 Rc.nil, .bool false] := by
  unfold fiT; rw [h]; exact ite_self _
theorem fiT_some {f : Fr} {r : Rc} (h : f.ok) (hr : rrO f.body = some r) : fiT f = .tuple #[itV f.seq r, .bool true] := by
  unfold fiT; rw [hr, if_pos h]

theorem Box.nine {w : World} {b : Nat} {u0 u1 u2 u3 u4 u5 u6 u7 u8 : Value} {t : TypeId} (h : Box w b #[u0, u1, u2, u3, u4, u5, u6, u7, u8] t) :
    w.cell? ⟨b, 0, none⟩ = some u0 ∧ w.cell? ⟨b, 1, none⟩ = some u1 ∧ w.cell? ⟨b, 2, none⟩ = some u2 ∧ w.cell? ⟨b, 3, none⟩ = some u3 ∧ w.cell? ⟨b, 4, none⟩ = some u4 ∧ w.cell? ⟨b, 5, none⟩ = some u5 ∧ w.cell? ⟨b, 6, none⟩ = some u6 ∧ w.cell? ⟨b, 7, none⟩ = some u7 ∧ w.cell? ⟨b, 8, none⟩ = some u8 ∧
    w.frozen? ⟨b, 0, none⟩ = false ∧ w.frozen? ⟨b, 1, none⟩ = false ∧ w.frozen? ⟨b, 2, none⟩ = false ∧ w.frozen? ⟨b, 3, none⟩ = false ∧ w.frozen? ⟨b, 4, none⟩ = false ∧ w.frozen? ⟨b, 5, none⟩ = false ∧ w.frozen? ⟨b, 6, none⟩ = false ∧ w.frozen? ⟨b, 7, none⟩ = false ∧ w.frozen? ⟨b, 8, none⟩ = false :=
  ⟨h.cell 0 _ rfl, h.cell 1 _ rfl, h.cell 2 _ rfl, h.cell 3 _ rfl, h.cell 4 _ rfl, h.cell 5 _ rfl, h.cell 6 _ rfl, h.cell 7 _ rfl, h.cell 8 _ rfl, h.loose 0, h.loose 1, h.loose 2, h.loose 3, h.loose 4, h.loose 5, h.loose 6, h.loose 7, h.loose 8⟩
theorem below_set9 {B b : Nat} {w0 w : World} (h : Below B w0 w) (hb : B ≤ b) (v0 v1 v2 v3 v4 v5 v6 v7 v8 : Value) : Below B w0 ((set8 w b v0 v1 v2 v3 v4 v5 v6 v7).setCell ⟨b, 8, none⟩ v8) :=
  (below_set8 h hb v0 v1 v2 v3 v4 v5 v6 v7).setCell (p := ⟨b, 8, none⟩) hb v8



end Go.Proofs.Ytjfilicddnhniab

/- Lists that can be read, and lists put anew element by element. -/
namespace Go.Proofs.Ytjfilicddnhniab
open Go.RowKit

theorem Rows'.ways {α : Type} {E : Enc α} {w : World} {v : Value} {l : List α} (h : Rows' E w v l) : (l = [] ∧ ∃ (a : Option Addr) (cap : Nat), v = .slice a 0 cap) ∨
    (l ≠ [] ∧ ∃ g off cap : Nat, v = .slice (some ⟨g, off, none⟩) l.length cap ∧ l.length ≤ cap ∧ g < w.heap.size ∧ ∀ j x, l[j]? = some x → ∀ k u, (E.f x)[k]? = some u → w.cell? ⟨g, off + j * E.sz + k, none⟩ = some u) := by
  by_cases hl : l = []
  · subst hl
    rcases h with h | ⟨g, off, cap, hv, _⟩
    · exact .inl h
    · exact .inl ⟨rfl, _, _, hv⟩
  · rcases h with ⟨h, _⟩ | h
    · exact absurd h hl
    · exact .inr ⟨hl, h⟩

theorem grownBy_of_below {w w' : World} (hb : Below w.heap.size w w') (r : Option Nat) : w.grownBy w' r := ⟨hb.os, hb.tape, hb.output, hb.size, fun k hk _ => hb.block k hk⟩

theorem grownBy_store (w : World) (g i : Nat) (v : Value) : w.grownBy (w.setCell ⟨g, i, none⟩ v) (some g) :=
  have b := (Below.refl 0 w).setCell (p := ⟨g, i, none⟩) (Nat.zero_le _) v
  ⟨b.os, b.tape, b.output, b.size, fun k _ hne => Below.heap_setCell w _ _ _ (fun e => hne (by rw [e]))⟩

/-- The first i elements of l put anew. -/
def putTo {α : Type} (m : Nat → α) (l : List α) (i : Nat) : List α := (List.range i).map m ++ l.drop i
theorem putTo_length {α : Type} {m : Nat → α} {i : Nat} {l : List α} (h : i ≤ l.length) : (putTo m l i).length = l.length := by simp [putTo]; omega
theorem putTo_set {α : Type} {m : Nat → α} {i : Nat} {l : List α} (h : i < l.length) : (putTo m l i).set i (m i) = putTo m l (i + 1) := by
  unfold putTo
  rw [List.set_append_right _ _ (by simp)]
  simp only [List.length_map, List.length_range, Nat.sub_self]
  rw [List.drop_eq_getElem_cons h, List.set_cons_zero, List.range_succ, List.map_append, List.append_assoc]
  rfl
theorem putTo_zero {α : Type} (m : Nat → α) (l : List α) : putTo m l 0 = l := by simp [putTo]
theorem putTo_all {α : Type} (m : Nat → α) (l : List α) : putTo m l l.length = (List.range l.length).map m := by simp [putTo]
theorem putTo_at {α : Type} {m : Nat → α} {i : Nat} {l : List α} (h : i < l.length) : (putTo m l i)[i]? = some l[i] := by
  unfold putTo
  rw [List.getElem?_append_right (by simp)]
  simp [h]

end Go.Proofs.Ytjfilicddnhniab

/- How items lie in memory. -/
namespace Go.Proofs.Ytjfilicddnhniab
open Go.RowKit

def itE : Enc Itm where
  ty := 79
  sty := 37
  sz := 9
  bytes := 96
  zero := .agg #[.int .i64 0, .int .i64 0, .int .i64 0, .int .i64 0, .int .i64 0, .int .i64 0, .string ⟨#[]⟩, .string ⟨#[]⟩, .string ⟨#[]⟩]
  f := fun x => [.int .i64 x.1, .int .i64 x.2.kind, .int .i64 x.2.valid, .int .i64 x.2.uid, .int .i64 x.2.next, .int .i64 x.2.flags, .string x.2.user, .string x.2.name, .string x.2.text]
  len := fun _ => rfl
  pos := by decide
  one := fun _ u hu => by simp at hu; rcases hu with rfl | rfl | rfl | rfl | rfl | rfl | rfl | rfl | rfl <;> rfl
  und := Try.underlying37
  info := by kernel_rfl
  zc := rfl
  z0 := (0, Rc.nil)
  zf := rfl

/-- The nine cells of an item. -/
theorem it_cells {w w' : World} {g off : Nat} {l : List Itm} (hc : ∀ j x, l[j]? = some x → ∀ k u, (itE.f x)[k]? = some u → w.cell? ⟨g, off + j * itE.sz + k, none⟩ = some u)
    (hg : g < w.heap.size) (hb : Below w.heap.size w w') (i : Nat) (x : Itm) (hi : l[i]? = some x) :
    w'.cell? ⟨g, off + i * 9, none⟩ = some (.int .i64 x.1) ∧ w'.cell? ⟨g, off + i * 9 + 1, none⟩ = some (.int .i64 x.2.kind) ∧ w'.cell? ⟨g, off + i * 9 + 2, none⟩ = some (.int .i64 x.2.valid) ∧ w'.cell? ⟨g, off + i * 9 + 3, none⟩ = some (.int .i64 x.2.uid) ∧ w'.cell? ⟨g, off + i * 9 + 4, none⟩ = some (.int .i64 x.2.next) ∧
    w'.cell? ⟨g, off + i * 9 + 5, none⟩ = some (.int .i64 x.2.flags) ∧ w'.cell? ⟨g, off + i * 9 + 6, none⟩ = some (.string x.2.user) ∧ w'.cell? ⟨g, off + i * 9 + 7, none⟩ = some (.string x.2.name) ∧ w'.cell? ⟨g, off + i * 9 + 8, none⟩ = some (.string x.2.text) := by
  have h : ∀ k u, (itE.f x)[k]? = some u → w'.cell? ⟨g, off + i * 9 + k, none⟩ = some u := fun k u hu => (hb.cell (p := ⟨g, off + i * 9 + k, none⟩) hg).trans (hc i x hi k u hu)
  exact ⟨h 0 _ rfl, h 1 _ rfl, h 2 _ rfl, h 3 _ rfl, h 4 _ rfl, h 5 _ rfl, h 6 _ rfl, h 7 _ rfl, h 8 _ rfl⟩

end Go.Proofs.Ytjfilicddnhniab

/- How mails lie in memory. -/
namespace Go.Proofs.Ytjfilicddnhniab
open Go.RowKit

def mlE : Enc Ml where
  ty := 59
  sty := 55
  sz := 3
  bytes := 32
  zero := .agg #[.int .i64 0, .int .i64 0, .string ⟨#[]⟩]
  f := fun x => [.int .i64 x.uid, .int .i64 x.flags, .string x.text]
  len := fun _ => rfl
  pos := by decide
  one := fun _ u hu => by simp at hu; rcases hu with rfl | rfl | rfl <;> rfl
  und := Try.underlying55
  info := by kernel_rfl
  zc := rfl
  z0 := ⟨0, 0, ⟨#[]⟩⟩
  zf := rfl

end Go.Proofs.Ytjfilicddnhniab

/- The helpers of the exact laws over lists of mails: two alike are alike; each is marked, and the marks are held. -/
namespace Go.Proofs.Ytjfilicddnhniab
open Go.RowKit

def Ml.v (f : Ml) : Value := .agg #[.int .i64 f.uid, .int .i64 f.flags, .string f.text]
set_option maxRecDepth 100000 in
theorem eqMail_same (f : Ml) (w : World) : Calls Try.prog 109 #[f.v, f.v] w fun e w' => e = .returned (.bool true) ∧ Below w.heap.size w w' := by
  unfold Ml.v
  go_enter Try.func109, Try.ntmps109
  go_wp2
  go_ret
  exact ⟨rfl, ((Below.refl _ _).alloc (Nat.le_refl _) _).alloc (by simp) _⟩

/-- The three cells of a mail. -/
theorem ml_cells {w w' : World} {g off : Nat} {l : List Ml} (hc : ∀ j x, l[j]? = some x → ∀ k u, (mlE.f x)[k]? = some u → w.cell? ⟨g, off + j * mlE.sz + k, none⟩ = some u)
    (hg : g < w.heap.size) (hb : Below w.heap.size w w') (i : Nat) (x : Ml) (hi : l[i]? = some x) :
    w'.cell? ⟨g, off + i * 3, none⟩ = some (.int .i64 x.uid) ∧ w'.cell? ⟨g, off + i * 3 + 1, none⟩ = some (.int .i64 x.flags) ∧ w'.cell? ⟨g, off + i * 3 + 2, none⟩ = some (.string x.text) := by
  have h0 := hc i x hi 0 (.int .i64 x.uid) rfl
  have h1 := hc i x hi 1 (.int .i64 x.flags) rfl
  have h2 := hc i x hi 2 (.string x.text) rfl
  exact ⟨(hb.cell (p := ⟨g, off + i * 3, none⟩) hg).trans h0, (hb.cell (p := ⟨g, off + i * 3 + 1, none⟩) hg).trans h1, (hb.cell (p := ⟨g, off + i * 3 + 2, none⟩) hg).trans h2⟩

set_option maxRecDepth 100000 in
set_option maxHeartbeats 1000000 in
theorem eqMailS_same (l : List Ml) (va vb : Value) (w : World) (ha : Rows' mlE w va l) (hb : Rows' mlE w vb l) (hl : l.length ≤ 1099511627776) :
    Calls Try.prog 96 #[va, vb] w fun e w' => e = .returned (.bool true) ∧ Below w.heap.size w w' := by
  rcases ha.ways with ⟨rfl, a, c, rfl⟩ | ⟨hne, ga, oa, ca, rfl, hca, hga, hcla⟩
  · rcases hb.ways with ⟨_, b, d, rfl⟩ | ⟨hne, _⟩
    · clear ha hb
      go_enter Try.func96, Try.ntmps96
      go_wp2
      go_loop [5] (fun iv => iv = .int .i64 0) (fun _ => 0)
      case atStart => rfl
      case round =>
        obtain rfl := hrel
        go_wp2
        go_ret
        exact ⟨rfl, Below.refl _ _⟩
    · exact absurd rfl hne
  · rcases hb.ways with ⟨e, _⟩ | ⟨_, gb, ob, cb, rfl, hcb, hgb, hclb⟩
    · exact absurd e hne
    · clear ha hb
      have HA := Lib.hid hcla
      have HB := Lib.hid hclb
      clear hcla hclb
      go_enter Try.func96, Try.ntmps96
      go_wp2
      go_loopw [5] (fun iv wr => ∃ i : Nat, i ≤ l.length ∧ iv = .int .i64 (i : Int) ∧ Below w.heap.size w wr) (fun iv _ => l.length - (intOf iv).toNat)
      case atStart => exact ⟨0, by omega, rfl, Below.refl _ _⟩
      case round =>
        obtain ⟨i, hi, rfl, hbel⟩ := hrel
        by_cases hlt : i < l.length
        · have hg : l[i]? = some l[i] := List.getElem?_eq_getElem hlt
          obtain ⟨a0, a1, a2⟩ := ml_cells HA.out hga hbel i _ hg
          obtain ⟨b0, b1, b2⟩ := ml_cells HB.out hgb hbel i _ hg
          generalize hft : l[i] = f at *
          have hi0 : (0 : Int) ≤ (i : Int) := by omega
          have hi1 : (i : Int) < (l.length : Int) := by omega
          have HS : Hid (∀ w', Below wr.drew.heap.size wr.drew w' → w'.cell? ⟨ga, oa + i * 3, none⟩ = some (.int .i64 f.uid) ∧ w'.cell? ⟨ga, oa + i * 3 + 1, none⟩ = some (.int .i64 f.flags) ∧ w'.cell? ⟨ga, oa + i * 3 + 2, none⟩ = some (.string f.text) ∧ w'.cell? ⟨gb, ob + i * 3, none⟩ = some (.int .i64 f.uid) ∧ w'.cell? ⟨gb, ob + i * 3 + 1, none⟩ = some (.int .i64 f.flags) ∧ w'.cell? ⟨gb, ob + i * 3 + 2, none⟩ = some (.string f.text)) := by
            intro w' hw
            have hw2 : Below w.heap.size w w' := hbel.drew.trans (hw.mono hbel.size)
            obtain ⟨a0, a1, a2⟩ := ml_cells HA.out hga hw2 i _ hg
            obtain ⟨b0, b1, b2⟩ := ml_cells HB.out hgb hw2 i _ hg
            exact ⟨a0, a1, a2, b0, b1, b2⟩
          clear hg hft
          have hE := fun wx => eqMail_same f wx
          unfold Ml.v at hE
          have HE := Lib.hid hE
          clear hE
          go_wp2
          go_region_held3 (fun w' => w'.cell? ⟨ga, oa + i * 3, none⟩ = some (.int .i64 f.uid) ∧ w'.cell? ⟨ga, oa + i * 3 + 1, none⟩ = some (.int .i64 f.flags) ∧ w'.cell? ⟨ga, oa + i * 3 + 2, none⟩ = some (.string f.text) ∧ w'.cell? ⟨gb, ob + i * 3, none⟩ = some (.int .i64 f.uid) ∧ w'.cell? ⟨gb, ob + i * 3 + 1, none⟩ = some (.int .i64 f.flags) ∧ w'.cell? ⟨gb, ob + i * 3 + 2, none⟩ = some (.string f.text))
            (first | go_keep | exact HS.out _ hb1)
            (first | (go_at_call 109; refine (HE.out _).mono ?_; rintro e w1 ⟨rfl, hb1⟩))
          all_goals
            go_wp2
            go_roundw
            case rel => exact ⟨i + 1, by omega, by go_num, hbel.drew.trans (hb1.mono hbel.size)⟩
            case measure => simp [intOf]; omega
        · go_wp2
          go_ret
          exact ⟨rfl, hbel⟩

/-- The marks of a list of frames. -/
def markL (k : Nat) (j : Nat) : Ml := ⟨((k + 3 * j : Nat) : Int), ((k + 3 * j + 1 : Nat) : Int), mark (k + 3 * j + 2)⟩
def marksL (k n : Nat) : List Ml := (List.range n).map (markL k)
theorem marksL_length (k n : Nat) : (marksL k n).length = n := by simp [marksL]
theorem marksL_at {k n i : Nat} (h : i < n) : (marksL k n)[i]? = some (markL k i) := by simp [marksL, h]



end Go.Proofs.Ytjfilicddnhniab

/- How boxes lie in memory: a row of boxes, each with a row of mails of its own. -/
namespace Go.Proofs.Ytjfilicddnhniab
open Go.RowKit

/-- A box as it lies in its row: its mails are a slice. -/
structure BxH where
  valid : Int
  user : ByteArray
  name : ByteArray
  next : Int
  a : Option Addr
  n : Nat
  c : Nat
def BxH.mv (h : BxH) : Value := .slice h.a h.n h.c

def hdE : Enc BxH where
  ty := 57
  sty := 27
  sz := 5
  bytes := 72
  zero := .agg #[.int .i64 0, .string ⟨#[]⟩, .string ⟨#[]⟩, .int .i64 0, .slice none 0 0]
  f := fun x => [.int .i64 x.valid, .string x.user, .string x.name, .int .i64 x.next, .slice x.a x.n x.c]
  len := fun _ => rfl
  pos := by decide
  one := fun _ u hu => by simp at hu; rcases hu with rfl | rfl | rfl | rfl | rfl <;> rfl
  und := Try.underlying27
  info := by kernel_rfl
  zc := rfl
  z0 := ⟨0, ⟨#[]⟩, ⟨#[]⟩, 0, none, 0, 0⟩
  zf := rfl

/-- Boxes in memory of their own (blocks from B on): the row, and the mails of each, all apart. -/
structure StO (B : Nat) (w : World) (v : Value) (bs : List Bx) (hs : List BxH) : Prop where
  row : RBuf hdE B w w v hs
  len : hs.length = bs.length
  at' : ∀ (j : Nat) (h : BxH) (b : Bx), hs[j]? = some h → bs[j]? = some b → (h.valid = b.valid ∧ h.user = b.user ∧ h.name = b.name ∧ h.next = b.next) ∧ RBuf mlE B w w h.mv b.mails
  far : ∀ (j : Nat) (h : BxH), hs[j]? = some h → ∀ k, h.mv.ownBlock = some k → v.ownBlock ≠ some k
  apart : ∀ (i j : Nat) (h h' : BxH), hs[i]? = some h → hs[j]? = some h' → i ≠ j → ∀ k, h.mv.ownBlock = some k → h'.mv.ownBlock ≠ some k

theorem RBuf.here' {α : Type} {E : Enc α} {B : Nat} {w0 w w' : World} {v : Value} {l : List α} (h : RBuf E B w0 w v l) (hb : Below w.heap.size w w') : RBuf E B w' w' v l := (h.later hb).here
theorem StO.later {B : Nat} {w w' : World} {v : Value} {bs : List Bx} {hs : List BxH} (h : StO B w v bs hs) (hb : Below w.heap.size w w') : StO B w' v bs hs :=
  ⟨h.row.here' hb, h.len, fun j x b h1 h2 => ⟨(h.at' j x b h1 h2).1, (h.at' j x b h1 h2).2.here' hb⟩, h.far, h.apart⟩
theorem StO.nil (w : World) : StO w.heap.size w (.slice none 0 0) [] [] :=
  ⟨RBuf.nil hdE w, rfl, fun j h b h1 => by simp at h1, fun j h h1 => by simp at h1, fun i j h h' h1 => by simp at h1⟩
/-- The mails of a box lie below the heap's end. -/
theorem StO.lt {B : Nat} {w : World} {v : Value} {bs : List Bx} {hs : List BxH} (h : StO B w v bs hs) {j : Nat} {x : BxH} (hj : hs[j]? = some x) {k : Nat} (hk : x.mv.ownBlock = some k) : k < w.heap.size := by
  have hl : j < hs.length := (List.getElem?_eq_some_iff.1 hj).1
  have hb : bs[j]? = some (bs[j]'(by rw [← h.len]; exact hl)) := List.getElem?_eq_getElem _
  exact ((h.at' j x _ hj hb).2.own.lt k hk).2

/-- One box more: it was appended, its mails lying in memory of their own. -/
theorem StO.push {B : Nat} {w w' : World} {v v' : Value} {bs : List Bx} {hs : List BxH} (h : StO B w v bs hs) (b : Bx) (x : BxH)
    (hx : x.valid = b.valid ∧ x.user = b.user ∧ x.name = b.name ∧ x.next = b.next) (hm : RBuf mlE B w w x.mv b.mails)
    (hv : ∀ k, x.mv.ownBlock = some k → v.ownBlock ≠ some k) (ho : ∀ (j : Nat) (y : BxH), hs[j]? = some y → ∀ k, y.mv.ownBlock = some k → x.mv.ownBlock ≠ some k)
    (hr : RBuf hdE B w' w' v' (hs ++ [x])) (hg : w.grownBy w' v.ownBlock) (ha : v'.ownBlock = v.ownBlock ∨ v'.ownBlock = some w.heap.size) : StO B w' v' (bs ++ [b]) (hs ++ [x]) := by
  have kept : ∀ (m : Value) (l : List Ml), RBuf mlE B w w m l → (∀ k, m.ownBlock = some k → v.ownBlock ≠ some k) → RBuf mlE B w' w' m l := fun m l hm hf => by
    refine hm.shift hg ?_
    cases hmb : m.ownBlock with
    | none => exact .inl rfl
    | some k => exact .inr (fun e => hf k hmb e.symm)
  have old : ∀ {j : Nat} {y : BxH}, (hs ++ [x])[j]? = some y → (hs[j]? = some y ∧ j < hs.length) ∨ (j = hs.length ∧ y = x) := fun {j y} hj => by
    by_cases c : j < hs.length
    · rw [List.getElem?_append_left c] at hj
      exact .inl ⟨hj, c⟩
    · rw [List.getElem?_append_right (by omega)] at hj
      have hj0 : j - hs.length = 0 := by
        have := (List.getElem?_eq_some_iff.1 hj).1
        simp at this; omega
      rw [hj0] at hj
      simp at hj
      exact .inr ⟨by omega, hj.symm⟩
  have hvlt : ∀ {k : Nat}, x.mv.ownBlock = some k → k < w.heap.size := fun {k} hk => (hm.own.lt k hk).2
  refine ⟨hr, by simp [h.len], fun j y c h1 h2 => ?_, fun j y h1 k hk => ?_, fun i j y z h1 h2 hij k hk => ?_⟩
  · rcases old h1 with ⟨h3, hl⟩ | ⟨rfl, rfl⟩
    · rw [List.getElem?_append_left (by rw [← h.len]; exact hl)] at h2
      exact ⟨(h.at' j y c h3 h2).1, kept _ _ (h.at' j y c h3 h2).2 (h.far j y h3)⟩
    · rw [List.getElem?_append_right (by rw [h.len]; omega), h.len] at h2
      simp at h2
      subst h2
      exact ⟨hx, kept _ _ hm hv⟩
  · rcases old h1 with ⟨h3, _⟩ | ⟨_, rfl⟩
    · rcases ha with e | e
      · rw [e]; exact h.far j y h3 k hk
      · rw [e]; intro e2; have := h.lt h3 hk; have := Option.some.inj e2; omega
    · rcases ha with e | e
      · rw [e]; exact hv k hk
      · rw [e]; intro e2; have := hvlt hk; have := Option.some.inj e2; omega
  · rcases old h1 with ⟨h3, hl3⟩ | ⟨ei, rfl⟩
    · rcases old h2 with ⟨h4, _⟩ | ⟨_, rfl⟩
      · exact h.apart i j y z h3 h4 hij k hk
      · exact ho i y h3 k hk
    · rcases old h2 with ⟨h4, _⟩ | ⟨ej, _⟩
      · intro e; exact ho j z h4 k e hk
      · omega

end Go.Proofs.Ytjfilicddnhniab

/- The helpers of the exact laws over boxes and states: two alike are alike. -/
namespace Go.Proofs.Ytjfilicddnhniab
open Go.RowKit

/-- Boxes that can be read. -/
def BRd (w : World) (v : Value) (bs : List Bx) : Prop := ∃ hs : List BxH, Rows' hdE w v hs ∧ hs.length = bs.length ∧
  ∀ (j : Nat) (h : BxH) (b : Bx), hs[j]? = some h → bs[j]? = some b → (h.valid = b.valid ∧ h.user = b.user ∧ h.name = b.name ∧ h.next = b.next) ∧ Rows' mlE w h.mv b.mails
theorem StO.rd {B : Nat} {w : World} {v : Value} {bs : List Bx} {hs : List BxH} (h : StO B w v bs hs) : BRd w v bs :=
  ⟨hs, h.row.rows, h.len, fun j x b h1 h2 => ⟨(h.at' j x b h1 h2).1, (h.at' j x b h1 h2).2.rows⟩⟩
theorem BRd.later {w w' : World} {v : Value} {bs : List Bx} (h : BRd w v bs) (hb : Below w.heap.size w w') : BRd w' v bs := by
  obtain ⟨hs, h1, h2, h3⟩ := h
  exact ⟨hs, h1.later hb, h2, fun j x b e1 e2 => ⟨(h3 j x b e1 e2).1, (h3 j x b e1 e2).2.later hb⟩⟩
/-- As a loop reads them. -/
theorem BRd.boxes {w : World} {v : Value} {bs : List Bx} (h : BRd w v bs) : ∃ (ad : Option Addr) (cap : Nat), v = .slice ad bs.length cap ∧ ∀ X, Below w.heap.size w X → ∀ (i : Nat) (b : Bx), bs[i]? = some b → ∃ (g off : Nat) (a : Option Addr) (n c : Nat), ad = some ⟨g, off, none⟩ ∧
    X.cell? ⟨g, off + i * 5, none⟩ = some (.int .i64 b.valid) ∧ X.cell? ⟨g, off + i * 5 + 1, none⟩ = some (.string b.user) ∧ X.cell? ⟨g, off + i * 5 + 2, none⟩ = some (.string b.name) ∧ X.cell? ⟨g, off + i * 5 + 3, none⟩ = some (.int .i64 b.next) ∧ X.cell? ⟨g, off + i * 5 + 4, none⟩ = some (.slice a n c) ∧ Rows' mlE w (.slice a n c) b.mails := by
  obtain ⟨hs, h1, h2, h3⟩ := h
  rcases h1.ways with ⟨rfl, a, c, rfl⟩ | ⟨hne, g, off, c, rfl, hc, hg, hcl⟩
  · have : bs = [] := by rw [← List.length_eq_zero_iff, ← h2]; rfl
    subst this
    exact ⟨a, c, rfl, fun X _ i b hi => by cases hi⟩
  · refine ⟨_, c, by rw [h2], fun X hb i b hi => ?_⟩
    have hl : i < hs.length := by rw [h2]; exact (List.getElem?_eq_some_iff.1 hi).1
    have hx : hs[i]? = some hs[i] := List.getElem?_eq_getElem hl
    obtain ⟨⟨e1, e2, e3, e4⟩, hm⟩ := h3 i _ b hx hi
    have hk : ∀ k u, (hdE.f hs[i])[k]? = some u → X.cell? ⟨g, off + i * 5 + k, none⟩ = some u := fun k u hu => (hb.cell (p := ⟨g, off + i * 5 + k, none⟩) hg).trans (hcl i _ hx k u hu)
    refine ⟨g, off, hs[i].a, hs[i].n, hs[i].c, rfl, ?_, ?_, ?_, ?_, hk 4 _ rfl, hm⟩
    · rw [← e1]; exact hk 0 _ rfl
    · rw [← e2]; exact hk 1 _ rfl
    · rw [← e3]; exact hk 2 _ rfl
    · rw [← e4]; exact hk 3 _ rfl

set_option maxRecDepth 100000 in
set_option maxHeartbeats 1000000 in
theorem eqBox_same (b : Bx) (a1 a2 : Option Addr) (n1 n2 c1 c2 : Nat) (w : World) (ha : Rows' mlE w (.slice a1 n1 c1) b.mails) (hb : Rows' mlE w (.slice a2 n2 c2) b.mails) (hl : b.mails.length ≤ 1099511627776) :
    Calls Try.prog 62 #[.agg #[.int .i64 b.valid, .string b.user, .string b.name, .int .i64 b.next, .slice a1 n1 c1], .agg #[.int .i64 b.valid, .string b.user, .string b.name, .int .i64 b.next, .slice a2 n2 c2]] w fun e w' => e = .returned (.bool true) ∧ Below w.heap.size w w' := by
  have b1 : Below w.heap.size w ((w.alloc (.cells #[.int .i64 b.valid, .string b.user, .string b.name, .int .i64 b.next, .slice a1 n1 c1] 57)).alloc (.cells #[.int .i64 b.valid, .string b.user, .string b.name, .int .i64 b.next, .slice a2 n2 c2] 57)) := ((Below.refl _ _).alloc (Nat.le_refl _) _).alloc (by simp) _
  have HE := Lib.hid (fun wx (hx : Below w.heap.size w wx) => eqMailS_same b.mails _ _ wx (ha.later hx) (hb.later hx) hl)
  clear ha hb
  go_enter Try.func62, Try.ntmps62
  go_wp2_with (go_at_call 96; refine (HE.out _ b1).mono ?_; rintro e w1 ⟨rfl, k1⟩)
  go_ret
  exact ⟨rfl, b1.trans (k1.mono b1.size)⟩

set_option maxRecDepth 100000 in
set_option maxHeartbeats 2000000 in
theorem eqBoxS_same (bs : List Bx) (va vb : Value) (w : World) (ha : BRd w va bs) (hb : BRd w vb bs) (hl : bs.length ≤ 1099511627776) (hm : ∀ b ∈ bs, b.mails.length ≤ 1099511627776) :
    Calls Try.prog 40 #[va, vb] w fun e w' => e = .returned (.bool true) ∧ Below w.heap.size w w' := by
  obtain ⟨ad, cap, rfl, hrowa⟩ := ha.boxes
  obtain ⟨ad2, cap2, rfl, hrowb⟩ := hb.boxes
  have HA := Lib.hid hrowa
  have HB := Lib.hid hrowb
  have HM := Lib.hid hm
  clear ha hb hrowa hrowb hm
  go_enter Try.func40, Try.ntmps40
  go_wp2
  go_loopw [5] (fun iv wr => ∃ i : Nat, i ≤ bs.length ∧ iv = .int .i64 (i : Int) ∧ Below w.heap.size w wr) (fun iv _ => bs.length - (intOf iv).toNat)
  case atStart => exact ⟨0, by omega, rfl, Below.refl _ _⟩
  case round =>
    obtain ⟨i, hi, rfl, hbel⟩ := hrel
    by_cases hlt : i < bs.length
    · have hg : bs[i]? = some bs[i] := List.getElem?_eq_getElem hlt
      have hbd : Below w.heap.size w wr.drew := hbel.drew
      obtain ⟨ga, oa, a1, n1, c1, rfl, p0, p1, p2, p3, p4, ra⟩ := HA.out _ hbd i _ hg
      obtain ⟨gb, ob, a2, n2, c2, rfl, q0, q1, q2, q3, q4, rb⟩ := HB.out _ hbd i _ hg
      have hml := HM.out bs[i] (List.getElem_mem hlt)
      have HS : Hid (∀ X, Below wr.drew.heap.size wr.drew X → X.cell? ⟨ga, oa + i * 5, none⟩ = some (.int .i64 bs[i].valid) ∧ X.cell? ⟨ga, oa + i * 5 + 1, none⟩ = some (.string bs[i].user) ∧ X.cell? ⟨ga, oa + i * 5 + 2, none⟩ = some (.string bs[i].name) ∧ X.cell? ⟨ga, oa + i * 5 + 3, none⟩ = some (.int .i64 bs[i].next) ∧ X.cell? ⟨ga, oa + i * 5 + 4, none⟩ = some (.slice a1 n1 c1) ∧
          X.cell? ⟨gb, ob + i * 5, none⟩ = some (.int .i64 bs[i].valid) ∧ X.cell? ⟨gb, ob + i * 5 + 1, none⟩ = some (.string bs[i].user) ∧ X.cell? ⟨gb, ob + i * 5 + 2, none⟩ = some (.string bs[i].name) ∧ X.cell? ⟨gb, ob + i * 5 + 3, none⟩ = some (.int .i64 bs[i].next) ∧ X.cell? ⟨gb, ob + i * 5 + 4, none⟩ = some (.slice a2 n2 c2)) := by
        intro X hX
        have cc : ∀ {g o : Nat} {u : Value}, wr.drew.cell? ⟨g, o, none⟩ = some u → X.cell? ⟨g, o, none⟩ = some u := fun {g o u} h => (hX.cell (p := ⟨g, o, none⟩) (World.block_lt_of_cell? _ _ h)).trans h
        exact ⟨cc p0, cc p1, cc p2, cc p3, cc p4, cc q0, cc q1, cc q2, cc q3, cc q4⟩
      have HE := Lib.hid (fun wx (hx : Below w.heap.size w wx) => eqBox_same bs[i] a1 a2 n1 n2 c1 c2 wx (ra.later hx) (rb.later hx) hml)
      generalize bs[i] = b at *
      have hi0 : (0 : Int) ≤ (i : Int) := by omega
      have hi1 : (i : Int) < (bs.length : Int) := by omega
      clear hg ra rb hml
      go_wp2
      go_region_held3 (fun X => X.cell? ⟨ga, oa + i * 5, none⟩ = some (.int .i64 b.valid) ∧ X.cell? ⟨ga, oa + i * 5 + 1, none⟩ = some (.string b.user) ∧ X.cell? ⟨ga, oa + i * 5 + 2, none⟩ = some (.string b.name) ∧ X.cell? ⟨ga, oa + i * 5 + 3, none⟩ = some (.int .i64 b.next) ∧ X.cell? ⟨ga, oa + i * 5 + 4, none⟩ = some (.slice a1 n1 c1) ∧
          X.cell? ⟨gb, ob + i * 5, none⟩ = some (.int .i64 b.valid) ∧ X.cell? ⟨gb, ob + i * 5 + 1, none⟩ = some (.string b.user) ∧ X.cell? ⟨gb, ob + i * 5 + 2, none⟩ = some (.string b.name) ∧ X.cell? ⟨gb, ob + i * 5 + 3, none⟩ = some (.int .i64 b.next) ∧ X.cell? ⟨gb, ob + i * 5 + 4, none⟩ = some (.slice a2 n2 c2))
        (first | exact HS.out _ (Below.refl _ _) | exact HS.out _ hb1)
        (first | (go_at_call 62; refine (HE.out _ hbd).mono ?_; rintro e w1 ⟨rfl, hb1⟩))
      all_goals
        go_wp2
        go_roundw
        case rel => exact ⟨i + 1, by omega, by go_num, hbd.trans (hb1.mono hbd.size)⟩
        case measure => simp [intOf]; omega
    · go_wp2
      go_ret
      exact ⟨rfl, hbel⟩

set_option maxRecDepth 100000 in
set_option maxHeartbeats 1000000 in
theorem eqState_same (bs : List Bx) (va vb : Value) (w : World) (ha : BRd w va bs) (hb : BRd w vb bs) (hl : bs.length ≤ 1099511627776) (hm : ∀ b ∈ bs, b.mails.length ≤ 1099511627776) :
    Calls Try.prog 13 #[.agg #[va], .agg #[vb]] w fun e w' => e = .returned (.bool true) ∧ Below w.heap.size w w' := by
  obtain ⟨ad, cap, rfl, _⟩ := ha.boxes
  obtain ⟨ad2, cap2, rfl, _⟩ := hb.boxes
  have b1 : Below w.heap.size w ((w.alloc (.cells #[.slice ad bs.length cap] 29)).alloc (.cells #[.slice ad2 bs.length cap2] 29)) := ((Below.refl _ _).alloc (Nat.le_refl _) _).alloc (by simp) _
  have HE := Lib.hid (fun wx (hx : Below w.heap.size w wx) => eqBoxS_same bs _ _ wx (ha.later hx) (hb.later hx) hl hm)
  clear ha hb hm
  go_enter Try.func13, Try.ntmps13
  go_wp2_with (go_at_call 40; refine (HE.out _ b1).mono ?_; rintro e w1 ⟨rfl, k1⟩)
  go_ret
  exact ⟨rfl, b1.trans (k1.mono b1.size)⟩

end Go.Proofs.Ytjfilicddnhniab
