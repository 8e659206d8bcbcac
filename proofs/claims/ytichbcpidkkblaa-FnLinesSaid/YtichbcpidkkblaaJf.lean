/- Texts of our own, joined. -/
import Derived.Test.YtichbcpidkkblaaJb
import Derived.Deep.Cut
import Derived.Test.YtichbcpidkkblaaJe
import Derived.Deep.DeepCutAuto
import Derived.Test.YtichbcpidkkblaaJd
import Derived.Test.YtichbcpidkkblaaJc
import Derived.WalkSmall
import Derived.Deep.RegionLaw
/- Records: what the model's RecText hands back. -/
namespace Go.Proofs.Ytichbcpidkkblaa
open Go.RowKit

/-- What RecText hands back. -/
def rtT (r : Rc) : Value := if r.ok then .tuple #[.string r.tx, .bool true] else .tuple #[.string ⟨#[]⟩, .bool false]
theorem rtT_yes {r : Rc} (h : r.ok) : rtT r = .tuple #[.string r.tx, .bool true] := if_pos h
theorem rtT_no {r : Rc} (h : ¬ r.ok) : rtT r = .tuple #[.string ⟨#[]⟩, .bool false] := if_neg h

/-- A short text's bytes. -/
def shB (s : ByteArray) : ByteArray := vtB s.size ++ s



theorem tx_sum (r : Rc) : r.tx = (⟨#[UInt8.ofNat r.kind.toNat]⟩ : ByteArray) ++ vtB r.valid.toNat ++ vtB r.uid.toNat ++ vtB r.next.toNat ++ vtB r.flags.toNat ++ shB r.user ++ shB r.name ++ shB r.text := by
  obtain ⟨x, hx⟩ : ∃ x, (⟨#[UInt8.ofNat r.kind.toNat]⟩ : ByteArray) ++ vtB r.valid.toNat ++ vtB r.uid.toNat ++ vtB r.next.toNat ++ vtB r.flags.toNat ++ shB r.user ++ shB r.name ++ shB r.text = x := ⟨_, rfl⟩
  have : x.data.toList = r.tl := by
    rw [← hx]
    simp only [shB, ByteArray.data_append, Array.toList_append, vtB_list, Rc.tl, List.append_assoc]
    rfl
  rw [hx]
  obtain ⟨⟨y⟩⟩ := x
  simp only at this
  rw [this]; rfl

theorem vtB_five {n : Nat} (h : n ≤ 1000000000) : (vtB n).size ≤ 5 := by rw [vtB_size]; exact vt_five h
theorem belNew (x : World) (o : Obj) : Below x.heap.size x (x.alloc o) := (Below.refl _ _).alloc (Nat.le_refl _) _
theorem kind_byte (k : Int) (h1 : 1 ≤ k) (h2 : k ≤ 5) : k = ((UInt8.ofNat k.toNat).toNat : Int) := by
  have : (UInt8.ofNat k.toNat).toNat = k.toNat % 256 := UInt8.toNat_ofNat'
  rw [this]; omega
theorem kind_wrap (k : Int) (h1 : 1 ≤ k) (h2 : k ≤ 5) : IntKind.u8.wrap k = k := by
  have : k = 1 ∨ k = 2 ∨ k = 3 ∨ k = 4 ∨ k = 5 := by omega
  rcases this with rfl | rfl | rfl | rfl | rfl <;> decide
theorem below_next {W x y : World} (h : Below W.heap.size W x) (hb : Below x.heap.size x y) : Below W.heap.size W y := h.trans (hb.mono h.size)

theorem wpAnyH_sharper {P : Program} {md : Region.Mode} {ops : Array Oper} {Q : Exit → Act → World → Prop} {S S' : World → Prop} (h : ∀ w, S' w → S w) :
    ∀ {fuel : Nat} {listed : Array Bool} {a : Act} {w : World}, wpAnyH P md ops Q S' fuel listed a w → wpAnyH P md ops Q S fuel listed a w
  | 0, _, _, _, H => H
  | _ + 1, _, _, _, H => ⟨H.1, fun i hi => wpOp_mono (fun _ _ h' => ⟨h _ h'.1, wpAnyH_sharper h h'.2⟩) (H.2 i hi)⟩
theorem takeL {P : Program} {md : Region.Mode} {l : List Oper} {Q : Exit → Act → World → Prop} {S : World → Prop} {i : Nat} {oi : Oper} {v : Value} {fuel : Nat} {listed : Array Bool} {a : Act} {w : World} (hi : l[i]? = some oi)
    (hs : Region.noSelect l.toArray = true) (hf : Region.free md l.toArray listed i = true) (hr : (Region.ready md l.toArray listed).contains i = true)
    (hQ : ∀ c a w, Q (.panic c) (a.put oi.dst v) w → Q (.panic c) a w) (hy : YieldsIf P l.toArray S oi v a) (hS : S w)
    (h : wpAnyH P md l.toArray Q S fuel (listed.setIfInBounds i true) (a.put oi.dst v) w) : wpAnyH P md l.toArray Q S (fuel + 1) listed a w :=
  wpAnyH_take (by rw [List.getElem?_toArray]; exact hi) hs hf hr hQ hy hS h
theorem readyOne {P : Program} {md : Region.Mode} {l : List Oper} {Q : Exit → Act → World → Prop} {S : World → Prop} {i : Nat} {o : Oper} {fuel : Nat} {listed : Array Bool} {a : Act} {w : World} (hi : l[i]? = some o)
    (h : ∀ K' : Act → World → Prop, Shut (∀ a w, S w → (S w → wpAnyH P md l.toArray Q S fuel (listed.setIfInBounds i true) a w) → K' a w) → if Region.wanted o (yielded l.toArray a.tmps) = true then Oper.wp P o a w K' Q else K' (a.put o.dst undef) w) :
    AllReadyH P md l.toArray Q S fuel listed a w [i] :=
  AllReadyH.cons (by rw [List.getElem?_toArray]; exact hi) h AllReadyH.nil
theorem readyTwo {P : Program} {md : Region.Mode} {l : List Oper} {Q : Exit → Act → World → Prop} {S : World → Prop} {i j : Nat} {o o' : Oper} {fuel : Nat} {listed : Array Bool} {a : Act} {w : World} (hi : l[i]? = some o) (hj : l[j]? = some o')
    (h : ∀ K' : Act → World → Prop, Shut (∀ a w, S w → (S w → wpAnyH P md l.toArray Q S fuel (listed.setIfInBounds i true) a w) → K' a w) → if Region.wanted o (yielded l.toArray a.tmps) = true then Oper.wp P o a w K' Q else K' (a.put o.dst undef) w)
    (h' : ∀ K' : Act → World → Prop, Shut (∀ a w, S w → (S w → wpAnyH P md l.toArray Q S fuel (listed.setIfInBounds j true) a w) → K' a w) → if Region.wanted o' (yielded l.toArray a.tmps) = true then Oper.wp P o' a w K' Q else K' (a.put o'.dst undef) w) :
    AllReadyH P md l.toArray Q S fuel listed a w [i, j] :=
  AllReadyH.cons (by rw [List.getElem?_toArray]; exact hi) h (readyOne hj h')
theorem belNew0 (x : World) (o : Obj) : Below x.heap.size x (x.alloc o).drew := ((Below.refl _ _).alloc (Nat.le_refl _) _).drew
theorem keepS {W x y : World} {p : Addr} {v : Value} (h : Below W.heap.size W x ∧ x.cell? p = some v) (hb : Below x.heap.size x y) : Below W.heap.size W y ∧ y.cell? p = some v :=
  ⟨h.1.trans (hb.mono h.1.size), (hb.cell (World.block_lt_of_cell? _ _ h.2)).trans h.2⟩


end Go.Proofs.Ytichbcpidkkblaa

/- Records: the model's reader of a text. -/
namespace Go.Proofs.Ytichbcpidkkblaa
open Go.RowKit

/-- A number read at the cursor: what is handed back, the place behind it, whether it is bad. -/
def cuV (t : ByteArray) (p : Nat) (b : Bool) : Nat × Nat × Bool :=
  if b = true then (0, p, true) else match rv t.data.toList p with
    | some (n, q) => (n, q, false)
    | none => (0, p, true)
/-- A short text read at the cursor. -/
def cuS (t : ByteArray) (p : Nat) (b : Bool) : ByteArray × Nat × Bool :=
  if b = true then (⟨#[]⟩, p, true) else match rsO t p with
    | some (n, q) => (n, q, false)
    | none => (⟨#[]⟩, p, true)

theorem cuV_ways (t : ByteArray) (p : Nat) (b : Bool) (hp : p ≤ t.size) :
    ∃ (x q : Nat) (o : Bool), rvT t p = .tuple #[.int .i64 x, .int .i64 q, .bool o] ∧ (((b = true ∨ o = false) ∧ cuV t p b = (0, p, true)) ∨ ((b = false ∧ o = true) ∧ cuV t p b = (x, q, false))) := by
  rcases h : rv t.data.toList p with _ | ⟨n, q⟩
  · refine ⟨0, 0, false, rvT_none hp h, .inl ⟨.inr rfl, ?_⟩⟩
    cases b <;> simp [cuV, h]
  · refine ⟨n, q, true, rvT_some hp h, ?_⟩
    cases b with
    | false => exact .inr ⟨⟨rfl, rfl⟩, by simp [cuV, h]⟩
    | true => exact .inl ⟨.inl rfl, by simp [cuV]⟩
theorem cuV_le (t : ByteArray) (p : Nat) (b : Bool) (hp : p ≤ t.size) : (cuV t p b).2.1 ≤ t.size ∧ (cuV t p b).1 ≤ 1000000000 := by
  unfold cuV
  split
  · exact ⟨hp, Nat.zero_le _⟩
  · split
    · rename_i h
      have := rv_le (by simpa using hp) h
      refine ⟨?_, this.1⟩
      have := this.2.2
      simpa using this
    · exact ⟨hp, Nat.zero_le _⟩
theorem rsO_le {t : ByteArray} {p : Nat} {x : ByteArray} {q : Nat} (h : rsO t p = some (x, q)) : q ≤ t.size ∧ x.size ≤ t.size := by
  unfold rsO at h
  split at h
  · split at h
    · rename_i h2
      cases h
      refine ⟨by omega, ?_⟩
      rw [ByteArray.size_extract]; omega
    · cases h
  · cases h
theorem cuS_ways (t : ByteArray) (p : Nat) (b : Bool) (hp : p ≤ t.size) :
    ∃ (x : ByteArray) (q : Nat) (o : Bool), rsT t p = .tuple #[.string x, .int .i64 q, .bool o] ∧ (((b = true ∨ o = false) ∧ cuS t p b = (⟨#[]⟩, p, true)) ∨ ((b = false ∧ o = true) ∧ cuS t p b = (x, q, false))) := by
  rcases h : rv t.data.toList p with _ | ⟨n, q⟩
  · refine ⟨⟨#[]⟩, 0, false, rsT_none hp h, .inl ⟨.inr rfl, ?_⟩⟩
    cases b <;> simp [cuS, rsO, h]
  · by_cases h2 : n ≤ 20000 ∧ n + q ≤ t.size
    · refine ⟨t.extract q (q + n), q + n, true, by rw [rsT_yes hp h h2, Int.natCast_add], ?_⟩
      cases b with
      | false => exact .inr ⟨⟨rfl, rfl⟩, by simp [cuS, rsO, h, h2]⟩
      | true => exact .inl ⟨.inl rfl, by simp [cuS]⟩
    · refine ⟨⟨#[]⟩, 0, false, rsT_no hp h h2, .inl ⟨.inr rfl, ?_⟩⟩
      cases b <;> simp [cuS, rsO, h, h2]
theorem cuS_le (t : ByteArray) (p : Nat) (b : Bool) (hp : p ≤ t.size) : (cuS t p b).2.1 ≤ t.size ∧ (cuS t p b).1.size ≤ t.size := by
  unfold cuS
  split
  · exact ⟨hp, Nat.zero_le _⟩
  · split
    · rename_i h
      exact rsO_le h
    · exact ⟨hp, Nat.zero_le _⟩



end Go.Proofs.Ytichbcpidkkblaa

/- Records: what the model's ReadRec hands back. -/
namespace Go.Proofs.Ytichbcpidkkblaa
open Go.RowKit

theorem cuV_go {t : ByteArray} {p : Nat} {b : Bool} {n q : Nat} (h : cuV t p b = (n, q, false)) : b = false ∧ rv t.data.toList p = some (n, q) := by
  unfold cuV at h
  cases b with
  | true => simp at h
  | false =>
    rcases hr : rv t.data.toList p with _ | ⟨n', q'⟩
    · simp [hr] at h
    · simp [hr] at h; exact ⟨rfl, by rw [h.1, h.2]⟩
theorem cuV_bad {t : ByteArray} {p : Nat} {n q : Nat} (h : cuV t p false = (n, q, true)) : rv t.data.toList p = none := by
  unfold cuV at h
  rcases hr : rv t.data.toList p with _ | ⟨n', q'⟩
  · rfl
  · simp [hr] at h
theorem cuS_go {t : ByteArray} {p : Nat} {b : Bool} {n : ByteArray} {q : Nat} (h : cuS t p b = (n, q, false)) : b = false ∧ rsO t p = some (n, q) := by
  unfold cuS at h
  cases b with
  | true => simp at h
  | false =>
    rcases hr : rsO t p with _ | ⟨n', q'⟩
    · simp [hr] at h
    · simp [hr] at h; exact ⟨rfl, by rw [h.1, h.2]⟩
theorem cuS_bad {t : ByteArray} {p : Nat} {n : ByteArray} {q : Nat} (h : cuS t p false = (n, q, true)) : rsO t p = none := by
  unfold cuS at h
  rcases hr : rsO t p with _ | ⟨n', q'⟩
  · rfl
  · simp [hr] at h

/-- What the reader has read is the record, unless it is bad. -/
theorem rd_told {t : ByteArray} {k : UInt8} {rest : List UInt8} (hk : t.data.toList = k :: rest) {n1 n2 n3 n4 : Nat} {x5 x6 x7 : ByteArray} {q1 q2 q3 q4 q5 q6 q7 : Nat} {d1 d2 d3 d4 d5 d6 d7 : Bool}
    (h1 : cuV t 1 false = (n1, q1, d1)) (h2 : cuV t q1 d1 = (n2, q2, d2)) (h3 : cuV t q2 d2 = (n3, q3, d3)) (h4 : cuV t q3 d3 = (n4, q4, d4))
    (h5 : cuS t q4 d4 = (x5, q5, d5)) (h6 : cuS t q5 d5 = (x6, q6, d6)) (h7 : cuS t q6 d6 = (x7, q7, d7)) :
    prs t = if d7 = true then none else some ⟨k.toNat, n1, n2, n3, n4, x5, x6, x7⟩ := by
  unfold prs
  cases d1 with
  | true =>
    have e1 := cuV_bad h1
    have : d7 = true := by
      cases d7 with
      | true => rfl
      | false => have a6 := cuS_go h7; have a5 := cuS_go (a6.1 ▸ h6); have a4 := cuS_go (a5.1 ▸ h5); have a3 := cuV_go (a4.1 ▸ h4); have a2 := cuV_go (a3.1 ▸ h3); have a1 := cuV_go (a2.1 ▸ h2); cases a1.1
    simp [hk, this, hk ▸ e1]
  | false =>
  have e1 := (cuV_go h1).2
  cases d2 with
  | true =>
    have e2 := cuV_bad h2
    have : d7 = true := by
      cases d7 with
      | true => rfl
      | false => have a6 := cuS_go h7; have a5 := cuS_go (a6.1 ▸ h6); have a4 := cuS_go (a5.1 ▸ h5); have a3 := cuV_go (a4.1 ▸ h4); have a2 := cuV_go (a3.1 ▸ h3); cases a2.1
    simp [hk, this, hk ▸ e1, hk ▸ e2]
  | false =>
  have e2 := (cuV_go h2).2
  cases d3 with
  | true =>
    have e3 := cuV_bad h3
    have : d7 = true := by
      cases d7 with
      | true => rfl
      | false => have a6 := cuS_go h7; have a5 := cuS_go (a6.1 ▸ h6); have a4 := cuS_go (a5.1 ▸ h5); have a3 := cuV_go (a4.1 ▸ h4); cases a3.1
    simp [hk, this, hk ▸ e1, hk ▸ e2, hk ▸ e3]
  | false =>
  have e3 := (cuV_go h3).2
  cases d4 with
  | true =>
    have e4 := cuV_bad h4
    have : d7 = true := by
      cases d7 with
      | true => rfl
      | false => have a6 := cuS_go h7; have a5 := cuS_go (a6.1 ▸ h6); have a4 := cuS_go (a5.1 ▸ h5); cases a4.1
    simp [hk, this, hk ▸ e1, hk ▸ e2, hk ▸ e3, hk ▸ e4]
  | false =>
  have e4 := (cuV_go h4).2
  cases d5 with
  | true =>
    have e5 := cuS_bad h5
    have : d7 = true := by
      cases d7 with
      | true => rfl
      | false => have a6 := cuS_go h7; have a5 := cuS_go (a6.1 ▸ h6); cases a5.1
    simp [hk, this, hk ▸ e1, hk ▸ e2, hk ▸ e3, hk ▸ e4, e5]
  | false =>
  have e5 := (cuS_go h5).2
  cases d6 with
  | true =>
    have e6 := cuS_bad h6
    have : d7 = true := by
      cases d7 with
      | true => rfl
      | false => have a6 := cuS_go h7; cases a6.1
    simp [hk, this, hk ▸ e1, hk ▸ e2, hk ▸ e3, hk ▸ e4, e5, e6]
  | false =>
  have e6 := (cuS_go h6).2
  cases d7 with
  | true =>
    have e7 := cuS_bad h7
    simp [hk, hk ▸ e1, hk ▸ e2, hk ▸ e3, hk ▸ e4, e5, e6, e7]
  | false =>
    have e7 := (cuS_go h7).2
    simp [hk, hk ▸ e1, hk ▸ e2, hk ▸ e3, hk ▸ e4, e5, e6, e7]

/-- No record. -/
def Rc.nil : Rc := ⟨0, 0, 0, 0, 0, emp, emp, emp⟩
/-- What ReadRec hands back. -/
def rrT (t : ByteArray) : Value := match rrO t with
  | some r => .tuple #[r.v, .bool true]
  | none => .tuple #[Rc.nil.v, .bool false]
theorem rrT_some {t : ByteArray} {r : Rc} (h : rrO t = some r) : rrT t = .tuple #[r.v, .bool true] := by rw [rrT, h]
theorem rrT_none {t : ByteArray} (h : rrO t = none) : rrT t = .tuple #[Rc.nil.v, .bool false] := by rw [rrT, h]
theorem rrO_emp : rrO emp = none := rfl
theorem rrO_bad {t : ByteArray} (h : prs t = none) : rrO t = none := by rw [rrO, h]
theorem rrO_if {t : ByteArray} {r : Rc} (h : prs t = some r) : rrO t = if r.ok ∧ r.tx = t then some r else none := by rw [rrO, h]

def set8 (w : World) (b : Nat) (v0 v1 v2 v3 v4 v5 v6 v7 : Value) : World := (((((((w.setCell ⟨b, 0, none⟩ v0).setCell ⟨b, 1, none⟩ v1).setCell ⟨b, 2, none⟩ v2).setCell ⟨b, 3, none⟩ v3).setCell ⟨b, 4, none⟩ v4).setCell ⟨b, 5, none⟩ v5).setCell ⟨b, 6, none⟩ v6).setCell ⟨b, 7, none⟩ v7
theorem Box.set8 {w : World} {b : Nat} {u0 u1 u2 u3 u4 u5 u6 u7 : Value} {t : TypeId} (h : Box w b #[u0, u1, u2, u3, u4, u5, u6, u7] t) (v0 v1 v2 v3 v4 v5 v6 v7 : Value) : Box (set8 w b v0 v1 v2 v3 v4 v5 v6 v7) b #[v0, v1, v2, v3, v4, v5, v6, v7] t :=
  have a0 : Box (w.setCell ⟨b, 0, none⟩ v0) b #[v0, u1, u2, u3, u4, u5, u6, u7] t := h.set 0 v0
  have a1 : Box ((w.setCell ⟨b, 0, none⟩ v0).setCell ⟨b, 1, none⟩ v1) b #[v0, v1, u2, u3, u4, u5, u6, u7] t := a0.set 1 v1
  have a2 : Box (((w.setCell ⟨b, 0, none⟩ v0).setCell ⟨b, 1, none⟩ v1).setCell ⟨b, 2, none⟩ v2) b #[v0, v1, v2, u3, u4, u5, u6, u7] t := a1.set 2 v2
  have a3 : Box ((((w.setCell ⟨b, 0, none⟩ v0).setCell ⟨b, 1, none⟩ v1).setCell ⟨b, 2, none⟩ v2).setCell ⟨b, 3, none⟩ v3) b #[v0, v1, v2, v3, u4, u5, u6, u7] t := a2.set 3 v3
  have a4 : Box (((((w.setCell ⟨b, 0, none⟩ v0).setCell ⟨b, 1, none⟩ v1).setCell ⟨b, 2, none⟩ v2).setCell ⟨b, 3, none⟩ v3).setCell ⟨b, 4, none⟩ v4) b #[v0, v1, v2, v3, v4, u5, u6, u7] t := a3.set 4 v4
  have a5 : Box ((((((w.setCell ⟨b, 0, none⟩ v0).setCell ⟨b, 1, none⟩ v1).setCell ⟨b, 2, none⟩ v2).setCell ⟨b, 3, none⟩ v3).setCell ⟨b, 4, none⟩ v4).setCell ⟨b, 5, none⟩ v5) b #[v0, v1, v2, v3, v4, v5, u6, u7] t := a4.set 5 v5
  have a6 : Box (((((((w.setCell ⟨b, 0, none⟩ v0).setCell ⟨b, 1, none⟩ v1).setCell ⟨b, 2, none⟩ v2).setCell ⟨b, 3, none⟩ v3).setCell ⟨b, 4, none⟩ v4).setCell ⟨b, 5, none⟩ v5).setCell ⟨b, 6, none⟩ v6) b #[v0, v1, v2, v3, v4, v5, v6, u7] t := a5.set 6 v6
  a6.set 7 v7
theorem below_set8 {B b : Nat} {w0 w : World} (h : Below B w0 w) (hb : B ≤ b) (v0 v1 v2 v3 v4 v5 v6 v7 : Value) : Below B w0 (set8 w b v0 v1 v2 v3 v4 v5 v6 v7) :=
  (((((((h.setCell (p := ⟨b, 0, none⟩) hb v0).setCell (p := ⟨b, 1, none⟩) hb v1).setCell (p := ⟨b, 2, none⟩) hb v2).setCell (p := ⟨b, 3, none⟩) hb v3).setCell (p := ⟨b, 4, none⟩) hb v4).setCell (p := ⟨b, 5, none⟩) hb v5).setCell (p := ⟨b, 6, none⟩) hb v6).setCell (p := ⟨b, 7, none⟩) hb v7
theorem grown_set8 (w : World) (b : Nat) (v0 v1 v2 v3 v4 v5 v6 v7 : Value) : w.grownBy (set8 w b v0 v1 v2 v3 v4 v5 v6 v7) (some b) :=
  (((((((stored_grown w b 0 v0).trans (stored_grown _ b 1 v1)).trans (stored_grown _ b 2 v2)).trans (stored_grown _ b 3 v3)).trans (stored_grown _ b 4 v4)).trans (stored_grown _ b 5 v5)).trans (stored_grown _ b 6 v6)).trans (stored_grown _ b 7 v7)
theorem Box.but {w X : World} {b g : Nat} {cs : Array Value} {t : TypeId} (h : Box w b cs t) (hg : w.grownBy X (some g)) (hne : b ≠ g) : Box X b cs t := (hg.block b h.lt (fun e => hne (Option.some.inj e))).trans h
theorem below_but {w w1 w2 : World} {g : Nat} (hb : Below w.heap.size w w1) (hp : w.heap.size ≤ g) (hg : w1.grownBy w2 (some g)) : Below w.heap.size w w2 :=
  hb.grown hg hb.size (fun k hk => by have := Option.some.inj hk; omega)

theorem Box.eight {w : World} {b : Nat} {u0 u1 u2 u3 u4 u5 u6 u7 : Value} {t : TypeId} (h : Box w b #[u0, u1, u2, u3, u4, u5, u6, u7] t) :
    w.cell? ⟨b, 0, none⟩ = some u0 ∧ w.cell? ⟨b, 1, none⟩ = some u1 ∧ w.cell? ⟨b, 2, none⟩ = some u2 ∧ w.cell? ⟨b, 3, none⟩ = some u3 ∧ w.cell? ⟨b, 4, none⟩ = some u4 ∧ w.cell? ⟨b, 5, none⟩ = some u5 ∧ w.cell? ⟨b, 6, none⟩ = some u6 ∧ w.cell? ⟨b, 7, none⟩ = some u7 ∧
    w.frozen? ⟨b, 0, none⟩ = false ∧ w.frozen? ⟨b, 1, none⟩ = false ∧ w.frozen? ⟨b, 2, none⟩ = false ∧ w.frozen? ⟨b, 3, none⟩ = false ∧ w.frozen? ⟨b, 4, none⟩ = false ∧ w.frozen? ⟨b, 5, none⟩ = false ∧ w.frozen? ⟨b, 6, none⟩ = false ∧ w.frozen? ⟨b, 7, none⟩ = false :=
  ⟨h.cell 0 _ rfl, h.cell 1 _ rfl, h.cell 2 _ rfl, h.cell 3 _ rfl, h.cell 4 _ rfl, h.cell 5 _ rfl, h.cell 6 _ rfl, h.cell 7 _ rfl, h.loose 0, h.loose 1, h.loose 2, h.loose 3, h.loose 4, h.loose 5, h.loose 6, h.loose 7⟩


theorem ba_beq (a b : ByteArray) : (a.toList == b.toList) = decide (a = b) := by
  by_cases h : a = b
  · simp [h]
  · have : ¬ a.toList = b.toList := fun e => h (by rw [Go.ByteArray.toList_eq, Go.ByteArray.toList_eq] at e; obtain ⟨⟨x⟩⟩ := a; obtain ⟨⟨y⟩⟩ := b; simp only at e; rw [e])
    rw [decide_eq_false h]
    simp [this]

/-- The end: what RecText hands back, and what ReadRec makes of it. -/
theorem rd_end {t : ByteArray} {r : Rc} {d : Bool} (h : prs t = if d = true then none else some r) :
    ∃ (bk : ByteArray) (o : Bool), rtT r = .tuple #[.string bk, .bool o] ∧ rrT t = if d = false ∧ o = true ∧ decide (bk = t) = true then .tuple #[r.v, .bool true] else .tuple #[Rc.nil.v, .bool false] := by
  by_cases hok : r.ok
  · refine ⟨r.tx, true, rtT_yes hok, ?_⟩
    cases d with
    | true => rw [rrT_none (rrO_bad h)]; simp
    | false =>
      have h' := rrO_if (show prs t = some r from h)
      by_cases he : r.tx = t
      · rw [if_pos ⟨hok, he⟩] at h'
        rw [rrT_some h', if_pos ⟨rfl, rfl, decide_eq_true he⟩]
      · rw [if_neg (fun c => he c.2)] at h'
        rw [rrT_none h', if_neg (fun c => he (of_decide_eq_true c.2.2))]
  · refine ⟨⟨#[]⟩, false, rtT_no hok, ?_⟩
    rw [if_neg (fun c => by cases c.2.1)]
    cases d with
    | true => exact rrT_none (rrO_bad h)
    | false =>
      have h' := rrO_if (show prs t = some r from h)
      rw [if_neg (fun c => hok c.1)] at h'
      exact rrT_none h'



end Go.Proofs.Ytichbcpidkkblaa

/- What is drawn for the chapter on records: what spec.l01Pick, l06Text, l06Rec, l06Any and the draws of the chapter hand back. -/
namespace Go.Proofs.Ytichbcpidkkblaa
open Go.RowKit

theorem strs_cell' (w : World) (zs : List ByteArray) (t : TypeId) (j : Nat) (hj : j < zs.length) : (w.alloc (.cells (zs.map Value.string).toArray t)).cell? ⟨w.heap.size, j, none⟩ = some (.string zs[j]) := by
  rw [Joins.cell_of_block (heap_alloc_new w _)]
  simp [hj]

set_option maxRecDepth 100000 in
set_option maxHeartbeats 1000000 in
theorem pickStr_any (zs : List ByteArray) (n pc : Nat) (a : Option Addr) (len cap : Nat) (w : World) (hc : Cur w pc a len cap) (hl : zs.length = n) (h0 : 0 < n) (h1 : n ≤ 1048576) :
    Calls Try.prog 33 #[.pointer (some ⟨pc, 0, none⟩), .slice (some ⟨w.heap.size, 0, none⟩) n n] (w.alloc (.cells (zs.map Value.string).toArray 9)) fun e w' => ∃ x : ByteArray, x ∈ zs ∧ e = .returned (.string x) ∧ Cur w' pc a len cap ∧ w.grownBy w' (some pc) := by
  have hbel : Below w.heap.size w (w.alloc (.cells (zs.map Value.string).toArray 9)) := (Below.refl _ _).alloc (Nat.le_refl _) _
  have hpc := hc.lt
  have hc1 := hc.below hbel hpc hc.codeLt
  have HC : Hid (∀ j (hj : j < zs.length), (w.alloc (.cells (zs.map Value.string).toArray 9)).cell? ⟨w.heap.size, j, none⟩ = some (.string zs[j])) := fun j hj => strs_cell' w zs 9 j hj
  have HG : Hid (w.grownBy (w.alloc (.cells (zs.map Value.string).toArray 9)) (some pc)) := grownBy_below (World.grownBy.refl w (some pc)) hbel (Nat.le_refl _)
  clear hbel
  generalize w.alloc (.cells (zs.map Value.string).toArray 9) = W at *
  have hne : w.heap.size ≠ pc := by omega
  generalize w.heap.size = g at *
  go_enter Try.func33, Try.ntmps33
  go_wp2_with fail
  refine (below_any (n : Int) pc a len cap _ hc1 (by omega)).mono ?_
  rintro e w1 ⟨j, hj, _, rfl, hc2, hg1⟩
  have hj1 : j < n := by have := hj (by omega); omega
  have hx := HC.out j (by omega)
  have HM : Hid (zs[j]'(by omega) ∈ zs) := List.getElem_mem _
  generalize zs[j]'(by omega) = x at hx HM
  have hx1 : w1.cell? ⟨g, j, none⟩ = some (.string x) := hg1.cell hx (fun e => hne (Option.some.inj e))
  have hj2 : (j : Int) < (n : Int) := by omega
  clear hj
  go_wp2
  go_ret
  exact ⟨x, HM.out, rfl, hc2, HG.out.trans hg1⟩

theorem emp_le : emp.size ≤ 200 := by decide

/-- A drawn record. -/
def RcR (Pr : Rc → Prop) (pc : Nat) (a : Option Addr) (len cap : Nat) (w : World) (e : Ending) (w' : World) : Prop :=
  ∃ r : Rc, Pr r ∧ e = .returned r.v ∧ Cur w' pc a len cap ∧ w.grownBy w' (some pc)
def Rc.slim (r : Rc) : Prop := r.user.size ≤ 200 ∧ r.name.size ≤ 200 ∧ r.text.size ≤ 200



end Go.Proofs.Ytichbcpidkkblaa

/- What is drawn for the chapter on lines. -/
namespace Go.Proofs.Ytichbcpidkkblaa
open Go.RowKit

/-- A text is drawn with a cursor: it is small, and only the cursor has moved. -/
def DrT (n pc : Nat) (a : Option Addr) (len cap : Nat) (w : World) (e : Ending) (w' : World) : Prop := ∃ t : ByteArray, t.size ≤ n ∧ e = .returned (.string t) ∧ Cur w' pc a len cap ∧ w.grownBy w' (some pc)

set_option maxRecDepth 100000 in
set_option maxHeartbeats 1000000 in
theorem l16Line_any (pc : Nat) (a : Option Addr) (len cap : Nat) (w : World) (hc : Cur w pc a len cap) :
    Calls Try.prog 31 #[.pointer (some ⟨pc, 0, none⟩)] w fun e w' => DrT 40 pc a len cap w e w' := by
  go_enter Try.func31, Try.ntmps31
  go_wp2_with fail
  have hpk := pickStr_any [⟨#[104, 101, 108, 111, 32, 97, 110, 110]⟩, ⟨#[109, 97, 105, 108, 32, 98, 111, 98]⟩, ⟨#[114, 99, 112, 116, 32, 97, 110, 110]⟩, ⟨#[100, 97, 116, 97]⟩, ⟨#[113, 117, 105, 116]⟩, ⟨#[117, 115, 101, 114, 32, 97, 110, 110]⟩, ⟨#[112, 97, 115, 115, 32, 97, 110, 110, 120]⟩, ⟨#[115, 116, 97, 116]⟩, ⟨#[97, 32, 108, 111, 103, 105, 110, 32, 97, 110, 110, 32, 97, 110, 110, 120]⟩, ⟨#[97, 32, 115, 101, 108, 101, 99, 116, 32, 105, 110, 98, 111, 120]⟩, ⟨#[]⟩, ⟨#[78, 111, 111, 112]⟩, ⟨#[46]⟩, ⟨#[46, 46, 120]⟩] 14 pc a len cap _ hc rfl (by omega) (by omega)
  simp only [List.map_cons, List.map_nil] at hpk
  refine hpk.mono ?_
  clear hpk
  rintro e w2 ⟨t, ht2, rfl, hc2, hg2⟩
  have hsz2 : t.size ≤ 40 := by
    simp only [List.mem_cons, List.not_mem_nil, or_false] at ht2
    rcases ht2 with rfl | rfl | rfl | rfl | rfl | rfl | rfl | rfl | rfl | rfl | rfl | rfl | rfl | rfl <;> decide
  clear ht2
  go_wp2
  go_ret
  exact ⟨t, hsz2, rfl, hc2, hg2⟩

set_option maxRecDepth 100000 in
set_option maxHeartbeats 4000000 in
theorem drawLowWord_any (a : Option Addr) (len cap : Nat) (w : World) (hcode : CodeIn w a len) (hs : len ≤ 1048576) :
    Calls Try.prog 13 #[.slice a len cap] w fun e w' => ∃ t : ByteArray, t.size ≤ 1000 ∧ e = .returned (.string t) ∧ Below w.heap.size w w' := by
  go_enter Try.func13, Try.ntmps13
  go_wp2_with fail
  refine (new_any a len cap _ hcode hs).mono ?_
  rintro e w1 ⟨pc, hp, rfl, hc1, hb1⟩
  have D1 : Drw w pc a len cap w1 := ⟨hc1, hb1, hp⟩
  clear hc1 hb1 hp
  go_wp2_with fail
  have hpk := pickStr_any [⟨#[]⟩, ⟨#[81, 85, 73, 84]⟩, ⟨#[78, 111, 111, 112]⟩, ⟨#[97, 49, 90]⟩, ⟨#[192]⟩] 5 pc a len cap _ D1.cur rfl (by omega) (by omega)
  simp only [List.map_cons, List.map_nil] at hpk
  refine hpk.mono ?_
  clear hpk
  rintro e w2 ⟨t, ht2, rfl, hc2, hg2⟩
  have hsz2 : t.size ≤ 40 := by
    simp only [List.mem_cons, List.not_mem_nil, or_false] at ht2
    rcases ht2 with rfl | rfl | rfl | rfl | rfl <;> decide
  clear ht2
  have D2 := D1.step hc2 hg2
  have HB := Lib.hid D2.bel
  clear D1 D2 hc2 hg2
  go_wp2
  go_ret
  exact ⟨t, by omega, rfl, HB.out⟩

set_option maxRecDepth 100000 in
set_option maxHeartbeats 4000000 in
theorem drawNumberOf_any (a : Option Addr) (len cap : Nat) (w : World) (hcode : CodeIn w a len) (hs : len ≤ 1048576) :
    Calls Try.prog 14 #[.slice a len cap] w fun e w' => ∃ t : ByteArray, t.size ≤ 1000 ∧ e = .returned (.string t) ∧ Below w.heap.size w w' := by
  go_enter Try.func14, Try.ntmps14
  go_wp2_with fail
  refine (new_any a len cap _ hcode hs).mono ?_
  rintro e w1 ⟨pc, hp, rfl, hc1, hb1⟩
  have D1 : Drw w pc a len cap w1 := ⟨hc1, hb1, hp⟩
  clear hc1 hb1 hp
  go_wp2_with fail
  have hpk := pickStr_any [⟨#[]⟩, ⟨#[48]⟩, ⟨#[55]⟩, ⟨#[48, 55]⟩, ⟨#[120]⟩, ⟨#[49, 56, 53, 48, 48, 48, 48, 48, 48, 48, 48, 48, 48, 48, 48, 48, 48, 48, 48, 48]⟩, ⟨#[49, 48, 48, 48, 48, 48, 48, 48, 48, 48]⟩] 7 pc a len cap _ D1.cur rfl (by omega) (by omega)
  simp only [List.map_cons, List.map_nil] at hpk
  refine hpk.mono ?_
  clear hpk
  rintro e w2 ⟨t, ht2, rfl, hc2, hg2⟩
  have hsz2 : t.size ≤ 40 := by
    simp only [List.mem_cons, List.not_mem_nil, or_false] at ht2
    rcases ht2 with rfl | rfl | rfl | rfl | rfl | rfl | rfl <;> decide
  clear ht2
  have D2 := D1.step hc2 hg2
  have HB := Lib.hid D2.bel
  clear D1 D2 hc2 hg2
  go_wp2
  go_ret
  exact ⟨t, by omega, rfl, HB.out⟩

set_option maxRecDepth 100000 in
set_option maxHeartbeats 4000000 in
theorem drawWordsOf_any (a : Option Addr) (len cap : Nat) (w : World) (hcode : CodeIn w a len) (hs : len ≤ 1048576) :
    Calls Try.prog 12 #[.slice a len cap] w fun e w' => ∃ t : ByteArray, t.size ≤ 1000 ∧ e = .returned (.string t) ∧ Below w.heap.size w w' := by
  go_enter Try.func12, Try.ntmps12
  go_wp2_with fail
  refine (new_any a len cap _ hcode hs).mono ?_
  rintro e w1 ⟨pc, hp, rfl, hc1, hb1⟩
  have D1 : Drw w pc a len cap w1 := ⟨hc1, hb1, hp⟩
  clear hc1 hb1 hp
  go_wp2_with fail
  refine (once_any 6 pc a len cap _ D1.cur (by omega)).mono ?_
  rintro e w2 ⟨he, hc2, hg2⟩
  have D2 := D1.step hc2 hg2
  clear D1 hc2 hg2
  rcases he with rfl | rfl
  · go_wp2_with fail
    have hpk := pickStr_any [⟨#[32, 32, 97, 32, 32, 98, 32]⟩, ⟨#[7]⟩, ⟨#[97, 9, 98]⟩] 3 pc a len cap _ D2.cur rfl (by omega) (by omega)
    simp only [List.map_cons, List.map_nil] at hpk
    refine hpk.mono ?_
    clear hpk
    rintro e w3 ⟨t, ht3, rfl, hc3, hg3⟩
    have hsz3 : t.size ≤ 40 := by
      simp only [List.mem_cons, List.not_mem_nil, or_false] at ht3
      rcases ht3 with rfl | rfl | rfl <;> decide
    clear ht3
    have D3 := D2.step hc3 hg3
    have HB := Lib.hid D3.bel
    clear D2 D3 hc3 hg3
    go_wp2
    go_ret
    exact ⟨t, by omega, rfl, HB.out⟩
  · go_wp2_with fail
    refine (l16Line_any pc a len cap _ D2.cur).mono ?_
    rintro e w3 ⟨t, ht, rfl, hc3, hg3⟩
    have D3 := D2.step hc3 hg3
    have HB := Lib.hid D3.bel
    clear D2 D3 hc3 hg3
    go_wp2
    go_ret
    exact ⟨t, by omega, rfl, HB.out⟩

set_option maxRecDepth 100000 in
set_option maxHeartbeats 4000000 in
theorem drawTakeLine_any (a : Option Addr) (len cap : Nat) (w : World) (hcode : CodeIn w a len) (hs : len ≤ 1048576) :
    Calls Try.prog 10 #[.slice a len cap] w fun e w' => ∃ t : ByteArray, t.size ≤ 1000 ∧ e = .returned (.string t) ∧ Below w.heap.size w w' := by
  go_enter Try.func10, Try.ntmps10
  go_wp2_with fail
  refine (new_any a len cap _ hcode hs).mono ?_
  rintro e w1 ⟨pc, hp, rfl, hc1, hb1⟩
  have D1 : Drw w pc a len cap w1 := ⟨hc1, hb1, hp⟩
  clear hc1 hb1 hp
  go_wp2_with fail
  refine (l16Line_any pc a len cap _ D1.cur).mono ?_
  rintro e w2 ⟨t, ht, rfl, hc2, hg2⟩
  have D2 := D1.step hc2 hg2
  clear D1 hc2 hg2
  go_wp2_with fail
  refine (l16Line_any pc a len cap _ D2.cur).mono ?_
  rintro e w3 ⟨u, hu, rfl, hc3, hg3⟩
  have D3 := D2.step hc3 hg3
  clear D2 hc3 hg3
  go_wp2_with fail
  refine (below_any 8 pc a len cap _ D3.cur (by omega)).mono ?_
  rintro e w4 ⟨x, hx, hx2, rfl, hc4, hg4⟩
  have D4 := D3.step hc4 hg4
  clear D3 hc4 hg4
  have hsz : (t ++ (⟨#[13, 10]⟩ : ByteArray) ++ u).size ≤ 1000 := by
    rw [ByteArray.size_append, ByteArray.size_append]
    have : (⟨#[13, 10]⟩ : ByteArray).size = 2 := rfl
    omega
  have HSZ := Lib.hid hsz
  clear hsz
  by_cases x0 : x = 0
  · have x0' : ((x : Int) == 0) = true := by simp [x0]
    subst x0
    go_wp2_with fail
    refine (l16Line_any pc a len cap _ D4.cur).mono ?_
    rintro e w5 ⟨v, hv, rfl, hc5, hg5⟩
    have D5 := D4.step hc5 hg5
    have HB := Lib.hid D5.bel
    clear D4 D5 hc5 hg5
    go_wp2
    go_ret
    exact ⟨v, by omega, rfl, HB.out⟩
  by_cases x1 : x = 1
  · subst x1
    go_wp2_with fail
    refine (below_any 5 pc a len cap _ D4.cur (by omega)).mono ?_
    rintro e w5 ⟨y, hy, hy2, rfl, hc5, hg5⟩
    have D5 := D4.step hc5 hg5
    clear D4 hc5 hg5
    have hy5 : y < 5 := by have := hy (by omega); omega
    have hw : IntKind.i64.wrap (78 + (y : Int)) = ((78 + y : Nat) : Int) := (IntWalk.i64_in _ ⟨by omega, by omega⟩).trans (by omega)
    go_wp2_with fail
    refine (long_any (78 + y) 97 _ (by omega)).mono ?_
    rintro e w6 ⟨rfl, k6⟩
    have D6 := D5.later k6
    clear D5 k6
    have hsl : (⟨(List.replicate (78 + y) (97 : UInt8)).toArray⟩ : ByteArray).size ≤ 82 := by simp [ByteArray.size]; omega
    generalize (⟨(List.replicate (78 + y) (97 : UInt8)).toArray⟩ : ByteArray) = v at *
    go_wp2_with fail
    have hpk := pickStr_any [⟨#[]⟩, ⟨#[13]⟩, ⟨#[13, 10]⟩, ⟨#[120]⟩] 4 pc a len cap _ D6.cur rfl (by omega) (by omega)
    simp only [List.map_cons, List.map_nil] at hpk
    refine hpk.mono ?_
    clear hpk
    rintro e w7 ⟨z, ht7, rfl, hc7, hg7⟩
    have hsz7 : z.size ≤ 40 := by
      simp only [List.mem_cons, List.not_mem_nil, or_false] at ht7
      rcases ht7 with rfl | rfl | rfl | rfl <;> decide
    clear ht7
    have D7 := D6.step hc7 hg7
    have HB := Lib.hid D7.bel
    have hsz : (v ++ z).size ≤ 1000 := by rw [ByteArray.size_append]; omega
    have HSZ := Lib.hid hsz
    clear D6 D7 hc7 hg7 hsz
    go_wp2
    go_ret
    exact ⟨_, HSZ.out, rfl, HB.out⟩
  by_cases x2 : x = 2
  · subst x2
    have HB := Lib.hid D4.bel
    clear D4
    go_wp2
    go_ret
    exact ⟨_, (show (⟨#[97, 10, 98, 13, 13, 10]⟩ : ByteArray).size ≤ 1000 by decide), rfl, HB.out⟩
  have HB := Lib.hid D4.bel
  clear D4
  go_wp2
  go_ret
  exact ⟨_, HSZ.out, rfl, HB.out⟩

end Go.Proofs.Ytichbcpidkkblaa

/- The walk of the law on lines. -/
namespace Go.Proofs.Ytichbcpidkkblaa
open Go.RowKit

/-- The lines of a list as a text. -/
def linL : List ByteArray → List UInt8
  | [] => []
  | x :: l => x.data.toList ++ 13 :: 10 :: linL l
def linT (l : List ByteArray) : ByteArray := ⟨(linL l).toArray⟩
theorem linL_app (l m : List ByteArray) : linL (l ++ m) = linL l ++ linL m := by
  induction l with
  | nil => rfl
  | cons x l ih => simp [linL, ih]
theorem ba_mk (x : ByteArray) : x = ⟨x.data.toList.toArray⟩ := by obtain ⟨⟨l⟩⟩ := x; rfl
theorem linT_snoc (l : List ByteArray) (x : ByteArray) : linT l ++ x ++ ⟨#[13, 10]⟩ = linT (l ++ [x]) := by
  unfold linT
  rw [linL_app]
  conv => lhs; rw [ba_mk x]
  rw [ByteArray.mk_append_mk]
  exact (ByteArray.mk_append_mk _ _).trans (by simp [linL])
/-- What a line of a list must be. -/
def okLine (x : ByteArray) : Prop := (∀ b ∈ x.data.toList, b ≠ 13) ∧ x.size ≤ 80
theorem tk_lin {x : ByteArray} {l : List ByteArray} (h : okLine x) : TkR (linT (x :: l)) x (linT l) 0 := by
  have hs : x.data.toList.length = x.size := by rw [Array.length_toList]; rfl
  have := tk_line (r := linL l) h.1 (by rw [hs]; exact h.2)
  rw [← ba_mk x] at this
  exact this
theorem linT_size {l : List ByteArray} (h : ∀ x ∈ l, okLine x) : (linT l).size ≤ l.length * 82 := by
  show ((linL l).toArray).size ≤ _
  rw [List.size_toArray]
  induction l with
  | nil => simp [linL]
  | cons x l ih =>
    have h1 := (h x (by simp)).2
    have h2 := ih fun y hy => h y (by simp [hy])
    have hs : x.data.toList.length = x.size := by rw [Array.length_toList]; rfl
    simp only [linL, List.length_append, List.length_cons, hs]
    omega

theorem Rows'.txtC {w : World} {v : Value} {l : List ByteArray} (h : Rows' strE w v l) : ∃ (ad : Option Addr) (cap : Nat), v = .slice ad l.length cap ∧ ∀ X, Below w.heap.size w X → ∀ (i : Nat) (x : ByteArray), l[i]? = some x → ∃ g off, ad = some ⟨g, off, none⟩ ∧ X.cell? ⟨g, off + i, none⟩ = some (.string x) := by
  rcases h.ways with ⟨rfl, a, c, rfl⟩ | ⟨_, g, off, c, rfl, hc, hg, hcl⟩
  · exact ⟨a, c, rfl, fun X _ i x hi => by cases hi⟩
  · refine ⟨_, c, rfl, fun X hb i x hi => ⟨g, off, rfl, ?_⟩⟩
    have h1 := (hb.cell (p := ⟨g, off + i * strE.sz + 0, none⟩) hg).trans (hcl i x hi 0 _ rfl)
    rw [show strE.sz = 1 from rfl, Nat.mul_one, Nat.add_zero] at h1
    exact h1

theorem sliceFrom_st {a : Option Addr} {n cap i : Nat} (h : i ≤ n) (wx : World) : (Instr.slice 24 (.slice a n cap) (some (.int .i64 (i : Int))) none none).run Try.prog wx = .ok (.slice (if cap = i then a else a.map (·.add i)) (n - i) (cap - i)) wx := by
  rw [run_slice_l (P := Try.prog) wx 24 _ n cap (by kernel_rfl) .i64 (i : Int) (by omega) (by omega)]
  rw [show Try.prog.elem 24 = 9 by kernel_rfl, Try.sizeOf9]
  simp [Result.andThen, sliced]
theorem sliceTo_st {a : Option Addr} {n cap i : Nat} (h : i ≤ cap) (wx : World) : (Instr.slice 24 (.slice a n cap) none (some (.int .i64 (i : Int))) none).run Try.prog wx = .ok (.slice a i cap) wx := by
  rw [run_slice_h (P := Try.prog) wx 24 _ n cap (by kernel_rfl) .i64 (i : Int) (by omega) (by omega)]
  rw [show Try.prog.elem 24 = 9 by kernel_rfl, Try.sizeOf9]
  simp [Result.andThen, sliced, Addr.add]

theorem Rows'.takeS {w : World} {ad : Option Addr} {n cap : Nat} {l : List ByteArray} (h : Rows' strE w (.slice ad n cap) l) (i : Nat) (hi : i ≤ n) : Rows' strE w (.slice ad i cap) (l.take i) := by
  rcases h with ⟨rfl, a, c, e⟩ | ⟨g, off, c, e, hc, hg, hcl⟩
  · cases e
    obtain rfl : i = 0 := by omega
    exact .inl ⟨by simp, _, _, rfl⟩
  · cases e
    refine .inr ⟨g, off, cap, ?_, ?_, hg, fun j x hj k u hk => ?_⟩
    · rw [List.length_take, Nat.min_eq_left hi]
    · rw [List.length_take]; omega
    · rw [List.getElem?_take] at hj
      split at hj
      · exact hcl j x hj k u hk
      · cases hj

set_option maxRecDepth 100000 in
set_option maxHeartbeats 1000000 in
theorem lines_any (l : List ByteArray) (v : Value) (w : World) (h : Rows' strE w v l) (hok : ∀ x ∈ l, okLine x) (hl : l.length ≤ 1000) :
    Calls Try.prog 8 #[v] w fun e w' => e = .returned (.string (linT l)) ∧ w' = w := by
  obtain ⟨ad, cap, rfl, hrow⟩ := h.txtC
  have HA := Lib.hid (hrow w (Below.refl _ _))
  have HO := Lib.hid hok
  clear h hrow hok
  obtain ⟨n, hn⟩ : ∃ n, l.length = n := ⟨_, rfl⟩
  have HN := Lib.hid hn
  rw [hn] at hl ⊢
  clear hn
  go_enter Try.func8, Try.ntmps8
  go_wp2
  go_loop [3, 4] (fun sv iv => ∃ i : Nat, i ≤ n ∧ iv = .int .i64 (i : Int) ∧ sv = .string (linT (l.take i))) (fun _ iv => n - (intOf iv).toNat)
  case atStart => exact ⟨0, by omega, rfl, rfl⟩
  case round =>
    obtain ⟨i, hi, rfl, rfl⟩ := hrel
    by_cases hlt : i < n
    · obtain ⟨x, hgx⟩ : ∃ x, l[i]? = some x := ⟨_, List.getElem?_eq_getElem (by rw [HN.out]; exact hlt)⟩
      obtain ⟨ga, oa, rfl, p0⟩ := HA.out i _ hgx
      have hxs := (HO.out x (List.mem_of_getElem? hgx)).2
      have hts : (linT (l.take i)).size ≤ 82000 := by
        have h1 := linT_size (l := l.take i) (fun x hx => HO.out x (List.mem_of_mem_take hx))
        have h2 : (l.take i).length ≤ i := List.length_take_le ..
        have h3 : (l.take i).length * 82 ≤ 1000 * 82 := Nat.mul_le_mul_right _ (by omega)
        omega
      have hts2 : (linT (l.take i) ++ x).size ≤ 83000 := by rw [ByteArray.size_append]; omega
      have HX : Hid (linT (l.take i) ++ x ++ ⟨#[13, 10]⟩ = linT (l.take (i + 1))) := by
        show linT (l.take i) ++ x ++ ⟨#[13, 10]⟩ = linT (l.take (i + 1))
        rw [linT_snoc, List.take_add_one, hgx]
        rfl
      have hi0 : (0 : Int) ≤ (i : Int) := by omega
      have hi1 : (i : Int) < (n : Int) := by omega
      clear hgx
      generalize linT (l.take i) = t at *
      go_wp2
      go_round
      case rel => exact ⟨i + 1, by omega, by go_num, by rw [HX.out]⟩
      case measure => simp [intOf]; omega
    · have e : l.take i = l := List.take_of_length_le (by rw [HN.out]; omega)
      rw [e]
      go_wp2
      go_ret
      exact ⟨rfl, rfl⟩

/-- The lines that the law puts in. -/
def sixL : List ByteArray := [⟨#[104, 101, 108, 111, 32, 97, 110, 110]⟩, ⟨#[]⟩, ⟨#[97, 32, 98, 32, 32, 99]⟩, ⟨#[120]⟩, ⟨#[46, 46]⟩, ⟨#[110, 111]⟩]
theorem six_ok : ∀ x ∈ sixL, okLine x := by
  intro x hx
  simp only [sixL, List.mem_cons, List.not_mem_nil, or_false] at hx
  rcases hx with rfl | rfl | rfl | rfl | rfl | rfl <;> exact ⟨by decide, by decide⟩
theorem tk_half : TkR ⟨#[104, 97, 108, 102]⟩ emp ⟨#[104, 97, 108, 102]⟩ 1 := by
  have h : ∀ j, ¬ CrAt ⟨#[104, 97, 108, 102]⟩ j := fun j h => by
    have := (crAt_list (l := [104, 97, 108, 102])).1 h
    have h1 := List.mem_of_getElem? this.1
    exact absurd h1 (by decide)
  exact .inr ⟨fun j _ => h j, rfl, .inr ⟨fun o => absurd o.1 (by decide), rfl, rfl⟩⟩
theorem linT_nil : linT [] = ⟨#[]⟩ := rfl

set_option maxRecDepth 100000 in
set_option maxHeartbeats 4000000 in
theorem walk_FnLines (a : Option Addr) (len cap : Nat) (w : World) (hcode : CodeIn w a len) :
    Calls Try.prog 3 #[.slice a len cap] w fun e w' => e = .returned (.bool true) ∧ Below w.heap.size w w' := by
  by_cases hbig : (1048576 : Int) < (len : Int)
  · go_enter Try.func3, Try.ntmps3
    go_wp2_with (go_at_call 6; refine (big_any a len cap _).mono ?_; rintro e w1 ⟨rfl, rfl⟩; rw [decide_eq_true hbig])
    go_ret
    exact ⟨rfl, Below.refl _ _⟩
  have hs : len ≤ 1048576 := by omega
  have b1 : Below w.heap.size w (w.alloc (.cells #[.string ⟨#[104, 101, 108, 111, 32, 97, 110, 110]⟩, .string ⟨#[]⟩, .string ⟨#[97, 32, 98, 32, 32, 99]⟩, .string ⟨#[120]⟩, .string ⟨#[46, 46]⟩, .string ⟨#[110, 111]⟩] 9)) := (Below.refl _ _).alloc (Nat.le_refl _) _
  have hT : Rows' strE (w.alloc (.cells #[.string ⟨#[104, 101, 108, 111, 32, 97, 110, 110]⟩, .string ⟨#[]⟩, .string ⟨#[97, 32, 98, 32, 32, 99]⟩, .string ⟨#[120]⟩, .string ⟨#[46, 46]⟩, .string ⟨#[110, 111]⟩] 9)) (.slice (some ⟨w.heap.size, 0, none⟩) 6 6) sixL := by
    refine .inr ⟨w.heap.size, 0, 6, rfl, by decide, by simp, fun j x hj k u hk => ?_⟩
    match k, hk with
    | 0, hk =>
      simp [strE] at hk
      subst hk
      have h1 : j < sixL.length := (List.getElem?_eq_some_iff.1 hj).1
      have h2 := strs_cell' w sixL 9 j h1
      have h3 : sixL[j] = x := (List.getElem?_eq_some_iff.1 hj).2
      rw [h3] at h2
      rw [show strE.sz = 1 from rfl, Nat.mul_one, Nat.add_zero, Nat.zero_add]
      exact h2
    | k + 1, hk => simp [strE] at hk
  go_enter Try.func3, Try.ntmps3
  go_wp2_with fail
  refine (big_any a len cap _).mono ?_
  rintro e w0 ⟨rfl, rfl⟩
  rw [decide_eq_false (by omega)]
  go_upto_region 4 with fail
  obtain ⟨W, hW⟩ : ∃ W, w.alloc (.cells #[.string ⟨#[104, 101, 108, 111, 32, 97, 110, 110]⟩, .string ⟨#[]⟩, .string ⟨#[97, 32, 98, 32, 32, 99]⟩, .string ⟨#[120]⟩, .string ⟨#[46, 46]⟩, .string ⟨#[110, 111]⟩] 9) = W := ⟨_, rfl⟩
  rw [hW] at b1 hT ⊢
  clear hW
  obtain ⟨g, hg⟩ : ∃ g, w.heap.size = g := ⟨_, rfl⟩
  have HG := Lib.hid hg
  rw [hg] at hT b1 ⊢
  clear hg
  have hcode1 : CodeIn W a len := hcode.later (by rw [← HG.out] at b1; exact b1)
  go_wp2_with fail
  refine (drawPlaces_any a len cap _ hcode1 hs).mono ?_
  rintro e w2 ⟨pl, v, hl, hlz, rfl, hib⟩
  obtain ⟨gp, cp, z0, z1, rfl, hcp, hgp, p0, p1⟩ := places2 hl hlz hib
  have hT2 := hT.later hib.bel
  have b2 : Below g w w2 := b1.trans (hib.bel.mono (by rw [← HG.out] at b1 ⊢; exact b1.size))
  have HC2 : Hid (CodeIn w2 a len) := hcode1.later hib.bel
  obtain ⟨i, hi⟩ : ∃ i, z0 % 6 = i := ⟨_, rfl⟩
  obtain ⟨j, hj⟩ : ∃ j, z1 % 6 = j := ⟨_, rfl⟩
  have hi6 : i < 6 := by omega
  have hj6 : j < 6 := by omega
  have r0 : (z0 : Int).tmod 6 = (i : Int) := by rw [IntWalk.rem_in _ _ (by omega)]; omega
  have r1 : (z1 : Int).tmod 6 = (j : Int) := by rw [IntWalk.rem_in _ _ (by omega)]; omega
  have r2 : IntKind.i64.wrap (i : Int) = (i : Int) := IntWalk.i64_in _ ⟨by omega, by omega⟩
  have r3 : IntKind.i64.wrap (j : Int) = (j : Int) := IntWalk.i64_in _ ⟨by omega, by omega⟩
  obtain ⟨m, hm⟩ : ∃ m, 6 - i = m := ⟨_, rfl⟩
  have s1 : ∀ X : World, (Instr.slice 24 (.slice (some ⟨g, 0, none⟩) 6 6) (some (.int .i64 (i : Int))) none none).run Try.prog X = .ok (.slice (some ⟨g, i, none⟩) m m) X := fun X => by
    rw [sliceFrom_st (by omega) X, if_neg (by omega), hm]
    simp [Addr.add]
    omega
  have s2 : ∀ X : World, (Instr.slice 24 (.slice (some ⟨g, 0, none⟩) 6 6) none (some (.int .i64 (j : Int))) none).run Try.prog X = .ok (.slice (some ⟨g, 0, none⟩) j 6) X := fun X => sliceTo_st (by omega) X
  have HR1 : Hid (Rows' strE w2.drew (.slice (some ⟨g, i, none⟩) m m) (sixL.drop i)) := by
    obtain ⟨e, _⟩ | ⟨g', off, c', e', hc', hg', hcl⟩ := hT2
    · cases e
    · cases e'
      refine .inr ⟨g, i, m, by rw [List.length_drop, ← hm]; rfl, by rw [List.length_drop, ← hm]; exact Nat.le_refl _, hg', fun q x hq k u hk => ?_⟩
      rw [List.getElem?_drop] at hq
      have := hcl (i + q) x hq k u hk
      rw [show strE.sz = 1 from rfl, Nat.mul_one, Nat.zero_add] at this
      rw [show strE.sz = 1 from rfl, Nat.mul_one]
      exact this
  have HR2 : Hid (Rows' strE w2.drew (.slice (some ⟨g, 0, none⟩) j 6) (sixL.take j)) := by
    have := hT2.takeS j (by omega)
    exact this.later ((Below.refl _ _).drew)
  have hdl : (sixL.drop i).length = m := by rw [List.length_drop, ← hm]; rfl
  have hdn : sixL.drop i ≠ [] := fun e => by rw [e] at hdl; simp at hdl; omega
  have HDL := Lib.hid hdl
  have HDN := Lib.hid hdn
  have HTL : Hid ((sixL.take j).length ≤ 6) := by show (sixL.take j).length ≤ 6; rw [List.length_take]; exact Nat.le_trans (Nat.min_le_right _ _) (by decide)
  have HM : Hid (m ≤ 6) := by show m ≤ 6; omega
  have HOK : Hid (∀ x ∈ sixL.drop i ++ sixL.take j, okLine x) := fun x hx => by
    rcases List.mem_append.1 hx with h | h
    · exact six_ok x (List.mem_of_mem_drop h)
    · exact six_ok x (List.mem_of_mem_take h)
  have HB2 := Lib.hid b2
  clear hib hl hlz hT hT2 b1 b2 hcode hcode1 hi hj hm hdl hdn
  go_upto_region 5 with fail
  go_cut [3] (fun v wx => Rows' strE wx v (sixL.drop i ++ sixL.take j) ∧ Below w2.drew.heap.size w2.drew wx)
  case first =>
    go_region_law (first
      | (refine step_append_full (by rfl) _ _ strE (by rfl) g i m (sixL.drop i) HDL.out HDN.out (by rfl) HR1.out _ (sixL.take j) (by rfl) HR2.out (by have := HTL.out; have := HM.out; show _ * 17 ≤ _; omega) ?_; intro v3 w3 hr3 hb3))
    all_goals
      go_wp2_with fail
      go_meet
      exact ⟨hr3, hb3⟩
  case rest =>
  obtain ⟨hr3, hb3⟩ := hcut
  obtain ⟨w3, hw3⟩ : ∃ z, z = wc := ⟨_, rfl⟩
  subst hw3
  clear p0 p1 r0 r1 r2 r3 s1 s2 hgp hcp HR1 HR2
  have hlen : (sixL.drop i ++ sixL.take j).length ≤ 12 := by rw [List.length_append]; have := HDL.out; have := HTL.out; have := HM.out; omega
  have HB3 := Lib.hid (HB2.out.drew.trans (hb3.mono (by have h1 := HB2.out.size; rw [HG.out] at h1; exact h1)))
  have HC3 : Hid (CodeIn w3 a len) := (HC2.out.later ((Below.refl _ _).drew)).later hb3
  generalize sixL.drop i ++ sixL.take j = L at *
  obtain ⟨ad, c3, rfl, hrow⟩ := hr3.txtC
  have HRW := Lib.hid hrow
  have HR3 := Lib.hid hr3
  clear hr3 hrow hb3
  go_wp2_with fail
  refine (lines_any L _ _ HR3.out HOK.out (by omega)).mono ?_
  rintro e w4 ⟨rfl, hw4⟩
  subst hw4
  obtain ⟨n, hn⟩ : ∃ n, L.length = n := ⟨_, rfl⟩
  have HN := Lib.hid hn
  rw [hn] at hlen ⊢
  clear hn
  go_wp2
  go_loopw [5, 6] (fun sv iv wr => ∃ k : Nat, k ≤ n ∧ iv = .int .i64 (k : Int) ∧ sv = .string (linT (L.drop k)) ∧ Below w4.heap.size w4 wr) (fun _ iv _ => n - (intOf iv).toNat)
  case atStart => exact ⟨0, by omega, rfl, rfl, Below.refl _ _⟩
  case round =>
    obtain ⟨k, hk, rfl, rfl, hb⟩ := hrel
    have HBB := Lib.hid hb
    clear hb
    by_cases hlt : k < n
    · have hkl : k < L.length := by rw [HN.out]; exact hlt
      have hok := HOK.out L[k] (List.getElem_mem hkl)
      have HT := Lib.hid (tk_lin (l := L.drop (k + 1)) hok)
      have hdr : L.drop k = L[k] :: L.drop (k + 1) := List.drop_eq_getElem_cons hkl
      have hsz : (linT (L.drop k)).size ≤ 100000 := by
        have h1 := linT_size (l := L.drop k) (fun x hx => HOK.out x (List.mem_of_mem_drop hx))
        have h2 : (L.drop k).length ≤ 12 := by rw [List.length_drop, HN.out]; omega
        have h3 : (L.drop k).length * 82 ≤ 12 * 82 := Nat.mul_le_mul_right _ h2
        omega
      have hgx : L[k]? = some L[k] := List.getElem?_eq_getElem hkl
      have HGX : Hid (∀ X, Below w4.heap.size w4 X → ∃ g off, ad = some ⟨g, off, none⟩ ∧ X.cell? ⟨g, off + k, none⟩ = some (.string L[k])) := fun X hX => HRW.out X hX k _ hgx
      rw [← hdr] at HT
      generalize L[k] = x at *
      have hi0 : (0 : Int) ≤ (k : Int) := by omega
      have hi1 : (k : Int) < (n : Int) := by omega
      clear hok hdr hgx
      go_wp2_with fail
      refine (implTakeLine_any _ _ (by omega)).mono ?_
      rintro e w5 ⟨⟨a', b', c', rfl, ht⟩, k5⟩
      obtain ⟨rfl, rfl, rfl⟩ := HT.out.one ht
      have HB5 := Lib.hid (HBB.out.trans (k5.mono HBB.out.size))
      obtain ⟨ga, oa, rfl, p5⟩ := HGX.out _ HB5.out
      clear ht k5 hsz
      go_wp2
      go_roundw
      case rel => exact ⟨k + 1, by omega, by go_num, rfl, HB5.out⟩
      case measure => simp [intOf]; omega
    · have e : L.drop k = [] := List.drop_eq_nil_iff.2 (by rw [HN.out]; omega)
      rw [e, linT_nil]
      have HBW := Lib.hid (HB3.out.trans (HBB.out.mono (by have h1 := HB3.out.size; rw [HG.out] at h1; exact h1)))
      have HCW : Hid (CodeIn wr a len) := HC3.out.later HBB.out
      have HH := Lib.hid tk_half
      clear e
      go_wp2_with fail
      refine (implTakeLine_any ⟨#[104, 97, 108, 102]⟩ _ (by decide)).mono ?_
      rintro e w5 ⟨⟨a', b', c', rfl, ht⟩, k5⟩
      obtain ⟨rfl, rfl, rfl⟩ := HH.out.one ht
      have HB5 := Lib.hid (HBW.out.trans (k5.mono (by have h1 := HBW.out.size; rw [HG.out] at h1; exact h1)))
      have HC5 : Hid (CodeIn w5 a len) := HCW.out.later k5
      clear ht k5
      go_wp2_with fail
      refine (drawTakeLine_any a len cap _ HC5.out hs).mono ?_
      rintro e w6 ⟨u, hu, rfl, k6⟩
      have HB6 := Lib.hid (HB5.out.trans (k6.mono (by have h1 := HB5.out.size; rw [HG.out] at h1; exact h1)))
      clear k6
      go_wp2_with fail
      refine (implTakeLine_any u _ (by omega)).mono ?_
      rintro e w7 ⟨⟨a1, b1, c1, rfl, ht⟩, k7⟩
      have HU := Lib.hid ht
      have HB7 := Lib.hid (HB6.out.trans (k7.mono (by have h1 := HB6.out.size; rw [HG.out] at h1; exact h1)))
      clear ht k7
      go_wp2_with fail
      refine (specTakeLine_any u _ (by omega)).mono ?_
      rintro e w8 ⟨⟨a2, b2, c2, rfl, ht⟩, k8⟩
      obtain ⟨rfl, rfl, rfl⟩ := HU.out.one ht
      have HB8 := Lib.hid (HB7.out.trans (k8.mono (by have h1 := HB7.out.size; rw [HG.out] at h1; exact h1)))
      clear ht k8
      go_wp2
      go_ret
      exact ⟨rfl, by rw [HG.out]; exact HB8.out⟩

end Go.Proofs.Ytichbcpidkkblaa
