/- Items: what the model's ItemFrame and FrameItem hand back. -/
import Derived.Test.YtlifgcgoehkinaaDoorRecR
import Derived.Test.YtlifgcgoehkinaaDoorFrOk
namespace Go.Proofs.YtlifgcgoehkinaaDoor
open Go.RowKit

/-- An item's value: its number and its record's cells. -/
def itV (seq : Int) (r : Rc) : Value := .agg #[.int .i64 seq, .int .i64 r.kind, .int .i64 r.valid, .int .i64 r.uid, .int .i64 r.next, .int .i64 r.flags, .string r.user, .string r.name, .string r.text]
/-- What ItemFrame hands back. -/
def ifT (seq : Int) (r : Rc) (gen : Int) : Value :=
  if r.ok ∧ (⟨gen, seq, r.tx⟩ : Fr).ok then .tuple #[(⟨gen, seq, r.tx⟩ : Fr).v, .bool true] else .tuple #[.agg #[.int .i64 0, .int .i64 0, .string ⟨#[]⟩], .bool false]
theorem ifT_yes {seq : Int} {r : Rc} {gen : Int} (h : r.ok) (h2 : (⟨gen, seq, r.tx⟩ : Fr).ok) : ifT seq r gen = .tuple #[(⟨gen, seq, r.tx⟩ : Fr).v, .bool true] := if_pos ⟨h, h2⟩
theorem ifT_no {seq : Int} {r : Rc} {gen : Int} (h : ¬ (r.ok ∧ (⟨gen, seq, r.tx⟩ : Fr).ok)) : ifT seq r gen = .tuple #[.agg #[.int .i64 0, .int .i64 0, .string ⟨#[]⟩], .bool false] := if_neg h

set_option maxRecDepth 100000 in
set_option maxHeartbeats 1500000 in
theorem specItemFrame_any (seq : Int) (r : Rc) (gen : Int) (w : World) (h1 : r.user.size ≤ 1099511627776) (h2 : r.name.size ≤ 1099511627776) (h3 : r.text.size ≤ 1099511627776) :
    Calls Tryd.prog 8 #[itV seq r, .int .i64 gen] w fun e w' => e = .returned (ifT seq r gen) ∧ Below w.heap.size w w' := by
  have hRT := fun wx => specRecText_any r wx h1 h2 h3
  have hFO : r.ok → ∀ wx, _ := fun hok wx => specFrameOk_any ⟨gen, seq, r.tx⟩ wx (by have := Rc.tx_le hok; simp only; omega)
  obtain ⟨bk, o, hT, hW⟩ : ∃ (bk : ByteArray) (o : Bool), rtT r = .tuple #[.string bk, .bool o] ∧ ((o = false ∧ ¬ r.ok) ∨ (o = true ∧ bk = r.tx ∧ r.ok)) := by
    by_cases h : r.ok
    · exact ⟨_, _, rtT_yes h, .inr ⟨rfl, rfl, h⟩⟩
    · exact ⟨_, _, rtT_no h, .inl ⟨rfl, h⟩⟩
  rw [hT] at hRT
  have b0 : Below w.heap.size w (w.alloc (.cells #[.int .i64 seq, .int .i64 r.kind, .int .i64 r.valid, .int .i64 r.uid, .int .i64 r.next, .int .i64 r.flags, .string r.user, .string r.name, .string r.text] 34)) := belNew _ _
  have b1 := b0.trans ((belNew (w.alloc (.cells #[.int .i64 seq, .int .i64 r.kind, .int .i64 r.valid, .int .i64 r.uid, .int .i64 r.next, .int .i64 r.flags, .string r.user, .string r.name, .string r.text] 34)) (.cells #[.int .i64 0, .int .i64 0, .string ⟨#[]⟩] 30)).mono b0.size)
  have hI := (Box.new w #[.int .i64 seq, .int .i64 r.kind, .int .i64 r.valid, .int .i64 r.uid, .int .i64 r.next, .int .i64 r.flags, .string r.user, .string r.name, .string r.text] 34).later (belNew _ (.cells #[.int .i64 0, .int .i64 0, .string ⟨#[]⟩] 30))
  have hF := Box.new (w.alloc (.cells #[.int .i64 seq, .int .i64 r.kind, .int .i64 r.valid, .int .i64 r.uid, .int .i64 r.next, .int .i64 r.flags, .string r.user, .string r.name, .string r.text] 34)) #[.int .i64 0, .int .i64 0, .string ⟨#[]⟩] 30
  have hg : (w.alloc (.cells #[.int .i64 seq, .int .i64 r.kind, .int .i64 r.valid, .int .i64 r.uid, .int .i64 r.next, .int .i64 r.flags, .string r.user, .string r.name, .string r.text] 34)).heap.size = w.heap.size + 1 := by simp
  rw [hg] at hF
  unfold Fr.v at hFO
  simp only at hFO
  have HRT := Lib.hid hRT
  have HFO := Lib.hid hFO
  have HW := Lib.hid hW
  have HI0 : Hid (∀ v : Value, ifT seq r gen = v → ifT seq r gen = v) := fun _ h => h
  obtain ⟨T, hTT⟩ : ∃ T, ifT seq r gen = T := ⟨_, rfl⟩
  have HTT := Lib.hid hTT
  rw [hTT]
  clear hRT hFO hW hT hTT HI0 h1 h2 h3 b0 hg
  unfold Rc.v at HRT
  unfold itV
  go_enter Tryd.func8, Tryd.ntmps8
  go_wp2_with fail
  obtain ⟨g1, hg⟩ : ∃ g1, w.heap.size + 1 = g1 := ⟨_, rfl⟩
  rw [hg] at hF ⊢
  have hl : w.heap.size ≤ g1 := by omega
  clear hg
  generalize (w.alloc (.cells #[.int .i64 seq, .int .i64 r.kind, .int .i64 r.valid, .int .i64 r.uid, .int .i64 r.next, .int .i64 r.flags, .string r.user, .string r.name, .string r.text] 34)).alloc (.cells #[.int .i64 0, .int .i64 0, .string ⟨#[]⟩] 30) = W at hI hF b1 ⊢
  refine (HRT.out _).mono ?_
  rintro e w1 ⟨rfl, k1⟩
  have i0 := (hI.later k1).cell 0 _ rfl
  have hF1 := hF.later k1
  have b2 := b1.trans (k1.mono b1.size)
  clear hI hF b1 k1
  rcases HW.out with ⟨rfl, hno⟩ | ⟨rfl, rfl, hok⟩
  · have HE : Hid (T = .tuple #[.agg #[.int .i64 0, .int .i64 0, .string ⟨#[]⟩], .bool false]) := by rw [← HTT.out]; exact ifT_no (fun c => hno c.1)
    have hF2 := hF1.later (belNew w1 (.cells #[.int .i64 gen, .int .i64 seq, .string bk] 30))
    have b3 := b2.trans ((belNew w1 (.cells #[.int .i64 gen, .int .i64 seq, .string bk] 30)).mono b2.size)
    obtain ⟨z0, z1, z2, f0, f1, f2⟩ := hF2.three
    have BB := Lib.hid b3
    clear hno hF1 hF2 b2 b3
    go_wp2
    refine bodyPost_ret (v := .tuple #[.agg #[.int .i64 0, .int .i64 0, .string ⟨#[]⟩], .bool false]) (by simp [results, Tryd.results8, go_sem, z0, z1, z2]) rfl ?_
    exact ⟨by rw [HE.out], below_set3 BB.out hl _ _ _⟩
  · have hFO := HFO.out hok
    have hF2 := hF1.later (belNew w1 (.cells #[.int .i64 gen, .int .i64 seq, .string r.tx] 30))
    have hN2 := Box.new w1 #[.int .i64 gen, .int .i64 seq, .string r.tx] 30
    have b3 := b2.trans ((belNew w1 (.cells #[.int .i64 gen, .int .i64 seq, .string r.tx] 30)).mono b2.size)
    go_wp2_with fail
    generalize w1.alloc (.cells #[.int .i64 gen, .int .i64 seq, .string r.tx] 30) = X at hF2 hN2 b3 ⊢
    refine (hFO _).mono ?_
    rintro e w2 ⟨rfl, k2⟩
    obtain ⟨z0, z1, z2, f0, f1, f2⟩ := (hF2.later k2).three
    obtain ⟨y0, y1, y2, e0, e1, e2⟩ := (hN2.later k2).three
    have BB := Lib.hid (b3.trans (k2.mono b3.size))
    clear hFO hF1 hF2 hN2 b2 b3 k2 i0
    by_cases hf : (⟨gen, seq, r.tx⟩ : Fr).ok
    · have HE : Hid (T = .tuple #[(⟨gen, seq, r.tx⟩ : Fr).v, .bool true]) := by rw [← HTT.out]; exact ifT_yes hok hf
      rw [decide_eq_true hf]
      clear hok hf HW HTT HFO HRT
      go_wp2
      refine bodyPost_ret (v := .tuple #[.agg #[.int .i64 gen, .int .i64 seq, .string r.tx], .bool true]) (by simp [results, Tryd.results8, go_sem, z0, z1, z2]) rfl ?_
      exact ⟨by rw [HE.out]; rfl, below_set3 BB.out hl _ _ _⟩
    · have HE : Hid (T = .tuple #[.agg #[.int .i64 0, .int .i64 0, .string ⟨#[]⟩], .bool false]) := by rw [← HTT.out]; exact ifT_no (fun c => hf c.2)
      rw [decide_eq_false hf]
      clear hok hf HW HTT HFO HRT
      go_wp2
      refine bodyPost_ret (v := .tuple #[.agg #[.int .i64 0, .int .i64 0, .string ⟨#[]⟩], .bool false]) (by simp [results, Tryd.results8, go_sem, z0, z1, z2]) rfl ?_
      exact ⟨by rw [HE.out], below_set3 BB.out hl _ _ _⟩

/-- What FrameItem hands back. -/
def fiT (f : Fr) : Value := if f.ok then (match rrO f.body with
  | some r => .tuple #[itV f.seq r, .bool true]
  | none => .tuple #[itV 0 Rc.nil, .bool false]) else .tuple #[itV 0 Rc.nil, .bool false]
theorem fiT_out {f : Fr} (h : ¬ f.ok) : fiT f = .tuple #[itV 0 Rc.nil, .bool false] := if_neg h
theorem fiT_none {f : Fr} (h : rrO f.body = none) : fiT f = .tuple #[itV 0 Rc.nil, .bool false] := by
  unfold fiT; rw [h]; exact ite_self _
theorem fiT_some {f : Fr} {r : Rc} (h : f.ok) (hr : rrO f.body = some r) : fiT f = .tuple #[itV f.seq r, .bool true] := by
  unfold fiT; rw [hr, if_pos h]

theorem Box.nine {w : World} {b : Nat} {u0 u1 u2 u3 u4 u5 u6 u7 u8 : Value} {t : TypeId} (h : Box w b #[u0, u1, u2, u3, u4, u5, u6, u7, u8] t) :
    w.cell? ⟨b, 0, none⟩ = some u0 ∧ w.cell? ⟨b, 1, none⟩ = some u1 ∧ w.cell? ⟨b, 2, none⟩ = some u2 ∧ w.cell? ⟨b, 3, none⟩ = some u3 ∧ w.cell? ⟨b, 4, none⟩ = some u4 ∧ w.cell? ⟨b, 5, none⟩ = some u5 ∧ w.cell? ⟨b, 6, none⟩ = some u6 ∧ w.cell? ⟨b, 7, none⟩ = some u7 ∧ w.cell? ⟨b, 8, none⟩ = some u8 ∧
    w.frozen? ⟨b, 0, none⟩ = false ∧ w.frozen? ⟨b, 1, none⟩ = false ∧ w.frozen? ⟨b, 2, none⟩ = false ∧ w.frozen? ⟨b, 3, none⟩ = false ∧ w.frozen? ⟨b, 4, none⟩ = false ∧ w.frozen? ⟨b, 5, none⟩ = false ∧ w.frozen? ⟨b, 6, none⟩ = false ∧ w.frozen? ⟨b, 7, none⟩ = false ∧ w.frozen? ⟨b, 8, none⟩ = false :=
  ⟨h.cell 0 _ rfl, h.cell 1 _ rfl, h.cell 2 _ rfl, h.cell 3 _ rfl, h.cell 4 _ rfl, h.cell 5 _ rfl, h.cell 6 _ rfl, h.cell 7 _ rfl, h.cell 8 _ rfl, h.loose 0, h.loose 1, h.loose 2, h.loose 3, h.loose 4, h.loose 5, h.loose 6, h.loose 7, h.loose 8⟩
theorem below_set9 {B b : Nat} {w0 w : World} (h : Below B w0 w) (hb : B ≤ b) (v0 v1 v2 v3 v4 v5 v6 v7 v8 : Value) : Below B w0 ((set8 w b v0 v1 v2 v3 v4 v5 v6 v7).setCell ⟨b, 8, none⟩ v8) :=
  (below_set8 h hb v0 v1 v2 v3 v4 v5 v6 v7).setCell (p := ⟨b, 8, none⟩) hb v8



end Go.Proofs.YtlifgcgoehkinaaDoor
