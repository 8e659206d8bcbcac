/- Items: what the model's ItemFrame and FrameItem hand back. -/
import Derived.Test.YtjfilicddnhniabRecR
import Derived.Test.YtjfilicddnhniabFrOk
namespace Go.Proofs.Ytjfilicddnhniab
open Go.RowKit

/-- An item's value: its number and its record's cells. -/
def itV (seq : Int) (r : Rc) : Value := .agg #[.int .i64 seq, .int .i64 r.kind, .int .i64 r.valid, .int .i64 r.uid, .int .i64 r.next, .int .i64 r.flags, .string r.user, .string r.name, .string r.text]
/-- What ItemFrame hands back. -/
def ifT (seq : Int) (r : Rc) (gen : Int) : Value :=
  if r.ok ∧ (⟨gen, seq, r.tx⟩ : Fr).ok then .tuple #[(⟨gen, seq, r.tx⟩ : Fr).v, .bool true] else .tuple #[.agg #[.int .i64 0, .int .i64 0, .string ⟨#[]⟩], .bool false]
theorem ifT_yes {seq : Int} {r : Rc} {gen : Int} (h : r.ok) (h2 : (⟨gen, seq, r.tx⟩ : Fr).ok) : ifT seq r gen = .tuple #[(⟨gen, seq, r.tx⟩ : Fr).v, .bool true] := if_pos ⟨h, h2⟩
theorem ifT_no {seq : Int} {r : Rc} {gen : Int} (h : ¬ (r.ok ∧ (⟨gen, seq, r.tx⟩ : Fr).ok)) : ifT seq r gen = .tuple #[.agg #[.int .i64 0, .int .i64 0, .string ⟨#[]⟩], .bool false] := if_neg h


/-- What FrameItem hands back. -/
def fiT (f : Fr) : Value := if f.ok then (match rrO f.body with
  | some r => .tuple #[itV f.seq r, .bool true]
  | none => .tuple #[itV 0 Rc.nil, .bool false]) else .tuple #[itV 0 Rc.nil, .bool false]
theorem fiT_out {f : Fr} (h : ¬ f.ok) : fiT f = .tuple #[itV 0 Rc.nil, .bool false] := if_neg h
theorem fiT_none {f : Fr} (h : rrO f.body = none) : fiT f = .tuple #[itV 0 Rc.nil, .bool false] := by
  unfold fiT; rw [h]; exact ite_self _
theorem fiT_some {f : Fr} {r : Rc} (h : f.ok) (hr : rrO f.body = some r) : fiT f = .tuple #[itV f.seq r, .bool true] := by
  unfold fiT; rw [hr, if_pos h]

theorem Box.nine {w : World} {b : Nat} {u0 u1 u2 u3 u4 u5 u6 u7 u8 : Value} {t : TypeId} (h : Box w b #[u0, u1, u2, u3, u4, u5, u6, u7, u8] t) :
    w.cell? ⟨b, 0, none⟩ = some u0 ∧ w.cell? ⟨b, 1, none⟩ = some u1 ∧ w.cell? ⟨b, 2, none⟩ = some u2 ∧ w.cell? ⟨b, 3, none⟩ = some u3 ∧ w.cell? ⟨b, 4, none⟩ = some u4 ∧ w.cell? ⟨b, 5, none⟩ = some u5 ∧ w.cell? ⟨b, 6, none⟩ = some u6 ∧ w.cell? ⟨b, 7, none⟩ = some u7 ∧ w.cell? ⟨b, 8, none⟩ = some u8 ∧
    w.frozen? ⟨b, 0, none⟩ = false ∧ w.frozen? ⟨b, 1, none⟩ = false ∧ w.frozen? ⟨b, 2, none⟩ = false ∧ w.frozen? ⟨b, 3, none⟩ = false ∧ w.frozen? ⟨b, 4, none⟩ = false ∧ w.frozen? ⟨b, 5, none⟩ = false ∧ w.frozen? ⟨b, 6, none⟩ = false ∧ w.frozen? ⟨b, 7, none⟩ = false ∧ w.frozen? ⟨b, 8, none⟩ = false :=
  ⟨h.cell 0 _ rfl, h.cell 1 _ rfl, h.cell 2 _ rfl, h.cell 3 _ rfl, h.cell 4 _ rfl, h.cell 5 _ rfl, h.cell 6 _ rfl, h.cell 7 _ rfl, h.cell 8 _ rfl, h.loose 0, h.loose 1, h.loose 2, h.loose 3, h.loose 4, h.loose 5, h.loose 6, h.loose 7, h.loose 8⟩
theorem below_set9 {B b : Nat} {w0 w : World} (h : Below B w0 w) (hb : B ≤ b) (v0 v1 v2 v3 v4 v5 v6 v7 v8 : Value) : Below B w0 ((set8 w b v0 v1 v2 v3 v4 v5 v6 v7).setCell ⟨b, 8, none⟩ v8) :=
  (below_set8 h hb v0 v1 v2 v3 v4 v5 v6 v7).setCell (p := ⟨b, 8, none⟩) hb v8



end Go.Proofs.Ytjfilicddnhniab
