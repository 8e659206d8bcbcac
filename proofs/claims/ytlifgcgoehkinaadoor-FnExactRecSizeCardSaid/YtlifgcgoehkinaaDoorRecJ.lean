/- Records: what the program's recOf tells back. -/
import Derived.Test.YtlifgcgoehkinaaDoorRecI
import Derived.Test.YtlifgcgoehkinaaDoorRecR
namespace Go.Proofs.YtlifgcgoehkinaaDoor
open Go.RowKit

set_option maxRecDepth 100000 in
set_option maxHeartbeats 1000000 in
theorem recOf_1 (v n : Int) (u m : ByteArray) (w : World) :
    Calls Tryd.prog 32 #[.iface 65 (.agg #[.int .i64 v, .int .i64 n, .string u, .string m])] w fun e w' => e = .returned (Rc.v ⟨1, v, 0, n, 0, u, m, emp⟩) ∧ Below w.heap.size w w' := by
  have t1 : ∀ wx, (Instr.typeAssert (.iface 65 (.agg #[.int .i64 v, .int .i64 n, .string u, .string m])) 55 65 true).run Tryd.prog wx = .ok (.tuple #[.agg #[.int .i64 v, .int .i64 n, .string u, .string m], .bool true]) wx := fun _ => by kernel_rfl
  go_enter Tryd.func32, Tryd.ntmps32
  go_wp2
  refine bodyPost_ret (v := Rc.v ⟨1, v, 0, n, 0, u, m, emp⟩) (by simp [results, Tryd.results32, go_sem, Rc.v, emp]) rfl ?_
  exact ⟨rfl, ((Below.refl _ _).alloc (Nat.le_refl _) _).alloc (by simp) _⟩

set_option maxRecDepth 100000 in
set_option maxHeartbeats 1000000 in
theorem recOf_2 (v : Int) (w : World) :
    Calls Tryd.prog 32 #[.iface 67 (.agg #[.int .i64 v])] w fun e w' => e = .returned (Rc.v ⟨2, v, 0, 0, 0, emp, emp, emp⟩) ∧ Below w.heap.size w w' := by
  have t1 : ∀ wx, (Instr.typeAssert (.iface 67 (.agg #[.int .i64 v])) 55 65 true).run Tryd.prog wx = .ok (.tuple #[.agg #[.int .i64 0, .int .i64 0, .string ⟨#[]⟩, .string ⟨#[]⟩], .bool false]) wx := fun _ => by kernel_rfl
  have t2 : ∀ wx, (Instr.typeAssert (.iface 67 (.agg #[.int .i64 v])) 55 67 true).run Tryd.prog wx = .ok (.tuple #[.agg #[.int .i64 v], .bool true]) wx := fun _ => by kernel_rfl
  go_enter Tryd.func32, Tryd.ntmps32
  go_wp2
  refine bodyPost_ret (v := Rc.v ⟨2, v, 0, 0, 0, emp, emp, emp⟩) (by simp [results, Tryd.results32, go_sem, Rc.v, emp]) rfl ?_
  exact ⟨rfl, ((Below.refl _ _).alloc (Nat.le_refl _) _).alloc (by simp) _⟩

set_option maxRecDepth 100000 in
set_option maxHeartbeats 1000000 in
theorem recOf_3 (v u f : Int) (t : ByteArray) (w : World) :
    Calls Tryd.prog 32 #[.iface 69 (.agg #[.int .i64 v, .int .i64 u, .int .i64 f, .string t])] w fun e w' => e = .returned (Rc.v ⟨3, v, u, 0, f, emp, emp, t⟩) ∧ Below w.heap.size w w' := by
  have t1 : ∀ wx, (Instr.typeAssert (.iface 69 (.agg #[.int .i64 v, .int .i64 u, .int .i64 f, .string t])) 55 65 true).run Tryd.prog wx = .ok (.tuple #[.agg #[.int .i64 0, .int .i64 0, .string ⟨#[]⟩, .string ⟨#[]⟩], .bool false]) wx := fun _ => by kernel_rfl
  have t2 : ∀ wx, (Instr.typeAssert (.iface 69 (.agg #[.int .i64 v, .int .i64 u, .int .i64 f, .string t])) 55 67 true).run Tryd.prog wx = .ok (.tuple #[.agg #[.int .i64 0], .bool false]) wx := fun _ => by kernel_rfl
  have t3 : ∀ wx, (Instr.typeAssert (.iface 69 (.agg #[.int .i64 v, .int .i64 u, .int .i64 f, .string t])) 55 69 true).run Tryd.prog wx = .ok (.tuple #[.agg #[.int .i64 v, .int .i64 u, .int .i64 f, .string t], .bool true]) wx := fun _ => by kernel_rfl
  go_enter Tryd.func32, Tryd.ntmps32
  go_wp2
  refine bodyPost_ret (v := Rc.v ⟨3, v, u, 0, f, emp, emp, t⟩) (by simp [results, Tryd.results32, go_sem, Rc.v, emp]) rfl ?_
  exact ⟨rfl, ((Below.refl _ _).alloc (Nat.le_refl _) _).alloc (by simp) _⟩

set_option maxRecDepth 100000 in
set_option maxHeartbeats 1000000 in
theorem recOf_4 (v u f : Int) (w : World) :
    Calls Tryd.prog 32 #[.iface 71 (.agg #[.int .i64 v, .int .i64 u, .int .i64 f])] w fun e w' => e = .returned (Rc.v ⟨4, v, u, 0, f, emp, emp, emp⟩) ∧ Below w.heap.size w w' := by
  have t1 : ∀ wx, (Instr.typeAssert (.iface 71 (.agg #[.int .i64 v, .int .i64 u, .int .i64 f])) 55 65 true).run Tryd.prog wx = .ok (.tuple #[.agg #[.int .i64 0, .int .i64 0, .string ⟨#[]⟩, .string ⟨#[]⟩], .bool false]) wx := fun _ => by kernel_rfl
  have t2 : ∀ wx, (Instr.typeAssert (.iface 71 (.agg #[.int .i64 v, .int .i64 u, .int .i64 f])) 55 67 true).run Tryd.prog wx = .ok (.tuple #[.agg #[.int .i64 0], .bool false]) wx := fun _ => by kernel_rfl
  have t3 : ∀ wx, (Instr.typeAssert (.iface 71 (.agg #[.int .i64 v, .int .i64 u, .int .i64 f])) 55 69 true).run Tryd.prog wx = .ok (.tuple #[.agg #[.int .i64 0, .int .i64 0, .int .i64 0, .string ⟨#[]⟩], .bool false]) wx := fun _ => by kernel_rfl
  have t4 : ∀ wx, (Instr.typeAssert (.iface 71 (.agg #[.int .i64 v, .int .i64 u, .int .i64 f])) 55 71 true).run Tryd.prog wx = .ok (.tuple #[.agg #[.int .i64 v, .int .i64 u, .int .i64 f], .bool true]) wx := fun _ => by kernel_rfl
  go_enter Tryd.func32, Tryd.ntmps32
  go_wp2
  refine bodyPost_ret (v := Rc.v ⟨4, v, u, 0, f, emp, emp, emp⟩) (by simp [results, Tryd.results32, go_sem, Rc.v, emp]) rfl ?_
  exact ⟨rfl, ((Below.refl _ _).alloc (Nat.le_refl _) _).alloc (by simp) _⟩

set_option maxRecDepth 100000 in
set_option maxHeartbeats 1000000 in
theorem recOf_5 (v u : Int) (w : World) :
    Calls Tryd.prog 32 #[.iface 73 (.agg #[.int .i64 v, .int .i64 u])] w fun e w' => e = .returned (Rc.v ⟨5, v, u, 0, 0, emp, emp, emp⟩) ∧ Below w.heap.size w w' := by
  have t1 : ∀ wx, (Instr.typeAssert (.iface 73 (.agg #[.int .i64 v, .int .i64 u])) 55 65 true).run Tryd.prog wx = .ok (.tuple #[.agg #[.int .i64 0, .int .i64 0, .string ⟨#[]⟩, .string ⟨#[]⟩], .bool false]) wx := fun _ => by kernel_rfl
  have t2 : ∀ wx, (Instr.typeAssert (.iface 73 (.agg #[.int .i64 v, .int .i64 u])) 55 67 true).run Tryd.prog wx = .ok (.tuple #[.agg #[.int .i64 0], .bool false]) wx := fun _ => by kernel_rfl
  have t3 : ∀ wx, (Instr.typeAssert (.iface 73 (.agg #[.int .i64 v, .int .i64 u])) 55 69 true).run Tryd.prog wx = .ok (.tuple #[.agg #[.int .i64 0, .int .i64 0, .int .i64 0, .string ⟨#[]⟩], .bool false]) wx := fun _ => by kernel_rfl
  have t4 : ∀ wx, (Instr.typeAssert (.iface 73 (.agg #[.int .i64 v, .int .i64 u])) 55 71 true).run Tryd.prog wx = .ok (.tuple #[.agg #[.int .i64 0, .int .i64 0, .int .i64 0], .bool false]) wx := fun _ => by kernel_rfl
  have t5 : ∀ wx, (Instr.typeAssert (.iface 73 (.agg #[.int .i64 v, .int .i64 u])) 55 73 true).run Tryd.prog wx = .ok (.tuple #[.agg #[.int .i64 v, .int .i64 u], .bool true]) wx := fun _ => by kernel_rfl
  go_enter Tryd.func32, Tryd.ntmps32
  go_wp2
  refine bodyPost_ret (v := Rc.v ⟨5, v, u, 0, 0, emp, emp, emp⟩) (by simp [results, Tryd.results32, go_sem, Rc.v, emp]) rfl ?_
  exact ⟨rfl, ((Below.refl _ _).alloc (Nat.le_refl _) _).alloc (by simp) _⟩

instance decRcEq (a b : Rc) : Decidable (a = b) :=
  decidable_of_iff (a.kind = b.kind ∧ a.valid = b.valid ∧ a.uid = b.uid ∧ a.next = b.next ∧ a.flags = b.flags ∧ a.user = b.user ∧ a.name = b.name ∧ a.text = b.text) (by
    obtain ⟨a0, a1, a2, a3, a4, a5, a6, a7⟩ := a
    obtain ⟨b0, b1, b2, b3, b4, b5, b6, b7⟩ := b
    simp)

theorem rec_fields : Tryd.prog.underlying 26 = some (.struct (Tryd.prog.fieldsOf 26)) := by kernel_rfl

theorem ba_inj (a b : ByteArray) : a.toList = b.toList ↔ a = b := by
  have h := ba_beq a b
  constructor
  · intro e
    rw [beq_iff_eq.2 e] at h
    exact of_decide_eq_true h.symm
  · intro e; rw [e]

set_option maxRecDepth 100000 in
theorem run_rec_equal (a b : Rc) (w : World) : (Op.equalIn 10000 26 a.v b.v).run Tryd.prog w = .ok (decide (a = b)) w := by
  unfold Rc.v
  rw [run_equalIn_agg _ 9999 _ _ _ rec_fields (by kernel_rfl)]
  obtain ⟨a0, a1, a2, a3, a4, a5, a6, a7⟩ := a
  obtain ⟨b0, b1, b2, b3, b4, b5, b6, b7⟩ := b
  simp [go_sem, Op.eqFields, Tryd.underlying26, Program.fieldsOf]
  simp only [ba_inj]
  by_cases h0 : a0 = b0 <;> by_cases h1 : a1 = b1 <;> by_cases h2 : a2 = b2 <;> by_cases h3 : a3 = b3 <;> by_cases h4 : a4 = b4 <;> by_cases h5 : a5 = b5 <;> by_cases h6 : a6 = b6 <;> by_cases h7 : a7 = b7 <;> simp only [h0, h1, h2, h3, h4, h5, h6, h7, if_true, if_false, decide_true, decide_false, Bool.and_true, Bool.and_false]

theorem run_rec_eql (a b : Rc) (w : World) : (binOp .eql 26 a.v b.v).run Tryd.prog w = .ok (.bool (decide (a = b))) w := by
  have h := run_rec_equal a b w
  unfold Rc.v at h ⊢
  rw [run_eql_struct, h]; rfl
theorem run_rec_neq (a b : Rc) (w : World) : (binOp .neq 26 a.v b.v).run Tryd.prog w = .ok (.bool (!decide (a = b))) w := by
  have h := run_rec_equal a b w
  unfold Rc.v at h ⊢
  rw [run_neq_struct, h]; rfl

end Go.Proofs.YtlifgcgoehkinaaDoor
