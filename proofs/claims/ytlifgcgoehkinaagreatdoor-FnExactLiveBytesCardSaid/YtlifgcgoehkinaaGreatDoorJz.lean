/- Texts of our own, joined. -/
import Derived.Test.YtlifgcgoehkinaaGreatDoorJy
import Derived.Test.YtlifgcgoehkinaaGreatDoorJd
/- Records: what the program's recOf tells back. -/
namespace Go.Proofs.YtlifgcgoehkinaaGreatDoor
open Go.RowKit

set_option maxRecDepth 100000 in
set_option maxHeartbeats 1000000 in
theorem recOf_1 (v n : Int) (u m : ByteArray) (w : World) :
    Calls Tryz.prog 95 #[.iface 160 (.agg #[.int .i64 v, .int .i64 n, .string u, .string m])] w fun e w' => e = .returned (Rc.v ⟨1, v, 0, n, 0, u, m, emp⟩) ∧ Below w.heap.size w w' := by
  have t1 : ∀ wx, (Instr.typeAssert (.iface 160 (.agg #[.int .i64 v, .int .i64 n, .string u, .string m])) 145 160 true).run Tryz.prog wx = .ok (.tuple #[.agg #[.int .i64 v, .int .i64 n, .string u, .string m], .bool true]) wx := fun _ => by kernel_rfl
  go_enter Tryz.func95, Tryz.ntmps95
  go_wp2
  refine bodyPost_ret (v := Rc.v ⟨1, v, 0, n, 0, u, m, emp⟩) (by simp [results, Tryz.results95, go_sem, Rc.v, emp]) rfl ?_
  exact ⟨rfl, ((Below.refl _ _).alloc (Nat.le_refl _) _).alloc (by simp) _⟩

set_option maxRecDepth 100000 in
set_option maxHeartbeats 1000000 in
theorem recOf_2 (v : Int) (w : World) :
    Calls Tryz.prog 95 #[.iface 162 (.agg #[.int .i64 v])] w fun e w' => e = .returned (Rc.v ⟨2, v, 0, 0, 0, emp, emp, emp⟩) ∧ Below w.heap.size w w' := by
  have t1 : ∀ wx, (Instr.typeAssert (.iface 162 (.agg #[.int .i64 v])) 145 160 true).run Tryz.prog wx = .ok (.tuple #[.agg #[.int .i64 0, .int .i64 0, .string ⟨#[]⟩, .string ⟨#[]⟩], .bool false]) wx := fun _ => by kernel_rfl
  have t2 : ∀ wx, (Instr.typeAssert (.iface 162 (.agg #[.int .i64 v])) 145 162 true).run Tryz.prog wx = .ok (.tuple #[.agg #[.int .i64 v], .bool true]) wx := fun _ => by kernel_rfl
  go_enter Tryz.func95, Tryz.ntmps95
  go_wp2
  refine bodyPost_ret (v := Rc.v ⟨2, v, 0, 0, 0, emp, emp, emp⟩) (by simp [results, Tryz.results95, go_sem, Rc.v, emp]) rfl ?_
  exact ⟨rfl, ((Below.refl _ _).alloc (Nat.le_refl _) _).alloc (by simp) _⟩

set_option maxRecDepth 100000 in
set_option maxHeartbeats 1000000 in
theorem recOf_3 (v u f : Int) (t : ByteArray) (w : World) :
    Calls Tryz.prog 95 #[.iface 164 (.agg #[.int .i64 v, .int .i64 u, .int .i64 f, .string t])] w fun e w' => e = .returned (Rc.v ⟨3, v, u, 0, f, emp, emp, t⟩) ∧ Below w.heap.size w w' := by
  have t1 : ∀ wx, (Instr.typeAssert (.iface 164 (.agg #[.int .i64 v, .int .i64 u, .int .i64 f, .string t])) 145 160 true).run Tryz.prog wx = .ok (.tuple #[.agg #[.int .i64 0, .int .i64 0, .string ⟨#[]⟩, .string ⟨#[]⟩], .bool false]) wx := fun _ => by kernel_rfl
  have t2 : ∀ wx, (Instr.typeAssert (.iface 164 (.agg #[.int .i64 v, .int .i64 u, .int .i64 f, .string t])) 145 162 true).run Tryz.prog wx = .ok (.tuple #[.agg #[.int .i64 0], .bool false]) wx := fun _ => by kernel_rfl
  have t3 : ∀ wx, (Instr.typeAssert (.iface 164 (.agg #[.int .i64 v, .int .i64 u, .int .i64 f, .string t])) 145 164 true).run Tryz.prog wx = .ok (.tuple #[.agg #[.int .i64 v, .int .i64 u, .int .i64 f, .string t], .bool true]) wx := fun _ => by kernel_rfl
  go_enter Tryz.func95, Tryz.ntmps95
  go_wp2
  refine bodyPost_ret (v := Rc.v ⟨3, v, u, 0, f, emp, emp, t⟩) (by simp [results, Tryz.results95, go_sem, Rc.v, emp]) rfl ?_
  exact ⟨rfl, ((Below.refl _ _).alloc (Nat.le_refl _) _).alloc (by simp) _⟩

set_option maxRecDepth 100000 in
set_option maxHeartbeats 1000000 in
theorem recOf_4 (v u f : Int) (w : World) :
    Calls Tryz.prog 95 #[.iface 166 (.agg #[.int .i64 v, .int .i64 u, .int .i64 f])] w fun e w' => e = .returned (Rc.v ⟨4, v, u, 0, f, emp, emp, emp⟩) ∧ Below w.heap.size w w' := by
  have t1 : ∀ wx, (Instr.typeAssert (.iface 166 (.agg #[.int .i64 v, .int .i64 u, .int .i64 f])) 145 160 true).run Tryz.prog wx = .ok (.tuple #[.agg #[.int .i64 0, .int .i64 0, .string ⟨#[]⟩, .string ⟨#[]⟩], .bool false]) wx := fun _ => by kernel_rfl
  have t2 : ∀ wx, (Instr.typeAssert (.iface 166 (.agg #[.int .i64 v, .int .i64 u, .int .i64 f])) 145 162 true).run Tryz.prog wx = .ok (.tuple #[.agg #[.int .i64 0], .bool false]) wx := fun _ => by kernel_rfl
  have t3 : ∀ wx, (Instr.typeAssert (.iface 166 (.agg #[.int .i64 v, .int .i64 u, .int .i64 f])) 145 164 true).run Tryz.prog wx = .ok (.tuple #[.agg #[.int .i64 0, .int .i64 0, .int .i64 0, .string ⟨#[]⟩], .bool false]) wx := fun _ => by kernel_rfl
  have t4 : ∀ wx, (Instr.typeAssert (.iface 166 (.agg #[.int .i64 v, .int .i64 u, .int .i64 f])) 145 166 true).run Tryz.prog wx = .ok (.tuple #[.agg #[.int .i64 v, .int .i64 u, .int .i64 f], .bool true]) wx := fun _ => by kernel_rfl
  go_enter Tryz.func95, Tryz.ntmps95
  go_wp2
  refine bodyPost_ret (v := Rc.v ⟨4, v, u, 0, f, emp, emp, emp⟩) (by simp [results, Tryz.results95, go_sem, Rc.v, emp]) rfl ?_
  exact ⟨rfl, ((Below.refl _ _).alloc (Nat.le_refl _) _).alloc (by simp) _⟩

set_option maxRecDepth 100000 in
set_option maxHeartbeats 1000000 in
theorem recOf_5 (v u : Int) (w : World) :
    Calls Tryz.prog 95 #[.iface 168 (.agg #[.int .i64 v, .int .i64 u])] w fun e w' => e = .returned (Rc.v ⟨5, v, u, 0, 0, emp, emp, emp⟩) ∧ Below w.heap.size w w' := by
  have t1 : ∀ wx, (Instr.typeAssert (.iface 168 (.agg #[.int .i64 v, .int .i64 u])) 145 160 true).run Tryz.prog wx = .ok (.tuple #[.agg #[.int .i64 0, .int .i64 0, .string ⟨#[]⟩, .string ⟨#[]⟩], .bool false]) wx := fun _ => by kernel_rfl
  have t2 : ∀ wx, (Instr.typeAssert (.iface 168 (.agg #[.int .i64 v, .int .i64 u])) 145 162 true).run Tryz.prog wx = .ok (.tuple #[.agg #[.int .i64 0], .bool false]) wx := fun _ => by kernel_rfl
  have t3 : ∀ wx, (Instr.typeAssert (.iface 168 (.agg #[.int .i64 v, .int .i64 u])) 145 164 true).run Tryz.prog wx = .ok (.tuple #[.agg #[.int .i64 0, .int .i64 0, .int .i64 0, .string ⟨#[]⟩], .bool false]) wx := fun _ => by kernel_rfl
  have t4 : ∀ wx, (Instr.typeAssert (.iface 168 (.agg #[.int .i64 v, .int .i64 u])) 145 166 true).run Tryz.prog wx = .ok (.tuple #[.agg #[.int .i64 0, .int .i64 0, .int .i64 0], .bool false]) wx := fun _ => by kernel_rfl
  have t5 : ∀ wx, (Instr.typeAssert (.iface 168 (.agg #[.int .i64 v, .int .i64 u])) 145 168 true).run Tryz.prog wx = .ok (.tuple #[.agg #[.int .i64 v, .int .i64 u], .bool true]) wx := fun _ => by kernel_rfl
  go_enter Tryz.func95, Tryz.ntmps95
  go_wp2
  refine bodyPost_ret (v := Rc.v ⟨5, v, u, 0, 0, emp, emp, emp⟩) (by simp [results, Tryz.results95, go_sem, Rc.v, emp]) rfl ?_
  exact ⟨rfl, ((Below.refl _ _).alloc (Nat.le_refl _) _).alloc (by simp) _⟩

instance decRcEq (a b : Rc) : Decidable (a = b) :=
  decidable_of_iff (a.kind = b.kind ∧ a.valid = b.valid ∧ a.uid = b.uid ∧ a.next = b.next ∧ a.flags = b.flags ∧ a.user = b.user ∧ a.name = b.name ∧ a.text = b.text) (by
    obtain ⟨a0, a1, a2, a3, a4, a5, a6, a7⟩ := a
    obtain ⟨b0, b1, b2, b3, b4, b5, b6, b7⟩ := b
    simp)

theorem ba_inj (a b : ByteArray) : a.toList = b.toList ↔ a = b := by
  have h := ba_beq a b
  constructor
  · intro e
    rw [beq_iff_eq.2 e] at h
    exact of_decide_eq_true h.symm
  · intro e; rw [e]

end Go.Proofs.YtlifgcgoehkinaaGreatDoor
