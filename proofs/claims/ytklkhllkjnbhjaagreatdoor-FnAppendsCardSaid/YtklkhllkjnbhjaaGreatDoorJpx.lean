/- Texts of our own, joined. -/
import Derived.Test.YtklkhllkjnbhjaaGreatDoorJox
import Derived.Test.YtklkhllkjnbhjaaGreatDoorJn
import Derived.Test.YtklkhllkjnbhjaaGreatDoorJl
/- Records: what the program's recOf tells back. -/
namespace Go.Proofs.YtklkhllkjnbhjaaGreatDoor
open Go.RowKit
set_option maxRecDepth 100000
set_option maxHeartbeats 8000000
theorem recOf_1 (v n : Int) (u m : ByteArray) (w : World) :
    Calls Tryz.prog 96 #[.iface 160 (.agg #[.int .i64 v, .int .i64 n, .string u, .string m])] w fun e w' => e = .returned (Rc.v ⟨1, v, 0, n, 0, u, m, emp⟩) ∧ Below w.heap.size w w' := by
  have t1 : ∀ wx, (Instr.typeAssert (.iface 160 (.agg #[.int .i64 v, .int .i64 n, .string u, .string m])) 134 160 true).run Tryz.prog wx = .ok (.tuple #[.agg #[.int .i64 v, .int .i64 n, .string u, .string m], .bool true]) wx := fun _ => by kernel_rfl
  go_enter Tryz.func96, Tryz.ntmps96
  go_wp2; refine bodyPost_ret (v := Rc.v ⟨1, v, 0, n, 0, u, m, emp⟩) (by simp [results, Tryz.results96, go_sem, Rc.v, emp]) rfl ?_; exact ⟨rfl, ((Below.refl _ _).alloc (Nat.le_refl _) _).alloc (by simp) _⟩
theorem recOf_2 (v : Int) (w : World) :
    Calls Tryz.prog 96 #[.iface 162 (.agg #[.int .i64 v])] w fun e w' => e = .returned (Rc.v ⟨2, v, 0, 0, 0, emp, emp, emp⟩) ∧ Below w.heap.size w w' := by
  have t1 : ∀ wx, (Instr.typeAssert (.iface 162 (.agg #[.int .i64 v])) 134 160 true).run Tryz.prog wx = .ok (.tuple #[.agg #[.int .i64 0, .int .i64 0, .string ⟨#[]⟩, .string ⟨#[]⟩], .bool false]) wx := fun _ => by kernel_rfl
  have t2 : ∀ wx, (Instr.typeAssert (.iface 162 (.agg #[.int .i64 v])) 134 162 true).run Tryz.prog wx = .ok (.tuple #[.agg #[.int .i64 v], .bool true]) wx := fun _ => by kernel_rfl
  go_enter Tryz.func96, Tryz.ntmps96
  go_wp2; refine bodyPost_ret (v := Rc.v ⟨2, v, 0, 0, 0, emp, emp, emp⟩) (by simp [results, Tryz.results96, go_sem, Rc.v, emp]) rfl ?_; exact ⟨rfl, ((Below.refl _ _).alloc (Nat.le_refl _) _).alloc (by simp) _⟩
theorem recOf_3 (v u f : Int) (t : ByteArray) (w : World) :
    Calls Tryz.prog 96 #[.iface 164 (.agg #[.int .i64 v, .int .i64 u, .int .i64 f, .string t])] w fun e w' => e = .returned (Rc.v ⟨3, v, u, 0, f, emp, emp, t⟩) ∧ Below w.heap.size w w' := by
  have t1 : ∀ wx, (Instr.typeAssert (.iface 164 (.agg #[.int .i64 v, .int .i64 u, .int .i64 f, .string t])) 134 160 true).run Tryz.prog wx = .ok (.tuple #[.agg #[.int .i64 0, .int .i64 0, .string ⟨#[]⟩, .string ⟨#[]⟩], .bool false]) wx := fun _ => by kernel_rfl
  have t2 : ∀ wx, (Instr.typeAssert (.iface 164 (.agg #[.int .i64 v, .int .i64 u, .int .i64 f, .string t])) 134 162 true).run Tryz.prog wx = .ok (.tuple #[.agg #[.int .i64 0], .bool false]) wx := fun _ => by kernel_rfl
  have t3 : ∀ wx, (Instr.typeAssert (.iface 164 (.agg #[.int .i64 v, .int .i64 u, .int .i64 f, .string t])) 134 164 true).run Tryz.prog wx = .ok (.tuple #[.agg #[.int .i64 v, .int .i64 u, .int .i64 f, .string t], .bool true]) wx := fun _ => by kernel_rfl
  go_enter Tryz.func96, Tryz.ntmps96
  go_wp2; refine bodyPost_ret (v := Rc.v ⟨3, v, u, 0, f, emp, emp, t⟩) (by simp [results, Tryz.results96, go_sem, Rc.v, emp]) rfl ?_; exact ⟨rfl, ((Below.refl _ _).alloc (Nat.le_refl _) _).alloc (by simp) _⟩
theorem recOf_4 (v u f : Int) (w : World) :
    Calls Tryz.prog 96 #[.iface 166 (.agg #[.int .i64 v, .int .i64 u, .int .i64 f])] w fun e w' => e = .returned (Rc.v ⟨4, v, u, 0, f, emp, emp, emp⟩) ∧ Below w.heap.size w w' := by
  have t1 : ∀ wx, (Instr.typeAssert (.iface 166 (.agg #[.int .i64 v, .int .i64 u, .int .i64 f])) 134 160 true).run Tryz.prog wx = .ok (.tuple #[.agg #[.int .i64 0, .int .i64 0, .string ⟨#[]⟩, .string ⟨#[]⟩], .bool false]) wx := fun _ => by kernel_rfl
  have t2 : ∀ wx, (Instr.typeAssert (.iface 166 (.agg #[.int .i64 v, .int .i64 u, .int .i64 f])) 134 162 true).run Tryz.prog wx = .ok (.tuple #[.agg #[.int .i64 0], .bool false]) wx := fun _ => by kernel_rfl
  have t3 : ∀ wx, (Instr.typeAssert (.iface 166 (.agg #[.int .i64 v, .int .i64 u, .int .i64 f])) 134 164 true).run Tryz.prog wx = .ok (.tuple #[.agg #[.int .i64 0, .int .i64 0, .int .i64 0, .string ⟨#[]⟩], .bool false]) wx := fun _ => by kernel_rfl
  have t4 : ∀ wx, (Instr.typeAssert (.iface 166 (.agg #[.int .i64 v, .int .i64 u, .int .i64 f])) 134 166 true).run Tryz.prog wx = .ok (.tuple #[.agg #[.int .i64 v, .int .i64 u, .int .i64 f], .bool true]) wx := fun _ => by kernel_rfl
  go_enter Tryz.func96, Tryz.ntmps96
  go_wp2; refine bodyPost_ret (v := Rc.v ⟨4, v, u, 0, f, emp, emp, emp⟩) (by simp [results, Tryz.results96, go_sem, Rc.v, emp]) rfl ?_; exact ⟨rfl, ((Below.refl _ _).alloc (Nat.le_refl _) _).alloc (by simp) _⟩
theorem recOf_5 (v u : Int) (w : World) :
    Calls Tryz.prog 96 #[.iface 168 (.agg #[.int .i64 v, .int .i64 u])] w fun e w' => e = .returned (Rc.v ⟨5, v, u, 0, 0, emp, emp, emp⟩) ∧ Below w.heap.size w w' := by
  have t1 : ∀ wx, (Instr.typeAssert (.iface 168 (.agg #[.int .i64 v, .int .i64 u])) 134 160 true).run Tryz.prog wx = .ok (.tuple #[.agg #[.int .i64 0, .int .i64 0, .string ⟨#[]⟩, .string ⟨#[]⟩], .bool false]) wx := fun _ => by kernel_rfl
  have t2 : ∀ wx, (Instr.typeAssert (.iface 168 (.agg #[.int .i64 v, .int .i64 u])) 134 162 true).run Tryz.prog wx = .ok (.tuple #[.agg #[.int .i64 0], .bool false]) wx := fun _ => by kernel_rfl
  have t3 : ∀ wx, (Instr.typeAssert (.iface 168 (.agg #[.int .i64 v, .int .i64 u])) 134 164 true).run Tryz.prog wx = .ok (.tuple #[.agg #[.int .i64 0, .int .i64 0, .int .i64 0, .string ⟨#[]⟩], .bool false]) wx := fun _ => by kernel_rfl
  have t4 : ∀ wx, (Instr.typeAssert (.iface 168 (.agg #[.int .i64 v, .int .i64 u])) 134 166 true).run Tryz.prog wx = .ok (.tuple #[.agg #[.int .i64 0, .int .i64 0, .int .i64 0], .bool false]) wx := fun _ => by kernel_rfl
  have t5 : ∀ wx, (Instr.typeAssert (.iface 168 (.agg #[.int .i64 v, .int .i64 u])) 134 168 true).run Tryz.prog wx = .ok (.tuple #[.agg #[.int .i64 v, .int .i64 u], .bool true]) wx := fun _ => by kernel_rfl
  go_enter Tryz.func96, Tryz.ntmps96
  go_wp2; refine bodyPost_ret (v := Rc.v ⟨5, v, u, 0, 0, emp, emp, emp⟩) (by simp [results, Tryz.results96, go_sem, Rc.v, emp]) rfl ?_; exact ⟨rfl, ((Below.refl _ _).alloc (Nat.le_refl _) _).alloc (by simp) _⟩
instance decRcEq (a b : Rc) : Decidable (a = b) :=
  decidable_of_iff (a.kind = b.kind ∧ a.valid = b.valid ∧ a.uid = b.uid ∧ a.next = b.next ∧ a.flags = b.flags ∧ a.user = b.user ∧ a.name = b.name ∧ a.text = b.text) (by
    obtain ⟨a0, a1, a2, a3, a4, a5, a6, a7⟩ := a
    obtain ⟨b0, b1, b2, b3, b4, b5, b6, b7⟩ := b
    simp)
theorem ba_inj (a b : ByteArray) : a.toList = b.toList ↔ a = b := by
  have h := ba_beq a b; constructor
  · intro e
    rw [beq_iff_eq.2 e] at h; exact of_decide_eq_true h.symm
  · intro e; rw [e]

/- Records: what the program's RecOk hands back. -/
theorem rec_ifs {α : Type} (F : Bool → α) (a0 a1 a2 a3 a4 : Int) (a5 a6 a7 : ByteArray) (b0 b1 b2 b3 b4 : Int) (b5 b6 b7 : ByteArray) :
    (if a0 = b0 then if a1 = b1 then if a2 = b2 then if a3 = b3 then if a4 = b4 then if a5.toList = b5.toList then if a6.toList = b6.toList then if a7.toList = b7.toList then F true else F false else F false else F false else F false else F false else F false else F false else F false) = F (decide ((⟨a0, a1, a2, a3, a4, a5, a6, a7⟩ : Rc) = ⟨b0, b1, b2, b3, b4, b5, b6, b7⟩)) := by
  have e : decide ((⟨a0, a1, a2, a3, a4, a5, a6, a7⟩ : Rc) = ⟨b0, b1, b2, b3, b4, b5, b6, b7⟩) = (decide (a0 = b0) && (decide (a1 = b1) && (decide (a2 = b2) && (decide (a3 = b3) && (decide (a4 = b4) && (decide (a5 = b5) && (decide (a6 = b6) && decide (a7 = b7)))))))) := by
    simp
  rw [e]; simp only [ba_inj]; by_cases h0 : a0 = b0 <;> by_cases h1 : a1 = b1 <;> by_cases h2 : a2 = b2 <;> by_cases h3 : a3 = b3 <;> by_cases h4 : a4 = b4 <;> by_cases h5 : a5 = b5 <;> by_cases h6 : a6 = b6 <;> by_cases h7 : a7 = b7 <;> simp only [h0, h1, h2, h3, h4, h5, h6, h7, if_true, if_false, decide_true, decide_false, Bool.and_true, Bool.and_false]
theorem box_method (v n : Int) (u m : ByteArray) (k : Nat) (w : World) (hk : 1 ≤ k) : (method k 160 (.agg #[.int .i64 v, .int .i64 n, .string u, .string m]) "loop.example/g00287/impl.right").run Tryz.prog w = .ok (185, .agg #[.int .i64 v, .int .i64 n, .string u, .string m]) w := by
  obtain ⟨j, rfl⟩ : ∃ j, k = j + 1 := ⟨k - 1, by omega⟩; kernel_rfl
theorem drop_method (v : Int) (k : Nat) (w : World) (hk : 1 ≤ k) : (method k 162 (.agg #[.int .i64 v]) "loop.example/g00287/impl.right").run Tryz.prog w = .ok (189, .agg #[.int .i64 v]) w := by
  obtain ⟨j, rfl⟩ : ∃ j, k = j + 1 := ⟨k - 1, by omega⟩; kernel_rfl
theorem add_method (v u f : Int) (t : ByteArray) (k : Nat) (w : World) (hk : 1 ≤ k) : (method k 164 (.agg #[.int .i64 v, .int .i64 u, .int .i64 f, .string t]) "loop.example/g00287/impl.right").run Tryz.prog w = .ok (190, .agg #[.int .i64 v, .int .i64 u, .int .i64 f, .string t]) w := by
  obtain ⟨j, rfl⟩ : ∃ j, k = j + 1 := ⟨k - 1, by omega⟩; kernel_rfl
theorem flag_method (v u f : Int) (k : Nat) (w : World) (hk : 1 ≤ k) : (method k 166 (.agg #[.int .i64 v, .int .i64 u, .int .i64 f]) "loop.example/g00287/impl.right").run Tryz.prog w = .ok (192, .agg #[.int .i64 v, .int .i64 u, .int .i64 f]) w := by
  obtain ⟨j, rfl⟩ : ∃ j, k = j + 1 := ⟨k - 1, by omega⟩; kernel_rfl
theorem gone_method (v u : Int) (k : Nat) (w : World) (hk : 1 ≤ k) : (method k 168 (.agg #[.int .i64 v, .int .i64 u]) "loop.example/g00287/impl.right").run Tryz.prog w = .ok (193, .agg #[.int .i64 v, .int .i64 u]) w := by
  obtain ⟨j, rfl⟩ : ∃ j, k = j + 1 := ⟨k - 1, by omega⟩; kernel_rfl
theorem recOk_go (r s : Rc) (T : TypeId) (x : Value) (K : Nat) (q : Bool) (w : World)
    (hRO : ∀ wx, Calls Tryz.prog 95 #[r.v] wx fun e w' => e = .returned (.tuple #[.iface T x, .bool true]) ∧ Below wx.heap.size wx w')
    (hM : ∀ k wx, 1 ≤ k → (method k T x "loop.example/g00287/impl.right").run Tryz.prog wx = .ok (K, x) wx)
    (hC : ∀ wx, (callFunc K #[x]).run Tryz.prog wx = .ok (.enter K #[x]) wx)
    (hR : ∀ wx, Calls Tryz.prog K #[x] wx fun e w' => e = .returned (.bool q) ∧ Below wx.heap.size wx w')
    (hB : ∀ wx, Calls Tryz.prog 96 #[.iface T x] wx fun e w' => e = .returned s.v ∧ Below wx.heap.size wx w') :
    Calls Tryz.prog 65 #[r.v] w fun e w' => e = .returned (.bool (q && decide (s = r))) ∧ Below w.heap.size w w' := by
  have bx := Box.new w r.cs 33; have b0 : Below w.heap.size w (w.alloc (.cells r.cs 33)) := (Below.refl _ _).alloc (Nat.le_refl _) _; obtain ⟨c0, c1, c2, c3, c4, c5, c6, c7⟩ := bx.rec; have BX := Lib.hid bx; clear bx; obtain ⟨kind, valid, uid, next, flags, user, name, text⟩ := r; obtain ⟨d, hd⟩ : ∃ d, decide (s = ⟨kind, valid, uid, next, flags, user, name, text⟩) = d := ⟨_, rfl⟩; rw [hd]; have HD := Lib.hid hd; clear hd; obtain ⟨sk, sv, su, sn, sf, s5, s6, s7⟩ := s; unfold Rc.v at hB; simp only at hB; unfold Rc.v at hRO ⊢; unfold Rc.cs at *; simp only at *; have HRO := Lib.hid hRO; have HR := Lib.hid hR; have HB := Lib.hid hB; clear hRO hR hB; go_enter Tryz.func65, Tryz.ntmps65
  go_wp2_with fail
  generalize w.alloc (.cells #[.int .i64 kind, .int .i64 valid, .int .i64 uid, .int .i64 next, .int .i64 flags, .string user, .string name, .string text] 33) = W at *; refine (HRO.out _).mono ?_; rintro e w1 ⟨rfl, k1⟩; have b1 := b0.trans (k1.mono b0.size); have BX1 := BX.out.later k1; clear c0 c1 c2 c3 c4 c5 c6 c7; go_wp2_with fail
  have r0 : ∀ x, Below w1.heap.size w1 x → x.cell? ⟨w.heap.size, 0, none⟩ = some (.int .i64 kind) := fun x hb => (BX1.later hb).cell 0 _ rfl; have r1 : ∀ x, Below w1.heap.size w1 x → x.cell? ⟨w.heap.size, 1, none⟩ = some (.int .i64 valid) := fun x hb => (BX1.later hb).cell 1 _ rfl; have r2 : ∀ x, Below w1.heap.size w1 x → x.cell? ⟨w.heap.size, 2, none⟩ = some (.int .i64 uid) := fun x hb => (BX1.later hb).cell 2 _ rfl; have r3 : ∀ x, Below w1.heap.size w1 x → x.cell? ⟨w.heap.size, 3, none⟩ = some (.int .i64 next) := fun x hb => (BX1.later hb).cell 3 _ rfl; have r4 : ∀ x, Below w1.heap.size w1 x → x.cell? ⟨w.heap.size, 4, none⟩ = some (.int .i64 flags) := fun x hb => (BX1.later hb).cell 4 _ rfl; have r5 : ∀ x, Below w1.heap.size w1 x → x.cell? ⟨w.heap.size, 5, none⟩ = some (.string user) := fun x hb => (BX1.later hb).cell 5 _ rfl; have r6 : ∀ x, Below w1.heap.size w1 x → x.cell? ⟨w.heap.size, 6, none⟩ = some (.string name) := fun x hb => (BX1.later hb).cell 6 _ rfl; have r7 : ∀ x, Below w1.heap.size w1 x → x.cell? ⟨w.heap.size, 7, none⟩ = some (.string text) := fun x hb => (BX1.later hb).cell 7 _ rfl; have HK0 : Hid (Below w1.heap.size w1 w1.drew) := (Below.refl _ _).drew; clear BX1 BX k1; refine wp_region_held_drew (S := fun x => Below w1.heap.size w1 x) (by kernel_rfl) HK0.out (fun hHeld => ?_); clear HK0; cases q with
  | false =>
    refine tk 0 (.bool true) rfl (by kernel_rfl) (fun _ _ _ h => h) (by rfl) (fun x hSx => by go_simp) (by assumption) ?_; (try simp only [pu1, pu3, pu4, pu5]); refine tk 1 (.bool true) rfl (by kernel_rfl) (fun _ _ _ h => h) (by rfl) (fun x hSx => by go_simp) (by assumption) ?_; (try simp only [pu1, pu3, pu4, pu5]); refine tk 2 (.iface T x) rfl (by kernel_rfl) (fun _ _ _ h => h) (by rfl) (fun x hSx => by go_simp) (by assumption) ?_; (try simp only [pu1, pu3, pu4, pu5]); refine wpAnyH_ready (rs := [3]) (by kernel_rfl) (by simp) ?_; refine readyOne rfl (fun K' hK => ?_); go_simp; refine (HR.out _).mono ?_; rintro e wT ⟨rfl, kT⟩; go_wp2_with fail
    refine hK.out _ _ (below_next hHeld kT) (fun hS2 => ?_); clear hK K' kT hHeld; have hHeld := hS2; clear hS2; (try simp only [pu1, pu3, pu4, pu5]); refine tk 4 (.bool false) rfl (by kernel_rfl) (fun _ _ _ h => h) (by rfl) (fun x hSx => by go_simp) (by assumption) ?_; (try simp only [pu1, pu3, pu4, pu5]); refine tk 5 (.bool false) rfl (by kernel_rfl) (fun _ _ _ h => h) (by rfl) (fun x hSx => by go_simp) (by assumption) ?_; (try simp only [pu1, pu3, pu4, pu5]); refine tu 6 rfl (by kernel_rfl) (fun _ _ _ h => h) (by rfl) (by assumption) ?_; (try simp only [pu1, pu3, pu4, pu5]); refine tu 7 rfl (by kernel_rfl) (fun _ _ _ h => h) (by rfl) (by assumption) ?_; (try simp only [pu1, pu3, pu4, pu5]); refine tu 8 rfl (by kernel_rfl) (fun _ _ _ h => h) (by rfl) (by assumption) ?_; (try simp only [pu1, pu3, pu4, pu5]); refine tu 9 rfl (by kernel_rfl) (fun _ _ _ h => h) (by rfl) (by assumption) ?_; (try simp only [pu1, pu3, pu4, pu5]); refine tk 10 (.bool false) rfl (by kernel_rfl) (fun _ _ _ h => h) (by rfl) (fun x hSx => by go_simp) (by assumption) ?_; (try simp only [pu1, pu3, pu4, pu5]); refine tk 11 (.bool false) rfl (by kernel_rfl) (fun _ _ _ h => h) (by rfl) (fun x hSx => by go_simp) (by assumption) ?_; (try simp only [pu1, pu3, pu4, pu5]); refine wpAnyH_done (by kernel_rfl) ?_ _; go_wp2; go_ret; exact ⟨rfl, b1.trans (hHeld.mono b1.size)⟩
  | true =>
    refine tk 0 (.bool true) rfl (by kernel_rfl) (fun _ _ _ h => h) (by rfl) (fun x hSx => by go_simp) (by assumption) ?_; (try simp only [pu1, pu3, pu4, pu5]); refine tk 1 (.bool true) rfl (by kernel_rfl) (fun _ _ _ h => h) (by rfl) (fun x hSx => by go_simp) (by assumption) ?_; (try simp only [pu1, pu3, pu4, pu5]); refine tk 2 (.iface T x) rfl (by kernel_rfl) (fun _ _ _ h => h) (by rfl) (fun x hSx => by go_simp) (by assumption) ?_; (try simp only [pu1, pu3, pu4, pu5]); refine wpAnyH_ready (rs := [3]) (by kernel_rfl) (by simp) ?_; refine readyOne rfl (fun K' hK => ?_); go_simp; refine (HR.out _).mono ?_; rintro e wT ⟨rfl, kT⟩; go_wp2_with fail
    refine hK.out _ _ (below_next hHeld kT) (fun hS2 => ?_); clear hK K' kT hHeld; have hHeld := hS2; clear hS2; (try simp only [pu1, pu3, pu4, pu5]); refine tk 4 (.bool true) rfl (by kernel_rfl) (fun _ _ _ h => h) (by rfl) (fun x hSx => by go_simp) (by assumption) ?_; (try simp only [pu1, pu3, pu4, pu5]); refine tk 5 (.bool true) rfl (by kernel_rfl) (fun _ _ _ h => h) (by rfl) (fun x hSx => by go_simp) (by assumption) ?_; (try simp only [pu1, pu3, pu4, pu5]); refine tk 6 (.iface T x) rfl (by kernel_rfl) (fun _ _ _ h => h) (by rfl) (fun x hSx => by go_simp) (by assumption) ?_; (try simp only [pu1, pu3, pu4, pu5]); refine tk 8 (.agg #[.int .i64 kind, .int .i64 valid, .int .i64 uid, .int .i64 next, .int .i64 flags, .string user, .string name, .string text]) rfl (by kernel_rfl) (fun _ _ _ h => h) (by rfl) (fun x hSx => by have q0 := r0 x hSx; have q1 := r1 x hSx; have q2 := r2 x hSx; have q3 := r3 x hSx; have q4 := r4 x hSx; have q5 := r5 x hSx; have q6 := r6 x hSx; have q7 := r7 x hSx; go_simp) (by assumption) ?_; (try simp only [pu1, pu3, pu4, pu5]); refine wpAnyH_ready (rs := [7]) (by kernel_rfl) (by simp) ?_; refine readyOne rfl (fun K' hK => ?_); go_simp; refine (HB.out _).mono ?_; rintro e wT ⟨rfl, kT⟩; go_wp2_with fail
    refine hK.out _ _ (below_next hHeld kT) (fun hS2 => ?_); clear hK K' kT hHeld; have hHeld := hS2; clear hS2; (try simp only [pu1, pu3, pu4, pu5]); refine tk 9 (.bool d) rfl (by kernel_rfl) (fun _ _ _ h => h) (by rfl) (fun x hSx => by go_simp; rw [← HD.out]; exact rec_ifs (fun b => Result.ok (Next.value (Value.bool b)) x) _ _ _ _ _ _ _ _ _ _ _ _ _ _ _ _) (by assumption) ?_; (try simp only [pu1, pu3, pu4, pu5]); refine tk 10 (.bool d) rfl (by kernel_rfl) (fun _ _ _ h => h) (by rfl) (fun x hSx => by go_simp) (by assumption) ?_; (try simp only [pu1, pu3, pu4, pu5]); refine tk 11 (.bool d) rfl (by kernel_rfl) (fun _ _ _ h => h) (by rfl) (fun x hSx => by go_simp) (by assumption) ?_; (try simp only [pu1, pu3, pu4, pu5]); refine wpAnyH_done (by kernel_rfl) ?_ _; go_wp2; go_ret; exact ⟨rfl, b1.trans (hHeld.mono b1.size)⟩
theorem recOk_no (r : Rc) (w : World) (hk : ¬ (1 ≤ r.kind ∧ r.kind ≤ 5)) :
    Calls Tryz.prog 65 #[r.v] w fun e w' => e = .returned (.bool false) ∧ Below w.heap.size w w' := by
  have bx := Box.new w r.cs 33; have b0 : Below w.heap.size w (w.alloc (.cells r.cs 33)) := (Below.refl _ _).alloc (Nat.le_refl _) _; obtain ⟨c0, c1, c2, c3, c4, c5, c6, c7⟩ := bx.rec; have hRO := fun wx => recordOf_no r wx hk; clear bx hk; obtain ⟨kind, valid, uid, next, flags, user, name, text⟩ := r; unfold Rc.v at hRO ⊢; unfold Rc.cs at *; simp only at *; have HRO := Lib.hid hRO; clear hRO; go_enter Tryz.func65, Tryz.ntmps65
  go_wp2_with fail
  generalize w.alloc (.cells #[.int .i64 kind, .int .i64 valid, .int .i64 uid, .int .i64 next, .int .i64 flags, .string user, .string name, .string text] 33) = W at *; refine (HRO.out _).mono ?_; rintro e w1 ⟨rfl, k1⟩; have b1 := b0.trans (k1.mono b0.size); clear c0 c1 c2 c3 c4 c5 c6 c7; go_wp2_with fail
  refine wp_region_held_drew (S := fun x => Below w1.heap.size w1 x) (by kernel_rfl) ((Below.refl _ _).drew) (fun hHeld => ?_); refine tk 0 (.bool false) rfl (by kernel_rfl) (fun _ _ _ h => h) (by rfl) (fun x hSx => by go_simp) (by assumption) ?_; (try simp only [pu1, pu3, pu4, pu5]); refine tk 1 (.bool false) rfl (by kernel_rfl) (fun _ _ _ h => h) (by rfl) (fun x hSx => by go_simp) (by assumption) ?_; (try simp only [pu1, pu3, pu4, pu5]); refine tu 2 rfl (by kernel_rfl) (fun _ _ _ h => h) (by rfl) (by assumption) ?_; (try simp only [pu1, pu3, pu4, pu5]); refine tu 3 rfl (by kernel_rfl) (fun _ _ _ h => h) (by rfl) (by assumption) ?_; (try simp only [pu1, pu3, pu4, pu5]); refine tk 4 (.bool false) rfl (by kernel_rfl) (fun _ _ _ h => h) (by rfl) (fun x hSx => by go_simp) (by assumption) ?_; (try simp only [pu1, pu3, pu4, pu5]); refine tk 5 (.bool false) rfl (by kernel_rfl) (fun _ _ _ h => h) (by rfl) (fun x hSx => by go_simp) (by assumption) ?_; (try simp only [pu1, pu3, pu4, pu5]); refine tu 6 rfl (by kernel_rfl) (fun _ _ _ h => h) (by rfl) (by assumption) ?_; (try simp only [pu1, pu3, pu4, pu5]); refine tu 7 rfl (by kernel_rfl) (fun _ _ _ h => h) (by rfl) (by assumption) ?_; (try simp only [pu1, pu3, pu4, pu5]); refine tu 8 rfl (by kernel_rfl) (fun _ _ _ h => h) (by rfl) (by assumption) ?_; (try simp only [pu1, pu3, pu4, pu5]); refine tu 9 rfl (by kernel_rfl) (fun _ _ _ h => h) (by rfl) (by assumption) ?_; (try simp only [pu1, pu3, pu4, pu5]); refine tk 10 (.bool false) rfl (by kernel_rfl) (fun _ _ _ h => h) (by rfl) (fun x hSx => by go_simp) (by assumption) ?_; (try simp only [pu1, pu3, pu4, pu5]); refine tk 11 (.bool false) rfl (by kernel_rfl) (fun _ _ _ h => h) (by rfl) (fun x hSx => by go_simp) (by assumption) ?_; (try simp only [pu1, pu3, pu4, pu5]); refine wpAnyH_done (by kernel_rfl) ?_ _; go_wp2; go_ret; exact ⟨rfl, b1.trans (hHeld.mono b1.size)⟩
theorem ok_1 {r : Rc} (hk : r.kind = 1) : decide r.ok = (decide (bxP r.valid r.next r.user r.name) && decide ((⟨1, r.valid, 0, r.next, 0, r.user, r.name, emp⟩ : Rc) = r)) := by
  rw [← Bool.decide_and]; apply decide_eq_decide.2; obtain ⟨kind, valid, uid, next, flags, user, name, text⟩ := r; simp only at hk; subst hk; simp only [Rc.ok, bxP, Rc.mk.injEq]; constructor
  · rintro ⟨_, h2, h3, h4, h5, h6⟩
    simp at h3 h4 h5 h6; simp [h2, h3, h4, h5, h6]
  · rintro ⟨⟨h1, h2, h3, h4⟩, _, _, h5, _, h6, _, _, h7⟩
    simp [← h5, ← h6, ← h7, h1, h2, h3, h4]
theorem ok_2 {r : Rc} (hk : r.kind = 2) : decide r.ok = (decide (1 ≤ r.valid ∧ r.valid ≤ 9999) && decide ((⟨2, r.valid, 0, 0, 0, emp, emp, emp⟩ : Rc) = r)) := by
  rw [← Bool.decide_and]; apply decide_eq_decide.2; obtain ⟨kind, valid, uid, next, flags, user, name, text⟩ := r; simp only at hk; subst hk; simp only [Rc.ok, Rc.mk.injEq]; constructor
  · rintro ⟨_, h2, h3, h4, h5, h6⟩
    simp at h3 h4 h5 h6; simp [h2, h3, h4, h5, h6]
  · rintro ⟨h1, _, _, h2, h3, h4, h5, h6, h7⟩
    simp [← h2, ← h3, ← h4, ← h5, ← h6, ← h7, h1]
theorem ok_3 {r : Rc} (hk : r.kind = 3) : decide r.ok = (decide (adP r.valid r.uid r.flags r.text) && decide ((⟨3, r.valid, r.uid, 0, r.flags, emp, emp, r.text⟩ : Rc) = r)) := by
  rw [← Bool.decide_and]; apply decide_eq_decide.2; obtain ⟨kind, valid, uid, next, flags, user, name, text⟩ := r; simp only at hk; subst hk; simp only [Rc.ok, adP, Rc.mk.injEq]; constructor
  · rintro ⟨_, h2, h3, h4, h5, h6⟩
    simp at h3 h4 h5 h6; simp [h2, h3, h4, h5, h6]
  · rintro ⟨⟨h1, h2, h3, h4⟩, _, _, _, h5, _, h6, h7, _⟩
    simp [← h5, ← h6, ← h7, h1, h2, h3, h4]
theorem ok_4 {r : Rc} (hk : r.kind = 4) : decide r.ok = (decide (flP r.valid r.uid r.flags) && decide ((⟨4, r.valid, r.uid, 0, r.flags, emp, emp, emp⟩ : Rc) = r)) := by
  rw [← Bool.decide_and]; apply decide_eq_decide.2; obtain ⟨kind, valid, uid, next, flags, user, name, text⟩ := r; simp only at hk; subst hk; simp only [Rc.ok, flP, Rc.mk.injEq]; constructor
  · rintro ⟨_, h2, h3, h4, h5, h6⟩
    simp at h3 h4 h5 h6; simp [h2, h3, h4, h5, h6]
  · rintro ⟨⟨h1, h2, h3⟩, _, _, _, h5, _, h6, h7, h8⟩
    simp [← h5, ← h6, ← h7, ← h8, h1, h2, h3]
theorem ok_5 {r : Rc} (hk : r.kind = 5) : decide r.ok = (decide (goP r.valid r.uid) && decide ((⟨5, r.valid, r.uid, 0, 0, emp, emp, emp⟩ : Rc) = r)) := by
  rw [← Bool.decide_and]; apply decide_eq_decide.2; obtain ⟨kind, valid, uid, next, flags, user, name, text⟩ := r; simp only at hk; subst hk; simp only [Rc.ok, goP, Rc.mk.injEq]; constructor
  · rintro ⟨_, h2, h3, h4, h5, h6⟩
    simp at h3 h4 h5 h6; simp [h2, h3, h4, h5, h6]
  · rintro ⟨⟨h1, h2⟩, _, _, _, h4, h5, h6, h7, h8⟩
    simp [← h4, ← h5, ← h6, ← h7, ← h8, h1, h2]
theorem implRecOk_any (r : Rc) (w : World) :
    Calls Tryz.prog 65 #[r.v] w fun e w' => e = .returned (.bool (decide r.ok)) ∧ Below w.heap.size w w' := by
  by_cases h1 : r.kind = 1
  · rw [ok_1 h1]
    exact recOk_go r _ _ _ _ _ w (fun wx => recordOf_1 r wx h1) (fun k wx hk => box_method _ _ _ _ k wx hk) (fun wx => by kernel_rfl) (fun wx => boxRight_any _ _ _ _ wx) (fun wx => recOf_1 _ _ _ _ wx)
  by_cases h2 : r.kind = 2
  · rw [ok_2 h2]
    exact recOk_go r _ _ _ _ _ w (fun wx => recordOf_2 r wx h2) (fun k wx hk => drop_method _ k wx hk) (fun wx => by kernel_rfl) (fun wx => dropRight_any _ wx) (fun wx => recOf_2 _ wx)
  by_cases h3 : r.kind = 3
  · rw [ok_3 h3]
    exact recOk_go r _ _ _ _ _ w (fun wx => recordOf_3 r wx h3) (fun k wx hk => add_method _ _ _ _ k wx hk) (fun wx => by kernel_rfl) (fun wx => addRight_any _ _ _ _ wx) (fun wx => recOf_3 _ _ _ _ wx)
  by_cases h4 : r.kind = 4
  · rw [ok_4 h4]
    exact recOk_go r _ _ _ _ _ w (fun wx => recordOf_4 r wx h4) (fun k wx hk => flag_method _ _ _ k wx hk) (fun wx => by kernel_rfl) (fun wx => flagRight_any _ _ _ wx) (fun wx => recOf_4 _ _ _ wx)
  by_cases h5 : r.kind = 5
  · rw [ok_5 h5]
    exact recOk_go r _ _ _ _ _ w (fun wx => recordOf_5 r wx h5) (fun k wx hk => gone_method _ _ k wx hk) (fun wx => by kernel_rfl) (fun wx => goneRight_any _ _ wx) (fun wx => recOf_5 _ _ wx)
  have hk : ¬ (1 ≤ r.kind ∧ r.kind ≤ 5) := by omega
  rw [decide_eq_false (fun h : r.ok => hk h.1)]; exact recOk_no r w hk
end Go.Proofs.YtklkhllkjnbhjaaGreatDoor
