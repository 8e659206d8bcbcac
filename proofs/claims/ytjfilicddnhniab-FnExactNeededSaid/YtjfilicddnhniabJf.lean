/- Texts of our own, joined. -/
import Derived.Test.YtjfilicddnhniabJe
import Derived.Test.YtjfilicddnhniabJb
import Derived.Test.YtjfilicddnhniabJd
import Derived.Laws.StructEq
/- Records: what the program's RecOk hands back. -/
namespace Go.Proofs.Ytjfilicddnhniab
open Go.RowKit

set_option maxHeartbeats 1000000 in
theorem rec_ifs {α : Type} (F : Bool → α) (a0 a1 a2 a3 a4 : Int) (a5 a6 a7 : ByteArray) (b0 b1 b2 b3 b4 : Int) (b5 b6 b7 : ByteArray) :
    (if a0 = b0 then if a1 = b1 then if a2 = b2 then if a3 = b3 then if a4 = b4 then if a5.toList = b5.toList then if a6.toList = b6.toList then if a7.toList = b7.toList then F true else F false else F false else F false else F false else F false else F false else F false else F false) = F (decide ((⟨a0, a1, a2, a3, a4, a5, a6, a7⟩ : Rc) = ⟨b0, b1, b2, b3, b4, b5, b6, b7⟩)) := by
  have e : decide ((⟨a0, a1, a2, a3, a4, a5, a6, a7⟩ : Rc) = ⟨b0, b1, b2, b3, b4, b5, b6, b7⟩) = (decide (a0 = b0) && (decide (a1 = b1) && (decide (a2 = b2) && (decide (a3 = b3) && (decide (a4 = b4) && (decide (a5 = b5) && (decide (a6 = b6) && decide (a7 = b7)))))))) := by
    simp
  rw [e]
  simp only [ba_inj]
  by_cases h0 : a0 = b0 <;> by_cases h1 : a1 = b1 <;> by_cases h2 : a2 = b2 <;> by_cases h3 : a3 = b3 <;> by_cases h4 : a4 = b4 <;> by_cases h5 : a5 = b5 <;> by_cases h6 : a6 = b6 <;> by_cases h7 : a7 = b7 <;> simp only [h0, h1, h2, h3, h4, h5, h6, h7, if_true, if_false, decide_true, decide_false, Bool.and_true, Bool.and_false]

theorem box_method (v n : Int) (u m : ByteArray) (k : Nat) (w : World) (hk : 1 ≤ k) : (method k 151 (.agg #[.int .i64 v, .int .i64 n, .string u, .string m]) "loop.example/g00287/impl.right").run Try.prog w = .ok (158, .agg #[.int .i64 v, .int .i64 n, .string u, .string m]) w := by
  obtain ⟨j, rfl⟩ : ∃ j, k = j + 1 := ⟨k - 1, by omega⟩
  kernel_rfl
theorem drop_method (v : Int) (k : Nat) (w : World) (hk : 1 ≤ k) : (method k 153 (.agg #[.int .i64 v]) "loop.example/g00287/impl.right").run Try.prog w = .ok (159, .agg #[.int .i64 v]) w := by
  obtain ⟨j, rfl⟩ : ∃ j, k = j + 1 := ⟨k - 1, by omega⟩
  kernel_rfl
theorem add_method (v u f : Int) (t : ByteArray) (k : Nat) (w : World) (hk : 1 ≤ k) : (method k 155 (.agg #[.int .i64 v, .int .i64 u, .int .i64 f, .string t]) "loop.example/g00287/impl.right").run Try.prog w = .ok (160, .agg #[.int .i64 v, .int .i64 u, .int .i64 f, .string t]) w := by
  obtain ⟨j, rfl⟩ : ∃ j, k = j + 1 := ⟨k - 1, by omega⟩
  kernel_rfl
theorem flag_method (v u f : Int) (k : Nat) (w : World) (hk : 1 ≤ k) : (method k 157 (.agg #[.int .i64 v, .int .i64 u, .int .i64 f]) "loop.example/g00287/impl.right").run Try.prog w = .ok (161, .agg #[.int .i64 v, .int .i64 u, .int .i64 f]) w := by
  obtain ⟨j, rfl⟩ : ∃ j, k = j + 1 := ⟨k - 1, by omega⟩
  kernel_rfl
theorem gone_method (v u : Int) (k : Nat) (w : World) (hk : 1 ≤ k) : (method k 159 (.agg #[.int .i64 v, .int .i64 u]) "loop.example/g00287/impl.right").run Try.prog w = .ok (162, .agg #[.int .i64 v, .int .i64 u]) w := by
  obtain ⟨j, rfl⟩ : ∃ j, k = j + 1 := ⟨k - 1, by omega⟩
  kernel_rfl

set_option maxRecDepth 100000 in
set_option maxHeartbeats 1000000 in
theorem recOk_go (r s : Rc) (T : TypeId) (x : Value) (K : Nat) (q : Bool) (w : World)
    (hRO : ∀ wx, Calls Try.prog 97 #[r.v] wx fun e w' => e = .returned (.tuple #[.iface T x, .bool true]) ∧ Below wx.heap.size wx w')
    (hM : ∀ k wx, 1 ≤ k → (method k T x "loop.example/g00287/impl.right").run Try.prog wx = .ok (K, x) wx)
    (hC : ∀ wx, (callFunc K #[x]).run Try.prog wx = .ok (.enter K #[x]) wx)
    (hR : ∀ wx, Calls Try.prog K #[x] wx fun e w' => e = .returned (.bool q) ∧ Below wx.heap.size wx w')
    (hB : ∀ wx, Calls Try.prog 98 #[.iface T x] wx fun e w' => e = .returned s.v ∧ Below wx.heap.size wx w') :
    Calls Try.prog 75 #[r.v] w fun e w' => e = .returned (.bool (q && decide (s = r))) ∧ Below w.heap.size w w' := by
  have bx := Box.new w r.cs 77
  have b0 : Below w.heap.size w (w.alloc (.cells r.cs 77)) := (Below.refl _ _).alloc (Nat.le_refl _) _
  obtain ⟨c0, c1, c2, c3, c4, c5, c6, c7⟩ := bx.rec
  have BX := Lib.hid bx
  clear bx
  obtain ⟨kind, valid, uid, next, flags, user, name, text⟩ := r
  obtain ⟨d, hd⟩ : ∃ d, decide (s = ⟨kind, valid, uid, next, flags, user, name, text⟩) = d := ⟨_, rfl⟩
  rw [hd]
  have HD := Lib.hid hd
  clear hd
  obtain ⟨sk, sv, su, sn, sf, s5, s6, s7⟩ := s
  unfold Rc.v at hB
  simp only at hB
  unfold Rc.v at hRO ⊢
  unfold Rc.cs at *
  simp only at *
  have HRO := Lib.hid hRO
  have HR := Lib.hid hR
  have HB := Lib.hid hB
  clear hRO hR hB
  go_enter Try.func75, Try.ntmps75
  go_wp2_with fail
  generalize w.alloc (.cells #[.int .i64 kind, .int .i64 valid, .int .i64 uid, .int .i64 next, .int .i64 flags, .string user, .string name, .string text] 77) = W at *
  refine (HRO.out _).mono ?_
  rintro e w1 ⟨rfl, k1⟩
  have b1 := b0.trans (k1.mono b0.size)
  have BX1 := BX.out.later k1
  clear c0 c1 c2 c3 c4 c5 c6 c7
  go_wp2_with fail
  have r0 : ∀ x, Below w1.heap.size w1 x → x.cell? ⟨w.heap.size, 0, none⟩ = some (.int .i64 kind) := fun x hb => (BX1.later hb).cell 0 _ rfl
  have r1 : ∀ x, Below w1.heap.size w1 x → x.cell? ⟨w.heap.size, 1, none⟩ = some (.int .i64 valid) := fun x hb => (BX1.later hb).cell 1 _ rfl
  have r2 : ∀ x, Below w1.heap.size w1 x → x.cell? ⟨w.heap.size, 2, none⟩ = some (.int .i64 uid) := fun x hb => (BX1.later hb).cell 2 _ rfl
  have r3 : ∀ x, Below w1.heap.size w1 x → x.cell? ⟨w.heap.size, 3, none⟩ = some (.int .i64 next) := fun x hb => (BX1.later hb).cell 3 _ rfl
  have r4 : ∀ x, Below w1.heap.size w1 x → x.cell? ⟨w.heap.size, 4, none⟩ = some (.int .i64 flags) := fun x hb => (BX1.later hb).cell 4 _ rfl
  have r5 : ∀ x, Below w1.heap.size w1 x → x.cell? ⟨w.heap.size, 5, none⟩ = some (.string user) := fun x hb => (BX1.later hb).cell 5 _ rfl
  have r6 : ∀ x, Below w1.heap.size w1 x → x.cell? ⟨w.heap.size, 6, none⟩ = some (.string name) := fun x hb => (BX1.later hb).cell 6 _ rfl
  have r7 : ∀ x, Below w1.heap.size w1 x → x.cell? ⟨w.heap.size, 7, none⟩ = some (.string text) := fun x hb => (BX1.later hb).cell 7 _ rfl
  have HK0 : Hid (Below w1.heap.size w1 w1.drew) := (Below.refl _ _).drew
  clear BX1 BX k1
  refine wp_region_held_drew (S := fun x => Below w1.heap.size w1 x) (by kernel_rfl) HK0.out (fun hHeld => ?_)
  clear HK0
  cases q with
  | false =>
    refine takeL (i := 0) (v := .bool true) rfl (by kernel_rfl) (by kernel_rfl) (by kernel_rfl) (fun _ _ _ h => h) (Or.inl ⟨by rfl, ?_⟩) (by assumption) ?_
    · intro x hSx; go_simp
    try simp only [Act.put, List.setIfInBounds_toArray, List.set_cons_zero, List.set_cons_succ]
    refine takeL (i := 1) (v := .bool true) rfl (by kernel_rfl) (by kernel_rfl) (by kernel_rfl) (fun _ _ _ h => h) (Or.inl ⟨by rfl, ?_⟩) (by assumption) ?_
    · intro x hSx; go_simp
    try simp only [Act.put, List.setIfInBounds_toArray, List.set_cons_zero, List.set_cons_succ]
    refine takeL (i := 2) (v := .iface T x) rfl (by kernel_rfl) (by kernel_rfl) (by kernel_rfl) (fun _ _ _ h => h) (Or.inl ⟨by rfl, ?_⟩) (by assumption) ?_
    · intro x hSx; go_simp
    try simp only [Act.put, List.setIfInBounds_toArray, List.set_cons_zero, List.set_cons_succ]
    refine wpAnyH_ready (rs := [3]) (by kernel_rfl) (by simp) ?_
    refine readyOne rfl (fun K' hK => ?_)
    go_simp
    refine (HR.out _).mono ?_
    rintro e wT ⟨rfl, kT⟩
    go_wp2_with fail
    refine hK.out _ _ (below_next hHeld kT) (fun hS2 => ?_)
    clear hK K' kT hHeld
    have hHeld := hS2
    clear hS2
    try simp only [Act.put, List.setIfInBounds_toArray, List.set_cons_zero, List.set_cons_succ]
    refine takeL (i := 4) (v := .bool false) rfl (by kernel_rfl) (by kernel_rfl) (by kernel_rfl) (fun _ _ _ h => h) (Or.inl ⟨by rfl, ?_⟩) (by assumption) ?_
    · intro x hSx; go_simp
    try simp only [Act.put, List.setIfInBounds_toArray, List.set_cons_zero, List.set_cons_succ]
    refine takeL (i := 5) (v := .bool false) rfl (by kernel_rfl) (by kernel_rfl) (by kernel_rfl) (fun _ _ _ h => h) (Or.inl ⟨by rfl, ?_⟩) (by assumption) ?_
    · intro x hSx; go_simp
    try simp only [Act.put, List.setIfInBounds_toArray, List.set_cons_zero, List.set_cons_succ]
    refine takeL (i := 6) (v := undef) rfl (by kernel_rfl) (by kernel_rfl) (by kernel_rfl) (fun _ _ _ h => h) (Or.inr ⟨by rfl, rfl⟩) (by assumption) ?_
    try simp only [Act.put, List.setIfInBounds_toArray, List.set_cons_zero, List.set_cons_succ]
    refine takeL (i := 7) (v := undef) rfl (by kernel_rfl) (by kernel_rfl) (by kernel_rfl) (fun _ _ _ h => h) (Or.inr ⟨by rfl, rfl⟩) (by assumption) ?_
    try simp only [Act.put, List.setIfInBounds_toArray, List.set_cons_zero, List.set_cons_succ]
    refine takeL (i := 8) (v := undef) rfl (by kernel_rfl) (by kernel_rfl) (by kernel_rfl) (fun _ _ _ h => h) (Or.inr ⟨by rfl, rfl⟩) (by assumption) ?_
    try simp only [Act.put, List.setIfInBounds_toArray, List.set_cons_zero, List.set_cons_succ]
    refine takeL (i := 9) (v := undef) rfl (by kernel_rfl) (by kernel_rfl) (by kernel_rfl) (fun _ _ _ h => h) (Or.inr ⟨by rfl, rfl⟩) (by assumption) ?_
    try simp only [Act.put, List.setIfInBounds_toArray, List.set_cons_zero, List.set_cons_succ]
    refine takeL (i := 10) (v := .bool false) rfl (by kernel_rfl) (by kernel_rfl) (by kernel_rfl) (fun _ _ _ h => h) (Or.inl ⟨by rfl, ?_⟩) (by assumption) ?_
    · intro x hSx; go_simp
    try simp only [Act.put, List.setIfInBounds_toArray, List.set_cons_zero, List.set_cons_succ]
    refine takeL (i := 11) (v := .bool false) rfl (by kernel_rfl) (by kernel_rfl) (by kernel_rfl) (fun _ _ _ h => h) (Or.inl ⟨by rfl, ?_⟩) (by assumption) ?_
    · intro x hSx; go_simp
    try simp only [Act.put, List.setIfInBounds_toArray, List.set_cons_zero, List.set_cons_succ]
    refine wpAnyH_done (by kernel_rfl) ?_ _
    go_wp2
    go_ret
    exact ⟨rfl, b1.trans (hHeld.mono b1.size)⟩
  | true =>
    refine takeL (i := 0) (v := .bool true) rfl (by kernel_rfl) (by kernel_rfl) (by kernel_rfl) (fun _ _ _ h => h) (Or.inl ⟨by rfl, ?_⟩) (by assumption) ?_
    · intro x hSx; go_simp
    try simp only [Act.put, List.setIfInBounds_toArray, List.set_cons_zero, List.set_cons_succ]
    refine takeL (i := 1) (v := .bool true) rfl (by kernel_rfl) (by kernel_rfl) (by kernel_rfl) (fun _ _ _ h => h) (Or.inl ⟨by rfl, ?_⟩) (by assumption) ?_
    · intro x hSx; go_simp
    try simp only [Act.put, List.setIfInBounds_toArray, List.set_cons_zero, List.set_cons_succ]
    refine takeL (i := 2) (v := .iface T x) rfl (by kernel_rfl) (by kernel_rfl) (by kernel_rfl) (fun _ _ _ h => h) (Or.inl ⟨by rfl, ?_⟩) (by assumption) ?_
    · intro x hSx; go_simp
    try simp only [Act.put, List.setIfInBounds_toArray, List.set_cons_zero, List.set_cons_succ]
    refine wpAnyH_ready (rs := [3]) (by kernel_rfl) (by simp) ?_
    refine readyOne rfl (fun K' hK => ?_)
    go_simp
    refine (HR.out _).mono ?_
    rintro e wT ⟨rfl, kT⟩
    go_wp2_with fail
    refine hK.out _ _ (below_next hHeld kT) (fun hS2 => ?_)
    clear hK K' kT hHeld
    have hHeld := hS2
    clear hS2
    try simp only [Act.put, List.setIfInBounds_toArray, List.set_cons_zero, List.set_cons_succ]
    refine takeL (i := 4) (v := .bool true) rfl (by kernel_rfl) (by kernel_rfl) (by kernel_rfl) (fun _ _ _ h => h) (Or.inl ⟨by rfl, ?_⟩) (by assumption) ?_
    · intro x hSx; go_simp
    try simp only [Act.put, List.setIfInBounds_toArray, List.set_cons_zero, List.set_cons_succ]
    refine takeL (i := 5) (v := .bool true) rfl (by kernel_rfl) (by kernel_rfl) (by kernel_rfl) (fun _ _ _ h => h) (Or.inl ⟨by rfl, ?_⟩) (by assumption) ?_
    · intro x hSx; go_simp
    try simp only [Act.put, List.setIfInBounds_toArray, List.set_cons_zero, List.set_cons_succ]
    refine takeL (i := 6) (v := .iface T x) rfl (by kernel_rfl) (by kernel_rfl) (by kernel_rfl) (fun _ _ _ h => h) (Or.inl ⟨by rfl, ?_⟩) (by assumption) ?_
    · intro x hSx; go_simp
    try simp only [Act.put, List.setIfInBounds_toArray, List.set_cons_zero, List.set_cons_succ]
    refine takeL (i := 8) (v := .agg #[.int .i64 kind, .int .i64 valid, .int .i64 uid, .int .i64 next, .int .i64 flags, .string user, .string name, .string text]) rfl (by kernel_rfl) (by kernel_rfl) (by kernel_rfl) (fun _ _ _ h => h) (Or.inl ⟨by rfl, ?_⟩) (by assumption) ?_
    · intro x hSx; have q0 := r0 x hSx; have q1 := r1 x hSx; have q2 := r2 x hSx; have q3 := r3 x hSx; have q4 := r4 x hSx; have q5 := r5 x hSx; have q6 := r6 x hSx; have q7 := r7 x hSx; go_simp
    try simp only [Act.put, List.setIfInBounds_toArray, List.set_cons_zero, List.set_cons_succ]
    refine wpAnyH_ready (rs := [7]) (by kernel_rfl) (by simp) ?_
    refine readyOne rfl (fun K' hK => ?_)
    go_simp
    refine (HB.out _).mono ?_
    rintro e wT ⟨rfl, kT⟩
    go_wp2_with fail
    refine hK.out _ _ (below_next hHeld kT) (fun hS2 => ?_)
    clear hK K' kT hHeld
    have hHeld := hS2
    clear hS2
    try simp only [Act.put, List.setIfInBounds_toArray, List.set_cons_zero, List.set_cons_succ]
    refine takeL (i := 9) (v := .bool d) rfl (by kernel_rfl) (by kernel_rfl) (by kernel_rfl) (fun _ _ _ h => h) (Or.inl ⟨by rfl, ?_⟩) (by assumption) ?_
    · intro x hSx; go_simp; rw [← HD.out]; exact rec_ifs (fun b => Result.ok (Next.value (Value.bool b)) x) _ _ _ _ _ _ _ _ _ _ _ _ _ _ _ _
    try simp only [Act.put, List.setIfInBounds_toArray, List.set_cons_zero, List.set_cons_succ]
    refine takeL (i := 10) (v := .bool d) rfl (by kernel_rfl) (by kernel_rfl) (by kernel_rfl) (fun _ _ _ h => h) (Or.inl ⟨by rfl, ?_⟩) (by assumption) ?_
    · intro x hSx; go_simp
    try simp only [Act.put, List.setIfInBounds_toArray, List.set_cons_zero, List.set_cons_succ]
    refine takeL (i := 11) (v := .bool d) rfl (by kernel_rfl) (by kernel_rfl) (by kernel_rfl) (fun _ _ _ h => h) (Or.inl ⟨by rfl, ?_⟩) (by assumption) ?_
    · intro x hSx; go_simp
    try simp only [Act.put, List.setIfInBounds_toArray, List.set_cons_zero, List.set_cons_succ]
    refine wpAnyH_done (by kernel_rfl) ?_ _
    go_wp2
    go_ret
    exact ⟨rfl, b1.trans (hHeld.mono b1.size)⟩

set_option maxRecDepth 100000 in
set_option maxHeartbeats 1000000 in
theorem recOk_no (r : Rc) (w : World) (hk : ¬ (1 ≤ r.kind ∧ r.kind ≤ 5)) :
    Calls Try.prog 75 #[r.v] w fun e w' => e = .returned (.bool false) ∧ Below w.heap.size w w' := by
  have bx := Box.new w r.cs 77
  have b0 : Below w.heap.size w (w.alloc (.cells r.cs 77)) := (Below.refl _ _).alloc (Nat.le_refl _) _
  obtain ⟨c0, c1, c2, c3, c4, c5, c6, c7⟩ := bx.rec
  have hRO := fun wx => recordOf_no r wx hk
  clear bx hk
  obtain ⟨kind, valid, uid, next, flags, user, name, text⟩ := r
  unfold Rc.v at hRO ⊢
  unfold Rc.cs at *
  simp only at *
  have HRO := Lib.hid hRO
  clear hRO
  go_enter Try.func75, Try.ntmps75
  go_wp2_with fail
  generalize w.alloc (.cells #[.int .i64 kind, .int .i64 valid, .int .i64 uid, .int .i64 next, .int .i64 flags, .string user, .string name, .string text] 77) = W at *
  refine (HRO.out _).mono ?_
  rintro e w1 ⟨rfl, k1⟩
  have b1 := b0.trans (k1.mono b0.size)
  clear c0 c1 c2 c3 c4 c5 c6 c7
  go_wp2_with fail
  refine wp_region_held_drew (S := fun x => Below w1.heap.size w1 x) (by kernel_rfl) ((Below.refl _ _).drew) (fun hHeld => ?_)
  refine takeL (i := 0) (v := .bool false) rfl (by kernel_rfl) (by kernel_rfl) (by kernel_rfl) (fun _ _ _ h => h) (Or.inl ⟨by rfl, ?_⟩) (by assumption) ?_
  · intro x hSx; go_simp
  try simp only [Act.put, List.setIfInBounds_toArray, List.set_cons_zero, List.set_cons_succ]
  refine takeL (i := 1) (v := .bool false) rfl (by kernel_rfl) (by kernel_rfl) (by kernel_rfl) (fun _ _ _ h => h) (Or.inl ⟨by rfl, ?_⟩) (by assumption) ?_
  · intro x hSx; go_simp
  try simp only [Act.put, List.setIfInBounds_toArray, List.set_cons_zero, List.set_cons_succ]
  refine takeL (i := 2) (v := undef) rfl (by kernel_rfl) (by kernel_rfl) (by kernel_rfl) (fun _ _ _ h => h) (Or.inr ⟨by rfl, rfl⟩) (by assumption) ?_
  try simp only [Act.put, List.setIfInBounds_toArray, List.set_cons_zero, List.set_cons_succ]
  refine takeL (i := 3) (v := undef) rfl (by kernel_rfl) (by kernel_rfl) (by kernel_rfl) (fun _ _ _ h => h) (Or.inr ⟨by rfl, rfl⟩) (by assumption) ?_
  try simp only [Act.put, List.setIfInBounds_toArray, List.set_cons_zero, List.set_cons_succ]
  refine takeL (i := 4) (v := .bool false) rfl (by kernel_rfl) (by kernel_rfl) (by kernel_rfl) (fun _ _ _ h => h) (Or.inl ⟨by rfl, ?_⟩) (by assumption) ?_
  · intro x hSx; go_simp
  try simp only [Act.put, List.setIfInBounds_toArray, List.set_cons_zero, List.set_cons_succ]
  refine takeL (i := 5) (v := .bool false) rfl (by kernel_rfl) (by kernel_rfl) (by kernel_rfl) (fun _ _ _ h => h) (Or.inl ⟨by rfl, ?_⟩) (by assumption) ?_
  · intro x hSx; go_simp
  try simp only [Act.put, List.setIfInBounds_toArray, List.set_cons_zero, List.set_cons_succ]
  refine takeL (i := 6) (v := undef) rfl (by kernel_rfl) (by kernel_rfl) (by kernel_rfl) (fun _ _ _ h => h) (Or.inr ⟨by rfl, rfl⟩) (by assumption) ?_
  try simp only [Act.put, List.setIfInBounds_toArray, List.set_cons_zero, List.set_cons_succ]
  refine takeL (i := 7) (v := undef) rfl (by kernel_rfl) (by kernel_rfl) (by kernel_rfl) (fun _ _ _ h => h) (Or.inr ⟨by rfl, rfl⟩) (by assumption) ?_
  try simp only [Act.put, List.setIfInBounds_toArray, List.set_cons_zero, List.set_cons_succ]
  refine takeL (i := 8) (v := undef) rfl (by kernel_rfl) (by kernel_rfl) (by kernel_rfl) (fun _ _ _ h => h) (Or.inr ⟨by rfl, rfl⟩) (by assumption) ?_
  try simp only [Act.put, List.setIfInBounds_toArray, List.set_cons_zero, List.set_cons_succ]
  refine takeL (i := 9) (v := undef) rfl (by kernel_rfl) (by kernel_rfl) (by kernel_rfl) (fun _ _ _ h => h) (Or.inr ⟨by rfl, rfl⟩) (by assumption) ?_
  try simp only [Act.put, List.setIfInBounds_toArray, List.set_cons_zero, List.set_cons_succ]
  refine takeL (i := 10) (v := .bool false) rfl (by kernel_rfl) (by kernel_rfl) (by kernel_rfl) (fun _ _ _ h => h) (Or.inl ⟨by rfl, ?_⟩) (by assumption) ?_
  · intro x hSx; go_simp
  try simp only [Act.put, List.setIfInBounds_toArray, List.set_cons_zero, List.set_cons_succ]
  refine takeL (i := 11) (v := .bool false) rfl (by kernel_rfl) (by kernel_rfl) (by kernel_rfl) (fun _ _ _ h => h) (Or.inl ⟨by rfl, ?_⟩) (by assumption) ?_
  · intro x hSx; go_simp
  try simp only [Act.put, List.setIfInBounds_toArray, List.set_cons_zero, List.set_cons_succ]
  refine wpAnyH_done (by kernel_rfl) ?_ _
  go_wp2
  go_ret
  exact ⟨rfl, b1.trans (hHeld.mono b1.size)⟩

theorem ok_1 {r : Rc} (hk : r.kind = 1) : decide r.ok = (decide (bxP r.valid r.next r.user r.name) && decide ((⟨1, r.valid, 0, r.next, 0, r.user, r.name, emp⟩ : Rc) = r)) := by
  rw [← Bool.decide_and]
  apply decide_eq_decide.2
  obtain ⟨kind, valid, uid, next, flags, user, name, text⟩ := r
  simp only at hk
  subst hk
  simp only [Rc.ok, bxP, Rc.mk.injEq]
  constructor
  · rintro ⟨_, h2, h3, h4, h5, h6⟩
    simp at h3 h4 h5 h6
    simp [h2, h3, h4, h5, h6]
  · rintro ⟨⟨h1, h2, h3, h4⟩, _, _, h5, _, h6, _, _, h7⟩
    simp [← h5, ← h6, ← h7, h1, h2, h3, h4]
theorem ok_2 {r : Rc} (hk : r.kind = 2) : decide r.ok = (decide (1 ≤ r.valid ∧ r.valid ≤ 9999) && decide ((⟨2, r.valid, 0, 0, 0, emp, emp, emp⟩ : Rc) = r)) := by
  rw [← Bool.decide_and]
  apply decide_eq_decide.2
  obtain ⟨kind, valid, uid, next, flags, user, name, text⟩ := r
  simp only at hk
  subst hk
  simp only [Rc.ok, Rc.mk.injEq]
  constructor
  · rintro ⟨_, h2, h3, h4, h5, h6⟩
    simp at h3 h4 h5 h6
    simp [h2, h3, h4, h5, h6]
  · rintro ⟨h1, _, _, h2, h3, h4, h5, h6, h7⟩
    simp [← h2, ← h3, ← h4, ← h5, ← h6, ← h7, h1]
theorem ok_3 {r : Rc} (hk : r.kind = 3) : decide r.ok = (decide (adP r.valid r.uid r.flags r.text) && decide ((⟨3, r.valid, r.uid, 0, r.flags, emp, emp, r.text⟩ : Rc) = r)) := by
  rw [← Bool.decide_and]
  apply decide_eq_decide.2
  obtain ⟨kind, valid, uid, next, flags, user, name, text⟩ := r
  simp only at hk
  subst hk
  simp only [Rc.ok, adP, Rc.mk.injEq]
  constructor
  · rintro ⟨_, h2, h3, h4, h5, h6⟩
    simp at h3 h4 h5 h6
    simp [h2, h3, h4, h5, h6]
  · rintro ⟨⟨h1, h2, h3, h4⟩, _, _, _, h5, _, h6, h7, _⟩
    simp [← h5, ← h6, ← h7, h1, h2, h3, h4]
theorem ok_4 {r : Rc} (hk : r.kind = 4) : decide r.ok = (decide (flP r.valid r.uid r.flags) && decide ((⟨4, r.valid, r.uid, 0, r.flags, emp, emp, emp⟩ : Rc) = r)) := by
  rw [← Bool.decide_and]
  apply decide_eq_decide.2
  obtain ⟨kind, valid, uid, next, flags, user, name, text⟩ := r
  simp only at hk
  subst hk
  simp only [Rc.ok, flP, Rc.mk.injEq]
  constructor
  · rintro ⟨_, h2, h3, h4, h5, h6⟩
    simp at h3 h4 h5 h6
    simp [h2, h3, h4, h5, h6]
  · rintro ⟨⟨h1, h2, h3⟩, _, _, _, h5, _, h6, h7, h8⟩
    simp [← h5, ← h6, ← h7, ← h8, h1, h2, h3]
theorem ok_5 {r : Rc} (hk : r.kind = 5) : decide r.ok = (decide (goP r.valid r.uid) && decide ((⟨5, r.valid, r.uid, 0, 0, emp, emp, emp⟩ : Rc) = r)) := by
  rw [← Bool.decide_and]
  apply decide_eq_decide.2
  obtain ⟨kind, valid, uid, next, flags, user, name, text⟩ := r
  simp only at hk
  subst hk
  simp only [Rc.ok, goP, Rc.mk.injEq]
  constructor
  · rintro ⟨_, h2, h3, h4, h5, h6⟩
    simp at h3 h4 h5 h6
    simp [h2, h3, h4, h5, h6]
  · rintro ⟨⟨h1, h2⟩, _, _, _, h4, h5, h6, h7, h8⟩
    simp [← h4, ← h5, ← h6, ← h7, ← h8, h1, h2]

set_option maxRecDepth 100000 in
set_option maxHeartbeats 1000000 in
theorem implRecOk_any (r : Rc) (w : World) :
    Calls Try.prog 75 #[r.v] w fun e w' => e = .returned (.bool (decide r.ok)) ∧ Below w.heap.size w w' := by
  by_cases h1 : r.kind = 1
  · rw [ok_1 h1]
    exact recOk_go r _ _ _ _ _ w (fun wx => recordOf_1 r wx h1) (fun k wx hk => box_method _ _ _ _ k wx hk) (fun wx => by kernel_rfl) (fun wx => boxRight_any _ _ _ _ wx) (fun wx => recOf_1 _ _ _ _ wx)
  by_cases h2 : r.kind = 2
  · rw [ok_2 h2]
    exact recOk_go r _ _ _ _ _ w (fun wx => recordOf_2 r wx h2) (fun k wx hk => drop_method _ k wx hk) (fun wx => by kernel_rfl) (fun wx => dropRight_any _ wx) (fun wx => recOf_2 _ wx)
  by_cases h3 : r.kind = 3
  · rw [ok_3 h3]
    exact recOk_go r _ _ _ _ _ w (fun wx => recordOf_3 r wx h3) (fun k wx hk => add_method _ _ _ _ k wx hk) (fun wx => by kernel_rfl) (fun wx => addRight_any _ _ _ _ wx) (fun wx => recOf_3 _ _ _ _ wx)
  by_cases h4 : r.kind = 4
  · rw [ok_4 h4]
    exact recOk_go r _ _ _ _ _ w (fun wx => recordOf_4 r wx h4) (fun k wx hk => flag_method _ _ _ k wx hk) (fun wx => by kernel_rfl) (fun wx => flagRight_any _ _ _ wx) (fun wx => recOf_4 _ _ _ wx)
  by_cases h5 : r.kind = 5
  · rw [ok_5 h5]
    exact recOk_go r _ _ _ _ _ w (fun wx => recordOf_5 r wx h5) (fun k wx hk => gone_method _ _ k wx hk) (fun wx => by kernel_rfl) (fun wx => goneRight_any _ _ wx) (fun wx => recOf_5 _ _ wx)
  have hk : ¬ (1 ≤ r.kind ∧ r.kind ≤ 5) := by omega
  rw [decide_eq_false (fun h : r.ok => hk h.1)]
  exact recOk_no r w hk

end Go.Proofs.Ytjfilicddnhniab

/- What records tell: the model's ItemsOk. -/
namespace Go.Proofs.Ytjfilicddnhniab
open Go.RowKit

theorem ba_same (a b : ByteArray) : a.toList = b.toList ↔ a = b := by
  have h := ba_beq a b
  constructor
  · intro e
    rw [beq_iff_eq.2 e] at h
    exact of_decide_eq_true h.symm
  · intro e; rw [e]

/-- A list of items that can be read, as a loop reads it. -/
def ItRow (w : World) (ad : Option Addr) (l : List Itm) : Prop := ∀ X, Below w.heap.size w X → ∀ i x, l[i]? = some x → ∃ g off, ad = some ⟨g, off, none⟩ ∧ X.cell? ⟨g, off + i * 9, none⟩ = some (.int .i64 x.1) ∧ X.cell? ⟨g, off + i * 9 + 1, none⟩ = some (.int .i64 x.2.kind) ∧ X.cell? ⟨g, off + i * 9 + 2, none⟩ = some (.int .i64 x.2.valid) ∧ X.cell? ⟨g, off + i * 9 + 3, none⟩ = some (.int .i64 x.2.uid) ∧ X.cell? ⟨g, off + i * 9 + 4, none⟩ = some (.int .i64 x.2.next) ∧ X.cell? ⟨g, off + i * 9 + 5, none⟩ = some (.int .i64 x.2.flags) ∧ X.cell? ⟨g, off + i * 9 + 6, none⟩ = some (.string x.2.user) ∧ X.cell? ⟨g, off + i * 9 + 7, none⟩ = some (.string x.2.name) ∧ X.cell? ⟨g, off + i * 9 + 8, none⟩ = some (.string x.2.text)
theorem Rows'.items {w : World} {v : Value} {l : List Itm} (h : Rows' itE w v l) : ∃ (ad : Option Addr) (cap : Nat), v = .slice ad l.length cap ∧ ItRow w ad l := by
  rcases h.ways with ⟨rfl, a, c, rfl⟩ | ⟨hne, g, off, c, rfl, hc, hg, hcl⟩
  · exact ⟨a, c, rfl, fun X _ i x hi => by cases hi⟩
  · exact ⟨_, c, rfl, fun X hb i x hi => ⟨g, off, rfl, it_cells hcl hg hb i x hi⟩⟩

set_option maxRecDepth 100000 in
set_option maxHeartbeats 4000000 in
theorem specItemsOk_any (l : List Itm) (v : Value) (w : World) (h : Rows' itE w v l) (hl : l.length ≤ 1099511627776) (hsz : ∀ x ∈ l, x.2.user.size ≤ 1099511627776 ∧ x.2.name.size ≤ 1099511627776 ∧ x.2.text.size ≤ 1099511627776) :
    Calls Try.prog 45 #[v] w fun e w' => e = .returned (.bool (decide (itemsOk l))) ∧ Below w.heap.size w w' := by
  obtain ⟨ad, cap, rfl, hrow⟩ := h.items
  have HR := Lib.hid hrow
  have HZ := Lib.hid hsz
  clear h hrow hsz
  obtain ⟨D, hD⟩ : ∃ D, decide (itemsOk l) = D := ⟨_, rfl⟩
  have HD := Lib.hid hD
  rw [hD]
  clear hD
  go_enter Try.func45, Try.ntmps45
  go_wp2
  go_loopw [3] (fun iv wr => ∃ i : Nat, i ≤ l.length ∧ iv = .int .i64 (i : Int) ∧ ItG l i ∧ Below w.heap.size w wr) (fun iv _ => l.length - (intOf iv).toNat)
  case atStart => exact ⟨0, by omega, rfl, ItG.zero l, Below.refl _ _⟩
  case round =>
    obtain ⟨i, hi, rfl, hG, hb⟩ := hrel
    have HG := Lib.hid hG
    clear hG
    by_cases hlt : i < l.length
    · have hgx : l[i]? = some l[i] := List.getElem?_eq_getElem hlt
      have hzx := HZ.out l[i] (List.getElem_mem hlt)
      obtain ⟨ga, oa, rfl, a0, a1, a2, a3, a4, a5, a6, a7, a8⟩ := HR.out _ hb i _ hgx
      obtain ⟨x, hx⟩ : ∃ x, l[i] = x := ⟨_, rfl⟩
      rw [hx] at hgx hzx a0 a1 a2 a3 a4 a5 a6 a7 a8
      clear hx
      have HX := Lib.hid hgx
      obtain ⟨sq, K, V, U, N, FL, US, NM, TX⟩ := x
      simp only at a0 a1 a2 a3 a4 a5 a6 a7 a8 hzx
      have hi0 : (0 : Int) ≤ (i : Int) := by omega
      have hi1 : (i : Int) < (l.length : Int) := by omega
      clear hgx
      by_cases hs : 1 ≤ sq ∧ sq ≤ 1000000000
      · obtain ⟨hs1, hs2⟩ := hs
        have hRO := fun wx => specRecOk_any ⟨K, V, U, N, FL, US, NM, TX⟩ wx hzx.1 hzx.2.1 hzx.2.2
        by_cases hok : (⟨K, V, U, N, FL, US, NM, TX⟩ : Rc).ok
        · rw [decide_eq_true hok] at hRO
          have HOK : Hid (itOk (sq, ⟨K, V, U, N, FL, US, NM, TX⟩)) := ⟨⟨hs1, hs2⟩, hok⟩
          unfold Rc.v at hRO
          simp only at hRO
          have HRO := Lib.hid hRO
          clear hRO hok
          go_wp2_with (first | (go_at_call 41; refine (l01In_yes _ _ _ _ hs1 hs2).mono ?_; rintro e w5 ⟨rfl, rfl⟩) | (go_at_call 68; refine (HRO.out _).mono ?_; rintro e w6 ⟨rfl, k6⟩))
          have b6 := hb.trans (k6.mono hb.size)
          clear a0 a1 a2 a3 a4 a5 a6 a7 a8 k6 hb HRO hzx hs1 hs2
          go_loopw [4] (fun kv wr2 => ∃ k : Nat, k ≤ i ∧ kv = .int .i64 (k : Int) ∧ (∀ (j : Nat) (y : Itm), l[j]? = some y → j < k → y.1 = sq → y = (sq, ⟨K, V, U, N, FL, US, NM, TX⟩)) ∧ Below w.heap.size w wr2) (fun kv _ => i - (intOf kv).toNat)
          case atStart => exact ⟨0, by omega, rfl, fun j y _ hj => by omega, b6⟩
          case round =>
            obtain ⟨k, hk, rfl, hU, hb⟩ := hrel
            have HU := Lib.hid hU
            clear hU b6
            by_cases hlk : k < i
            · have hgy : l[k]? = some (l[k]'(by omega)) := List.getElem?_eq_getElem (by omega)
              obtain ⟨ga2, oa2, he, c0, c1, c2, c3, c4, c5, c6, c7, c8⟩ := HR.out _ (hb.trans ((Below.refl wr.heap.size wr).drew.mono hb.size)) k _ hgy
              cases he
              obtain ⟨ga3, oa3, he, a0, a1, a2, a3, a4, a5, a6, a7, a8⟩ := HR.out _ (hb.trans ((Below.refl wr.heap.size wr).drew.mono hb.size)) i _ HX.out
              cases he
              obtain ⟨y, hy⟩ : ∃ y, l[k]'(by omega) = y := ⟨_, rfl⟩
              rw [hy] at hgy c0 c1 c2 c3 c4 c5 c6 c7 c8
              clear hy
              have HY := Lib.hid hgy
              obtain ⟨sq2, K2, V2, U2, N2, FL2, US2, NM2, TX2⟩ := y
              simp only at a0 a1 a2 a3 a4 a5 a6 a7 a8 c0 c1 c2 c3 c4 c5 c6 c7 c8
              have hk0 : (0 : Int) ≤ (k : Int) := by omega
              have hk1 : (k : Int) < (l.length : Int) := by omega
              have hk2 : (k : Int) < (i : Int) := by omega
              clear hgy
              have bD : Below w.heap.size w wr.drew := hb.trans ((Below.refl wr.heap.size wr).drew.mono hb.size)
              clear hb
              by_cases hq : sq2 = sq
              · subst hq
                by_cases hsame : K2 = K ∧ V2 = V ∧ U2 = U ∧ N2 = N ∧ FL2 = FL ∧ US2 = US ∧ NM2 = NM ∧ TX2 = TX
                · obtain ⟨rfl, rfl, rfl, rfl, rfl, rfl, rfl, rfl⟩ := hsame
                  go_wp2_with fail
                  refine wp_region_held_drew (S := fun x => wr.drew = x) (by kernel_rfl) rfl (fun hHeld => ?_)
                  refine takeL (i := 0) (v := .slice (some ⟨ga, oa, none⟩) l.length cap) rfl (by kernel_rfl) (by kernel_rfl) (by kernel_rfl) (fun _ _ _ h => h) (Or.inl ⟨by rfl, ?_⟩) (by assumption) ?_
                  · intro x hSx; subst hSx; go_simp
                  try simp only [Act.put, List.setIfInBounds_toArray, List.set_cons_zero, List.set_cons_succ]
                  refine takeL (i := 1) (v := .int .i64 (k : Int)) rfl (by kernel_rfl) (by kernel_rfl) (by kernel_rfl) (fun _ _ _ h => h) (Or.inl ⟨by rfl, ?_⟩) (by assumption) ?_
                  · intro x hSx; subst hSx; go_simp
                  try simp only [Act.put, List.setIfInBounds_toArray, List.set_cons_zero, List.set_cons_succ]
                  refine takeL (i := 2) (v := .pointer (some ⟨ga, oa + k * 9, none⟩)) rfl (by kernel_rfl) (by kernel_rfl) (by kernel_rfl) (fun _ _ _ h => h) (Or.inl ⟨by rfl, ?_⟩) (by assumption) ?_
                  · intro x hSx; subst hSx; go_simp
                  try simp only [Act.put, List.setIfInBounds_toArray, List.set_cons_zero, List.set_cons_succ]
                  refine takeL (i := 3) (v := .pointer (some ⟨ga, oa + k * 9, none⟩)) rfl (by kernel_rfl) (by kernel_rfl) (by kernel_rfl) (fun _ _ _ h => h) (Or.inl ⟨by rfl, ?_⟩) (by assumption) ?_
                  · intro x hSx; subst hSx; go_simp
                  try simp only [Act.put, List.setIfInBounds_toArray, List.set_cons_zero, List.set_cons_succ]
                  refine takeL (i := 4) (v := .int .i64 sq2) rfl (by kernel_rfl) (by kernel_rfl) (by kernel_rfl) (fun _ _ _ h => h) (Or.inl ⟨by rfl, ?_⟩) (by assumption) ?_
                  · intro x hSx; subst hSx; go_simp
                  try simp only [Act.put, List.setIfInBounds_toArray, List.set_cons_zero, List.set_cons_succ]
                  refine takeL (i := 5) (v := .slice (some ⟨ga, oa, none⟩) l.length cap) rfl (by kernel_rfl) (by kernel_rfl) (by kernel_rfl) (fun _ _ _ h => h) (Or.inl ⟨by rfl, ?_⟩) (by assumption) ?_
                  · intro x hSx; subst hSx; go_simp
                  try simp only [Act.put, List.setIfInBounds_toArray, List.set_cons_zero, List.set_cons_succ]
                  refine takeL (i := 6) (v := .int .i64 (i : Int)) rfl (by kernel_rfl) (by kernel_rfl) (by kernel_rfl) (fun _ _ _ h => h) (Or.inl ⟨by rfl, ?_⟩) (by assumption) ?_
                  · intro x hSx; subst hSx; go_simp
                  try simp only [Act.put, List.setIfInBounds_toArray, List.set_cons_zero, List.set_cons_succ]
                  refine takeL (i := 7) (v := .pointer (some ⟨ga, oa + i * 9, none⟩)) rfl (by kernel_rfl) (by kernel_rfl) (by kernel_rfl) (fun _ _ _ h => h) (Or.inl ⟨by rfl, ?_⟩) (by assumption) ?_
                  · intro x hSx; subst hSx; go_simp
                  try simp only [Act.put, List.setIfInBounds_toArray, List.set_cons_zero, List.set_cons_succ]
                  refine takeL (i := 8) (v := .pointer (some ⟨ga, oa + i * 9, none⟩)) rfl (by kernel_rfl) (by kernel_rfl) (by kernel_rfl) (fun _ _ _ h => h) (Or.inl ⟨by rfl, ?_⟩) (by assumption) ?_
                  · intro x hSx; subst hSx; go_simp
                  try simp only [Act.put, List.setIfInBounds_toArray, List.set_cons_zero, List.set_cons_succ]
                  refine takeL (i := 9) (v := .int .i64 sq2) rfl (by kernel_rfl) (by kernel_rfl) (by kernel_rfl) (fun _ _ _ h => h) (Or.inl ⟨by rfl, ?_⟩) (by assumption) ?_
                  · intro x hSx; subst hSx; go_simp
                  try simp only [Act.put, List.setIfInBounds_toArray, List.set_cons_zero, List.set_cons_succ]
                  refine takeL (i := 10) (v := .bool true) rfl (by kernel_rfl) (by kernel_rfl) (by kernel_rfl) (fun _ _ _ h => h) (Or.inl ⟨by rfl, ?_⟩) (by assumption) ?_
                  · intro x hSx; subst hSx; go_simp
                  try simp only [Act.put, List.setIfInBounds_toArray, List.set_cons_zero, List.set_cons_succ]
                  refine takeL (i := 11) (v := .bool true) rfl (by kernel_rfl) (by kernel_rfl) (by kernel_rfl) (fun _ _ _ h => h) (Or.inl ⟨by rfl, ?_⟩) (by assumption) ?_
                  · intro x hSx; subst hSx; go_simp
                  try simp only [Act.put, List.setIfInBounds_toArray, List.set_cons_zero, List.set_cons_succ]
                  refine takeL (i := 12) (v := .slice (some ⟨ga, oa, none⟩) l.length cap) rfl (by kernel_rfl) (by kernel_rfl) (by kernel_rfl) (fun _ _ _ h => h) (Or.inl ⟨by rfl, ?_⟩) (by assumption) ?_
                  · intro x hSx; subst hSx; go_simp
                  try simp only [Act.put, List.setIfInBounds_toArray, List.set_cons_zero, List.set_cons_succ]
                  refine takeL (i := 13) (v := .int .i64 (k : Int)) rfl (by kernel_rfl) (by kernel_rfl) (by kernel_rfl) (fun _ _ _ h => h) (Or.inl ⟨by rfl, ?_⟩) (by assumption) ?_
                  · intro x hSx; subst hSx; go_simp
                  try simp only [Act.put, List.setIfInBounds_toArray, List.set_cons_zero, List.set_cons_succ]
                  refine takeL (i := 14) (v := .pointer (some ⟨ga, oa + k * 9, none⟩)) rfl (by kernel_rfl) (by kernel_rfl) (by kernel_rfl) (fun _ _ _ h => h) (Or.inl ⟨by rfl, ?_⟩) (by assumption) ?_
                  · intro x hSx; subst hSx; go_simp
                  try simp only [Act.put, List.setIfInBounds_toArray, List.set_cons_zero, List.set_cons_succ]
                  refine takeL (i := 15) (v := .agg #[.int .i64 sq2, .int .i64 K2, .int .i64 V2, .int .i64 U2, .int .i64 N2, .int .i64 FL2, .string US2, .string NM2, .string TX2]) rfl (by kernel_rfl) (by kernel_rfl) (by kernel_rfl) (fun _ _ _ h => h) (Or.inl ⟨by rfl, ?_⟩) (by assumption) ?_
                  · intro x hSx; subst hSx; go_simp
                  try simp only [Act.put, List.setIfInBounds_toArray, List.set_cons_zero, List.set_cons_succ]
                  refine takeL (i := 16) (v := .slice (some ⟨ga, oa, none⟩) l.length cap) rfl (by kernel_rfl) (by kernel_rfl) (by kernel_rfl) (fun _ _ _ h => h) (Or.inl ⟨by rfl, ?_⟩) (by assumption) ?_
                  · intro x hSx; subst hSx; go_simp
                  try simp only [Act.put, List.setIfInBounds_toArray, List.set_cons_zero, List.set_cons_succ]
                  refine takeL (i := 17) (v := .int .i64 (i : Int)) rfl (by kernel_rfl) (by kernel_rfl) (by kernel_rfl) (fun _ _ _ h => h) (Or.inl ⟨by rfl, ?_⟩) (by assumption) ?_
                  · intro x hSx; subst hSx; go_simp
                  try simp only [Act.put, List.setIfInBounds_toArray, List.set_cons_zero, List.set_cons_succ]
                  refine takeL (i := 18) (v := .pointer (some ⟨ga, oa + i * 9, none⟩)) rfl (by kernel_rfl) (by kernel_rfl) (by kernel_rfl) (fun _ _ _ h => h) (Or.inl ⟨by rfl, ?_⟩) (by assumption) ?_
                  · intro x hSx; subst hSx; go_simp
                  try simp only [Act.put, List.setIfInBounds_toArray, List.set_cons_zero, List.set_cons_succ]
                  refine takeL (i := 19) (v := .agg #[.int .i64 sq2, .int .i64 K2, .int .i64 V2, .int .i64 U2, .int .i64 N2, .int .i64 FL2, .string US2, .string NM2, .string TX2]) rfl (by kernel_rfl) (by kernel_rfl) (by kernel_rfl) (fun _ _ _ h => h) (Or.inl ⟨by rfl, ?_⟩) (by assumption) ?_
                  · intro x hSx; subst hSx; go_simp
                  try simp only [Act.put, List.setIfInBounds_toArray, List.set_cons_zero, List.set_cons_succ]
                  refine takeL (i := 20) (v := .bool false) rfl (by kernel_rfl) (by kernel_rfl) (by kernel_rfl) (fun _ _ _ h => h) (Or.inl ⟨by rfl, ?_⟩) (by assumption) ?_
                  · intro x hSx; subst hSx; go_simp
                  try simp only [Act.put, List.setIfInBounds_toArray, List.set_cons_zero, List.set_cons_succ]
                  refine takeL (i := 21) (v := .bool false) rfl (by kernel_rfl) (by kernel_rfl) (by kernel_rfl) (fun _ _ _ h => h) (Or.inl ⟨by rfl, ?_⟩) (by assumption) ?_
                  · intro x hSx; subst hSx; go_simp
                  try simp only [Act.put, List.setIfInBounds_toArray, List.set_cons_zero, List.set_cons_succ]
                  refine wpAnyH_done (by kernel_rfl) ?_ _
                  go_wp2
                  exact ⟨⟨k + 1, by omega, by go_num, fun j y hj hjk e => by
                    by_cases c : j = k
                    · subst c; have := HY.out; rw [hj] at this; cases this; rfl
                    · exact HU.out j y hj (by omega) e, bD⟩, by first | omega | (simp [intOf]; omega)⟩
                · have HE : Hid (D = false) := by
                    rw [← HD.out]
                    exact items_part HY.out HX.out rfl (fun e => hsame (by cases e; exact ⟨rfl, rfl, rfl, rfl, rfl, rfl, rfl, rfl⟩))
                  have HNE := Lib.hid hsame
                  clear hsame
                  go_wp2_with fail
                  refine wp_region_held_drew (S := fun x => wr.drew = x) (by kernel_rfl) rfl (fun hHeld => ?_)
                  refine takeL (i := 0) (v := .slice (some ⟨ga, oa, none⟩) l.length cap) rfl (by kernel_rfl) (by kernel_rfl) (by kernel_rfl) (fun _ _ _ h => h) (Or.inl ⟨by rfl, ?_⟩) (by assumption) ?_
                  · intro x hSx; subst hSx; go_simp
                  try simp only [Act.put, List.setIfInBounds_toArray, List.set_cons_zero, List.set_cons_succ]
                  refine takeL (i := 1) (v := .int .i64 (k : Int)) rfl (by kernel_rfl) (by kernel_rfl) (by kernel_rfl) (fun _ _ _ h => h) (Or.inl ⟨by rfl, ?_⟩) (by assumption) ?_
                  · intro x hSx; subst hSx; go_simp
                  try simp only [Act.put, List.setIfInBounds_toArray, List.set_cons_zero, List.set_cons_succ]
                  refine takeL (i := 2) (v := .pointer (some ⟨ga, oa + k * 9, none⟩)) rfl (by kernel_rfl) (by kernel_rfl) (by kernel_rfl) (fun _ _ _ h => h) (Or.inl ⟨by rfl, ?_⟩) (by assumption) ?_
                  · intro x hSx; subst hSx; go_simp
                  try simp only [Act.put, List.setIfInBounds_toArray, List.set_cons_zero, List.set_cons_succ]
                  refine takeL (i := 3) (v := .pointer (some ⟨ga, oa + k * 9, none⟩)) rfl (by kernel_rfl) (by kernel_rfl) (by kernel_rfl) (fun _ _ _ h => h) (Or.inl ⟨by rfl, ?_⟩) (by assumption) ?_
                  · intro x hSx; subst hSx; go_simp
                  try simp only [Act.put, List.setIfInBounds_toArray, List.set_cons_zero, List.set_cons_succ]
                  refine takeL (i := 4) (v := .int .i64 sq2) rfl (by kernel_rfl) (by kernel_rfl) (by kernel_rfl) (fun _ _ _ h => h) (Or.inl ⟨by rfl, ?_⟩) (by assumption) ?_
                  · intro x hSx; subst hSx; go_simp
                  try simp only [Act.put, List.setIfInBounds_toArray, List.set_cons_zero, List.set_cons_succ]
                  refine takeL (i := 5) (v := .slice (some ⟨ga, oa, none⟩) l.length cap) rfl (by kernel_rfl) (by kernel_rfl) (by kernel_rfl) (fun _ _ _ h => h) (Or.inl ⟨by rfl, ?_⟩) (by assumption) ?_
                  · intro x hSx; subst hSx; go_simp
                  try simp only [Act.put, List.setIfInBounds_toArray, List.set_cons_zero, List.set_cons_succ]
                  refine takeL (i := 6) (v := .int .i64 (i : Int)) rfl (by kernel_rfl) (by kernel_rfl) (by kernel_rfl) (fun _ _ _ h => h) (Or.inl ⟨by rfl, ?_⟩) (by assumption) ?_
                  · intro x hSx; subst hSx; go_simp
                  try simp only [Act.put, List.setIfInBounds_toArray, List.set_cons_zero, List.set_cons_succ]
                  refine takeL (i := 7) (v := .pointer (some ⟨ga, oa + i * 9, none⟩)) rfl (by kernel_rfl) (by kernel_rfl) (by kernel_rfl) (fun _ _ _ h => h) (Or.inl ⟨by rfl, ?_⟩) (by assumption) ?_
                  · intro x hSx; subst hSx; go_simp
                  try simp only [Act.put, List.setIfInBounds_toArray, List.set_cons_zero, List.set_cons_succ]
                  refine takeL (i := 8) (v := .pointer (some ⟨ga, oa + i * 9, none⟩)) rfl (by kernel_rfl) (by kernel_rfl) (by kernel_rfl) (fun _ _ _ h => h) (Or.inl ⟨by rfl, ?_⟩) (by assumption) ?_
                  · intro x hSx; subst hSx; go_simp
                  try simp only [Act.put, List.setIfInBounds_toArray, List.set_cons_zero, List.set_cons_succ]
                  refine takeL (i := 9) (v := .int .i64 sq2) rfl (by kernel_rfl) (by kernel_rfl) (by kernel_rfl) (fun _ _ _ h => h) (Or.inl ⟨by rfl, ?_⟩) (by assumption) ?_
                  · intro x hSx; subst hSx; go_simp
                  try simp only [Act.put, List.setIfInBounds_toArray, List.set_cons_zero, List.set_cons_succ]
                  refine takeL (i := 10) (v := .bool true) rfl (by kernel_rfl) (by kernel_rfl) (by kernel_rfl) (fun _ _ _ h => h) (Or.inl ⟨by rfl, ?_⟩) (by assumption) ?_
                  · intro x hSx; subst hSx; go_simp
                  try simp only [Act.put, List.setIfInBounds_toArray, List.set_cons_zero, List.set_cons_succ]
                  refine takeL (i := 11) (v := .bool true) rfl (by kernel_rfl) (by kernel_rfl) (by kernel_rfl) (fun _ _ _ h => h) (Or.inl ⟨by rfl, ?_⟩) (by assumption) ?_
                  · intro x hSx; subst hSx; go_simp
                  try simp only [Act.put, List.setIfInBounds_toArray, List.set_cons_zero, List.set_cons_succ]
                  refine takeL (i := 12) (v := .slice (some ⟨ga, oa, none⟩) l.length cap) rfl (by kernel_rfl) (by kernel_rfl) (by kernel_rfl) (fun _ _ _ h => h) (Or.inl ⟨by rfl, ?_⟩) (by assumption) ?_
                  · intro x hSx; subst hSx; go_simp
                  try simp only [Act.put, List.setIfInBounds_toArray, List.set_cons_zero, List.set_cons_succ]
                  refine takeL (i := 13) (v := .int .i64 (k : Int)) rfl (by kernel_rfl) (by kernel_rfl) (by kernel_rfl) (fun _ _ _ h => h) (Or.inl ⟨by rfl, ?_⟩) (by assumption) ?_
                  · intro x hSx; subst hSx; go_simp
                  try simp only [Act.put, List.setIfInBounds_toArray, List.set_cons_zero, List.set_cons_succ]
                  refine takeL (i := 14) (v := .pointer (some ⟨ga, oa + k * 9, none⟩)) rfl (by kernel_rfl) (by kernel_rfl) (by kernel_rfl) (fun _ _ _ h => h) (Or.inl ⟨by rfl, ?_⟩) (by assumption) ?_
                  · intro x hSx; subst hSx; go_simp
                  try simp only [Act.put, List.setIfInBounds_toArray, List.set_cons_zero, List.set_cons_succ]
                  refine takeL (i := 15) (v := .agg #[.int .i64 sq2, .int .i64 K2, .int .i64 V2, .int .i64 U2, .int .i64 N2, .int .i64 FL2, .string US2, .string NM2, .string TX2]) rfl (by kernel_rfl) (by kernel_rfl) (by kernel_rfl) (fun _ _ _ h => h) (Or.inl ⟨by rfl, ?_⟩) (by assumption) ?_
                  · intro x hSx; subst hSx; go_simp
                  try simp only [Act.put, List.setIfInBounds_toArray, List.set_cons_zero, List.set_cons_succ]
                  refine takeL (i := 16) (v := .slice (some ⟨ga, oa, none⟩) l.length cap) rfl (by kernel_rfl) (by kernel_rfl) (by kernel_rfl) (fun _ _ _ h => h) (Or.inl ⟨by rfl, ?_⟩) (by assumption) ?_
                  · intro x hSx; subst hSx; go_simp
                  try simp only [Act.put, List.setIfInBounds_toArray, List.set_cons_zero, List.set_cons_succ]
                  refine takeL (i := 17) (v := .int .i64 (i : Int)) rfl (by kernel_rfl) (by kernel_rfl) (by kernel_rfl) (fun _ _ _ h => h) (Or.inl ⟨by rfl, ?_⟩) (by assumption) ?_
                  · intro x hSx; subst hSx; go_simp
                  try simp only [Act.put, List.setIfInBounds_toArray, List.set_cons_zero, List.set_cons_succ]
                  refine takeL (i := 18) (v := .pointer (some ⟨ga, oa + i * 9, none⟩)) rfl (by kernel_rfl) (by kernel_rfl) (by kernel_rfl) (fun _ _ _ h => h) (Or.inl ⟨by rfl, ?_⟩) (by assumption) ?_
                  · intro x hSx; subst hSx; go_simp
                  try simp only [Act.put, List.setIfInBounds_toArray, List.set_cons_zero, List.set_cons_succ]
                  refine takeL (i := 19) (v := .agg #[.int .i64 sq2, .int .i64 K, .int .i64 V, .int .i64 U, .int .i64 N, .int .i64 FL, .string US, .string NM, .string TX]) rfl (by kernel_rfl) (by kernel_rfl) (by kernel_rfl) (fun _ _ _ h => h) (Or.inl ⟨by rfl, ?_⟩) (by assumption) ?_
                  · intro x hSx; subst hSx; go_simp
                  try simp only [Act.put, List.setIfInBounds_toArray, List.set_cons_zero, List.set_cons_succ]
                  refine takeL (i := 20) (v := .bool true) rfl (by kernel_rfl) (by kernel_rfl) (by kernel_rfl) (fun _ _ _ h => h) (Or.inl ⟨by rfl, ?_⟩) (by assumption) ?_
                  · intro x hSx; subst hSx; go_simp; simp only [ba_same]; exact fun h0 h1 h2 h3 h4 h5 h6 h7 => HNE.out ⟨h0, h1, h2, h3, h4, h5, h6, h7⟩
                  try simp only [Act.put, List.setIfInBounds_toArray, List.set_cons_zero, List.set_cons_succ]
                  refine takeL (i := 21) (v := .bool true) rfl (by kernel_rfl) (by kernel_rfl) (by kernel_rfl) (fun _ _ _ h => h) (Or.inl ⟨by rfl, ?_⟩) (by assumption) ?_
                  · intro x hSx; subst hSx; go_simp
                  try simp only [Act.put, List.setIfInBounds_toArray, List.set_cons_zero, List.set_cons_succ]
                  refine wpAnyH_done (by kernel_rfl) ?_ _
                  go_wp2
                  go_ret
                  exact ⟨by rw [HE.out]; rfl, bD⟩
              · have hq2 : (sq2 == sq) = false := beq_eq_false_iff_ne.2 hq
                go_wp2_with fail
                refine wp_region_held_drew (S := fun x => wr.drew = x) (by kernel_rfl) rfl (fun hHeld => ?_)
                refine takeL (i := 0) (v := .slice (some ⟨ga, oa, none⟩) l.length cap) rfl (by kernel_rfl) (by kernel_rfl) (by kernel_rfl) (fun _ _ _ h => h) (Or.inl ⟨by rfl, ?_⟩) (by assumption) ?_
                · intro x hSx; subst hSx; go_simp
                try simp only [Act.put, List.setIfInBounds_toArray, List.set_cons_zero, List.set_cons_succ]
                refine takeL (i := 1) (v := .int .i64 (k : Int)) rfl (by kernel_rfl) (by kernel_rfl) (by kernel_rfl) (fun _ _ _ h => h) (Or.inl ⟨by rfl, ?_⟩) (by assumption) ?_
                · intro x hSx; subst hSx; go_simp
                try simp only [Act.put, List.setIfInBounds_toArray, List.set_cons_zero, List.set_cons_succ]
                refine takeL (i := 2) (v := .pointer (some ⟨ga, oa + k * 9, none⟩)) rfl (by kernel_rfl) (by kernel_rfl) (by kernel_rfl) (fun _ _ _ h => h) (Or.inl ⟨by rfl, ?_⟩) (by assumption) ?_
                · intro x hSx; subst hSx; go_simp
                try simp only [Act.put, List.setIfInBounds_toArray, List.set_cons_zero, List.set_cons_succ]
                refine takeL (i := 3) (v := .pointer (some ⟨ga, oa + k * 9, none⟩)) rfl (by kernel_rfl) (by kernel_rfl) (by kernel_rfl) (fun _ _ _ h => h) (Or.inl ⟨by rfl, ?_⟩) (by assumption) ?_
                · intro x hSx; subst hSx; go_simp
                try simp only [Act.put, List.setIfInBounds_toArray, List.set_cons_zero, List.set_cons_succ]
                refine takeL (i := 4) (v := .int .i64 sq2) rfl (by kernel_rfl) (by kernel_rfl) (by kernel_rfl) (fun _ _ _ h => h) (Or.inl ⟨by rfl, ?_⟩) (by assumption) ?_
                · intro x hSx; subst hSx; go_simp
                try simp only [Act.put, List.setIfInBounds_toArray, List.set_cons_zero, List.set_cons_succ]
                refine takeL (i := 5) (v := .slice (some ⟨ga, oa, none⟩) l.length cap) rfl (by kernel_rfl) (by kernel_rfl) (by kernel_rfl) (fun _ _ _ h => h) (Or.inl ⟨by rfl, ?_⟩) (by assumption) ?_
                · intro x hSx; subst hSx; go_simp
                try simp only [Act.put, List.setIfInBounds_toArray, List.set_cons_zero, List.set_cons_succ]
                refine takeL (i := 6) (v := .int .i64 (i : Int)) rfl (by kernel_rfl) (by kernel_rfl) (by kernel_rfl) (fun _ _ _ h => h) (Or.inl ⟨by rfl, ?_⟩) (by assumption) ?_
                · intro x hSx; subst hSx; go_simp
                try simp only [Act.put, List.setIfInBounds_toArray, List.set_cons_zero, List.set_cons_succ]
                refine takeL (i := 7) (v := .pointer (some ⟨ga, oa + i * 9, none⟩)) rfl (by kernel_rfl) (by kernel_rfl) (by kernel_rfl) (fun _ _ _ h => h) (Or.inl ⟨by rfl, ?_⟩) (by assumption) ?_
                · intro x hSx; subst hSx; go_simp
                try simp only [Act.put, List.setIfInBounds_toArray, List.set_cons_zero, List.set_cons_succ]
                refine takeL (i := 8) (v := .pointer (some ⟨ga, oa + i * 9, none⟩)) rfl (by kernel_rfl) (by kernel_rfl) (by kernel_rfl) (fun _ _ _ h => h) (Or.inl ⟨by rfl, ?_⟩) (by assumption) ?_
                · intro x hSx; subst hSx; go_simp
                try simp only [Act.put, List.setIfInBounds_toArray, List.set_cons_zero, List.set_cons_succ]
                refine takeL (i := 9) (v := .int .i64 sq) rfl (by kernel_rfl) (by kernel_rfl) (by kernel_rfl) (fun _ _ _ h => h) (Or.inl ⟨by rfl, ?_⟩) (by assumption) ?_
                · intro x hSx; subst hSx; go_simp
                try simp only [Act.put, List.setIfInBounds_toArray, List.set_cons_zero, List.set_cons_succ]
                refine takeL (i := 10) (v := .bool false) rfl (by kernel_rfl) (by kernel_rfl) (by kernel_rfl) (fun _ _ _ h => h) (Or.inl ⟨by rfl, ?_⟩) (by assumption) ?_
                · intro x hSx; subst hSx; go_simp
                try simp only [Act.put, List.setIfInBounds_toArray, List.set_cons_zero, List.set_cons_succ]
                refine takeL (i := 11) (v := .bool false) rfl (by kernel_rfl) (by kernel_rfl) (by kernel_rfl) (fun _ _ _ h => h) (Or.inl ⟨by rfl, ?_⟩) (by assumption) ?_
                · intro x hSx; subst hSx; go_simp
                try simp only [Act.put, List.setIfInBounds_toArray, List.set_cons_zero, List.set_cons_succ]
                refine takeL (i := 12) (v := undef) rfl (by kernel_rfl) (by kernel_rfl) (by kernel_rfl) (fun _ _ _ h => h) (Or.inr ⟨by rfl, rfl⟩) (by assumption) ?_
                try simp only [Act.put, List.setIfInBounds_toArray, List.set_cons_zero, List.set_cons_succ]
                refine takeL (i := 13) (v := undef) rfl (by kernel_rfl) (by kernel_rfl) (by kernel_rfl) (fun _ _ _ h => h) (Or.inr ⟨by rfl, rfl⟩) (by assumption) ?_
                try simp only [Act.put, List.setIfInBounds_toArray, List.set_cons_zero, List.set_cons_succ]
                refine takeL (i := 14) (v := undef) rfl (by kernel_rfl) (by kernel_rfl) (by kernel_rfl) (fun _ _ _ h => h) (Or.inr ⟨by rfl, rfl⟩) (by assumption) ?_
                try simp only [Act.put, List.setIfInBounds_toArray, List.set_cons_zero, List.set_cons_succ]
                refine takeL (i := 15) (v := undef) rfl (by kernel_rfl) (by kernel_rfl) (by kernel_rfl) (fun _ _ _ h => h) (Or.inr ⟨by rfl, rfl⟩) (by assumption) ?_
                try simp only [Act.put, List.setIfInBounds_toArray, List.set_cons_zero, List.set_cons_succ]
                refine takeL (i := 16) (v := undef) rfl (by kernel_rfl) (by kernel_rfl) (by kernel_rfl) (fun _ _ _ h => h) (Or.inr ⟨by rfl, rfl⟩) (by assumption) ?_
                try simp only [Act.put, List.setIfInBounds_toArray, List.set_cons_zero, List.set_cons_succ]
                refine takeL (i := 17) (v := undef) rfl (by kernel_rfl) (by kernel_rfl) (by kernel_rfl) (fun _ _ _ h => h) (Or.inr ⟨by rfl, rfl⟩) (by assumption) ?_
                try simp only [Act.put, List.setIfInBounds_toArray, List.set_cons_zero, List.set_cons_succ]
                refine takeL (i := 18) (v := undef) rfl (by kernel_rfl) (by kernel_rfl) (by kernel_rfl) (fun _ _ _ h => h) (Or.inr ⟨by rfl, rfl⟩) (by assumption) ?_
                try simp only [Act.put, List.setIfInBounds_toArray, List.set_cons_zero, List.set_cons_succ]
                refine takeL (i := 19) (v := undef) rfl (by kernel_rfl) (by kernel_rfl) (by kernel_rfl) (fun _ _ _ h => h) (Or.inr ⟨by rfl, rfl⟩) (by assumption) ?_
                try simp only [Act.put, List.setIfInBounds_toArray, List.set_cons_zero, List.set_cons_succ]
                refine takeL (i := 20) (v := undef) rfl (by kernel_rfl) (by kernel_rfl) (by kernel_rfl) (fun _ _ _ h => h) (Or.inr ⟨by rfl, rfl⟩) (by assumption) ?_
                try simp only [Act.put, List.setIfInBounds_toArray, List.set_cons_zero, List.set_cons_succ]
                refine takeL (i := 21) (v := .bool false) rfl (by kernel_rfl) (by kernel_rfl) (by kernel_rfl) (fun _ _ _ h => h) (Or.inl ⟨by rfl, ?_⟩) (by assumption) ?_
                · intro x hSx; subst hSx; go_simp
                try simp only [Act.put, List.setIfInBounds_toArray, List.set_cons_zero, List.set_cons_succ]
                refine wpAnyH_done (by kernel_rfl) ?_ _
                go_wp2
                exact ⟨⟨k + 1, by omega, by go_num, fun j y hj hjk e => by
                  by_cases c : j = k
                  · subst c; have := HY.out; rw [hj] at this; cases this; exact absurd e hq
                  · exact HU.out j y hj (by omega) e, bD⟩, by first | omega | (simp [intOf]; omega)⟩
            · have hge : ¬ (k : Int) < (i : Int) := by omega
              have hki : k = i := by omega
              go_wp2
              exact ⟨⟨i + 1, by omega, by go_num, HG.out.next HX.out HOK.out (fun j y hj hji e => HU.out j y hj (by omega) e), hb⟩, by first | omega | (simp [intOf]; omega)⟩
        · have HE : Hid (D = false) := by rw [← HD.out]; exact items_bad HX.out (fun c => hok c.2)
          rw [decide_eq_false hok] at hRO
          unfold Rc.v at hRO
          simp only at hRO
          have HRO := Lib.hid hRO
          clear hRO hok
          go_wp2_with (first | (go_at_call 41; refine (l01In_yes _ _ _ _ hs1 hs2).mono ?_; rintro e w5 ⟨rfl, rfl⟩) | (go_at_call 68; refine (HRO.out _).mono ?_; rintro e w6 ⟨rfl, k6⟩))
          go_ret
          exact ⟨by rw [HE.out]; rfl, hb.trans (k6.mono hb.size)⟩
      · have HE : Hid (D = false) := by rw [← HD.out]; exact items_bad HX.out (fun c => hs c.1)
        go_wp2_with (go_at_call 41; refine (l01In_no _ _ _ _ hs).mono ?_; rintro e w5 ⟨rfl, rfl⟩)
        go_ret
        exact ⟨by rw [HE.out]; rfl, hb⟩
    · have hge : ¬ (i : Int) < (l.length : Int) := by omega
      have hil : i = l.length := by omega
      have HE : Hid (D = decide ((l.length : Int) ≤ 200)) := by
        rw [← HD.out]
        have h := HG.out
        rw [hil] at h
        rw [h.done]
        exact decide_eq_decide.2 (by omega)
      go_wp2
      go_ret
      exact ⟨by rw [HE.out]; rfl, hb⟩

end Go.Proofs.Ytjfilicddnhniab
