/- Texts of our own, joined. -/
import Derived.Test.YtmbmbnjbeofmaaaJh
import Derived.Test.YtmbmbnjbeofmaaaJc
import Derived.Test.YtmbmbnjbeofmaaaJe
import Derived.Test.YtmbmbnjbeofmaaaJd
/- Records: what the program's RecOk hands back. -/
namespace Go.Proofs.Ytmbmbnjbeofmaaa
open Go.RowKit

set_option maxHeartbeats 1000000 in
theorem rec_ifs {α : Type} (F : Bool → α) (a0 a1 a2 a3 a4 : Int) (a5 a6 a7 : ByteArray) (b0 b1 b2 b3 b4 : Int) (b5 b6 b7 : ByteArray) :
    (if a0 = b0 then if a1 = b1 then if a2 = b2 then if a3 = b3 then if a4 = b4 then if a5.toList = b5.toList then if a6.toList = b6.toList then if a7.toList = b7.toList then F true else F false else F false else F false else F false else F false else F false else F false else F false) = F (decide ((⟨a0, a1, a2, a3, a4, a5, a6, a7⟩ : Rc) = ⟨b0, b1, b2, b3, b4, b5, b6, b7⟩)) := by
  have e : decide ((⟨a0, a1, a2, a3, a4, a5, a6, a7⟩ : Rc) = ⟨b0, b1, b2, b3, b4, b5, b6, b7⟩) = (decide (a0 = b0) && (decide (a1 = b1) && (decide (a2 = b2) && (decide (a3 = b3) && (decide (a4 = b4) && (decide (a5 = b5) && (decide (a6 = b6) && decide (a7 = b7)))))))) := by
    simp
  rw [e]
  simp only [ba_inj]
  by_cases h0 : a0 = b0 <;> by_cases h1 : a1 = b1 <;> by_cases h2 : a2 = b2 <;> by_cases h3 : a3 = b3 <;> by_cases h4 : a4 = b4 <;> by_cases h5 : a5 = b5 <;> by_cases h6 : a6 = b6 <;> by_cases h7 : a7 = b7 <;> simp only [h0, h1, h2, h3, h4, h5, h6, h7, if_true, if_false, decide_true, decide_false, Bool.and_true, Bool.and_false]

theorem box_method (v n : Int) (u m : ByteArray) (k : Nat) (w : World) (hk : 1 ≤ k) : (method k 78 (.agg #[.int .i64 v, .int .i64 n, .string u, .string m]) "loop.example/g00287/impl.right").run Try.prog w = .ok (70, .agg #[.int .i64 v, .int .i64 n, .string u, .string m]) w := by
  obtain ⟨j, rfl⟩ : ∃ j, k = j + 1 := ⟨k - 1, by omega⟩
  kernel_rfl
theorem drop_method (v : Int) (k : Nat) (w : World) (hk : 1 ≤ k) : (method k 80 (.agg #[.int .i64 v]) "loop.example/g00287/impl.right").run Try.prog w = .ok (74, .agg #[.int .i64 v]) w := by
  obtain ⟨j, rfl⟩ : ∃ j, k = j + 1 := ⟨k - 1, by omega⟩
  kernel_rfl
theorem add_method (v u f : Int) (t : ByteArray) (k : Nat) (w : World) (hk : 1 ≤ k) : (method k 82 (.agg #[.int .i64 v, .int .i64 u, .int .i64 f, .string t]) "loop.example/g00287/impl.right").run Try.prog w = .ok (75, .agg #[.int .i64 v, .int .i64 u, .int .i64 f, .string t]) w := by
  obtain ⟨j, rfl⟩ : ∃ j, k = j + 1 := ⟨k - 1, by omega⟩
  kernel_rfl
theorem flag_method (v u f : Int) (k : Nat) (w : World) (hk : 1 ≤ k) : (method k 84 (.agg #[.int .i64 v, .int .i64 u, .int .i64 f]) "loop.example/g00287/impl.right").run Try.prog w = .ok (77, .agg #[.int .i64 v, .int .i64 u, .int .i64 f]) w := by
  obtain ⟨j, rfl⟩ : ∃ j, k = j + 1 := ⟨k - 1, by omega⟩
  kernel_rfl
theorem gone_method (v u : Int) (k : Nat) (w : World) (hk : 1 ≤ k) : (method k 86 (.agg #[.int .i64 v, .int .i64 u]) "loop.example/g00287/impl.right").run Try.prog w = .ok (78, .agg #[.int .i64 v, .int .i64 u]) w := by
  obtain ⟨j, rfl⟩ : ∃ j, k = j + 1 := ⟨k - 1, by omega⟩
  kernel_rfl

set_option maxRecDepth 100000 in
set_option maxHeartbeats 1000000 in
theorem recOk_go (r s : Rc) (T : TypeId) (x : Value) (K : Nat) (q : Bool) (w : World)
    (hRO : ∀ wx, Calls Try.prog 29 #[r.v] wx fun e w' => e = .returned (.tuple #[.iface T x, .bool true]) ∧ Below wx.heap.size wx w')
    (hM : ∀ k wx, 1 ≤ k → (method k T x "loop.example/g00287/impl.right").run Try.prog wx = .ok (K, x) wx)
    (hC : ∀ wx, (callFunc K #[x]).run Try.prog wx = .ok (.enter K #[x]) wx)
    (hR : ∀ wx, Calls Try.prog K #[x] wx fun e w' => e = .returned (.bool q) ∧ Below wx.heap.size wx w')
    (hB : ∀ wx, Calls Try.prog 30 #[.iface T x] wx fun e w' => e = .returned s.v ∧ Below wx.heap.size wx w') :
    Calls Try.prog 18 #[r.v] w fun e w' => e = .returned (.bool (q && decide (s = r))) ∧ Below w.heap.size w w' := by
  have bx := Box.new w r.cs 34
  have b0 : Below w.heap.size w (w.alloc (.cells r.cs 34)) := (Below.refl _ _).alloc (Nat.le_refl _) _
  obtain ⟨c0, c1, c2, c3, c4, c5, c6, c7⟩ := bx.rec
  have BX := Lib.hid bx
  clear bx
  obtain ⟨kind, valid, uid, next, flags, user, name, text⟩ := r
  obtain ⟨d, hd⟩ : ∃ d, decide (s = ⟨kind, valid, uid, next, flags, user, name, text⟩) = d := ⟨_, rfl⟩
  rw [hd]
  have HD := Lib.hid hd
  clear hd
  obtain ⟨sk, sv, su, sn, sf, s5, s6, s7⟩ := s
  unfold Rc.v at hB
  simp only at hB
  unfold Rc.v at hRO ⊢
  unfold Rc.cs at *
  simp only at *
  have HRO := Lib.hid hRO
  have HR := Lib.hid hR
  have HB := Lib.hid hB
  clear hRO hR hB
  go_enter Try.func18, Try.ntmps18
  go_wp2_with fail
  generalize w.alloc (.cells #[.int .i64 kind, .int .i64 valid, .int .i64 uid, .int .i64 next, .int .i64 flags, .string user, .string name, .string text] 34) = W at *
  refine (HRO.out _).mono ?_
  rintro e w1 ⟨rfl, k1⟩
  have b1 := b0.trans (k1.mono b0.size)
  have BX1 := BX.out.later k1
  clear c0 c1 c2 c3 c4 c5 c6 c7
  go_wp2_with fail
  have r0 : ∀ x, Below w1.heap.size w1 x → x.cell? ⟨w.heap.size, 0, none⟩ = some (.int .i64 kind) := fun x hb => (BX1.later hb).cell 0 _ rfl
  have r1 : ∀ x, Below w1.heap.size w1 x → x.cell? ⟨w.heap.size, 1, none⟩ = some (.int .i64 valid) := fun x hb => (BX1.later hb).cell 1 _ rfl
  have r2 : ∀ x, Below w1.heap.size w1 x → x.cell? ⟨w.heap.size, 2, none⟩ = some (.int .i64 uid) := fun x hb => (BX1.later hb).cell 2 _ rfl
  have r3 : ∀ x, Below w1.heap.size w1 x → x.cell? ⟨w.heap.size, 3, none⟩ = some (.int .i64 next) := fun x hb => (BX1.later hb).cell 3 _ rfl
  have r4 : ∀ x, Below w1.heap.size w1 x → x.cell? ⟨w.heap.size, 4, none⟩ = some (.int .i64 flags) := fun x hb => (BX1.later hb).cell 4 _ rfl
  have r5 : ∀ x, Below w1.heap.size w1 x → x.cell? ⟨w.heap.size, 5, none⟩ = some (.string user) := fun x hb => (BX1.later hb).cell 5 _ rfl
  have r6 : ∀ x, Below w1.heap.size w1 x → x.cell? ⟨w.heap.size, 6, none⟩ = some (.string name) := fun x hb => (BX1.later hb).cell 6 _ rfl
  have r7 : ∀ x, Below w1.heap.size w1 x → x.cell? ⟨w.heap.size, 7, none⟩ = some (.string text) := fun x hb => (BX1.later hb).cell 7 _ rfl
  have HK0 : Hid (Below w1.heap.size w1 w1.drew) := (Below.refl _ _).drew
  clear BX1 BX k1
  refine wp_region_held_drew (S := fun x => Below w1.heap.size w1 x) (by kernel_rfl) HK0.out (fun hHeld => ?_)
  clear HK0
  cases q with
  | false =>
    refine takeL (i := 0) (v := .bool true) rfl (by kernel_rfl) (by kernel_rfl) (by kernel_rfl) (fun _ _ _ h => h) (Or.inl ⟨by rfl, ?_⟩) (by assumption) ?_
    · intro x hSx; go_simp
    try simp only [Act.put, List.setIfInBounds_toArray, List.set_cons_zero, List.set_cons_succ]
    refine takeL (i := 1) (v := .bool true) rfl (by kernel_rfl) (by kernel_rfl) (by kernel_rfl) (fun _ _ _ h => h) (Or.inl ⟨by rfl, ?_⟩) (by assumption) ?_
    · intro x hSx; go_simp
    try simp only [Act.put, List.setIfInBounds_toArray, List.set_cons_zero, List.set_cons_succ]
    refine takeL (i := 2) (v := .iface T x) rfl (by kernel_rfl) (by kernel_rfl) (by kernel_rfl) (fun _ _ _ h => h) (Or.inl ⟨by rfl, ?_⟩) (by assumption) ?_
    · intro x hSx; go_simp
    try simp only [Act.put, List.setIfInBounds_toArray, List.set_cons_zero, List.set_cons_succ]
    refine wpAnyH_ready (rs := [3]) (by kernel_rfl) (by simp) ?_
    refine readyOne rfl (fun K' hK => ?_)
    go_simp
    refine (HR.out _).mono ?_
    rintro e wT ⟨rfl, kT⟩
    go_wp2_with fail
    refine hK.out _ _ (below_next hHeld kT) (fun hS2 => ?_)
    clear hK K' kT hHeld
    have hHeld := hS2
    clear hS2
    try simp only [Act.put, List.setIfInBounds_toArray, List.set_cons_zero, List.set_cons_succ]
    refine takeL (i := 4) (v := .bool false) rfl (by kernel_rfl) (by kernel_rfl) (by kernel_rfl) (fun _ _ _ h => h) (Or.inl ⟨by rfl, ?_⟩) (by assumption) ?_
    · intro x hSx; go_simp
    try simp only [Act.put, List.setIfInBounds_toArray, List.set_cons_zero, List.set_cons_succ]
    refine takeL (i := 5) (v := .bool false) rfl (by kernel_rfl) (by kernel_rfl) (by kernel_rfl) (fun _ _ _ h => h) (Or.inl ⟨by rfl, ?_⟩) (by assumption) ?_
    · intro x hSx; go_simp
    try simp only [Act.put, List.setIfInBounds_toArray, List.set_cons_zero, List.set_cons_succ]
    refine takeL (i := 6) (v := undef) rfl (by kernel_rfl) (by kernel_rfl) (by kernel_rfl) (fun _ _ _ h => h) (Or.inr ⟨by rfl, rfl⟩) (by assumption) ?_
    try simp only [Act.put, List.setIfInBounds_toArray, List.set_cons_zero, List.set_cons_succ]
    refine takeL (i := 7) (v := undef) rfl (by kernel_rfl) (by kernel_rfl) (by kernel_rfl) (fun _ _ _ h => h) (Or.inr ⟨by rfl, rfl⟩) (by assumption) ?_
    try simp only [Act.put, List.setIfInBounds_toArray, List.set_cons_zero, List.set_cons_succ]
    refine takeL (i := 8) (v := undef) rfl (by kernel_rfl) (by kernel_rfl) (by kernel_rfl) (fun _ _ _ h => h) (Or.inr ⟨by rfl, rfl⟩) (by assumption) ?_
    try simp only [Act.put, List.setIfInBounds_toArray, List.set_cons_zero, List.set_cons_succ]
    refine takeL (i := 9) (v := undef) rfl (by kernel_rfl) (by kernel_rfl) (by kernel_rfl) (fun _ _ _ h => h) (Or.inr ⟨by rfl, rfl⟩) (by assumption) ?_
    try simp only [Act.put, List.setIfInBounds_toArray, List.set_cons_zero, List.set_cons_succ]
    refine takeL (i := 10) (v := .bool false) rfl (by kernel_rfl) (by kernel_rfl) (by kernel_rfl) (fun _ _ _ h => h) (Or.inl ⟨by rfl, ?_⟩) (by assumption) ?_
    · intro x hSx; go_simp
    try simp only [Act.put, List.setIfInBounds_toArray, List.set_cons_zero, List.set_cons_succ]
    refine takeL (i := 11) (v := .bool false) rfl (by kernel_rfl) (by kernel_rfl) (by kernel_rfl) (fun _ _ _ h => h) (Or.inl ⟨by rfl, ?_⟩) (by assumption) ?_
    · intro x hSx; go_simp
    try simp only [Act.put, List.setIfInBounds_toArray, List.set_cons_zero, List.set_cons_succ]
    refine wpAnyH_done (by kernel_rfl) ?_ _
    go_wp2
    go_ret
    exact ⟨rfl, b1.trans (hHeld.mono b1.size)⟩
  | true =>
    refine takeL (i := 0) (v := .bool true) rfl (by kernel_rfl) (by kernel_rfl) (by kernel_rfl) (fun _ _ _ h => h) (Or.inl ⟨by rfl, ?_⟩) (by assumption) ?_
    · intro x hSx; go_simp
    try simp only [Act.put, List.setIfInBounds_toArray, List.set_cons_zero, List.set_cons_succ]
    refine takeL (i := 1) (v := .bool true) rfl (by kernel_rfl) (by kernel_rfl) (by kernel_rfl) (fun _ _ _ h => h) (Or.inl ⟨by rfl, ?_⟩) (by assumption) ?_
    · intro x hSx; go_simp
    try simp only [Act.put, List.setIfInBounds_toArray, List.set_cons_zero, List.set_cons_succ]
    refine takeL (i := 2) (v := .iface T x) rfl (by kernel_rfl) (by kernel_rfl) (by kernel_rfl) (fun _ _ _ h => h) (Or.inl ⟨by rfl, ?_⟩) (by assumption) ?_
    · intro x hSx; go_simp
    try simp only [Act.put, List.setIfInBounds_toArray, List.set_cons_zero, List.set_cons_succ]
    refine wpAnyH_ready (rs := [3]) (by kernel_rfl) (by simp) ?_
    refine readyOne rfl (fun K' hK => ?_)
    go_simp
    refine (HR.out _).mono ?_
    rintro e wT ⟨rfl, kT⟩
    go_wp2_with fail
    refine hK.out _ _ (below_next hHeld kT) (fun hS2 => ?_)
    clear hK K' kT hHeld
    have hHeld := hS2
    clear hS2
    try simp only [Act.put, List.setIfInBounds_toArray, List.set_cons_zero, List.set_cons_succ]
    refine takeL (i := 4) (v := .bool true) rfl (by kernel_rfl) (by kernel_rfl) (by kernel_rfl) (fun _ _ _ h => h) (Or.inl ⟨by rfl, ?_⟩) (by assumption) ?_
    · intro x hSx; go_simp
    try simp only [Act.put, List.setIfInBounds_toArray, List.set_cons_zero, List.set_cons_succ]
    refine takeL (i := 5) (v := .bool true) rfl (by kernel_rfl) (by kernel_rfl) (by kernel_rfl) (fun _ _ _ h => h) (Or.inl ⟨by rfl, ?_⟩) (by assumption) ?_
    · intro x hSx; go_simp
    try simp only [Act.put, List.setIfInBounds_toArray, List.set_cons_zero, List.set_cons_succ]
    refine takeL (i := 6) (v := .iface T x) rfl (by kernel_rfl) (by kernel_rfl) (by kernel_rfl) (fun _ _ _ h => h) (Or.inl ⟨by rfl, ?_⟩) (by assumption) ?_
    · intro x hSx; go_simp
    try simp only [Act.put, List.setIfInBounds_toArray, List.set_cons_zero, List.set_cons_succ]
    refine takeL (i := 8) (v := .agg #[.int .i64 kind, .int .i64 valid, .int .i64 uid, .int .i64 next, .int .i64 flags, .string user, .string name, .string text]) rfl (by kernel_rfl) (by kernel_rfl) (by kernel_rfl) (fun _ _ _ h => h) (Or.inl ⟨by rfl, ?_⟩) (by assumption) ?_
    · intro x hSx; have q0 := r0 x hSx; have q1 := r1 x hSx; have q2 := r2 x hSx; have q3 := r3 x hSx; have q4 := r4 x hSx; have q5 := r5 x hSx; have q6 := r6 x hSx; have q7 := r7 x hSx; go_simp
    try simp only [Act.put, List.setIfInBounds_toArray, List.set_cons_zero, List.set_cons_succ]
    refine wpAnyH_ready (rs := [7]) (by kernel_rfl) (by simp) ?_
    refine readyOne rfl (fun K' hK => ?_)
    go_simp
    refine (HB.out _).mono ?_
    rintro e wT ⟨rfl, kT⟩
    go_wp2_with fail
    refine hK.out _ _ (below_next hHeld kT) (fun hS2 => ?_)
    clear hK K' kT hHeld
    have hHeld := hS2
    clear hS2
    try simp only [Act.put, List.setIfInBounds_toArray, List.set_cons_zero, List.set_cons_succ]
    refine takeL (i := 9) (v := .bool d) rfl (by kernel_rfl) (by kernel_rfl) (by kernel_rfl) (fun _ _ _ h => h) (Or.inl ⟨by rfl, ?_⟩) (by assumption) ?_
    · intro x hSx; go_simp; rw [← HD.out]; exact rec_ifs (fun b => Result.ok (Next.value (Value.bool b)) x) _ _ _ _ _ _ _ _ _ _ _ _ _ _ _ _
    try simp only [Act.put, List.setIfInBounds_toArray, List.set_cons_zero, List.set_cons_succ]
    refine takeL (i := 10) (v := .bool d) rfl (by kernel_rfl) (by kernel_rfl) (by kernel_rfl) (fun _ _ _ h => h) (Or.inl ⟨by rfl, ?_⟩) (by assumption) ?_
    · intro x hSx; go_simp
    try simp only [Act.put, List.setIfInBounds_toArray, List.set_cons_zero, List.set_cons_succ]
    refine takeL (i := 11) (v := .bool d) rfl (by kernel_rfl) (by kernel_rfl) (by kernel_rfl) (fun _ _ _ h => h) (Or.inl ⟨by rfl, ?_⟩) (by assumption) ?_
    · intro x hSx; go_simp
    try simp only [Act.put, List.setIfInBounds_toArray, List.set_cons_zero, List.set_cons_succ]
    refine wpAnyH_done (by kernel_rfl) ?_ _
    go_wp2
    go_ret
    exact ⟨rfl, b1.trans (hHeld.mono b1.size)⟩

set_option maxRecDepth 100000 in
set_option maxHeartbeats 1000000 in
theorem recOk_no (r : Rc) (w : World) (hk : ¬ (1 ≤ r.kind ∧ r.kind ≤ 5)) :
    Calls Try.prog 18 #[r.v] w fun e w' => e = .returned (.bool false) ∧ Below w.heap.size w w' := by
  have bx := Box.new w r.cs 34
  have b0 : Below w.heap.size w (w.alloc (.cells r.cs 34)) := (Below.refl _ _).alloc (Nat.le_refl _) _
  obtain ⟨c0, c1, c2, c3, c4, c5, c6, c7⟩ := bx.rec
  have hRO := fun wx => recordOf_no r wx hk
  clear bx hk
  obtain ⟨kind, valid, uid, next, flags, user, name, text⟩ := r
  unfold Rc.v at hRO ⊢
  unfold Rc.cs at *
  simp only at *
  have HRO := Lib.hid hRO
  clear hRO
  go_enter Try.func18, Try.ntmps18
  go_wp2_with fail
  generalize w.alloc (.cells #[.int .i64 kind, .int .i64 valid, .int .i64 uid, .int .i64 next, .int .i64 flags, .string user, .string name, .string text] 34) = W at *
  refine (HRO.out _).mono ?_
  rintro e w1 ⟨rfl, k1⟩
  have b1 := b0.trans (k1.mono b0.size)
  clear c0 c1 c2 c3 c4 c5 c6 c7
  go_wp2_with fail
  refine wp_region_held_drew (S := fun x => Below w1.heap.size w1 x) (by kernel_rfl) ((Below.refl _ _).drew) (fun hHeld => ?_)
  refine takeL (i := 0) (v := .bool false) rfl (by kernel_rfl) (by kernel_rfl) (by kernel_rfl) (fun _ _ _ h => h) (Or.inl ⟨by rfl, ?_⟩) (by assumption) ?_
  · intro x hSx; go_simp
  try simp only [Act.put, List.setIfInBounds_toArray, List.set_cons_zero, List.set_cons_succ]
  refine takeL (i := 1) (v := .bool false) rfl (by kernel_rfl) (by kernel_rfl) (by kernel_rfl) (fun _ _ _ h => h) (Or.inl ⟨by rfl, ?_⟩) (by assumption) ?_
  · intro x hSx; go_simp
  try simp only [Act.put, List.setIfInBounds_toArray, List.set_cons_zero, List.set_cons_succ]
  refine takeL (i := 2) (v := undef) rfl (by kernel_rfl) (by kernel_rfl) (by kernel_rfl) (fun _ _ _ h => h) (Or.inr ⟨by rfl, rfl⟩) (by assumption) ?_
  try simp only [Act.put, List.setIfInBounds_toArray, List.set_cons_zero, List.set_cons_succ]
  refine takeL (i := 3) (v := undef) rfl (by kernel_rfl) (by kernel_rfl) (by kernel_rfl) (fun _ _ _ h => h) (Or.inr ⟨by rfl, rfl⟩) (by assumption) ?_
  try simp only [Act.put, List.setIfInBounds_toArray, List.set_cons_zero, List.set_cons_succ]
  refine takeL (i := 4) (v := .bool false) rfl (by kernel_rfl) (by kernel_rfl) (by kernel_rfl) (fun _ _ _ h => h) (Or.inl ⟨by rfl, ?_⟩) (by assumption) ?_
  · intro x hSx; go_simp
  try simp only [Act.put, List.setIfInBounds_toArray, List.set_cons_zero, List.set_cons_succ]
  refine takeL (i := 5) (v := .bool false) rfl (by kernel_rfl) (by kernel_rfl) (by kernel_rfl) (fun _ _ _ h => h) (Or.inl ⟨by rfl, ?_⟩) (by assumption) ?_
  · intro x hSx; go_simp
  try simp only [Act.put, List.setIfInBounds_toArray, List.set_cons_zero, List.set_cons_succ]
  refine takeL (i := 6) (v := undef) rfl (by kernel_rfl) (by kernel_rfl) (by kernel_rfl) (fun _ _ _ h => h) (Or.inr ⟨by rfl, rfl⟩) (by assumption) ?_
  try simp only [Act.put, List.setIfInBounds_toArray, List.set_cons_zero, List.set_cons_succ]
  refine takeL (i := 7) (v := undef) rfl (by kernel_rfl) (by kernel_rfl) (by kernel_rfl) (fun _ _ _ h => h) (Or.inr ⟨by rfl, rfl⟩) (by assumption) ?_
  try simp only [Act.put, List.setIfInBounds_toArray, List.set_cons_zero, List.set_cons_succ]
  refine takeL (i := 8) (v := undef) rfl (by kernel_rfl) (by kernel_rfl) (by kernel_rfl) (fun _ _ _ h => h) (Or.inr ⟨by rfl, rfl⟩) (by assumption) ?_
  try simp only [Act.put, List.setIfInBounds_toArray, List.set_cons_zero, List.set_cons_succ]
  refine takeL (i := 9) (v := undef) rfl (by kernel_rfl) (by kernel_rfl) (by kernel_rfl) (fun _ _ _ h => h) (Or.inr ⟨by rfl, rfl⟩) (by assumption) ?_
  try simp only [Act.put, List.setIfInBounds_toArray, List.set_cons_zero, List.set_cons_succ]
  refine takeL (i := 10) (v := .bool false) rfl (by kernel_rfl) (by kernel_rfl) (by kernel_rfl) (fun _ _ _ h => h) (Or.inl ⟨by rfl, ?_⟩) (by assumption) ?_
  · intro x hSx; go_simp
  try simp only [Act.put, List.setIfInBounds_toArray, List.set_cons_zero, List.set_cons_succ]
  refine takeL (i := 11) (v := .bool false) rfl (by kernel_rfl) (by kernel_rfl) (by kernel_rfl) (fun _ _ _ h => h) (Or.inl ⟨by rfl, ?_⟩) (by assumption) ?_
  · intro x hSx; go_simp
  try simp only [Act.put, List.setIfInBounds_toArray, List.set_cons_zero, List.set_cons_succ]
  refine wpAnyH_done (by kernel_rfl) ?_ _
  go_wp2
  go_ret
  exact ⟨rfl, b1.trans (hHeld.mono b1.size)⟩

theorem ok_1 {r : Rc} (hk : r.kind = 1) : decide r.ok = (decide (bxP r.valid r.next r.user r.name) && decide ((⟨1, r.valid, 0, r.next, 0, r.user, r.name, emp⟩ : Rc) = r)) := by
  rw [← Bool.decide_and]
  apply decide_eq_decide.2
  obtain ⟨kind, valid, uid, next, flags, user, name, text⟩ := r
  simp only at hk
  subst hk
  simp only [Rc.ok, bxP, Rc.mk.injEq]
  constructor
  · rintro ⟨_, h2, h3, h4, h5, h6⟩
    simp at h3 h4 h5 h6
    simp [h2, h3, h4, h5, h6]
  · rintro ⟨⟨h1, h2, h3, h4⟩, _, _, h5, _, h6, _, _, h7⟩
    simp [← h5, ← h6, ← h7, h1, h2, h3, h4]
theorem ok_2 {r : Rc} (hk : r.kind = 2) : decide r.ok = (decide (1 ≤ r.valid ∧ r.valid ≤ 9999) && decide ((⟨2, r.valid, 0, 0, 0, emp, emp, emp⟩ : Rc) = r)) := by
  rw [← Bool.decide_and]
  apply decide_eq_decide.2
  obtain ⟨kind, valid, uid, next, flags, user, name, text⟩ := r
  simp only at hk
  subst hk
  simp only [Rc.ok, Rc.mk.injEq]
  constructor
  · rintro ⟨_, h2, h3, h4, h5, h6⟩
    simp at h3 h4 h5 h6
    simp [h2, h3, h4, h5, h6]
  · rintro ⟨h1, _, _, h2, h3, h4, h5, h6, h7⟩
    simp [← h2, ← h3, ← h4, ← h5, ← h6, ← h7, h1]
theorem ok_3 {r : Rc} (hk : r.kind = 3) : decide r.ok = (decide (adP r.valid r.uid r.flags r.text) && decide ((⟨3, r.valid, r.uid, 0, r.flags, emp, emp, r.text⟩ : Rc) = r)) := by
  rw [← Bool.decide_and]
  apply decide_eq_decide.2
  obtain ⟨kind, valid, uid, next, flags, user, name, text⟩ := r
  simp only at hk
  subst hk
  simp only [Rc.ok, adP, Rc.mk.injEq]
  constructor
  · rintro ⟨_, h2, h3, h4, h5, h6⟩
    simp at h3 h4 h5 h6
    simp [h2, h3, h4, h5, h6]
  · rintro ⟨⟨h1, h2, h3, h4⟩, _, _, _, h5, _, h6, h7, _⟩
    simp [← h5, ← h6, ← h7, h1, h2, h3, h4]
theorem ok_4 {r : Rc} (hk : r.kind = 4) : decide r.ok = (decide (flP r.valid r.uid r.flags) && decide ((⟨4, r.valid, r.uid, 0, r.flags, emp, emp, emp⟩ : Rc) = r)) := by
  rw [← Bool.decide_and]
  apply decide_eq_decide.2
  obtain ⟨kind, valid, uid, next, flags, user, name, text⟩ := r
  simp only at hk
  subst hk
  simp only [Rc.ok, flP, Rc.mk.injEq]
  constructor
  · rintro ⟨_, h2, h3, h4, h5, h6⟩
    simp at h3 h4 h5 h6
    simp [h2, h3, h4, h5, h6]
  · rintro ⟨⟨h1, h2, h3⟩, _, _, _, h5, _, h6, h7, h8⟩
    simp [← h5, ← h6, ← h7, ← h8, h1, h2, h3]
theorem ok_5 {r : Rc} (hk : r.kind = 5) : decide r.ok = (decide (goP r.valid r.uid) && decide ((⟨5, r.valid, r.uid, 0, 0, emp, emp, emp⟩ : Rc) = r)) := by
  rw [← Bool.decide_and]
  apply decide_eq_decide.2
  obtain ⟨kind, valid, uid, next, flags, user, name, text⟩ := r
  simp only at hk
  subst hk
  simp only [Rc.ok, goP, Rc.mk.injEq]
  constructor
  · rintro ⟨_, h2, h3, h4, h5, h6⟩
    simp at h3 h4 h5 h6
    simp [h2, h3, h4, h5, h6]
  · rintro ⟨⟨h1, h2⟩, _, _, _, h4, h5, h6, h7, h8⟩
    simp [← h4, ← h5, ← h6, ← h7, ← h8, h1, h2]

set_option maxRecDepth 100000 in
set_option maxHeartbeats 1000000 in
theorem implRecOk_any (r : Rc) (w : World) :
    Calls Try.prog 18 #[r.v] w fun e w' => e = .returned (.bool (decide r.ok)) ∧ Below w.heap.size w w' := by
  by_cases h1 : r.kind = 1
  · rw [ok_1 h1]
    exact recOk_go r _ _ _ _ _ w (fun wx => recordOf_1 r wx h1) (fun k wx hk => box_method _ _ _ _ k wx hk) (fun wx => by kernel_rfl) (fun wx => boxRight_any _ _ _ _ wx) (fun wx => recOf_1 _ _ _ _ wx)
  by_cases h2 : r.kind = 2
  · rw [ok_2 h2]
    exact recOk_go r _ _ _ _ _ w (fun wx => recordOf_2 r wx h2) (fun k wx hk => drop_method _ k wx hk) (fun wx => by kernel_rfl) (fun wx => dropRight_any _ wx) (fun wx => recOf_2 _ wx)
  by_cases h3 : r.kind = 3
  · rw [ok_3 h3]
    exact recOk_go r _ _ _ _ _ w (fun wx => recordOf_3 r wx h3) (fun k wx hk => add_method _ _ _ _ k wx hk) (fun wx => by kernel_rfl) (fun wx => addRight_any _ _ _ _ wx) (fun wx => recOf_3 _ _ _ _ wx)
  by_cases h4 : r.kind = 4
  · rw [ok_4 h4]
    exact recOk_go r _ _ _ _ _ w (fun wx => recordOf_4 r wx h4) (fun k wx hk => flag_method _ _ _ k wx hk) (fun wx => by kernel_rfl) (fun wx => flagRight_any _ _ _ wx) (fun wx => recOf_4 _ _ _ wx)
  by_cases h5 : r.kind = 5
  · rw [ok_5 h5]
    exact recOk_go r _ _ _ _ _ w (fun wx => recordOf_5 r wx h5) (fun k wx hk => gone_method _ _ k wx hk) (fun wx => by kernel_rfl) (fun wx => goneRight_any _ _ wx) (fun wx => recOf_5 _ _ wx)
  have hk : ¬ (1 ≤ r.kind ∧ r.kind ≤ 5) := by omega
  rw [decide_eq_false (fun h : r.ok => hk h.1)]
  exact recOk_no r w hk

end Go.Proofs.Ytmbmbnjbeofmaaa

/- Fitting of the program: its parts. -/
namespace Go.Proofs.Ytmbmbnjbeofmaaa
open Go.RowKit
set_option linter.unusedVariables false

theorem namesOf_le (ps : List Bx) (u : ByteArray) : (namesOf ps u).length ≤ ps.length := by
  unfold namesOf
  rw [List.length_map]
  exact List.length_filter_le _ _

set_option maxRecDepth 100000 in
set_option maxHeartbeats 4000000 in
theorem boxMayBe_any (ps : List Bx) (va : Value) (u nm : ByteArray) (w : World) (ha : BRd w va ps) (hl : ps.length ≤ 1048576) (hm : ∀ b ∈ ps, b.mails.length ≤ 1048576 ∧ b.name.size ≤ 1048576) :
    Calls Try.prog 19 #[.agg #[va], .string u, .string nm] w fun e w' => e = .returned (.bool (bmB ps u nm)) ∧ Below w.heap.size w w' := by
  obtain ⟨ad, cap, rfl, _⟩ := id ha.boxes
  have b0 := belNew w (.cells #[.slice ad ps.length cap] 32)
  have HB := Lib.hid (implBoxesOf_perm ps _ u _ (ha.later b0) hl (fun b hb => (hm b hb).2))
  have HNL := Lib.hid (Nat.le_trans (namesOf_le ps u) hl)
  obtain ⟨A, hA⟩ : ∃ A, bmB ps u nm = A := ⟨_, rfl⟩
  rw [hA]
  have HA := Lib.hid hA
  clear hA ha hm hl
  generalize ps.length = n at *
  go_enter Try.func19, Try.ntmps19
  go_wp2_with fail
  generalize w.alloc (.cells #[.slice ad n cap] 32) = W at b0 HB ⊢
  refine HB.out.mono ?_
  rintro e w1 ⟨v1, ns, rfl, hp, S1⟩
  obtain ⟨a1, c1, rfl⟩ := S1.form
  have HI : Hid (inB ns nm = inB (namesOf ps u) nm ∧ ns.length = (namesOf ps u).length) := ⟨inB_perm hp nm, hp.length_eq⟩
  have hB1 := b0.trans (S1.bel.mono b0.size)
  have hnl : ns.length ≤ 1048576 := by have := HI.out.2; have := HNL.out; omega
  have HS := Lib.hid S1.strs
  clear hp S1 HB b0
  by_cases hlen : (ns.length : Int) < 3
  · have HCS := Lib.hid (containsStr_any ns _ nm w1 HS.out hnl)
    go_wp2_with (go_at_call 32; refine HCS.out.mono ?_; rintro e w2 ⟨rfl, rfl⟩)
    go_ret
    refine ⟨?_, hB1⟩
    rw [← HA.out]
    unfold bmB
    rw [← HI.out.1, ← HI.out.2]
    have h3 : ns.length < 3 := by omega
    simp [h3]
  · go_wp2
    go_ret
    refine ⟨?_, hB1⟩
    rw [← HA.out]
    unfold bmB
    rw [← HI.out.1, ← HI.out.2]
    have h3 : ¬ ns.length < 3 := by omega
    simp [h3]

set_option maxRecDepth 100000 in
set_option maxHeartbeats 4000000 in
theorem fits3 (b : Bx) (am : Option Addr) (nm cm : Nat) (K V U N FL : Int) (US NM TX : ByteArray) (w : World) (hml : Rows' mlE w (.slice am nm cm) b.mails) (hbm : b.mails.length ≤ 1048576) (hK : K = 3) :
    Calls Try.prog 22 #[.agg #[.int .i64 b.valid, .string b.user, .string b.name, .int .i64 b.next, .slice am nm cm], .agg #[.int .i64 K, .int .i64 V, .int .i64 U, .int .i64 N, .int .i64 FL, .string US, .string NM, .string TX]] w fun e w' => e = .returned (.bool (decide (U = b.next) && decide (b.mails.length < 8))) ∧ Below w.heap.size w w' := by
  subst hK
  have HNM := Lib.hid (hml.mails).1
  clear hml hbm
  have b0 : Below w.heap.size w ((w.alloc (.cells #[.int .i64 b.valid, .string b.user, .string b.name, .int .i64 b.next, .slice am nm cm] 42)).alloc (.cells #[.int .i64 3, .int .i64 V, .int .i64 U, .int .i64 N, .int .i64 FL, .string US, .string NM, .string TX] 34)) := ((Below.refl _ _).alloc (Nat.le_refl _) _).alloc (by simp) _
  by_cases hU : U = b.next
  · subst hU
    go_enter Try.func22, Try.ntmps22
    go_wp2
    go_ret
    refine ⟨?_, b0⟩
    rw [← HNM.out]
    by_cases hlen : (nm : Int) < 8
    · have h3 : nm < 8 := by omega
      simp [hlen, h3]
    · have h3 : ¬ nm < 8 := by omega
      simp [hlen, h3]
  · have hU' : (U == b.next) = false := beq_eq_false_iff_ne.2 hU
    go_enter Try.func22, Try.ntmps22
    go_wp2
    go_ret
    exact ⟨by first | rfl | simp [hU], b0⟩

set_option maxRecDepth 100000 in
set_option maxHeartbeats 4000000 in
theorem fits4 (b : Bx) (am : Option Addr) (nm cm : Nat) (K V U N FL : Int) (US NM TX : ByteArray) (w : World) (hml : Rows' mlE w (.slice am nm cm) b.mails) (hbm : b.mails.length ≤ 1048576) (hK : K = 4) :
    Calls Try.prog 22 #[.agg #[.int .i64 b.valid, .string b.user, .string b.name, .int .i64 b.next, .slice am nm cm], .agg #[.int .i64 K, .int .i64 V, .int .i64 U, .int .i64 N, .int .i64 FL, .string US, .string NM, .string TX]] w fun e w' => e = .returned (.bool (hasM b.mails U)) ∧ Below w.heap.size w w' := by
  subst hK
  have b0 : Below w.heap.size w ((w.alloc (.cells #[.int .i64 b.valid, .string b.user, .string b.name, .int .i64 b.next, .slice am nm cm] 42)).alloc (.cells #[.int .i64 4, .int .i64 V, .int .i64 U, .int .i64 N, .int .i64 FL, .string US, .string NM, .string TX] 34)) := ((Below.refl _ _).alloc (Nat.le_refl _) _).alloc (by simp) _
  have X1 := (Box.new (w.alloc (.cells #[.int .i64 b.valid, .string b.user, .string b.name, .int .i64 b.next, .slice am nm cm] 42)) #[.int .i64 4, .int .i64 V, .int .i64 U, .int .i64 N, .int .i64 FL, .string US, .string NM, .string TX] 34).cell 2 _ rfl
  rw [show (w.alloc (.cells #[.int .i64 b.valid, .string b.user, .string b.name, .int .i64 b.next, .slice am nm cm] 42)).heap.size = w.heap.size + 1 by simp] at X1
  have HC := Lib.hid (containsMail_any b.mails am nm cm U (w.heap.size + 1) _ (hml.later b0) hbm X1)
  have hmf : ∀ (fn : Fn) (first cap : Array Value) (w : World), (Instr.makeFunc fn first cap).run Try.prog w = .ok (.func fn first cap) w := fun _ _ _ _ => rfl
  generalize hasM b.mails U = D at HC ⊢
  clear hml hbm X1
  go_enter Try.func22, Try.ntmps22
  go_wp2_with (go_at_call 33; refine HC.out.mono ?_; rintro e w1 ⟨rfl, k1⟩)
  go_ret
  exact ⟨rfl, b0.trans (k1.mono b0.size)⟩

set_option maxRecDepth 100000 in
set_option maxHeartbeats 4000000 in
theorem fits5 (b : Bx) (am : Option Addr) (nm cm : Nat) (K V U N FL : Int) (US NM TX : ByteArray) (w : World) (hml : Rows' mlE w (.slice am nm cm) b.mails) (hbm : b.mails.length ≤ 1048576) (hK : K = 5) :
    Calls Try.prog 22 #[.agg #[.int .i64 b.valid, .string b.user, .string b.name, .int .i64 b.next, .slice am nm cm], .agg #[.int .i64 K, .int .i64 V, .int .i64 U, .int .i64 N, .int .i64 FL, .string US, .string NM, .string TX]] w fun e w' => e = .returned (.bool (hasM b.mails U)) ∧ Below w.heap.size w w' := by
  subst hK
  have b0 : Below w.heap.size w ((w.alloc (.cells #[.int .i64 b.valid, .string b.user, .string b.name, .int .i64 b.next, .slice am nm cm] 42)).alloc (.cells #[.int .i64 5, .int .i64 V, .int .i64 U, .int .i64 N, .int .i64 FL, .string US, .string NM, .string TX] 34)) := ((Below.refl _ _).alloc (Nat.le_refl _) _).alloc (by simp) _
  have X1 := (Box.new (w.alloc (.cells #[.int .i64 b.valid, .string b.user, .string b.name, .int .i64 b.next, .slice am nm cm] 42)) #[.int .i64 5, .int .i64 V, .int .i64 U, .int .i64 N, .int .i64 FL, .string US, .string NM, .string TX] 34).cell 2 _ rfl
  rw [show (w.alloc (.cells #[.int .i64 b.valid, .string b.user, .string b.name, .int .i64 b.next, .slice am nm cm] 42)).heap.size = w.heap.size + 1 by simp] at X1
  have HC := Lib.hid (containsMail_any b.mails am nm cm U (w.heap.size + 1) _ (hml.later b0) hbm X1)
  have hmf : ∀ (fn : Fn) (first cap : Array Value) (w : World), (Instr.makeFunc fn first cap).run Try.prog w = .ok (.func fn first cap) w := fun _ _ _ _ => rfl
  generalize hasM b.mails U = D at HC ⊢
  clear hml hbm X1
  go_enter Try.func22, Try.ntmps22
  go_wp2_with (go_at_call 33; refine HC.out.mono ?_; rintro e w1 ⟨rfl, k1⟩)
  go_ret
  exact ⟨rfl, b0.trans (k1.mono b0.size)⟩

set_option maxRecDepth 100000 in
set_option maxHeartbeats 4000000 in
theorem fits0 (b : Bx) (am : Option Addr) (nm cm : Nat) (K V U N FL : Int) (US NM TX : ByteArray) (w : World) (hml : Rows' mlE w (.slice am nm cm) b.mails) (hbm : b.mails.length ≤ 1048576) (h3 : ¬ K = 3) (h4 : ¬ K = 4) (h5 : ¬ K = 5) :
    Calls Try.prog 22 #[.agg #[.int .i64 b.valid, .string b.user, .string b.name, .int .i64 b.next, .slice am nm cm], .agg #[.int .i64 K, .int .i64 V, .int .i64 U, .int .i64 N, .int .i64 FL, .string US, .string NM, .string TX]] w fun e w' => e = .returned (.bool (true)) ∧ Below w.heap.size w w' := by
  have h3' : (K == 3) = false := beq_eq_false_iff_ne.2 h3
  have h4' : (K == 4) = false := beq_eq_false_iff_ne.2 h4
  have h5' : (K == 5) = false := beq_eq_false_iff_ne.2 h5
  clear hml hbm
  have b0 : Below w.heap.size w ((w.alloc (.cells #[.int .i64 b.valid, .string b.user, .string b.name, .int .i64 b.next, .slice am nm cm] 42)).alloc (.cells #[.int .i64 K, .int .i64 V, .int .i64 U, .int .i64 N, .int .i64 FL, .string US, .string NM, .string TX] 34)) := ((Below.refl _ _).alloc (Nat.le_refl _) _).alloc (by simp) _
  go_enter Try.func22, Try.ntmps22
  go_wp2
  go_ret
  exact ⟨rfl, b0⟩

set_option maxRecDepth 100000 in
set_option maxHeartbeats 4000000 in
theorem fitsBox_any (b : Bx) (am : Option Addr) (nm cm : Nat) (K V U N FL : Int) (US NM TX : ByteArray) (w : World) (hml : Rows' mlE w (.slice am nm cm) b.mails) (hbm : b.mails.length ≤ 1048576) :
    Calls Try.prog 22 #[.agg #[.int .i64 b.valid, .string b.user, .string b.name, .int .i64 b.next, .slice am nm cm], .agg #[.int .i64 K, .int .i64 V, .int .i64 U, .int .i64 N, .int .i64 FL, .string US, .string NM, .string TX]] w fun e w' => e = .returned (.bool (fbB b ⟨K, V, U, N, FL, US, NM, TX⟩)) ∧ Below w.heap.size w w' := by
  by_cases h3 : K = 3
  · rw [show fbB b ⟨K, V, U, N, FL, US, NM, TX⟩ = (decide (U = b.next) && decide (b.mails.length < 8)) from if_pos h3]
    exact fits3 b am nm cm K V U N FL US NM TX w hml hbm h3
  · by_cases h4 : K = 4
    · rw [show fbB b ⟨K, V, U, N, FL, US, NM, TX⟩ = hasM b.mails U from (if_neg h3).trans (if_pos (.inl h4))]
      exact fits4 b am nm cm K V U N FL US NM TX w hml hbm h4
    · by_cases h5 : K = 5
      · rw [show fbB b ⟨K, V, U, N, FL, US, NM, TX⟩ = hasM b.mails U from (if_neg h3).trans (if_pos (.inr h5))]
        exact fits5 b am nm cm K V U N FL US NM TX w hml hbm h5
      · rw [show fbB b ⟨K, V, U, N, FL, US, NM, TX⟩ = true from (if_neg h3).trans (if_neg (fun h => h.elim h4 h5))]
        exact fits0 b am nm cm K V U N FL US NM TX w hml hbm h3 h4 h5


end Go.Proofs.Ytmbmbnjbeofmaaa

/- Fitting of the program. -/
namespace Go.Proofs.Ytmbmbnjbeofmaaa
open Go.RowKit
set_option linter.unusedVariables false

set_option maxRecDepth 100000 in
set_option maxHeartbeats 4000000 in
theorem implFit_bad (ps : List Bx) (va : Value) (nv : Int) (K V U N FL : Int) (US NM TX : ByteArray) (w : World) (ha : BRd w va ps) (hl : ps.length ≤ 1048576) (hm : ∀ b ∈ ps, b.mails.length ≤ 1048576 ∧ b.name.size ≤ 1048576) (s1 : US.size ≤ 1048576) (s2 : NM.size ≤ 1048576) (s3 : TX.size ≤ 1048576) (hok : ¬ (⟨K, V, U, N, FL, US, NM, TX⟩ : Rc).ok) :
    Calls Try.prog 9 #[.agg #[va], .int .i64 nv, (⟨K, V, U, N, FL, US, NM, TX⟩ : Rc).v] w fun e w' => e = .returned (.bool false) ∧ Below w.heap.size w w' := by
  have hd : decide (⟨K, V, U, N, FL, US, NM, TX⟩ : Rc).ok = false := decide_eq_false hok
  have HD := Lib.hid hd
  clear hd hok
  obtain ⟨ad, cap, rfl, hrow⟩ := id ha.boxes
  have HROW := Lib.hid hrow
  clear hrow
  obtain ⟨n, hn⟩ : ∃ n, ps.length = n := ⟨_, rfl⟩
  rw [hn] at hl ha ⊢
  have HN := Lib.hid hn
  clear hn
  have HOKC := Lib.hid (fun x => implRecOk_any ⟨K, V, U, N, FL, US, NM, TX⟩ x)
  have b0 : Below w.heap.size w ((w.alloc (.cells #[.slice ad n cap] 32)).alloc (.cells #[.int .i64 K, .int .i64 V, .int .i64 U, .int .i64 N, .int .i64 FL, .string US, .string NM, .string TX] 34)) := ((Below.refl _ _).alloc (Nat.le_refl _) _).alloc (by simp) _
  have X0 := (Box.new w #[.slice ad n cap] 32).later (belNew _ (.cells #[.int .i64 K, .int .i64 V, .int .i64 U, .int .i64 N, .int .i64 FL, .string US, .string NM, .string TX] 34))
  have X1 := Box.new (w.alloc (.cells #[.slice ad n cap] 32)) #[.int .i64 K, .int .i64 V, .int .i64 U, .int .i64 N, .int .i64 FL, .string US, .string NM, .string TX] 34
  rw [show (w.alloc (.cells #[.slice ad n cap] 32)).heap.size = w.heap.size + 1 by simp] at X1
  have HC : Hid (∀ x, Below ((w.alloc (.cells #[.slice ad n cap] 32)).alloc (.cells #[.int .i64 K, .int .i64 V, .int .i64 U, .int .i64 N, .int .i64 FL, .string US, .string NM, .string TX] 34)).heap.size ((w.alloc (.cells #[.slice ad n cap] 32)).alloc (.cells #[.int .i64 K, .int .i64 V, .int .i64 U, .int .i64 N, .int .i64 FL, .string US, .string NM, .string TX] 34)) x → x.cell? ⟨w.heap.size, 0, none⟩ = some (.slice ad n cap) ∧ (x.cell? ⟨w.heap.size + 1, 0, none⟩ = some (.int .i64 K) ∧ x.cell? ⟨w.heap.size + 1, 1, none⟩ = some (.int .i64 V) ∧ x.cell? ⟨w.heap.size + 1, 2, none⟩ = some (.int .i64 U) ∧ x.cell? ⟨w.heap.size + 1, 3, none⟩ = some (.int .i64 N) ∧ x.cell? ⟨w.heap.size + 1, 4, none⟩ = some (.int .i64 FL) ∧ x.cell? ⟨w.heap.size + 1, 5, none⟩ = some (.string US) ∧ x.cell? ⟨w.heap.size + 1, 6, none⟩ = some (.string NM) ∧ x.cell? ⟨w.heap.size + 1, 7, none⟩ = some (.string TX)) ∧ BRd x (.slice ad n cap) ps ∧ Below w.heap.size w x) := fun x hx => by
    have h' := b0.trans (hx.mono b0.size)
    have y1 := X1.later hx
    exact ⟨(X0.later hx).cell 0 _ rfl, ⟨y1.cell 0 _ rfl, y1.cell 1 _ rfl, y1.cell 2 _ rfl, y1.cell 3 _ rfl, y1.cell 4 _ rfl, y1.cell 5 _ rfl, y1.cell 6 _ rfl, y1.cell 7 _ rfl⟩, ha.later h', h'⟩
  clear X0 X1 ha
  unfold Rc.v at HOKC ⊢
  simp only at HOKC ⊢
  go_enter Try.func9, Try.ntmps9
  go_wp2_with fail
  generalize (w.alloc (.cells #[.slice ad n cap] 32)).alloc (.cells #[.int .i64 K, .int .i64 V, .int .i64 U, .int .i64 N, .int .i64 FL, .string US, .string NM, .string TX] 34) = W at b0 HC ⊢
  refine (HOKC.out _).mono ?_
  rintro e w1 ⟨rfl, k1⟩
  clear HOKC
  rw [HD.out]
  obtain ⟨c0, ⟨d0, d1, d2, d3, d4, d5, d6, d7⟩, hR, hB⟩ := HC.out _ k1
  clear c0 d0 d1 d2 d3 d4 d5 d6 d7 hR
  go_wp2
  go_ret
  exact ⟨rfl, hB⟩

set_option maxRecDepth 100000 in
set_option maxHeartbeats 4000000 in
theorem implFit_box (ps : List Bx) (va : Value) (nv : Int) (K V U N FL : Int) (US NM TX : ByteArray) (w : World) (ha : BRd w va ps) (hl : ps.length ≤ 1048576) (hm : ∀ b ∈ ps, b.mails.length ≤ 1048576 ∧ b.name.size ≤ 1048576) (s1 : US.size ≤ 1048576) (s2 : NM.size ≤ 1048576) (s3 : TX.size ≤ 1048576) (hok : (⟨K, V, U, N, FL, US, NM, TX⟩ : Rc).ok) (hK : K = 1) :
    Calls Try.prog 9 #[.agg #[va], .int .i64 nv, (⟨K, V, U, N, FL, US, NM, TX⟩ : Rc).v] w fun e w' => e = .returned (.bool ((decide (V = nv) && decide (N = 1)) && bmB ps US NM)) ∧ Below w.heap.size w w' := by
  have hK' : (K == 1) = true := by rw [hK]; rfl
  clear hK
  obtain ⟨A, hA⟩ : ∃ A : Bool, ((decide (V = nv) && decide (N = 1)) && bmB ps US NM) = A := ⟨_, rfl⟩
  rw [hA]
  have HA := Lib.hid hA
  clear hA
  have hd : decide (⟨K, V, U, N, FL, US, NM, TX⟩ : Rc).ok = true := decide_eq_true hok
  have HD := Lib.hid hd
  clear hd hok
  obtain ⟨ad, cap, rfl, hrow⟩ := id ha.boxes
  have HROW := Lib.hid hrow
  clear hrow
  obtain ⟨n, hn⟩ : ∃ n, ps.length = n := ⟨_, rfl⟩
  rw [hn] at hl ha ⊢
  have HN := Lib.hid hn
  clear hn
  have HOKC := Lib.hid (fun x => implRecOk_any ⟨K, V, U, N, FL, US, NM, TX⟩ x)
  have b0 : Below w.heap.size w ((w.alloc (.cells #[.slice ad n cap] 32)).alloc (.cells #[.int .i64 K, .int .i64 V, .int .i64 U, .int .i64 N, .int .i64 FL, .string US, .string NM, .string TX] 34)) := ((Below.refl _ _).alloc (Nat.le_refl _) _).alloc (by simp) _
  have X0 := (Box.new w #[.slice ad n cap] 32).later (belNew _ (.cells #[.int .i64 K, .int .i64 V, .int .i64 U, .int .i64 N, .int .i64 FL, .string US, .string NM, .string TX] 34))
  have X1 := Box.new (w.alloc (.cells #[.slice ad n cap] 32)) #[.int .i64 K, .int .i64 V, .int .i64 U, .int .i64 N, .int .i64 FL, .string US, .string NM, .string TX] 34
  rw [show (w.alloc (.cells #[.slice ad n cap] 32)).heap.size = w.heap.size + 1 by simp] at X1
  have HC : Hid (∀ x, Below ((w.alloc (.cells #[.slice ad n cap] 32)).alloc (.cells #[.int .i64 K, .int .i64 V, .int .i64 U, .int .i64 N, .int .i64 FL, .string US, .string NM, .string TX] 34)).heap.size ((w.alloc (.cells #[.slice ad n cap] 32)).alloc (.cells #[.int .i64 K, .int .i64 V, .int .i64 U, .int .i64 N, .int .i64 FL, .string US, .string NM, .string TX] 34)) x → x.cell? ⟨w.heap.size, 0, none⟩ = some (.slice ad n cap) ∧ (x.cell? ⟨w.heap.size + 1, 0, none⟩ = some (.int .i64 K) ∧ x.cell? ⟨w.heap.size + 1, 1, none⟩ = some (.int .i64 V) ∧ x.cell? ⟨w.heap.size + 1, 2, none⟩ = some (.int .i64 U) ∧ x.cell? ⟨w.heap.size + 1, 3, none⟩ = some (.int .i64 N) ∧ x.cell? ⟨w.heap.size + 1, 4, none⟩ = some (.int .i64 FL) ∧ x.cell? ⟨w.heap.size + 1, 5, none⟩ = some (.string US) ∧ x.cell? ⟨w.heap.size + 1, 6, none⟩ = some (.string NM) ∧ x.cell? ⟨w.heap.size + 1, 7, none⟩ = some (.string TX)) ∧ BRd x (.slice ad n cap) ps ∧ Below w.heap.size w x) := fun x hx => by
    have h' := b0.trans (hx.mono b0.size)
    have y1 := X1.later hx
    exact ⟨(X0.later hx).cell 0 _ rfl, ⟨y1.cell 0 _ rfl, y1.cell 1 _ rfl, y1.cell 2 _ rfl, y1.cell 3 _ rfl, y1.cell 4 _ rfl, y1.cell 5 _ rfl, y1.cell 6 _ rfl, y1.cell 7 _ rfl⟩, ha.later h', h'⟩
  clear X0 X1 ha
  unfold Rc.v at HOKC ⊢
  simp only at HOKC ⊢
  go_enter Try.func9, Try.ntmps9
  go_wp2_with fail
  generalize (w.alloc (.cells #[.slice ad n cap] 32)).alloc (.cells #[.int .i64 K, .int .i64 V, .int .i64 U, .int .i64 N, .int .i64 FL, .string US, .string NM, .string TX] 34) = W at b0 HC ⊢
  refine (HOKC.out _).mono ?_
  rintro e w1 ⟨rfl, k1⟩
  clear HOKC
  rw [HD.out]
  clear HD
  obtain ⟨c0, ⟨d0, d1, d2, d3, d4, d5, d6, d7⟩, hR, hB⟩ := HC.out _ k1
  have HBM := Lib.hid (boxMayBe_any ps _ US NM w1 hR (by have := HN.out; omega) hm)
  clear hR
  by_cases hV : V = nv
  · by_cases hN : N = 1
    · subst hV hN
      go_wp2_with (go_at_call 19; refine HBM.out.mono ?_; rintro e w2 ⟨rfl, k2⟩)
      go_ret
      exact ⟨by rw [← HA.out]; first | rfl | simp, hB.trans (k2.mono hB.size)⟩
    · have hN' : (N == 1) = false := beq_eq_false_iff_ne.2 hN
      subst hV
      go_wp2
      go_ret
      exact ⟨by rw [← HA.out]; simp [hN], hB⟩
  · have hV' : (V == nv) = false := beq_eq_false_iff_ne.2 hV
    go_wp2
    go_ret
    exact ⟨by rw [← HA.out]; simp [hV], hB⟩

set_option maxRecDepth 100000 in
set_option maxHeartbeats 4000000 in
theorem implFit_rest (ps : List Bx) (va : Value) (nv : Int) (K V U N FL : Int) (US NM TX : ByteArray) (w : World) (ha : BRd w va ps) (hl : ps.length ≤ 1048576) (hm : ∀ b ∈ ps, b.mails.length ≤ 1048576 ∧ b.name.size ≤ 1048576) (s1 : US.size ≤ 1048576) (s2 : NM.size ≤ 1048576) (s3 : TX.size ≤ 1048576) (hok : (⟨K, V, U, N, FL, US, NM, TX⟩ : Rc).ok) (hK : ¬ K = 1) :
    Calls Try.prog 9 #[.agg #[va], .int .i64 nv, (⟨K, V, U, N, FL, US, NM, TX⟩ : Rc).v] w fun e w' => e = .returned (.bool (match ps.find? (vB V) with | none => false | some b => fbB b ⟨K, V, U, N, FL, US, NM, TX⟩)) ∧ Below w.heap.size w w' := by
  obtain ⟨A, hA⟩ : ∃ A : Bool, (match ps.find? (vB V) with | none => false | some b => fbB b ⟨K, V, U, N, FL, US, NM, TX⟩) = A := ⟨_, rfl⟩
  rw [hA]
  have HA := Lib.hid hA
  clear hA
  have hd : decide (⟨K, V, U, N, FL, US, NM, TX⟩ : Rc).ok = true := decide_eq_true hok
  have HD := Lib.hid hd
  clear hd hok
  obtain ⟨ad, cap, rfl, hrow⟩ := id ha.boxes
  have HROW := Lib.hid hrow
  clear hrow
  obtain ⟨n, hn⟩ : ∃ n, ps.length = n := ⟨_, rfl⟩
  rw [hn] at hl ha ⊢
  have HN := Lib.hid hn
  clear hn
  have HOKC := Lib.hid (fun x => implRecOk_any ⟨K, V, U, N, FL, US, NM, TX⟩ x)
  have b0 : Below w.heap.size w ((w.alloc (.cells #[.slice ad n cap] 32)).alloc (.cells #[.int .i64 K, .int .i64 V, .int .i64 U, .int .i64 N, .int .i64 FL, .string US, .string NM, .string TX] 34)) := ((Below.refl _ _).alloc (Nat.le_refl _) _).alloc (by simp) _
  have X0 := (Box.new w #[.slice ad n cap] 32).later (belNew _ (.cells #[.int .i64 K, .int .i64 V, .int .i64 U, .int .i64 N, .int .i64 FL, .string US, .string NM, .string TX] 34))
  have X1 := Box.new (w.alloc (.cells #[.slice ad n cap] 32)) #[.int .i64 K, .int .i64 V, .int .i64 U, .int .i64 N, .int .i64 FL, .string US, .string NM, .string TX] 34
  rw [show (w.alloc (.cells #[.slice ad n cap] 32)).heap.size = w.heap.size + 1 by simp] at X1
  have HC : Hid (∀ x, Below ((w.alloc (.cells #[.slice ad n cap] 32)).alloc (.cells #[.int .i64 K, .int .i64 V, .int .i64 U, .int .i64 N, .int .i64 FL, .string US, .string NM, .string TX] 34)).heap.size ((w.alloc (.cells #[.slice ad n cap] 32)).alloc (.cells #[.int .i64 K, .int .i64 V, .int .i64 U, .int .i64 N, .int .i64 FL, .string US, .string NM, .string TX] 34)) x → x.cell? ⟨w.heap.size, 0, none⟩ = some (.slice ad n cap) ∧ (x.cell? ⟨w.heap.size + 1, 0, none⟩ = some (.int .i64 K) ∧ x.cell? ⟨w.heap.size + 1, 1, none⟩ = some (.int .i64 V) ∧ x.cell? ⟨w.heap.size + 1, 2, none⟩ = some (.int .i64 U) ∧ x.cell? ⟨w.heap.size + 1, 3, none⟩ = some (.int .i64 N) ∧ x.cell? ⟨w.heap.size + 1, 4, none⟩ = some (.int .i64 FL) ∧ x.cell? ⟨w.heap.size + 1, 5, none⟩ = some (.string US) ∧ x.cell? ⟨w.heap.size + 1, 6, none⟩ = some (.string NM) ∧ x.cell? ⟨w.heap.size + 1, 7, none⟩ = some (.string TX)) ∧ BRd x (.slice ad n cap) ps ∧ Below w.heap.size w x) := fun x hx => by
    have h' := b0.trans (hx.mono b0.size)
    have y1 := X1.later hx
    exact ⟨(X0.later hx).cell 0 _ rfl, ⟨y1.cell 0 _ rfl, y1.cell 1 _ rfl, y1.cell 2 _ rfl, y1.cell 3 _ rfl, y1.cell 4 _ rfl, y1.cell 5 _ rfl, y1.cell 6 _ rfl, y1.cell 7 _ rfl⟩, ha.later h', h'⟩
  clear X0 X1 ha
  unfold Rc.v at HOKC ⊢
  simp only at HOKC ⊢
  go_enter Try.func9, Try.ntmps9
  go_wp2_with fail
  generalize (w.alloc (.cells #[.slice ad n cap] 32)).alloc (.cells #[.int .i64 K, .int .i64 V, .int .i64 U, .int .i64 N, .int .i64 FL, .string US, .string NM, .string TX] 34) = W at b0 HC ⊢
  refine (HOKC.out _).mono ?_
  rintro e w1 ⟨rfl, k1⟩
  clear HOKC
  rw [HD.out]
  clear HD
  obtain ⟨c0, ⟨d0, d1, d2, d3, d4, d5, d6, d7⟩, hR, hB⟩ := HC.out _ k1
  have hK' : (K == 1) = false := beq_eq_false_iff_ne.2 hK
  have HLB := Lib.hid (indexBox_any ps _ V (w.heap.size + 1) w1 hR (by have := HN.out; omega) d1)
  have hmf : ∀ (fn : Fn) (first cap : Array Value) (w : World), (Instr.makeFunc fn first cap).run Try.prog w = .ok (.func fn first cap) w := fun _ _ _ _ => rfl
  go_wp2_with fail
  refine HLB.out.mono ?_
  rintro e w2 ⟨⟨q, rfl, hq⟩, k2⟩
  clear HLB c0 d0 d1 d2 d3 d4 d5 d6 d7 hR hB
  have k12 := k1.trans (k2.mono k1.size)
  rcases hq.find with ⟨rfl, hf⟩ | ⟨i, b, rfl, hib, hf⟩
  · rw [hf] at HA
    obtain ⟨c0, ⟨d0, d1, d2, d3, d4, d5, d6, d7⟩, hR, hB⟩ := HC.out _ k12
    clear hf hq hR
    go_upto_region 6 with fail
    go_quiet (fail)
    go_wp2
    go_ret
    exact ⟨by rw [← HA.out]; rfl, below_drewN hB _⟩
  · rw [hf] at HA
    replace HA : Hid (fbB b ⟨K, V, U, N, FL, US, NM, TX⟩ = A) := HA
    clear hf hq
    have hi2 : i < n := by have := (List.getElem?_eq_some_iff.1 hib).1; have := HN.out; omega
    have hbm := (hm b (List.mem_of_getElem? hib)).1
    obtain ⟨ga, oa, am, nm, cm, rfl, _, _, _, _, _, _⟩ := HROW.out _ (HC.out _ k12).2.2.2 i b hib
    have HY : Hid (∀ X, Below w2.heap.size w2 X → (X.cell? ⟨w.heap.size, 0, none⟩ = some (.slice (some ⟨ga, oa, none⟩) n cap) ∧ (X.cell? ⟨w.heap.size + 1, 0, none⟩ = some (.int .i64 K) ∧ X.cell? ⟨w.heap.size + 1, 1, none⟩ = some (.int .i64 V) ∧ X.cell? ⟨w.heap.size + 1, 2, none⟩ = some (.int .i64 U) ∧ X.cell? ⟨w.heap.size + 1, 3, none⟩ = some (.int .i64 N) ∧ X.cell? ⟨w.heap.size + 1, 4, none⟩ = some (.int .i64 FL) ∧ X.cell? ⟨w.heap.size + 1, 5, none⟩ = some (.string US) ∧ X.cell? ⟨w.heap.size + 1, 6, none⟩ = some (.string NM) ∧ X.cell? ⟨w.heap.size + 1, 7, none⟩ = some (.string TX)) ∧ ∃ am' nm' cm', X.cell? ⟨ga, oa + i * 5, none⟩ = some (.int .i64 b.valid) ∧ X.cell? ⟨ga, oa + i * 5 + 1, none⟩ = some (.string b.user) ∧ X.cell? ⟨ga, oa + i * 5 + 2, none⟩ = some (.string b.name) ∧ X.cell? ⟨ga, oa + i * 5 + 3, none⟩ = some (.int .i64 b.next) ∧ X.cell? ⟨ga, oa + i * 5 + 4, none⟩ = some (.slice am' nm' cm') ∧ Rows' mlE X (.slice am' nm' cm') b.mails) ∧ Below w.heap.size w X) := fun X hX => by
      obtain ⟨c0, dd, _, hB⟩ := HC.out _ (k12.trans (hX.mono k12.size))
      obtain ⟨g', o', am', nm', cm', e', a0, a1, a2, a3, a4, hml⟩ := HROW.out _ hB i b hib
      cases e'
      exact ⟨⟨c0, dd, am', nm', cm', a0, a1, a2, a3, a4, hml.later hB⟩, hB⟩
    obtain ⟨am, nm, cm, hz4⟩ : ∃ am nm cm, w2.cell? ⟨ga, oa + i * 5 + 4, none⟩ = some (.slice am nm cm) := by
      obtain ⟨⟨_, _, am', nm', cm', _, _, _, _, h4, _⟩, _⟩ := HY.out _ (Below.refl _ _)
      exact ⟨am', nm', cm', h4⟩
    have hgl : ga < w2.heap.size := World.block_lt_of_cell? _ _ hz4
    have HZ : Hid (∀ X, Below w2.heap.size w2 X → (X.cell? ⟨w.heap.size, 0, none⟩ = some (.slice (some ⟨ga, oa, none⟩) n cap) ∧ (X.cell? ⟨w.heap.size + 1, 0, none⟩ = some (.int .i64 K) ∧ X.cell? ⟨w.heap.size + 1, 1, none⟩ = some (.int .i64 V) ∧ X.cell? ⟨w.heap.size + 1, 2, none⟩ = some (.int .i64 U) ∧ X.cell? ⟨w.heap.size + 1, 3, none⟩ = some (.int .i64 N) ∧ X.cell? ⟨w.heap.size + 1, 4, none⟩ = some (.int .i64 FL) ∧ X.cell? ⟨w.heap.size + 1, 5, none⟩ = some (.string US) ∧ X.cell? ⟨w.heap.size + 1, 6, none⟩ = some (.string NM) ∧ X.cell? ⟨w.heap.size + 1, 7, none⟩ = some (.string TX)) ∧ X.cell? ⟨ga, oa + i * 5, none⟩ = some (.int .i64 b.valid) ∧ X.cell? ⟨ga, oa + i * 5 + 1, none⟩ = some (.string b.user) ∧ X.cell? ⟨ga, oa + i * 5 + 2, none⟩ = some (.string b.name) ∧ X.cell? ⟨ga, oa + i * 5 + 3, none⟩ = some (.int .i64 b.next) ∧ X.cell? ⟨ga, oa + i * 5 + 4, none⟩ = some (.slice am nm cm)) ∧ Rows' mlE X (.slice am nm cm) b.mails ∧ Below w.heap.size w X) := fun X hX => by
      obtain ⟨⟨c0, dd, am', nm', cm', a0, a1, a2, a3, a4, hml⟩, hB⟩ := HY.out X hX
      have e4 := (hX.cell (p := ⟨ga, oa + i * 5 + 4, none⟩) hgl).trans hz4
      rw [a4] at e4
      cases e4
      exact ⟨⟨c0, dd, a0, a1, a2, a3, a4⟩, hml, hB⟩
    have HFB := Lib.hid (fun X (hX : Below w2.heap.size w2 X) => fitsBox_any b am nm cm K V U N FL US NM TX X (HZ.out X hX).2.1 hbm)
    rw [HA.out] at HFB
    clear hib HY hz4 hgl HROW
    have hi0 : (0 : Int) ≤ (i : Int) := by omega
    have hi1 : (i : Int) < (n : Int) := by omega
    have kk : Below w2.heap.size w2 w2.drew := (Below.refl _ _).drew
    obtain ⟨⟨c0, ⟨d0, d1, d2, d3, d4, d5, d6, d7⟩, a0, a1, a2, a3, a4⟩, _, _⟩ := HZ.out _ kk
    go_upto_region 6 with fail
    go_region_held3 (fun X => X.cell? ⟨w.heap.size, 0, none⟩ = some (.slice (some ⟨ga, oa, none⟩) n cap) ∧ (X.cell? ⟨w.heap.size + 1, 0, none⟩ = some (.int .i64 K) ∧ X.cell? ⟨w.heap.size + 1, 1, none⟩ = some (.int .i64 V) ∧ X.cell? ⟨w.heap.size + 1, 2, none⟩ = some (.int .i64 U) ∧ X.cell? ⟨w.heap.size + 1, 3, none⟩ = some (.int .i64 N) ∧ X.cell? ⟨w.heap.size + 1, 4, none⟩ = some (.int .i64 FL) ∧ X.cell? ⟨w.heap.size + 1, 5, none⟩ = some (.string US) ∧ X.cell? ⟨w.heap.size + 1, 6, none⟩ = some (.string NM) ∧ X.cell? ⟨w.heap.size + 1, 7, none⟩ = some (.string TX)) ∧ X.cell? ⟨ga, oa + i * 5, none⟩ = some (.int .i64 b.valid) ∧ X.cell? ⟨ga, oa + i * 5 + 1, none⟩ = some (.string b.user) ∧ X.cell? ⟨ga, oa + i * 5 + 2, none⟩ = some (.string b.name) ∧ X.cell? ⟨ga, oa + i * 5 + 3, none⟩ = some (.int .i64 b.next) ∧ X.cell? ⟨ga, oa + i * 5 + 4, none⟩ = some (.slice am nm cm))
      (first | exact (HZ.out _ kk).1)
      (first | (go_at_call 22; refine (HFB.out _ kk).mono ?_; rintro e wX ⟨rfl, kX⟩; have kk := kk.trans (kX.mono kk.size)))
    all_goals
      have hBZ := (HZ.out _ kk).2.2
      go_wp2
      go_ret
      exact ⟨by first | rfl | simp, hBZ⟩

set_option maxRecDepth 100000 in
theorem implFitting_any (r : Rc) (ps : List Bx) (va : Value) (nv : Int) (w : World) (ha : BRd w va ps) (hl : ps.length ≤ 1048576) (hm : ∀ b ∈ ps, b.mails.length ≤ 1048576 ∧ b.name.size ≤ 1048576) (s1 : r.user.size ≤ 1048576) (s2 : r.name.size ≤ 1048576) (s3 : r.text.size ≤ 1048576) :
    Calls Try.prog 9 #[.agg #[va], .int .i64 nv, r.v] w fun e w' => e = .returned (.bool (fitB ps nv r)) ∧ Below w.heap.size w w' := by
  obtain ⟨K, V, U, N, FL, US, NM, TX⟩ := r
  unfold fitB
  by_cases hok : (⟨K, V, U, N, FL, US, NM, TX⟩ : Rc).ok
  · rw [if_pos hok]
    by_cases hK : K = 1
    · rw [if_pos (show (⟨K, V, U, N, FL, US, NM, TX⟩ : Rc).kind = 1 from hK)]
      exact implFit_box ps va nv K V U N FL US NM TX w ha hl hm s1 s2 s3 hok hK
    · rw [if_neg (show ¬ (⟨K, V, U, N, FL, US, NM, TX⟩ : Rc).kind = 1 from hK)]
      exact implFit_rest ps va nv K V U N FL US NM TX w ha hl hm s1 s2 s3 hok hK
  · rw [if_neg hok]
    exact implFit_bad ps va nv K V U N FL US NM TX w ha hl hm s1 s2 s3 hok

end Go.Proofs.Ytmbmbnjbeofmaaa

/- How great boxes are, plainly. -/
namespace Go.Proofs.Ytmbmbnjbeofmaaa

/-- The bytes of the texts of mails. -/
def txs : List Ml → Nat
  | [] => 0
  | m :: ms => m.text.size + txs ms
theorem txs_append : ∀ (l m : List Ml), txs (l ++ m) = txs l + txs m
  | [], m => by simp [txs]
  | x :: l, m => by simp [txs, txs_append l m]; omega
theorem txs_take {l : List Ml} {i : Nat} {m : Ml} (h : l[i]? = some m) : txs (l.take (i + 1)) = txs (l.take i) + m.text.size := by
  rw [List.take_add_one, h, txs_append]; simp [txs]
theorem txs_mem : ∀ {l : List Ml} {m : Ml}, m ∈ l → m.text.size ≤ txs l
  | x :: l, m, h => by
    rcases List.mem_cons.1 h with rfl | h
    · simp [txs]
    · have := txs_mem h; simp [txs]; omega
theorem txs_take_le (l : List Ml) (i : Nat) : txs (l.take i) ≤ txs l := by
  have := txs_append (l.take i) (l.drop i)
  rw [List.take_append_drop] at this; omega
/-- A box: its words, its mails and their texts. -/
def bz (b : Bx) : Nat := b.user.size + b.name.size + (b.mails.length + txs b.mails)
def bzs : List Bx → Nat
  | [] => 0
  | b :: bs => bz b + bzs bs
theorem bzs_append : ∀ (l m : List Bx), bzs (l ++ m) = bzs l + bzs m
  | [], m => by simp [bzs]
  | x :: l, m => by simp [bzs, bzs_append l m]; omega
theorem bzs_take {l : List Bx} {i : Nat} {b : Bx} (h : l[i]? = some b) : bzs (l.take (i + 1)) = bzs (l.take i) + bz b := by
  rw [List.take_add_one, h, bzs_append]; simp [bzs]
theorem bzs_mem : ∀ {l : List Bx} {b : Bx}, b ∈ l → bz b ≤ bzs l
  | x :: l, b, h => by
    rcases List.mem_cons.1 h with rfl | h
    · simp [bzs]
    · have := bzs_mem h; simp [bzs]; omega
/-- Texts whose lengths are lengths. -/
def mlShort (m : Ml) : Prop := m.text.size ≤ 9223372036854775807
def bxShort (b : Bx) : Prop := b.user.size ≤ 9223372036854775807 ∧ b.name.size ≤ 9223372036854775807 ∧ b.mails.length ≤ 9223372036854775807 ∧ ∀ m ∈ b.mails, mlShort m
theorem bz_user (b : Bx) : b.user.size ≤ bz b := by unfold bz; omega
theorem bz_name (b : Bx) : b.name.size ≤ bz b := by unfold bz; omega
theorem bz_mails (b : Bx) : b.mails.length ≤ bz b := by unfold bz; omega
theorem bz_text {b : Bx} {m : Ml} (h : m ∈ b.mails) : m.text.size ≤ bz b := by have := txs_mem h; unfold bz; omega

end Go.Proofs.Ytmbmbnjbeofmaaa

/- The marks of boxes, plainly. -/
namespace Go.Proofs.Ytmbmbnjbeofmaaa

/-- A box with its marks from k on, and the number behind them. -/
def markB (k : Nat) (b : Bx) : Bx := ⟨((k : Nat) : Int), mark (k + 1), mark (k + 2), ((k + 3 : Nat) : Int), marksL (k + 4) b.mails.length⟩
def kB (k : Nat) (b : Bx) : Nat := k + 4 + 3 * b.mails.length
def marksB : Nat → List Bx → List Bx
  | _, [] => []
  | k, b :: bs => markB k b :: marksB (kB k b) bs
def kE : Nat → List Bx → Nat
  | k, [] => k
  | k, b :: bs => kE (kB k b) bs
theorem marksB_length : ∀ (k : Nat) (bs : List Bx), (marksB k bs).length = bs.length
  | _, [] => rfl
  | k, b :: bs => by simp [marksB, marksB_length (kB k b) bs]
theorem kE_le : ∀ (k : Nat) (bs : List Bx), k ≤ kE k bs
  | _, [] => Nat.le_refl _
  | k, b :: bs => by have := kE_le (kB k b) bs; unfold kE; unfold kB at *; omega
theorem kE_take : ∀ (k : Nat) (bs : List Bx) (i : Nat) (b : Bx), bs[i]? = some b → kE k (bs.take (i + 1)) = kB (kE k (bs.take i)) b
  | _, [], i, b, h => by cases h
  | k, c :: bs, 0, b, h => by cases h; rfl
  | k, c :: bs, i + 1, b, h => by
    show kE (kB k c) (bs.take (i + 1)) = kB (kE (kB k c) (bs.take i)) b
    exact kE_take (kB k c) bs i b h
theorem kE_take_le (k : Nat) (bs : List Bx) : ∀ i, kE k (bs.take i) ≤ kE k bs := by
  induction bs generalizing k with
  | nil => intro i; simp [kE]
  | cons b bs ih =>
    intro i
    cases i with
    | zero => exact kE_le k (b :: bs)
    | succ i => exact ih (kB k b) i
theorem marksB_at : ∀ (k : Nat) (bs : List Bx) (i : Nat) (b : Bx), bs[i]? = some b → (marksB k bs)[i]? = some (markB (kE k (bs.take i)) b)
  | _, [], i, b, h => by cases h
  | k, c :: bs, 0, b, h => by cases h; rfl
  | k, c :: bs, i + 1, b, h => by
    show (marksB (kB k c) bs)[i]? = some (markB (kE (kB k c) (bs.take i)) b)
    exact marksB_at (kB k c) bs i b h
/-- The first i marked. -/
def putB (k : Nat) (bs : List Bx) (i : Nat) : List Bx := (marksB k bs).take i ++ bs.drop i
theorem putB_zero (k : Nat) (bs : List Bx) : putB k bs 0 = bs := by simp [putB]
theorem putB_all (k : Nat) (bs : List Bx) : putB k bs bs.length = marksB k bs := by
  unfold putB
  rw [List.take_of_length_le (by rw [marksB_length]; exact Nat.le_refl _), List.drop_length, List.append_nil]
theorem putB_length (k : Nat) (bs : List Bx) (i : Nat) (h : i ≤ bs.length) : (putB k bs i).length = bs.length := by
  unfold putB
  rw [List.length_append, List.length_take, List.length_drop, marksB_length]; omega
theorem putB_at (k : Nat) (bs : List Bx) (i : Nat) (b : Bx) (h : bs[i]? = some b) : (putB k bs i)[i]? = some b := by
  have hl : i < bs.length := (List.getElem?_eq_some_iff.1 h).1
  unfold putB
  rw [List.getElem?_append_right (by rw [List.length_take, marksB_length]; omega), List.length_take, marksB_length, Nat.min_eq_left (Nat.le_of_lt hl), Nat.sub_self, List.getElem?_drop, Nat.add_zero]
  exact h
theorem putB_set (k : Nat) (bs : List Bx) (i : Nat) (b : Bx) (h : bs[i]? = some b) : (putB k bs i).set i (markB (kE k (bs.take i)) b) = putB k bs (i + 1) := by
  have hl : i < bs.length := (List.getElem?_eq_some_iff.1 h).1
  unfold putB
  rw [List.set_append_right _ _ (by rw [List.length_take, marksB_length]; omega)]
  rw [List.length_take, marksB_length, Nat.min_eq_left (Nat.le_of_lt hl), Nat.sub_self, List.drop_eq_getElem_cons hl, List.set_cons_zero, List.take_add_one, marksB_at k bs i b h, List.append_assoc]
  rfl
end Go.Proofs.Ytmbmbnjbeofmaaa
