/- Texts of our own, joined. -/
import Derived.Test.YtahebgceoidebaaGreatJf
import Derived.Test.YtahebgceoidebaaGreatJb
import Derived.Test.YtahebgceoidebaaGreatJd
import Derived.Test.YtahebgceoidebaaGreatJe
/- Records: what the program's RecOk hands back. -/
namespace Go.Proofs.YtahebgceoidebaaGreat
open Go.RowKit

set_option maxHeartbeats 1000000 in
theorem rec_ifs {α : Type} (F : Bool → α) (a0 a1 a2 a3 a4 : Int) (a5 a6 a7 : ByteArray) (b0 b1 b2 b3 b4 : Int) (b5 b6 b7 : ByteArray) :
    (if a0 = b0 then if a1 = b1 then if a2 = b2 then if a3 = b3 then if a4 = b4 then if a5.toList = b5.toList then if a6.toList = b6.toList then if a7.toList = b7.toList then F true else F false else F false else F false else F false else F false else F false else F false else F false) = F (decide ((⟨a0, a1, a2, a3, a4, a5, a6, a7⟩ : Rc) = ⟨b0, b1, b2, b3, b4, b5, b6, b7⟩)) := by
  have e : decide ((⟨a0, a1, a2, a3, a4, a5, a6, a7⟩ : Rc) = ⟨b0, b1, b2, b3, b4, b5, b6, b7⟩) = (decide (a0 = b0) && (decide (a1 = b1) && (decide (a2 = b2) && (decide (a3 = b3) && (decide (a4 = b4) && (decide (a5 = b5) && (decide (a6 = b6) && decide (a7 = b7)))))))) := by
    simp
  rw [e]
  simp only [ba_inj]
  by_cases h0 : a0 = b0 <;> by_cases h1 : a1 = b1 <;> by_cases h2 : a2 = b2 <;> by_cases h3 : a3 = b3 <;> by_cases h4 : a4 = b4 <;> by_cases h5 : a5 = b5 <;> by_cases h6 : a6 = b6 <;> by_cases h7 : a7 = b7 <;> simp only [h0, h1, h2, h3, h4, h5, h6, h7, if_true, if_false, decide_true, decide_false, Bool.and_true, Bool.and_false]

theorem box_method (v n : Int) (u m : ByteArray) (k : Nat) (w : World) (hk : 1 ≤ k) : (method k 128 (.agg #[.int .i64 v, .int .i64 n, .string u, .string m]) "loop.example/g00287/impl.right").run Tryz.prog w = .ok (136, .agg #[.int .i64 v, .int .i64 n, .string u, .string m]) w := by
  obtain ⟨j, rfl⟩ : ∃ j, k = j + 1 := ⟨k - 1, by omega⟩
  kernel_rfl
theorem drop_method (v : Int) (k : Nat) (w : World) (hk : 1 ≤ k) : (method k 130 (.agg #[.int .i64 v]) "loop.example/g00287/impl.right").run Tryz.prog w = .ok (140, .agg #[.int .i64 v]) w := by
  obtain ⟨j, rfl⟩ : ∃ j, k = j + 1 := ⟨k - 1, by omega⟩
  kernel_rfl
theorem add_method (v u f : Int) (t : ByteArray) (k : Nat) (w : World) (hk : 1 ≤ k) : (method k 132 (.agg #[.int .i64 v, .int .i64 u, .int .i64 f, .string t]) "loop.example/g00287/impl.right").run Tryz.prog w = .ok (141, .agg #[.int .i64 v, .int .i64 u, .int .i64 f, .string t]) w := by
  obtain ⟨j, rfl⟩ : ∃ j, k = j + 1 := ⟨k - 1, by omega⟩
  kernel_rfl
theorem flag_method (v u f : Int) (k : Nat) (w : World) (hk : 1 ≤ k) : (method k 134 (.agg #[.int .i64 v, .int .i64 u, .int .i64 f]) "loop.example/g00287/impl.right").run Tryz.prog w = .ok (143, .agg #[.int .i64 v, .int .i64 u, .int .i64 f]) w := by
  obtain ⟨j, rfl⟩ : ∃ j, k = j + 1 := ⟨k - 1, by omega⟩
  kernel_rfl
theorem gone_method (v u : Int) (k : Nat) (w : World) (hk : 1 ≤ k) : (method k 136 (.agg #[.int .i64 v, .int .i64 u]) "loop.example/g00287/impl.right").run Tryz.prog w = .ok (144, .agg #[.int .i64 v, .int .i64 u]) w := by
  obtain ⟨j, rfl⟩ : ∃ j, k = j + 1 := ⟨k - 1, by omega⟩
  kernel_rfl

set_option maxRecDepth 100000 in
set_option maxHeartbeats 1000000 in
theorem recOk_go (r s : Rc) (T : TypeId) (x : Value) (K : Nat) (q : Bool) (w : World)
    (hRO : ∀ wx, Calls Tryz.prog 77 #[r.v] wx fun e w' => e = .returned (.tuple #[.iface T x, .bool true]) ∧ Below wx.heap.size wx w')
    (hM : ∀ k wx, 1 ≤ k → (method k T x "loop.example/g00287/impl.right").run Tryz.prog wx = .ok (K, x) wx)
    (hC : ∀ wx, (callFunc K #[x]).run Tryz.prog wx = .ok (.enter K #[x]) wx)
    (hR : ∀ wx, Calls Tryz.prog K #[x] wx fun e w' => e = .returned (.bool q) ∧ Below wx.heap.size wx w')
    (hB : ∀ wx, Calls Tryz.prog 78 #[.iface T x] wx fun e w' => e = .returned s.v ∧ Below wx.heap.size wx w') :
    Calls Tryz.prog 54 #[r.v] w fun e w' => e = .returned (.bool (q && decide (s = r))) ∧ Below w.heap.size w w' := by
  have bx := Box.new w r.cs 47
  have b0 : Below w.heap.size w (w.alloc (.cells r.cs 47)) := (Below.refl _ _).alloc (Nat.le_refl _) _
  obtain ⟨c0, c1, c2, c3, c4, c5, c6, c7⟩ := bx.rec
  have BX := Lib.hid bx
  clear bx
  obtain ⟨kind, valid, uid, next, flags, user, name, text⟩ := r
  obtain ⟨d, hd⟩ : ∃ d, decide (s = ⟨kind, valid, uid, next, flags, user, name, text⟩) = d := ⟨_, rfl⟩
  rw [hd]
  have HD := Lib.hid hd
  clear hd
  obtain ⟨sk, sv, su, sn, sf, s5, s6, s7⟩ := s
  unfold Rc.v at hB
  simp only at hB
  unfold Rc.v at hRO ⊢
  unfold Rc.cs at *
  simp only at *
  have HRO := Lib.hid hRO
  have HR := Lib.hid hR
  have HB := Lib.hid hB
  clear hRO hR hB
  go_enter Tryz.func54, Tryz.ntmps54
  go_wp2_with fail
  generalize w.alloc (.cells #[.int .i64 kind, .int .i64 valid, .int .i64 uid, .int .i64 next, .int .i64 flags, .string user, .string name, .string text] 47) = W at *
  refine (HRO.out _).mono ?_
  rintro e w1 ⟨rfl, k1⟩
  have b1 := b0.trans (k1.mono b0.size)
  have BX1 := BX.out.later k1
  clear c0 c1 c2 c3 c4 c5 c6 c7
  go_wp2_with fail
  have r0 : ∀ x, Below w1.heap.size w1 x → x.cell? ⟨w.heap.size, 0, none⟩ = some (.int .i64 kind) := fun x hb => (BX1.later hb).cell 0 _ rfl
  have r1 : ∀ x, Below w1.heap.size w1 x → x.cell? ⟨w.heap.size, 1, none⟩ = some (.int .i64 valid) := fun x hb => (BX1.later hb).cell 1 _ rfl
  have r2 : ∀ x, Below w1.heap.size w1 x → x.cell? ⟨w.heap.size, 2, none⟩ = some (.int .i64 uid) := fun x hb => (BX1.later hb).cell 2 _ rfl
  have r3 : ∀ x, Below w1.heap.size w1 x → x.cell? ⟨w.heap.size, 3, none⟩ = some (.int .i64 next) := fun x hb => (BX1.later hb).cell 3 _ rfl
  have r4 : ∀ x, Below w1.heap.size w1 x → x.cell? ⟨w.heap.size, 4, none⟩ = some (.int .i64 flags) := fun x hb => (BX1.later hb).cell 4 _ rfl
  have r5 : ∀ x, Below w1.heap.size w1 x → x.cell? ⟨w.heap.size, 5, none⟩ = some (.string user) := fun x hb => (BX1.later hb).cell 5 _ rfl
  have r6 : ∀ x, Below w1.heap.size w1 x → x.cell? ⟨w.heap.size, 6, none⟩ = some (.string name) := fun x hb => (BX1.later hb).cell 6 _ rfl
  have r7 : ∀ x, Below w1.heap.size w1 x → x.cell? ⟨w.heap.size, 7, none⟩ = some (.string text) := fun x hb => (BX1.later hb).cell 7 _ rfl
  have HK0 : Hid (Below w1.heap.size w1 w1.drew) := (Below.refl _ _).drew
  clear BX1 BX k1
  refine wp_region_held_drew (S := fun x => Below w1.heap.size w1 x) (by kernel_rfl) HK0.out (fun hHeld => ?_)
  clear HK0
  cases q with
  | false =>
    refine takeL (i := 0) (v := .bool true) rfl (by kernel_rfl) (by kernel_rfl) (by kernel_rfl) (fun _ _ _ h => h) (Or.inl ⟨by rfl, ?_⟩) (by assumption) ?_
    · intro x hSx; go_simp
    try simp only [Act.put, List.setIfInBounds_toArray, List.set_cons_zero, List.set_cons_succ]
    refine takeL (i := 1) (v := .bool true) rfl (by kernel_rfl) (by kernel_rfl) (by kernel_rfl) (fun _ _ _ h => h) (Or.inl ⟨by rfl, ?_⟩) (by assumption) ?_
    · intro x hSx; go_simp
    try simp only [Act.put, List.setIfInBounds_toArray, List.set_cons_zero, List.set_cons_succ]
    refine takeL (i := 2) (v := .iface T x) rfl (by kernel_rfl) (by kernel_rfl) (by kernel_rfl) (fun _ _ _ h => h) (Or.inl ⟨by rfl, ?_⟩) (by assumption) ?_
    · intro x hSx; go_simp
    try simp only [Act.put, List.setIfInBounds_toArray, List.set_cons_zero, List.set_cons_succ]
    refine wpAnyH_ready (rs := [3]) (by kernel_rfl) (by simp) ?_
    refine readyOne rfl (fun K' hK => ?_)
    go_simp
    refine (HR.out _).mono ?_
    rintro e wT ⟨rfl, kT⟩
    go_wp2_with fail
    refine hK.out _ _ (below_next hHeld kT) (fun hS2 => ?_)
    clear hK K' kT hHeld
    have hHeld := hS2
    clear hS2
    try simp only [Act.put, List.setIfInBounds_toArray, List.set_cons_zero, List.set_cons_succ]
    refine takeL (i := 4) (v := .bool false) rfl (by kernel_rfl) (by kernel_rfl) (by kernel_rfl) (fun _ _ _ h => h) (Or.inl ⟨by rfl, ?_⟩) (by assumption) ?_
    · intro x hSx; go_simp
    try simp only [Act.put, List.setIfInBounds_toArray, List.set_cons_zero, List.set_cons_succ]
    refine takeL (i := 5) (v := .bool false) rfl (by kernel_rfl) (by kernel_rfl) (by kernel_rfl) (fun _ _ _ h => h) (Or.inl ⟨by rfl, ?_⟩) (by assumption) ?_
    · intro x hSx; go_simp
    try simp only [Act.put, List.setIfInBounds_toArray, List.set_cons_zero, List.set_cons_succ]
    refine takeL (i := 6) (v := undef) rfl (by kernel_rfl) (by kernel_rfl) (by kernel_rfl) (fun _ _ _ h => h) (Or.inr ⟨by rfl, rfl⟩) (by assumption) ?_
    try simp only [Act.put, List.setIfInBounds_toArray, List.set_cons_zero, List.set_cons_succ]
    refine takeL (i := 7) (v := undef) rfl (by kernel_rfl) (by kernel_rfl) (by kernel_rfl) (fun _ _ _ h => h) (Or.inr ⟨by rfl, rfl⟩) (by assumption) ?_
    try simp only [Act.put, List.setIfInBounds_toArray, List.set_cons_zero, List.set_cons_succ]
    refine takeL (i := 8) (v := undef) rfl (by kernel_rfl) (by kernel_rfl) (by kernel_rfl) (fun _ _ _ h => h) (Or.inr ⟨by rfl, rfl⟩) (by assumption) ?_
    try simp only [Act.put, List.setIfInBounds_toArray, List.set_cons_zero, List.set_cons_succ]
    refine takeL (i := 9) (v := undef) rfl (by kernel_rfl) (by kernel_rfl) (by kernel_rfl) (fun _ _ _ h => h) (Or.inr ⟨by rfl, rfl⟩) (by assumption) ?_
    try simp only [Act.put, List.setIfInBounds_toArray, List.set_cons_zero, List.set_cons_succ]
    refine takeL (i := 10) (v := .bool false) rfl (by kernel_rfl) (by kernel_rfl) (by kernel_rfl) (fun _ _ _ h => h) (Or.inl ⟨by rfl, ?_⟩) (by assumption) ?_
    · intro x hSx; go_simp
    try simp only [Act.put, List.setIfInBounds_toArray, List.set_cons_zero, List.set_cons_succ]
    refine takeL (i := 11) (v := .bool false) rfl (by kernel_rfl) (by kernel_rfl) (by kernel_rfl) (fun _ _ _ h => h) (Or.inl ⟨by rfl, ?_⟩) (by assumption) ?_
    · intro x hSx; go_simp
    try simp only [Act.put, List.setIfInBounds_toArray, List.set_cons_zero, List.set_cons_succ]
    refine wpAnyH_done (by kernel_rfl) ?_ _
    go_wp2
    go_ret
    exact ⟨rfl, b1.trans (hHeld.mono b1.size)⟩
  | true =>
    refine takeL (i := 0) (v := .bool true) rfl (by kernel_rfl) (by kernel_rfl) (by kernel_rfl) (fun _ _ _ h => h) (Or.inl ⟨by rfl, ?_⟩) (by assumption) ?_
    · intro x hSx; go_simp
    try simp only [Act.put, List.setIfInBounds_toArray, List.set_cons_zero, List.set_cons_succ]
    refine takeL (i := 1) (v := .bool true) rfl (by kernel_rfl) (by kernel_rfl) (by kernel_rfl) (fun _ _ _ h => h) (Or.inl ⟨by rfl, ?_⟩) (by assumption) ?_
    · intro x hSx; go_simp
    try simp only [Act.put, List.setIfInBounds_toArray, List.set_cons_zero, List.set_cons_succ]
    refine takeL (i := 2) (v := .iface T x) rfl (by kernel_rfl) (by kernel_rfl) (by kernel_rfl) (fun _ _ _ h => h) (Or.inl ⟨by rfl, ?_⟩) (by assumption) ?_
    · intro x hSx; go_simp
    try simp only [Act.put, List.setIfInBounds_toArray, List.set_cons_zero, List.set_cons_succ]
    refine wpAnyH_ready (rs := [3]) (by kernel_rfl) (by simp) ?_
    refine readyOne rfl (fun K' hK => ?_)
    go_simp
    refine (HR.out _).mono ?_
    rintro e wT ⟨rfl, kT⟩
    go_wp2_with fail
    refine hK.out _ _ (below_next hHeld kT) (fun hS2 => ?_)
    clear hK K' kT hHeld
    have hHeld := hS2
    clear hS2
    try simp only [Act.put, List.setIfInBounds_toArray, List.set_cons_zero, List.set_cons_succ]
    refine takeL (i := 4) (v := .bool true) rfl (by kernel_rfl) (by kernel_rfl) (by kernel_rfl) (fun _ _ _ h => h) (Or.inl ⟨by rfl, ?_⟩) (by assumption) ?_
    · intro x hSx; go_simp
    try simp only [Act.put, List.setIfInBounds_toArray, List.set_cons_zero, List.set_cons_succ]
    refine takeL (i := 5) (v := .bool true) rfl (by kernel_rfl) (by kernel_rfl) (by kernel_rfl) (fun _ _ _ h => h) (Or.inl ⟨by rfl, ?_⟩) (by assumption) ?_
    · intro x hSx; go_simp
    try simp only [Act.put, List.setIfInBounds_toArray, List.set_cons_zero, List.set_cons_succ]
    refine takeL (i := 6) (v := .iface T x) rfl (by kernel_rfl) (by kernel_rfl) (by kernel_rfl) (fun _ _ _ h => h) (Or.inl ⟨by rfl, ?_⟩) (by assumption) ?_
    · intro x hSx; go_simp
    try simp only [Act.put, List.setIfInBounds_toArray, List.set_cons_zero, List.set_cons_succ]
    refine takeL (i := 8) (v := .agg #[.int .i64 kind, .int .i64 valid, .int .i64 uid, .int .i64 next, .int .i64 flags, .string user, .string name, .string text]) rfl (by kernel_rfl) (by kernel_rfl) (by kernel_rfl) (fun _ _ _ h => h) (Or.inl ⟨by rfl, ?_⟩) (by assumption) ?_
    · intro x hSx; have q0 := r0 x hSx; have q1 := r1 x hSx; have q2 := r2 x hSx; have q3 := r3 x hSx; have q4 := r4 x hSx; have q5 := r5 x hSx; have q6 := r6 x hSx; have q7 := r7 x hSx; go_simp
    try simp only [Act.put, List.setIfInBounds_toArray, List.set_cons_zero, List.set_cons_succ]
    refine wpAnyH_ready (rs := [7]) (by kernel_rfl) (by simp) ?_
    refine readyOne rfl (fun K' hK => ?_)
    go_simp
    refine (HB.out _).mono ?_
    rintro e wT ⟨rfl, kT⟩
    go_wp2_with fail
    refine hK.out _ _ (below_next hHeld kT) (fun hS2 => ?_)
    clear hK K' kT hHeld
    have hHeld := hS2
    clear hS2
    try simp only [Act.put, List.setIfInBounds_toArray, List.set_cons_zero, List.set_cons_succ]
    refine takeL (i := 9) (v := .bool d) rfl (by kernel_rfl) (by kernel_rfl) (by kernel_rfl) (fun _ _ _ h => h) (Or.inl ⟨by rfl, ?_⟩) (by assumption) ?_
    · intro x hSx; go_simp; rw [← HD.out]; exact rec_ifs (fun b => Result.ok (Next.value (Value.bool b)) x) _ _ _ _ _ _ _ _ _ _ _ _ _ _ _ _
    try simp only [Act.put, List.setIfInBounds_toArray, List.set_cons_zero, List.set_cons_succ]
    refine takeL (i := 10) (v := .bool d) rfl (by kernel_rfl) (by kernel_rfl) (by kernel_rfl) (fun _ _ _ h => h) (Or.inl ⟨by rfl, ?_⟩) (by assumption) ?_
    · intro x hSx; go_simp
    try simp only [Act.put, List.setIfInBounds_toArray, List.set_cons_zero, List.set_cons_succ]
    refine takeL (i := 11) (v := .bool d) rfl (by kernel_rfl) (by kernel_rfl) (by kernel_rfl) (fun _ _ _ h => h) (Or.inl ⟨by rfl, ?_⟩) (by assumption) ?_
    · intro x hSx; go_simp
    try simp only [Act.put, List.setIfInBounds_toArray, List.set_cons_zero, List.set_cons_succ]
    refine wpAnyH_done (by kernel_rfl) ?_ _
    go_wp2
    go_ret
    exact ⟨rfl, b1.trans (hHeld.mono b1.size)⟩

set_option maxRecDepth 100000 in
set_option maxHeartbeats 1000000 in
theorem recOk_no (r : Rc) (w : World) (hk : ¬ (1 ≤ r.kind ∧ r.kind ≤ 5)) :
    Calls Tryz.prog 54 #[r.v] w fun e w' => e = .returned (.bool false) ∧ Below w.heap.size w w' := by
  have bx := Box.new w r.cs 47
  have b0 : Below w.heap.size w (w.alloc (.cells r.cs 47)) := (Below.refl _ _).alloc (Nat.le_refl _) _
  obtain ⟨c0, c1, c2, c3, c4, c5, c6, c7⟩ := bx.rec
  have hRO := fun wx => recordOf_no r wx hk
  clear bx hk
  obtain ⟨kind, valid, uid, next, flags, user, name, text⟩ := r
  unfold Rc.v at hRO ⊢
  unfold Rc.cs at *
  simp only at *
  have HRO := Lib.hid hRO
  clear hRO
  go_enter Tryz.func54, Tryz.ntmps54
  go_wp2_with fail
  generalize w.alloc (.cells #[.int .i64 kind, .int .i64 valid, .int .i64 uid, .int .i64 next, .int .i64 flags, .string user, .string name, .string text] 47) = W at *
  refine (HRO.out _).mono ?_
  rintro e w1 ⟨rfl, k1⟩
  have b1 := b0.trans (k1.mono b0.size)
  clear c0 c1 c2 c3 c4 c5 c6 c7
  go_wp2_with fail
  refine wp_region_held_drew (S := fun x => Below w1.heap.size w1 x) (by kernel_rfl) ((Below.refl _ _).drew) (fun hHeld => ?_)
  refine takeL (i := 0) (v := .bool false) rfl (by kernel_rfl) (by kernel_rfl) (by kernel_rfl) (fun _ _ _ h => h) (Or.inl ⟨by rfl, ?_⟩) (by assumption) ?_
  · intro x hSx; go_simp
  try simp only [Act.put, List.setIfInBounds_toArray, List.set_cons_zero, List.set_cons_succ]
  refine takeL (i := 1) (v := .bool false) rfl (by kernel_rfl) (by kernel_rfl) (by kernel_rfl) (fun _ _ _ h => h) (Or.inl ⟨by rfl, ?_⟩) (by assumption) ?_
  · intro x hSx; go_simp
  try simp only [Act.put, List.setIfInBounds_toArray, List.set_cons_zero, List.set_cons_succ]
  refine takeL (i := 2) (v := undef) rfl (by kernel_rfl) (by kernel_rfl) (by kernel_rfl) (fun _ _ _ h => h) (Or.inr ⟨by rfl, rfl⟩) (by assumption) ?_
  try simp only [Act.put, List.setIfInBounds_toArray, List.set_cons_zero, List.set_cons_succ]
  refine takeL (i := 3) (v := undef) rfl (by kernel_rfl) (by kernel_rfl) (by kernel_rfl) (fun _ _ _ h => h) (Or.inr ⟨by rfl, rfl⟩) (by assumption) ?_
  try simp only [Act.put, List.setIfInBounds_toArray, List.set_cons_zero, List.set_cons_succ]
  refine takeL (i := 4) (v := .bool false) rfl (by kernel_rfl) (by kernel_rfl) (by kernel_rfl) (fun _ _ _ h => h) (Or.inl ⟨by rfl, ?_⟩) (by assumption) ?_
  · intro x hSx; go_simp
  try simp only [Act.put, List.setIfInBounds_toArray, List.set_cons_zero, List.set_cons_succ]
  refine takeL (i := 5) (v := .bool false) rfl (by kernel_rfl) (by kernel_rfl) (by kernel_rfl) (fun _ _ _ h => h) (Or.inl ⟨by rfl, ?_⟩) (by assumption) ?_
  · intro x hSx; go_simp
  try simp only [Act.put, List.setIfInBounds_toArray, List.set_cons_zero, List.set_cons_succ]
  refine takeL (i := 6) (v := undef) rfl (by kernel_rfl) (by kernel_rfl) (by kernel_rfl) (fun _ _ _ h => h) (Or.inr ⟨by rfl, rfl⟩) (by assumption) ?_
  try simp only [Act.put, List.setIfInBounds_toArray, List.set_cons_zero, List.set_cons_succ]
  refine takeL (i := 7) (v := undef) rfl (by kernel_rfl) (by kernel_rfl) (by kernel_rfl) (fun _ _ _ h => h) (Or.inr ⟨by rfl, rfl⟩) (by assumption) ?_
  try simp only [Act.put, List.setIfInBounds_toArray, List.set_cons_zero, List.set_cons_succ]
  refine takeL (i := 8) (v := undef) rfl (by kernel_rfl) (by kernel_rfl) (by kernel_rfl) (fun _ _ _ h => h) (Or.inr ⟨by rfl, rfl⟩) (by assumption) ?_
  try simp only [Act.put, List.setIfInBounds_toArray, List.set_cons_zero, List.set_cons_succ]
  refine takeL (i := 9) (v := undef) rfl (by kernel_rfl) (by kernel_rfl) (by kernel_rfl) (fun _ _ _ h => h) (Or.inr ⟨by rfl, rfl⟩) (by assumption) ?_
  try simp only [Act.put, List.setIfInBounds_toArray, List.set_cons_zero, List.set_cons_succ]
  refine takeL (i := 10) (v := .bool false) rfl (by kernel_rfl) (by kernel_rfl) (by kernel_rfl) (fun _ _ _ h => h) (Or.inl ⟨by rfl, ?_⟩) (by assumption) ?_
  · intro x hSx; go_simp
  try simp only [Act.put, List.setIfInBounds_toArray, List.set_cons_zero, List.set_cons_succ]
  refine takeL (i := 11) (v := .bool false) rfl (by kernel_rfl) (by kernel_rfl) (by kernel_rfl) (fun _ _ _ h => h) (Or.inl ⟨by rfl, ?_⟩) (by assumption) ?_
  · intro x hSx; go_simp
  try simp only [Act.put, List.setIfInBounds_toArray, List.set_cons_zero, List.set_cons_succ]
  refine wpAnyH_done (by kernel_rfl) ?_ _
  go_wp2
  go_ret
  exact ⟨rfl, b1.trans (hHeld.mono b1.size)⟩

theorem ok_1 {r : Rc} (hk : r.kind = 1) : decide r.ok = (decide (bxP r.valid r.next r.user r.name) && decide ((⟨1, r.valid, 0, r.next, 0, r.user, r.name, emp⟩ : Rc) = r)) := by
  rw [← Bool.decide_and]
  apply decide_eq_decide.2
  obtain ⟨kind, valid, uid, next, flags, user, name, text⟩ := r
  simp only at hk
  subst hk
  simp only [Rc.ok, bxP, Rc.mk.injEq]
  constructor
  · rintro ⟨_, h2, h3, h4, h5, h6⟩
    simp at h3 h4 h5 h6
    simp [h2, h3, h4, h5, h6]
  · rintro ⟨⟨h1, h2, h3, h4⟩, _, _, h5, _, h6, _, _, h7⟩
    simp [← h5, ← h6, ← h7, h1, h2, h3, h4]
theorem ok_2 {r : Rc} (hk : r.kind = 2) : decide r.ok = (decide (1 ≤ r.valid ∧ r.valid ≤ 9999) && decide ((⟨2, r.valid, 0, 0, 0, emp, emp, emp⟩ : Rc) = r)) := by
  rw [← Bool.decide_and]
  apply decide_eq_decide.2
  obtain ⟨kind, valid, uid, next, flags, user, name, text⟩ := r
  simp only at hk
  subst hk
  simp only [Rc.ok, Rc.mk.injEq]
  constructor
  · rintro ⟨_, h2, h3, h4, h5, h6⟩
    simp at h3 h4 h5 h6
    simp [h2, h3, h4, h5, h6]
  · rintro ⟨h1, _, _, h2, h3, h4, h5, h6, h7⟩
    simp [← h2, ← h3, ← h4, ← h5, ← h6, ← h7, h1]
theorem ok_3 {r : Rc} (hk : r.kind = 3) : decide r.ok = (decide (adP r.valid r.uid r.flags r.text) && decide ((⟨3, r.valid, r.uid, 0, r.flags, emp, emp, r.text⟩ : Rc) = r)) := by
  rw [← Bool.decide_and]
  apply decide_eq_decide.2
  obtain ⟨kind, valid, uid, next, flags, user, name, text⟩ := r
  simp only at hk
  subst hk
  simp only [Rc.ok, adP, Rc.mk.injEq]
  constructor
  · rintro ⟨_, h2, h3, h4, h5, h6⟩
    simp at h3 h4 h5 h6
    simp [h2, h3, h4, h5, h6]
  · rintro ⟨⟨h1, h2, h3, h4⟩, _, _, _, h5, _, h6, h7, _⟩
    simp [← h5, ← h6, ← h7, h1, h2, h3, h4]
theorem ok_4 {r : Rc} (hk : r.kind = 4) : decide r.ok = (decide (flP r.valid r.uid r.flags) && decide ((⟨4, r.valid, r.uid, 0, r.flags, emp, emp, emp⟩ : Rc) = r)) := by
  rw [← Bool.decide_and]
  apply decide_eq_decide.2
  obtain ⟨kind, valid, uid, next, flags, user, name, text⟩ := r
  simp only at hk
  subst hk
  simp only [Rc.ok, flP, Rc.mk.injEq]
  constructor
  · rintro ⟨_, h2, h3, h4, h5, h6⟩
    simp at h3 h4 h5 h6
    simp [h2, h3, h4, h5, h6]
  · rintro ⟨⟨h1, h2, h3⟩, _, _, _, h5, _, h6, h7, h8⟩
    simp [← h5, ← h6, ← h7, ← h8, h1, h2, h3]
theorem ok_5 {r : Rc} (hk : r.kind = 5) : decide r.ok = (decide (goP r.valid r.uid) && decide ((⟨5, r.valid, r.uid, 0, 0, emp, emp, emp⟩ : Rc) = r)) := by
  rw [← Bool.decide_and]
  apply decide_eq_decide.2
  obtain ⟨kind, valid, uid, next, flags, user, name, text⟩ := r
  simp only at hk
  subst hk
  simp only [Rc.ok, goP, Rc.mk.injEq]
  constructor
  · rintro ⟨_, h2, h3, h4, h5, h6⟩
    simp at h3 h4 h5 h6
    simp [h2, h3, h4, h5, h6]
  · rintro ⟨⟨h1, h2⟩, _, _, _, h4, h5, h6, h7, h8⟩
    simp [← h4, ← h5, ← h6, ← h7, ← h8, h1, h2]

set_option maxRecDepth 100000 in
set_option maxHeartbeats 1000000 in
theorem implRecOk_any (r : Rc) (w : World) :
    Calls Tryz.prog 54 #[r.v] w fun e w' => e = .returned (.bool (decide r.ok)) ∧ Below w.heap.size w w' := by
  by_cases h1 : r.kind = 1
  · rw [ok_1 h1]
    exact recOk_go r _ _ _ _ _ w (fun wx => recordOf_1 r wx h1) (fun k wx hk => box_method _ _ _ _ k wx hk) (fun wx => by kernel_rfl) (fun wx => boxRight_any _ _ _ _ wx) (fun wx => recOf_1 _ _ _ _ wx)
  by_cases h2 : r.kind = 2
  · rw [ok_2 h2]
    exact recOk_go r _ _ _ _ _ w (fun wx => recordOf_2 r wx h2) (fun k wx hk => drop_method _ k wx hk) (fun wx => by kernel_rfl) (fun wx => dropRight_any _ wx) (fun wx => recOf_2 _ wx)
  by_cases h3 : r.kind = 3
  · rw [ok_3 h3]
    exact recOk_go r _ _ _ _ _ w (fun wx => recordOf_3 r wx h3) (fun k wx hk => add_method _ _ _ _ k wx hk) (fun wx => by kernel_rfl) (fun wx => addRight_any _ _ _ _ wx) (fun wx => recOf_3 _ _ _ _ wx)
  by_cases h4 : r.kind = 4
  · rw [ok_4 h4]
    exact recOk_go r _ _ _ _ _ w (fun wx => recordOf_4 r wx h4) (fun k wx hk => flag_method _ _ _ k wx hk) (fun wx => by kernel_rfl) (fun wx => flagRight_any _ _ _ wx) (fun wx => recOf_4 _ _ _ wx)
  by_cases h5 : r.kind = 5
  · rw [ok_5 h5]
    exact recOk_go r _ _ _ _ _ w (fun wx => recordOf_5 r wx h5) (fun k wx hk => gone_method _ _ k wx hk) (fun wx => by kernel_rfl) (fun wx => goneRight_any _ _ wx) (fun wx => recOf_5 _ _ wx)
  have hk : ¬ (1 ≤ r.kind ∧ r.kind ≤ 5) := by omega
  rw [decide_eq_false (fun h : r.ok => hk h.1)]
  exact recOk_no r w hk

end Go.Proofs.YtahebgceoidebaaGreat

/- What records tell: the program's ItemsOk. -/
namespace Go.Proofs.YtahebgceoidebaaGreat
open Go.RowKit

theorem run_makeMap_hint {P : Program} {t k e : TypeId} (ht : P.underlying t = some (.map k e)) (n : Int) (w : World) : (Instr.makeMap t (some (.int .i64 n))).run P w = .ok (.map (some w.heap.size)) (w.alloc (.map #[] 0)) := by
  simp [Instr.makeMap, run_underlying ht, asInt, asIntOf, Result.andThen]

theorem wf_of {x : Int} (h1 : -9223372036854775808 ≤ x) (h2 : x ≤ 9223372036854775807) : (Lit.int .i64 x).wf = true := WalkArith.wf_i64 ⟨h1, h2⟩

/-- A map from a Seq to its record holds the first i items. -/
def SeqF (l : List Itm) (i : Nat) (f : Int → Option Rc) : Prop := ∀ q r, f q = some r ↔ ((q, r) : Itm) ∈ l.take i
theorem SeqF.zero (l : List Itm) : SeqF l 0 (fun _ => none) := fun q r => by simp
theorem SeqF.next {l : List Itm} {i : Nat} {f : Int → Option Rc} {q : Int} {r : Rc} (h : SeqF l i f) (hx : l[i]? = some (q, r)) (hf : f q = none ∨ f q = some r) : SeqF l (i + 1) (fun y => if y = q then some r else f y) := by
  intro q' r'
  have e : l.take (i + 1) = l.take i ++ [(q, r)] := by rw [List.take_add_one, hx]; rfl
  rw [e, List.mem_append]
  by_cases c : q' = q
  · subst c
    simp only [if_true, Option.some.injEq, List.mem_singleton, Prod.mk.injEq, true_and]
    constructor
    · intro e2; exact .inr e2.symm
    · rintro (h1 | h1)
      · have := (h q' r').2 h1
        rcases hf with hf | hf
        · rw [hf] at this; cases this
        · rw [hf] at this; cases this; rfl
      · exact h1.symm
  · simp only [if_neg c, List.mem_singleton, Prod.mk.injEq]
    constructor
    · intro e2; exact .inl ((h q' r').1 e2)
    · rintro (h1 | h1)
      · exact (h q' r').2 h1
      · exact absurd h1.1 c
theorem SeqF.at' {l : List Itm} {i : Nat} {f : Int → Option Rc} (h : SeqF l i f) {q : Int} {r : Rc} (hf : f q = some r) : ∃ j, j < i ∧ l[j]? = some (q, r) := by
  have := (h q r).1 hf
  obtain ⟨j, hj, e⟩ := List.getElem_of_mem this
  have hj' : j < i ∧ j < l.length := by rw [List.length_take] at hj; omega
  refine ⟨j, hj'.1, ?_⟩
  rw [List.getElem_take] at e
  rw [List.getElem?_eq_getElem hj'.2, e]
theorem SeqF.none' {l : List Itm} {i : Nat} {f : Int → Option Rc} (h : SeqF l i f) {q : Int} (hf : f q = none) {j : Nat} {x : Itm} (hj : l[j]? = some x) (hl : j < i) : x.1 ≠ q := by
  intro e
  have : ((q, x.2) : Itm) ∈ l.take i := by
    rw [← e]
    exact List.mem_of_getElem? (i := j) (by rw [List.getElem?_take, if_pos hl]; exact hj)
  rw [(h q x.2).2 this] at hf
  cases hf

theorem rcv_inj (x y : Rc) (h : x.v = y.v) : x = y := by
  obtain ⟨a0, a1, a2, a3, a4, a5, a6, a7⟩ := x
  obtain ⟨b0, b1, b2, b3, b4, b5, b6, b7⟩ := y
  simp only [Rc.v] at h
  injection h with h
  simp only [Array.mk.injEq, List.cons.injEq, Value.int.injEq, Value.string.injEq, true_and, and_true] at h
  obtain ⟨rfl, rfl, rfl, rfl, rfl, rfl, rfl, rfl⟩ := h
  rfl

theorem frameNumberOk_yes (n : Int) (w : World) (h1 : 1 ≤ n) (h2 : n ≤ 1000000000) : Calls Tryz.prog 53 #[.int .i64 n] w fun e w' => e = .returned (.bool true) ∧ w = w' := by
  go_enter Tryz.func53, Tryz.ntmps53
  go_wp2
  go_ret
  simp
theorem frameNumberOk_no (n : Int) (w : World) (h : ¬ (1 ≤ n ∧ n ≤ 1000000000)) : Calls Tryz.prog 53 #[.int .i64 n] w fun e w' => e = .returned (.bool false) ∧ w = w' := by
  by_cases h1 : 1 ≤ n
  · have h2 : ¬ n ≤ 1000000000 := fun c => h ⟨h1, c⟩
    clear h
    go_enter Tryz.func53, Tryz.ntmps53
    go_wp2
    go_ret
    simp
  · clear h
    go_enter Tryz.func53, Tryz.ntmps53
    go_wp2
    go_ret
    simp

theorem rc_part {r s : Rc} (h : r ≠ s) : r.kind ≠ s.kind ∨ (r.kind = s.kind ∧ r.valid ≠ s.valid) ∨ (r.kind = s.kind ∧ r.valid = s.valid ∧ r.uid ≠ s.uid) ∨ (r.kind = s.kind ∧ r.valid = s.valid ∧ r.uid = s.uid ∧ r.next ≠ s.next) ∨ (r.kind = s.kind ∧ r.valid = s.valid ∧ r.uid = s.uid ∧ r.next = s.next ∧ r.flags ≠ s.flags) ∨
    (r.kind = s.kind ∧ r.valid = s.valid ∧ r.uid = s.uid ∧ r.next = s.next ∧ r.flags = s.flags ∧ r.user ≠ s.user) ∨ (r.kind = s.kind ∧ r.valid = s.valid ∧ r.uid = s.uid ∧ r.next = s.next ∧ r.flags = s.flags ∧ r.user = s.user ∧ r.name ≠ s.name) ∨ (r.kind = s.kind ∧ r.valid = s.valid ∧ r.uid = s.uid ∧ r.next = s.next ∧ r.flags = s.flags ∧ r.user = s.user ∧ r.name = s.name ∧ r.text ≠ s.text) := by
  obtain ⟨a0, a1, a2, a3, a4, a5, a6, a7⟩ := r
  obtain ⟨b0, b1, b2, b3, b4, b5, b6, b7⟩ := s
  simp only
  by_cases h0 : a0 = b0
  case neg => exact .inl h0
  by_cases h1 : a1 = b1
  case neg => exact .inr (.inl ⟨h0, h1⟩)
  by_cases h2 : a2 = b2
  case neg => exact .inr (.inr (.inl ⟨h0, h1, h2⟩))
  by_cases h3 : a3 = b3
  case neg => exact .inr (.inr (.inr (.inl ⟨h0, h1, h2, h3⟩)))
  by_cases h4 : a4 = b4
  case neg => exact .inr (.inr (.inr (.inr (.inl ⟨h0, h1, h2, h3, h4⟩))))
  by_cases h5 : a5 = b5
  case neg => exact .inr (.inr (.inr (.inr (.inr (.inl ⟨h0, h1, h2, h3, h4, h5⟩)))))
  by_cases h6 : a6 = b6
  case neg => exact .inr (.inr (.inr (.inr (.inr (.inr (.inl ⟨h0, h1, h2, h3, h4, h5, h6⟩))))))
  by_cases h7 : a7 = b7
  case neg => exact .inr (.inr (.inr (.inr (.inr (.inr (.inr ⟨h0, h1, h2, h3, h4, h5, h6, h7⟩))))))
  subst h0 h1 h2 h3 h4 h5 h6 h7
  exact absurd rfl h

/-- The keys of a map from whole numbers. -/
def iK : KeyE Tryz.prog Int := intK 3 Tryz.underlying3

set_option maxRecDepth 100000 in
theorem zero_rec (w : World) : (zeroValue 47).run Tryz.prog w = .ok (Rc.nil.v) w := by kernel_rfl

set_option maxRecDepth 100000 in
set_option maxHeartbeats 4000000 in
theorem implItemsOk_any (l : List Itm) (v : Value) (w : World) (h : Rows' itE w v l) (hl : l.length ≤ 1099511627776) :
    Calls Tryz.prog 40 #[v] w fun e w' => e = .returned (.bool (decide (itemsOk l))) ∧ Below w.heap.size w w' := by
  obtain ⟨ad, cap, rfl, hrow⟩ := h.items
  have HR := Lib.hid hrow
  clear h hrow
  obtain ⟨D, hD⟩ : ∃ D, decide (itemsOk l) = D := ⟨_, rfl⟩
  have HD := Lib.hid hD
  rw [hD]
  clear hD
  have hmm := fun n wx => run_makeMap_hint (P := Tryz.prog) (t := 87) Tryz.underlying87 n wx
  by_cases hlen : l.length ≤ 200
  case neg =>
    have hgt : (200 : Int) < (l.length : Int) := by omega
    go_enter Tryz.func40, Tryz.ntmps40
    go_wp2
    go_ret
    exact ⟨by rw [← HD.out, decide_eq_false (fun c => hlen c.2.2)]; rfl, Below.refl _ _⟩
  have hgt : ¬ (200 : Int) < (l.length : Int) := by omega
  have M0 : MapIs iK Rc.v (w.alloc (.map #[] 0)) w.heap.size 0 (fun _ => none) := MapIs.made _ _ _
  have b0 := belNew w (.map #[] 0)
  go_enter Tryz.func40, Tryz.ntmps40
  go_wp2
  generalize w.alloc (.map #[] 0) = w1 at M0 b0 ⊢
  obtain ⟨g, hg⟩ : ∃ g, w.heap.size = g := ⟨_, rfl⟩
  rw [hg] at M0
  have hgle : Hid (w.heap.size ≤ g) := show _ ≤ _ by omega
  rw [hg]
  clear hg hmm
  go_loopw [16] (fun iv wr => ∃ (i : Nat) (f : Int → Option Rc), i ≤ l.length ∧ iv = .int .i64 (i : Int) ∧ ItG l i ∧ SeqF l i f ∧ MapIs iK Rc.v wr g i f ∧ Below w.heap.size w wr) (fun iv _ => l.length - (intOf iv).toNat)
  case atStart => exact ⟨0, _, by omega, rfl, ItG.zero l, SeqF.zero l, M0, b0⟩
  case round =>
    clear M0 b0
    obtain ⟨i, f, hi, rfl, hG, hF, hM, hb⟩ := hrel
    have HG := Lib.hid hG
    have HF := Lib.hid hF
    have HM := Lib.hid hM
    clear hG hF hM
    by_cases hlt : i < l.length
    · obtain ⟨x, hx⟩ : ∃ x, l[i]? = some x := ⟨_, List.getElem?_eq_getElem hlt⟩
      obtain ⟨ga, oa, rfl, a0, a1, a2, a3, a4, a5, a6, a7, a8⟩ := HR.out _ hb i _ hx
      have HX := Lib.hid hx
      obtain ⟨sq, K, V, U, N, FL, US, NM, TX⟩ := x
      simp only at a0 a1 a2 a3 a4 a5 a6 a7 a8
      have hi0 : (0 : Int) ≤ (i : Int) := by omega
      have hi1 : (i : Int) < (l.length : Int) := by omega
      clear hx
      have hbn : Below w.heap.size w (wr.alloc (.cells #[.int .i64 sq, .int .i64 K, .int .i64 V, .int .i64 U, .int .i64 N, .int .i64 FL, .string US, .string NM, .string TX] 49)) := hb.trans ((belNew wr _).mono hb.size)
      by_cases hs : 1 ≤ sq ∧ sq ≤ 1000000000
      case neg =>
        have HS := Lib.hid hs
        clear hs
        go_wp2_with (go_at_call 53; refine (frameNumberOk_no _ _ HS.out).mono ?_; rintro e w5 ⟨rfl, rfl⟩)
        go_ret
        exact ⟨by rw [← HD.out, items_bad HX.out (fun c => HS.out c.1)]; rfl, hbn⟩
      obtain ⟨hs1, hs2⟩ := hs
      have hRO := fun wx => implRecOk_any ⟨K, V, U, N, FL, US, NM, TX⟩ wx
      unfold Rc.v at hRO
      by_cases hok : (⟨K, V, U, N, FL, US, NM, TX⟩ : Rc).ok
      case neg =>
        rw [decide_eq_false hok] at hRO
        have HO := Lib.hid hok
        clear hok
        go_wp2_with (first | (go_at_call 53; refine (frameNumberOk_yes _ _ hs1 hs2).mono ?_; rintro e w5 ⟨rfl, rfl⟩) | (go_at_call 54; refine (hRO _).mono ?_; rintro e w6 ⟨rfl, hb6⟩))
        go_ret
        exact ⟨by rw [← HD.out, items_bad HX.out (fun c => HO.out c.2)]; rfl, hbn.trans (hb6.mono hbn.size)⟩
      rw [decide_eq_true hok] at hRO
      have HO := Lib.hid hok
      clear hok
      have hwf : iK.ok sq := wf_of (by omega) (by omega)
      have bR : Below wr.heap.size wr (wr.alloc (.cells #[.int .i64 sq, .int .i64 K, .int .i64 V, .int .i64 U, .int .i64 N, .int .i64 FL, .string US, .string NM, .string TX] 49)) := belNew wr _
      have XB := Box.new wr #[.int .i64 sq, .int .i64 K, .int .i64 V, .int .i64 U, .int .i64 N, .int .i64 FL, .string US, .string NM, .string TX] 49
      have HRO : Hid (∀ X, Below wr.heap.size wr X → Box X wr.heap.size #[.int .i64 sq, .int .i64 K, .int .i64 V, .int .i64 U, .int .i64 N, .int .i64 FL, .string US, .string NM, .string TX] 49 → Calls Tryz.prog 54 #[.agg #[.int .i64 K, .int .i64 V, .int .i64 U, .int .i64 N, .int .i64 FL, .string US, .string NM, .string TX]] X fun e w' => e = .returned (.bool true) ∧ Below wr.heap.size wr w' ∧ Box w' wr.heap.size #[.int .i64 sq, .int .i64 K, .int .i64 V, .int .i64 U, .int .i64 N, .int .i64 FL, .string US, .string NM, .string TX] 49) := fun X hX hB => (hRO X).mono fun e w' ⟨h1, h2⟩ => ⟨h1, hX.trans (h2.mono hX.size), hB.later h2⟩
      clear hRO
      cases hf : f sq with
      | none =>
        have HFS := Lib.hid hf
        clear hf
        go_wp2_with (first | (go_at_call 53; refine (frameNumberOk_yes _ _ hs1 hs2).mono ?_; rintro e w5 ⟨rfl, rfl⟩) | (go_at_call 54; refine (HRO.out _ bR XB).mono ?_; rintro e w6 ⟨rfl, hb6, XB6⟩; have hlk := (HM.out.later hb6).look_gone (t := 87) Tryz.underlying87 (zero_rec w6) hwf HFS.out true; change (Instr.lookup 87 (.map (some g)) (.int .i64 sq) true).run Tryz.prog w6 = .ok (.tuple #[Rc.nil.v, .bool false]) w6 at hlk; unfold Rc.nil Rc.v at hlk; obtain ⟨q0, q1, q2, q3, q4, q5, q6, q7, q8, _⟩ := XB6.nine; obtain ⟨p0, p1, p2, p3, p4, p5, p6, p7, p8, _⟩ := (XB6.later (belNew w6 (.cells #[.int .i64 0, .int .i64 0, .int .i64 0, .int .i64 0, .int .i64 0, .string emp, .string emp, .string emp] 47))).nine) | (at_mapUpdate; refine wpList_put rfl _ _ _ _ rfl iK Rc.v rcv_inj _ Tryz.underlying87 g i f rfl ((HM.out.later hb6).later (belNew _ _)) (by unfold maxLen; omega) sq ⟨K, V, U, N, FL, US, NM, TX⟩ rfl rfl hwf ?_; intro w8 hM8 hg8 hs8))
        go_wp2
        go_roundw
        case rel => exact ⟨i + 1, _, by omega, by go_num, HG.out.next HX.out ⟨⟨hs1, hs2⟩, HO.out⟩ (fun j y hj hji e => absurd e (HF.out.none' HFS.out hj hji)), HF.out.next HX.out (.inl HFS.out), hM8, (hb.trans ((hb6.trans ((belNew w6 _).mono hb6.size)).mono hb.size)).grown hg8 (Nat.le_trans hb.size (Nat.le_trans hb6.size (by simp))) (fun j hj => by cases hj; exact hgle.out)⟩
        case measure => simp [intOf]; omega
      | some r0 =>
        have HFS := Lib.hid hf
        clear hf
        by_cases hr : r0 = ⟨K, V, U, N, FL, US, NM, TX⟩
        · subst hr
          go_wp2_with (first | (go_at_call 53; refine (frameNumberOk_yes _ _ hs1 hs2).mono ?_; rintro e w5 ⟨rfl, rfl⟩) | (go_at_call 54; refine (HRO.out _ bR XB).mono ?_; rintro e w6 ⟨rfl, hb6, XB6⟩; have hlk := (HM.out.later hb6).look_there (t := 87) Tryz.underlying87 (zero_rec w6) hwf HFS.out true; change (Instr.lookup 87 (.map (some g)) (.int .i64 sq) true).run Tryz.prog w6 = .ok (.tuple #[Rc.v ⟨K, V, U, N, FL, US, NM, TX⟩, .bool true]) w6 at hlk; unfold Rc.v at hlk; obtain ⟨q0, q1, q2, q3, q4, q5, q6, q7, q8, _⟩ := XB6.nine; obtain ⟨p0, p1, p2, p3, p4, p5, p6, p7, p8, _⟩ := (XB6.later (belNew w6 (.cells #[.int .i64 K, .int .i64 V, .int .i64 U, .int .i64 N, .int .i64 FL, .string US, .string NM, .string TX] 47))).nine) | (at_mapUpdate; refine wpList_put rfl _ _ _ _ rfl iK Rc.v rcv_inj _ Tryz.underlying87 g i f rfl ((HM.out.later hb6).later (belNew _ _)) (by unfold maxLen; omega) sq ⟨K, V, U, N, FL, US, NM, TX⟩ rfl rfl hwf ?_; intro w8 hM8 hg8 hs8))
          go_wp2
          go_roundw
          case rel =>
            refine ⟨i + 1, _, by omega, by go_num, HG.out.next HX.out ⟨⟨hs1, hs2⟩, HO.out⟩ (fun j y hj hji e => ?_), HF.out.next HX.out (.inr HFS.out), hM8, (hb.trans ((hb6.trans ((belNew w6 _).mono hb6.size)).mono hb.size)).grown hg8 (Nat.le_trans hb.size (Nat.le_trans hb6.size (by simp))) (fun j hj => by cases hj; exact hgle.out)⟩
            obtain ⟨yq, yr⟩ := y
            simp only at e
            subst e
            have : f yq = some yr := (HF.out yq yr).2 (List.mem_of_getElem? (i := j) (by rw [List.getElem?_take, if_pos hji]; exact hj))
            rw [HFS.out] at this
            cases this
            rfl
          case measure => simp [intOf]; omega
        · have hp := rc_part hr
          have HP : Hid (decide (itemsOk l) = false) := by
            obtain ⟨j, hj, ej⟩ := HF.out.at' HFS.out
            exact items_part ej HX.out rfl (fun e => hr (Prod.mk.inj e).2)
          obtain ⟨K0, V0, U0, N0, FL0, US0, NM0, TX0⟩ := r0
          simp only at hp
          clear hr
          rcases hp with h0 | ⟨rfl, h0⟩ | ⟨rfl, rfl, h0⟩ | ⟨rfl, rfl, rfl, h0⟩ | ⟨rfl, rfl, rfl, rfl, h0⟩ | ⟨rfl, rfl, rfl, rfl, rfl, h0⟩ | ⟨rfl, rfl, rfl, rfl, rfl, rfl, h0⟩ | ⟨rfl, rfl, rfl, rfl, rfl, rfl, rfl, h0⟩
          all_goals (
            try have hba : ¬ (_ : List UInt8) = _ := fun e => h0 ((ba_same _ _).1 e)
            go_wp2_with (first | (go_at_call 53; refine (frameNumberOk_yes _ _ hs1 hs2).mono ?_; rintro e w5 ⟨rfl, rfl⟩) | (go_at_call 54; refine (HRO.out _ bR XB).mono ?_; rintro e w6 ⟨rfl, hb6, XB6⟩; have hlk := (HM.out.later hb6).look_there (t := 87) Tryz.underlying87 (zero_rec w6) hwf HFS.out true; dsimp only [iK, intK, Rc.v, if_true] at hlk; obtain ⟨q0, q1, q2, q3, q4, q5, q6, q7, q8, _⟩ := XB6.nine; have XB7 := fun cs t => (XB6.later (belNew w6 (.cells cs t))).nine))
            go_ret
            exact ⟨by rw [← HD.out, HP.out]; rfl, hb.trans ((hb6.trans ((belNew w6 _).mono hb6.size)).mono hb.size)⟩)
    · go_wp2
      go_ret
      have e : i = l.length := by omega
      subst e
      exact ⟨by rw [← HD.out, HG.out.done, decide_eq_true hlen]; rfl, hb⟩

end Go.Proofs.YtahebgceoidebaaGreat

/- The closures of wantedByKind. -/
namespace Go.Proofs.YtahebgceoidebaaGreat
open Go.RowKit

def inN (x : Nat) : Value := .int .i64 (x : Int)
theorem inN_inj (x y : Nat) (h : inN x = inN y) : x = y := by unfold inN at h; simp at h; omega
def boxO (f : Int × Int × Int → Option Nat) (v : Int) : Bool := (f (1, v, 0)).isSome && !(f (2, v, 0)).isSome
def addO (f : Int × Int × Int → Option Nat) (v u : Int) : Bool := boxO f v && (f (3, v, u)).isSome
def mailO (f : Int × Int × Int → Option Nat) (v u : Int) : Bool := addO f v u && !(f (5, v, u)).isSome

/-- What the closures see. -/
structure Wn (w : World) (gM n : Nat) (f : Int × Int × Int → Option Nat) (v : Value) (l : List Itm) (g2 g3 g5 g6 g7 : Nat) : Prop where
  map : MapIs sjK inN w gM n f
  c2 : w.cell? ⟨g2, 0, none⟩ = some v
  c3 : w.cell? ⟨g3, 0, none⟩ = some (.map (some gM))
  c5 : w.cell? ⟨g5, 0, none⟩ = some (.func (.func 56) #[] #[.pointer (some ⟨g3, 0, none⟩)])
  c6 : w.cell? ⟨g6, 0, none⟩ = some (.func (.func 57) #[] #[.pointer (some ⟨g5, 0, none⟩)])
  c7 : w.cell? ⟨g7, 0, none⟩ = some (.func (.func 58) #[] #[.pointer (some ⟨g6, 0, none⟩), .pointer (some ⟨g5, 0, none⟩)])
  rows : Rows' itE w v l
theorem Wn.later {w w' : World} {gM n g2 g3 g5 g6 g7 : Nat} {f : Int × Int × Int → Option Nat} {v : Value} {l : List Itm} (h : Wn w gM n f v l g2 g3 g5 g6 g7) (hb : Below w.heap.size w w') : Wn w' gM n f v l g2 g3 g5 g6 g7 :=
  have k : ∀ {g : Nat} {u : Value}, w.cell? ⟨g, 0, none⟩ = some u → w'.cell? ⟨g, 0, none⟩ = some u := fun {g _} hc => (hb.cell (p := ⟨g, 0, none⟩) (World.block_lt_of_cell? _ _ hc)).trans hc
  ⟨h.map.later hb, k h.c2, k h.c3, k h.c5, k h.c6, k h.c7, h.rows.later hb⟩

theorem zero_intN (w : World) : (zeroValue 3).run Tryz.prog w = .ok (.int .i64 0) w := by kernel_rfl

theorem sj_ok {k v u : Int} (h1 : 0 ≤ k ∧ k ≤ 9999) (h2 : 0 ≤ v ∧ v ≤ 9999) (h3 : 0 ≤ u ∧ u ≤ 9999) : sjK.ok (k, v, u) := ⟨wf_of (x := k) (by omega) (by omega), wf_of (x := v) (by omega) (by omega), wf_of (x := u) (by omega) (by omega)⟩

set_option maxRecDepth 100000 in
theorem told_any (kk vv uu : Int) (w : World) (gM n g3 : Nat) (f : Int × Int × Int → Option Nat) (hm : MapIs sjK inN w gM n f) (h3 : w.cell? ⟨g3, 0, none⟩ = some (.map (some gM))) (hok : sjK.ok (kk, vv, uu)) :
    Calls Tryz.prog 56 #[.int .i64 kk, .int .i64 vv, .int .i64 uu, .pointer (some ⟨g3, 0, none⟩)] w fun e w' => e = .returned (.bool (f (kk, vv, uu)).isSome) ∧ w = w' := by
  cases hf : f (kk, vv, uu) with
  | none =>
    have hlk : (Instr.lookup 72 (.map (some gM)) (.agg #[.int .i64 kk, .int .i64 vv, .int .i64 uu]) true).run Tryz.prog w = .ok (.tuple #[.int .i64 0, .bool false]) w := hm.look_gone (t := 72) Tryz.underlying72 (zero_intN w) hok hf true
    clear hm hf
    go_enter Tryz.func56, Tryz.ntmps56
    go_wp2
    go_ret
    exact ⟨rfl, rfl⟩
  | some c =>
    have hlk : (Instr.lookup 72 (.map (some gM)) (.agg #[.int .i64 kk, .int .i64 vv, .int .i64 uu]) true).run Tryz.prog w = .ok (.tuple #[.int .i64 (c : Int), .bool true]) w := hm.look_there (t := 72) Tryz.underlying72 (zero_intN w) hok hf true
    clear hm hf
    go_enter Tryz.func56, Tryz.ntmps56
    go_wp2
    go_ret
    exact ⟨rfl, rfl⟩

set_option maxRecDepth 100000 in
set_option maxHeartbeats 1000000 in
theorem boxThere_any (r : Rc) (w : World) {gM n g2 g3 g5 g6 g7 : Nat} {f : Int × Int × Int → Option Nat} {v : Value} {l : List Itm} (h : Wn w gM n f v l g2 g3 g5 g6 g7) (hv : 1 ≤ r.valid ∧ r.valid ≤ 9999) :
    Calls Tryz.prog 57 #[r.v, .pointer (some ⟨g5, 0, none⟩)] w fun e w' => e = .returned (.bool (boxO f r.valid)) ∧ Below w.heap.size w w' := by
  have b1 := belNew w (.cells r.cs 47)
  have hx := (Box.new w r.cs 47).rec
  have h' := h.later b1
  have T1 := Lib.hid (told_any 1 r.valid 0 _ gM n g3 f h'.map h'.c3 (sj_ok (by omega) (by omega) (by omega)))
  have T2 := Lib.hid (told_any 2 r.valid 0 _ gM n g3 f h'.map h'.c3 (sj_ok (by omega) (by omega) (by omega)))
  have HE : Hid (boxO f r.valid = ((f (1, r.valid, 0)).isSome && !(f (2, r.valid, 0)).isSome)) := by show _ = _; rfl
  have c5 := h'.c5
  generalize (f (1, r.valid, 0)).isSome = A at T1 HE
  generalize (f (2, r.valid, 0)).isSome = B at T2 HE
  obtain ⟨_, x1, _⟩ := hx
  obtain ⟨K, V, U, N, FL, US, NM, TX⟩ := r
  unfold Rc.v
  unfold Rc.cs at *
  simp only at *
  clear h h'
  cases A with
  | false =>
    go_enter Tryz.func57, Tryz.ntmps57
    go_wp2_with (go_at_call 56; refine T1.out.mono ?_; rintro e w1 ⟨rfl, rfl⟩)
    go_ret
    exact ⟨by rw [HE.out]; rfl, b1⟩
  | true =>
    go_enter Tryz.func57, Tryz.ntmps57
    go_wp2_with (first | (go_at_call 56; with_reducible refine T1.out.mono ?_; rintro e w1 ⟨rfl, rfl⟩) | (go_at_call 56; with_reducible refine T2.out.mono ?_; rintro e w1 ⟨rfl, rfl⟩))
    go_ret
    exact ⟨by rw [HE.out]; first | rfl | (cases B <;> rfl), b1⟩

set_option maxRecDepth 100000 in
set_option maxHeartbeats 1000000 in
theorem addedThere_any (r : Rc) (w : World) {gM n g2 g3 g5 g6 g7 : Nat} {f : Int × Int × Int → Option Nat} {v : Value} {l : List Itm} (h : Wn w gM n f v l g2 g3 g5 g6 g7) (hv : 1 ≤ r.valid ∧ r.valid ≤ 9999) (hu : 0 ≤ r.uid ∧ r.uid ≤ 9999) :
    Calls Tryz.prog 58 #[r.v, .pointer (some ⟨g6, 0, none⟩), .pointer (some ⟨g5, 0, none⟩)] w fun e w' => e = .returned (.bool (addO f r.valid r.uid)) ∧ Below w.heap.size w w' := by
  have b1 := belNew w (.cells r.cs 47)
  have hx := Box.new w r.cs 47
  have h' := h.later b1
  have T1 := Lib.hid (boxThere_any r _ h' hv)
  have T2 := Lib.hid (fun x (hx : Below (w.alloc (.cells r.cs 47)).heap.size (w.alloc (.cells r.cs 47)) x) => told_any 3 r.valid r.uid x gM n g3 f (h'.later hx).map (h'.later hx).c3 (sj_ok (by omega) (by omega) (by omega)))
  have HC : Hid (∀ x, Below (w.alloc (.cells r.cs 47)).heap.size (w.alloc (.cells r.cs 47)) x → x.cell? ⟨g5, 0, none⟩ = some (.func (.func 56) #[] #[.pointer (some ⟨g3, 0, none⟩)]) ∧ x.cell? ⟨w.heap.size, 1, none⟩ = some (.int .i64 r.valid) ∧ x.cell? ⟨w.heap.size, 2, none⟩ = some (.int .i64 r.uid)) := fun x hx2 => ⟨(h'.later hx2).c5, (hx.later hx2).rec.2.1, (hx.later hx2).rec.2.2.1⟩
  have HE : Hid (addO f r.valid r.uid = (boxO f r.valid && (f (3, r.valid, r.uid)).isSome)) := by show _ = _; rfl
  have cC := h'.c6
  have c5 := h'.c5
  generalize boxO f r.valid = A at T1 HE
  generalize (f (3, r.valid, r.uid)).isSome = B at T2 HE
  obtain ⟨x0, x1, x2, x3, x4, x5, x6, x7⟩ := hx.rec
  obtain ⟨K, V, U, N, FL, US, NM, TX⟩ := r
  unfold Rc.v at T1 ⊢
  unfold Rc.cs at *
  simp only at *
  clear h h' hx
  cases A with
  | false =>
    go_enter Tryz.func58, Tryz.ntmps58
    go_wp2_with (go_at_call 57; refine T1.out.mono ?_; rintro e w1 ⟨rfl, k1⟩)
    go_ret
    exact ⟨by rw [HE.out]; rfl, b1.trans (k1.mono b1.size)⟩
  | true =>
    go_enter Tryz.func58, Tryz.ntmps58
    go_wp2_with (first | (go_at_call 57; refine T1.out.mono ?_; rintro e w1 ⟨rfl, k1⟩; obtain ⟨d5, d1, d2⟩ := HC.out _ k1) | (go_at_call 56; refine (T2.out _ k1).mono ?_; rintro e w2 ⟨rfl, rfl⟩))
    go_ret
    exact ⟨by rw [HE.out]; first | rfl | (cases B <;> rfl), b1.trans (k1.mono b1.size)⟩

set_option maxRecDepth 100000 in
set_option maxHeartbeats 1000000 in
theorem mailThere_any (r : Rc) (w : World) {gM n g2 g3 g5 g6 g7 : Nat} {f : Int × Int × Int → Option Nat} {v : Value} {l : List Itm} (h : Wn w gM n f v l g2 g3 g5 g6 g7) (hv : 1 ≤ r.valid ∧ r.valid ≤ 9999) (hu : 0 ≤ r.uid ∧ r.uid ≤ 9999) :
    Calls Tryz.prog 59 #[r.v, .pointer (some ⟨g7, 0, none⟩), .pointer (some ⟨g5, 0, none⟩)] w fun e w' => e = .returned (.bool (mailO f r.valid r.uid)) ∧ Below w.heap.size w w' := by
  have b1 := belNew w (.cells r.cs 47)
  have hx := Box.new w r.cs 47
  have h' := h.later b1
  have T1 := Lib.hid (addedThere_any r _ h' hv hu)
  have T2 := Lib.hid (fun x (hx : Below (w.alloc (.cells r.cs 47)).heap.size (w.alloc (.cells r.cs 47)) x) => told_any 5 r.valid r.uid x gM n g3 f (h'.later hx).map (h'.later hx).c3 (sj_ok (by omega) (by omega) (by omega)))
  have HC : Hid (∀ x, Below (w.alloc (.cells r.cs 47)).heap.size (w.alloc (.cells r.cs 47)) x → x.cell? ⟨g5, 0, none⟩ = some (.func (.func 56) #[] #[.pointer (some ⟨g3, 0, none⟩)]) ∧ x.cell? ⟨w.heap.size, 1, none⟩ = some (.int .i64 r.valid) ∧ x.cell? ⟨w.heap.size, 2, none⟩ = some (.int .i64 r.uid)) := fun x hx2 => ⟨(h'.later hx2).c5, (hx.later hx2).rec.2.1, (hx.later hx2).rec.2.2.1⟩
  have HE : Hid (mailO f r.valid r.uid = (addO f r.valid r.uid && !(f (5, r.valid, r.uid)).isSome)) := by show _ = _; rfl
  have cC := h'.c7
  have c5 := h'.c5
  generalize addO f r.valid r.uid = A at T1 HE
  generalize (f (5, r.valid, r.uid)).isSome = B at T2 HE
  obtain ⟨x0, x1, x2, x3, x4, x5, x6, x7⟩ := hx.rec
  obtain ⟨K, V, U, N, FL, US, NM, TX⟩ := r
  unfold Rc.v at T1 ⊢
  unfold Rc.cs at *
  simp only at *
  clear h h' hx
  cases A with
  | false =>
    go_enter Tryz.func59, Tryz.ntmps59
    go_wp2_with (go_at_call 58; refine T1.out.mono ?_; rintro e w1 ⟨rfl, k1⟩)
    go_ret
    exact ⟨by rw [HE.out]; rfl, b1.trans (k1.mono b1.size)⟩
  | true =>
    go_enter Tryz.func59, Tryz.ntmps59
    go_wp2_with (first | (go_at_call 58; refine T1.out.mono ?_; rintro e w1 ⟨rfl, k1⟩; obtain ⟨d5, d1, d2⟩ := HC.out _ k1) | (go_at_call 56; refine (T2.out _ k1).mono ?_; rintro e w2 ⟨rfl, rfl⟩))
    go_ret
    exact ⟨by rw [HE.out]; first | rfl | (cases B <;> rfl), b1.trans (k1.mono b1.size)⟩

def othB (rK rV : Int) (y : Itm) : Bool := decide (y.2.valid = rV ∧ y.2.kind ≠ rK)
set_option maxRecDepth 100000 in
set_option maxHeartbeats 1000000 in
theorem oth_any (x : Itm) (rK rV : Int) (gr : Nat) (w : World) (h0 : w.cell? ⟨gr, 0, none⟩ = some (.int .i64 rK)) (h1 : w.cell? ⟨gr, 1, none⟩ = some (.int .i64 rV)) :
    Calls Tryz.prog 62 #[itV x.1 x.2, .pointer (some ⟨gr, 0, none⟩)] w fun e w' => e = .returned (.bool (othB rK rV x)) ∧ Below w.heap.size w w' := by
  obtain ⟨sq, K, V, U, N, FL, US, NM, TX⟩ := x
  have HE : Hid (othB rK rV (sq, ⟨K, V, U, N, FL, US, NM, TX⟩) = decide (V = rV ∧ K ≠ rK)) := by show _ = _; rfl
  generalize othB rK rV (sq, ⟨K, V, U, N, FL, US, NM, TX⟩) = D at HE ⊢
  unfold itV
  simp only
  have b1 := belNew w (.cells #[.int .i64 sq, .int .i64 K, .int .i64 V, .int .i64 U, .int .i64 N, .int .i64 FL, .string US, .string NM, .string TX] 49)
  have l0 := World.block_lt_of_cell? _ _ h0
  have d0 := (b1.cell (p := ⟨gr, 0, none⟩) l0).trans h0
  have d1 := (b1.cell (p := ⟨gr, 1, none⟩) l0).trans h1
  clear h0 h1 l0
  by_cases hv : V = rV
  · subst hv
    by_cases hk : K = rK
    · subst hk
      have HD : Hid (D = false) := by rw [HE.out]; exact decide_eq_false (fun c => c.2 rfl)
      clear HE
      go_enter Tryz.func62, Tryz.ntmps62
      go_wp2
      go_ret
      exact ⟨by rw [HD.out]; rfl, b1⟩
    · have hk' : (K == rK) = false := beq_eq_false_iff_ne.2 hk
      have hk2 : (K != rK) = true := bne_iff_ne.2 hk
      have HD : Hid (D = true) := by rw [HE.out]; exact decide_eq_true ⟨rfl, hk⟩
      clear HE
      go_enter Tryz.func62, Tryz.ntmps62
      go_wp2
      go_ret
      exact ⟨by rw [HD.out]; first | rfl | simp [hk'], b1⟩
  · have hv' : (V == rV) = false := beq_eq_false_iff_ne.2 hv
    have HD : Hid (D = false) := by rw [HE.out]; exact decide_eq_false (fun c => hv c.1)
    clear HE
    go_enter Tryz.func62, Tryz.ntmps62
    go_wp2
    go_ret
    exact ⟨by rw [HD.out]; rfl, b1⟩

set_option maxRecDepth 100000 in
set_option maxHeartbeats 2000000 in
theorem indexFunc_any (l : List Itm) (v : Value) (rK rV : Int) (gr : Nat) (w : World) (h : Rows' itE w v l) (hl : l.length ≤ 1048576) (h0 : w.cell? ⟨gr, 0, none⟩ = some (.int .i64 rK)) (h1 : w.cell? ⟨gr, 1, none⟩ = some (.int .i64 rV)) :
    Calls Tryz.prog 81 #[v, .func (.func 62) #[] #[.pointer (some ⟨gr, 0, none⟩)]] w fun e w' => (∃ r : Int, e = .returned (.int .i64 r) ∧ ((0 ≤ r ∧ l.any (othB rK rV) = true) ∨ (¬ 0 ≤ r ∧ l.any (othB rK rV) = false))) ∧ Below w.heap.size w w' := by
  obtain ⟨ad, cap, rfl, hrow⟩ := h.items
  have HR := Lib.hid hrow
  clear h hrow
  obtain ⟨n, hn⟩ : ∃ n, l.length = n := ⟨_, rfl⟩
  rw [hn] at hl ⊢
  have HN := Lib.hid hn
  clear hn
  have l0 := World.block_lt_of_cell? _ _ h0
  have HO : Hid (∀ (y : Itm) x, Below w.heap.size w x → Calls Tryz.prog 62 #[itV y.1 y.2, .pointer (some ⟨gr, 0, none⟩)] x fun e w' => e = .returned (.bool (othB rK rV y)) ∧ Below x.heap.size x w') := fun y x hx => oth_any y rK rV gr x ((hx.cell (p := ⟨gr, 0, none⟩) l0).trans h0) ((hx.cell (p := ⟨gr, 1, none⟩) l0).trans h1)
  clear h0 h1 l0
  obtain ⟨Q, hQ⟩ : ∃ Q, l.any (othB rK rV) = Q := ⟨_, rfl⟩
  rw [hQ]
  have HQ := Lib.hid hQ
  clear hQ
  have F0 : Hid (∀ y ∈ l.take 0, othB rK rV y = false) := fun y hy => by simp at hy
  go_enter Tryz.func81, Tryz.ntmps81
  go_wp2
  go_loopw [8] (fun iv wr => ∃ i : Nat, i ≤ n ∧ iv = .int .i64 (i : Int) ∧ (∀ y ∈ l.take i, othB rK rV y = false) ∧ Below w.heap.size w wr) (fun iv _ => n - (intOf iv).toNat)
  case atStart => exact ⟨0, by omega, rfl, F0.out, Below.refl _ _⟩
  case round =>
    clear F0
    obtain ⟨i, hi, rfl, hno, bq⟩ := hrel
    by_cases hlt : i < n
    · obtain ⟨y, hgy⟩ : ∃ y, l[i]? = some y := ⟨_, List.getElem?_eq_getElem (by rw [HN.out]; omega)⟩
      obtain ⟨gp, op, rfl, p0, p1, p2, p3, p4, p5, p6, p7, p8⟩ := HR.out _ bq i y hgy
      have HOY := Lib.hid (HO.out y _ bq)
      have HNX : Hid (othB rK rV y = false → ∀ z ∈ l.take (i + 1), othB rK rV z = false) := fun hy z hz => by
        rw [List.take_add_one, hgy] at hz
        rcases List.mem_append.1 hz with h | h
        · exact hno z h
        · simp at h; rw [h]; exact hy
      have HFA : Hid (othB rK rV y = true → Q = true) := fun hy => by rw [← HQ.out]; exact List.any_eq_true.2 ⟨y, List.mem_of_getElem? hgy, hy⟩
      clear hgy hno
      generalize othB rK rV y = D at HOY HNX HFA
      obtain ⟨sq, K, V, U, N, FL, US, NM, TX⟩ := y
      unfold itV at HOY
      simp only at p0 p1 p2 p3 p4 p5 p6 p7 p8 HOY
      have hi0 : (0 : Int) ≤ (i : Int) := by omega
      have hi1 : (i : Int) < (n : Int) := by omega
      cases D with
      | true =>
        have HF := Lib.hid (HFA.out rfl)
        clear HFA HNX
        go_wp2_with (go_at_call 62; refine HOY.out.mono ?_; rintro e w1 ⟨rfl, k1⟩)
        go_ret
        exact ⟨⟨(i : Int), rfl, .inl ⟨hi0, HF.out⟩⟩, bq.trans (k1.mono bq.size)⟩
      | false =>
        have HN2 := Lib.hid (HNX.out rfl)
        clear HFA HNX
        go_wp2_with (go_at_call 62; refine HOY.out.mono ?_; rintro e w1 ⟨rfl, k1⟩)
        exact ⟨⟨i + 1, by omega, by simp, HN2.out, bq.trans (k1.mono bq.size)⟩, by first | omega | (simp [intOf]; omega)⟩
    · have HF : Hid (Q = false) := by
        rw [← HQ.out]
        show _ = false
        rw [List.any_eq_false]
        intro y hy
        rw [hno y (by rw [List.take_of_length_le (by rw [HN.out]; omega)]; exact hy)]
        exact Bool.false_ne_true
      clear hno
      go_wp2
      go_ret
      exact ⟨⟨-1, rfl, .inr ⟨by omega, HF.out⟩⟩, bq⟩

set_option maxRecDepth 100000 in
theorem containsFunc_any (l : List Itm) (v : Value) (rK rV : Int) (gr : Nat) (w : World) (h : Rows' itE w v l) (hl : l.length ≤ 1048576) (h0 : w.cell? ⟨gr, 0, none⟩ = some (.int .i64 rK)) (h1 : w.cell? ⟨gr, 1, none⟩ = some (.int .i64 rV)) :
    Calls Tryz.prog 61 #[v, .func (.func 62) #[] #[.pointer (some ⟨gr, 0, none⟩)]] w fun e w' => e = .returned (.bool (l.any (othB rK rV))) ∧ Below w.heap.size w w' := by
  have HI := Lib.hid (indexFunc_any l v rK rV gr w h hl h0 h1)
  obtain ⟨ad, cap, rfl, _⟩ := h.items
  clear h h0 h1
  go_enter Tryz.func61, Tryz.ntmps61
  go_wp2_with fail
  refine HI.out.mono ?_
  rintro e w1 ⟨⟨r, rfl, hr⟩, k1⟩
  clear HI
  rcases hr with ⟨hr, he⟩ | ⟨hr, he⟩
  · have HE := Lib.hid he
    clear he
    go_wp2
    go_ret
    exact ⟨by rw [HE.out]; first | rfl | simp [hr], k1⟩
  · have HE := Lib.hid he
    clear he
    go_wp2
    go_ret
    exact ⟨by rw [HE.out]; first | rfl | simp [hr], k1⟩

set_option maxRecDepth 100000 in
set_option maxHeartbeats 1000000 in
theorem othersThere_any (r : Rc) (w : World) {gM n g2 g3 g5 g6 g7 : Nat} {f : Int × Int × Int → Option Nat} {v : Value} {l : List Itm} (h : Wn w gM n f v l g2 g3 g5 g6 g7) (hl : l.length ≤ 1048576) :
    Calls Tryz.prog 60 #[r.v, .pointer (some ⟨g2, 0, none⟩)] w fun e w' => e = .returned (.bool (l.any (othB r.kind r.valid))) ∧ Below w.heap.size w w' := by
  have b1 := belNew w (.cells r.cs 47)
  have hx := (Box.new w r.cs 47).rec
  have h' := h.later b1
  have HCF := Lib.hid (containsFunc_any l v r.kind r.valid w.heap.size _ h'.rows hl hx.1 hx.2.1)
  have c2 := h'.c2
  obtain ⟨ad, cap, rfl, _⟩ := h.rows.items
  have hmf : ∀ (fn : Fn) (first cap : Array Value) (w : World), (Instr.makeFunc fn first cap).run Tryz.prog w = .ok (.func fn first cap) w := fun _ _ _ _ => rfl
  generalize l.any (othB r.kind r.valid) = D at HCF
  obtain ⟨K, V, U, N, FL, US, NM, TX⟩ := r
  unfold Rc.v
  unfold Rc.cs at *
  simp only at *
  clear h h' hx
  go_enter Tryz.func60, Tryz.ntmps60
  go_wp2_with (go_at_call 61; refine HCF.out.mono ?_; rintro e w1 ⟨rfl, k1⟩)
  go_ret
  exact ⟨rfl, b1.trans (k1.mono b1.size)⟩

end Go.Proofs.YtahebgceoidebaaGreat
