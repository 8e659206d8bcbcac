/- Texts of our own, joined. -/
import Derived.Test.YtahebgceoidebaaGreatJk
import Derived.Test.YtahebgceoidebaaGreatJb
import Derived.Test.YtahebgceoidebaaGreatJh
import Derived.Test.YtahebgceoidebaaGreatJd
import Derived.Shelf.SlSortCmp.WholeK
import Derived.Shelf.SlicesG.Cmp
import Derived.Test.YtahebgceoidebaaGreatProg
import Derived.Test.YtahebgceoidebaaGreatJi
/- Records: what the program's RecOk hands back. -/
namespace Go.Proofs.YtahebgceoidebaaGreat
open Go.RowKit

set_option maxHeartbeats 1000000 in
theorem rec_ifs {α : Type} (F : Bool → α) (a0 a1 a2 a3 a4 : Int) (a5 a6 a7 : ByteArray) (b0 b1 b2 b3 b4 : Int) (b5 b6 b7 : ByteArray) :
    (if a0 = b0 then if a1 = b1 then if a2 = b2 then if a3 = b3 then if a4 = b4 then if a5.toList = b5.toList then if a6.toList = b6.toList then if a7.toList = b7.toList then F true else F false else F false else F false else F false else F false else F false else F false else F false) = F (decide ((⟨a0, a1, a2, a3, a4, a5, a6, a7⟩ : Rc) = ⟨b0, b1, b2, b3, b4, b5, b6, b7⟩)) := by
  have e : decide ((⟨a0, a1, a2, a3, a4, a5, a6, a7⟩ : Rc) = ⟨b0, b1, b2, b3, b4, b5, b6, b7⟩) = (decide (a0 = b0) && (decide (a1 = b1) && (decide (a2 = b2) && (decide (a3 = b3) && (decide (a4 = b4) && (decide (a5 = b5) && (decide (a6 = b6) && decide (a7 = b7)))))))) := by
    simp
  rw [e]
  simp only [ba_inj]
  by_cases h0 : a0 = b0 <;> by_cases h1 : a1 = b1 <;> by_cases h2 : a2 = b2 <;> by_cases h3 : a3 = b3 <;> by_cases h4 : a4 = b4 <;> by_cases h5 : a5 = b5 <;> by_cases h6 : a6 = b6 <;> by_cases h7 : a7 = b7 <;> simp only [h0, h1, h2, h3, h4, h5, h6, h7, if_true, if_false, decide_true, decide_false, Bool.and_true, Bool.and_false]

theorem box_method (v n : Int) (u m : ByteArray) (k : Nat) (w : World) (hk : 1 ≤ k) : (method k 128 (.agg #[.int .i64 v, .int .i64 n, .string u, .string m]) "loop.example/g00287/impl.right").run Tryz.prog w = .ok (136, .agg #[.int .i64 v, .int .i64 n, .string u, .string m]) w := by
  obtain ⟨j, rfl⟩ : ∃ j, k = j + 1 := ⟨k - 1, by omega⟩
  kernel_rfl
theorem drop_method (v : Int) (k : Nat) (w : World) (hk : 1 ≤ k) : (method k 130 (.agg #[.int .i64 v]) "loop.example/g00287/impl.right").run Tryz.prog w = .ok (140, .agg #[.int .i64 v]) w := by
  obtain ⟨j, rfl⟩ : ∃ j, k = j + 1 := ⟨k - 1, by omega⟩
  kernel_rfl
theorem add_method (v u f : Int) (t : ByteArray) (k : Nat) (w : World) (hk : 1 ≤ k) : (method k 132 (.agg #[.int .i64 v, .int .i64 u, .int .i64 f, .string t]) "loop.example/g00287/impl.right").run Tryz.prog w = .ok (141, .agg #[.int .i64 v, .int .i64 u, .int .i64 f, .string t]) w := by
  obtain ⟨j, rfl⟩ : ∃ j, k = j + 1 := ⟨k - 1, by omega⟩
  kernel_rfl
theorem flag_method (v u f : Int) (k : Nat) (w : World) (hk : 1 ≤ k) : (method k 134 (.agg #[.int .i64 v, .int .i64 u, .int .i64 f]) "loop.example/g00287/impl.right").run Tryz.prog w = .ok (143, .agg #[.int .i64 v, .int .i64 u, .int .i64 f]) w := by
  obtain ⟨j, rfl⟩ : ∃ j, k = j + 1 := ⟨k - 1, by omega⟩
  kernel_rfl
theorem gone_method (v u : Int) (k : Nat) (w : World) (hk : 1 ≤ k) : (method k 136 (.agg #[.int .i64 v, .int .i64 u]) "loop.example/g00287/impl.right").run Tryz.prog w = .ok (144, .agg #[.int .i64 v, .int .i64 u]) w := by
  obtain ⟨j, rfl⟩ : ∃ j, k = j + 1 := ⟨k - 1, by omega⟩
  kernel_rfl

set_option maxRecDepth 100000 in
set_option maxHeartbeats 1000000 in
theorem recOk_go (r s : Rc) (T : TypeId) (x : Value) (K : Nat) (q : Bool) (w : World)
    (hRO : ∀ wx, Calls Tryz.prog 77 #[r.v] wx fun e w' => e = .returned (.tuple #[.iface T x, .bool true]) ∧ Below wx.heap.size wx w')
    (hM : ∀ k wx, 1 ≤ k → (method k T x "loop.example/g00287/impl.right").run Tryz.prog wx = .ok (K, x) wx)
    (hC : ∀ wx, (callFunc K #[x]).run Tryz.prog wx = .ok (.enter K #[x]) wx)
    (hR : ∀ wx, Calls Tryz.prog K #[x] wx fun e w' => e = .returned (.bool q) ∧ Below wx.heap.size wx w')
    (hB : ∀ wx, Calls Tryz.prog 78 #[.iface T x] wx fun e w' => e = .returned s.v ∧ Below wx.heap.size wx w') :
    Calls Tryz.prog 54 #[r.v] w fun e w' => e = .returned (.bool (q && decide (s = r))) ∧ Below w.heap.size w w' := by
  have bx := Box.new w r.cs 47
  have b0 : Below w.heap.size w (w.alloc (.cells r.cs 47)) := (Below.refl _ _).alloc (Nat.le_refl _) _
  obtain ⟨c0, c1, c2, c3, c4, c5, c6, c7⟩ := bx.rec
  have BX := Lib.hid bx
  clear bx
  obtain ⟨kind, valid, uid, next, flags, user, name, text⟩ := r
  obtain ⟨d, hd⟩ : ∃ d, decide (s = ⟨kind, valid, uid, next, flags, user, name, text⟩) = d := ⟨_, rfl⟩
  rw [hd]
  have HD := Lib.hid hd
  clear hd
  obtain ⟨sk, sv, su, sn, sf, s5, s6, s7⟩ := s
  unfold Rc.v at hB
  simp only at hB
  unfold Rc.v at hRO ⊢
  unfold Rc.cs at *
  simp only at *
  have HRO := Lib.hid hRO
  have HR := Lib.hid hR
  have HB := Lib.hid hB
  clear hRO hR hB
  go_enter Tryz.func54, Tryz.ntmps54
  go_wp2_with fail
  generalize w.alloc (.cells #[.int .i64 kind, .int .i64 valid, .int .i64 uid, .int .i64 next, .int .i64 flags, .string user, .string name, .string text] 47) = W at *
  refine (HRO.out _).mono ?_
  rintro e w1 ⟨rfl, k1⟩
  have b1 := b0.trans (k1.mono b0.size)
  have BX1 := BX.out.later k1
  clear c0 c1 c2 c3 c4 c5 c6 c7
  go_wp2_with fail
  have r0 : ∀ x, Below w1.heap.size w1 x → x.cell? ⟨w.heap.size, 0, none⟩ = some (.int .i64 kind) := fun x hb => (BX1.later hb).cell 0 _ rfl
  have r1 : ∀ x, Below w1.heap.size w1 x → x.cell? ⟨w.heap.size, 1, none⟩ = some (.int .i64 valid) := fun x hb => (BX1.later hb).cell 1 _ rfl
  have r2 : ∀ x, Below w1.heap.size w1 x → x.cell? ⟨w.heap.size, 2, none⟩ = some (.int .i64 uid) := fun x hb => (BX1.later hb).cell 2 _ rfl
  have r3 : ∀ x, Below w1.heap.size w1 x → x.cell? ⟨w.heap.size, 3, none⟩ = some (.int .i64 next) := fun x hb => (BX1.later hb).cell 3 _ rfl
  have r4 : ∀ x, Below w1.heap.size w1 x → x.cell? ⟨w.heap.size, 4, none⟩ = some (.int .i64 flags) := fun x hb => (BX1.later hb).cell 4 _ rfl
  have r5 : ∀ x, Below w1.heap.size w1 x → x.cell? ⟨w.heap.size, 5, none⟩ = some (.string user) := fun x hb => (BX1.later hb).cell 5 _ rfl
  have r6 : ∀ x, Below w1.heap.size w1 x → x.cell? ⟨w.heap.size, 6, none⟩ = some (.string name) := fun x hb => (BX1.later hb).cell 6 _ rfl
  have r7 : ∀ x, Below w1.heap.size w1 x → x.cell? ⟨w.heap.size, 7, none⟩ = some (.string text) := fun x hb => (BX1.later hb).cell 7 _ rfl
  have HK0 : Hid (Below w1.heap.size w1 w1.drew) := (Below.refl _ _).drew
  clear BX1 BX k1
  refine wp_region_held_drew (S := fun x => Below w1.heap.size w1 x) (by kernel_rfl) HK0.out (fun hHeld => ?_)
  clear HK0
  cases q with
  | false =>
    refine takeL (i := 0) (v := .bool true) rfl (by kernel_rfl) (by kernel_rfl) (by kernel_rfl) (fun _ _ _ h => h) (Or.inl ⟨by rfl, ?_⟩) (by assumption) ?_
    · intro x hSx; go_simp
    try simp only [Act.put, List.setIfInBounds_toArray, List.set_cons_zero, List.set_cons_succ]
    refine takeL (i := 1) (v := .bool true) rfl (by kernel_rfl) (by kernel_rfl) (by kernel_rfl) (fun _ _ _ h => h) (Or.inl ⟨by rfl, ?_⟩) (by assumption) ?_
    · intro x hSx; go_simp
    try simp only [Act.put, List.setIfInBounds_toArray, List.set_cons_zero, List.set_cons_succ]
    refine takeL (i := 2) (v := .iface T x) rfl (by kernel_rfl) (by kernel_rfl) (by kernel_rfl) (fun _ _ _ h => h) (Or.inl ⟨by rfl, ?_⟩) (by assumption) ?_
    · intro x hSx; go_simp
    try simp only [Act.put, List.setIfInBounds_toArray, List.set_cons_zero, List.set_cons_succ]
    refine wpAnyH_ready (rs := [3]) (by kernel_rfl) (by simp) ?_
    refine readyOne rfl (fun K' hK => ?_)
    go_simp
    refine (HR.out _).mono ?_
    rintro e wT ⟨rfl, kT⟩
    go_wp2_with fail
    refine hK.out _ _ (below_next hHeld kT) (fun hS2 => ?_)
    clear hK K' kT hHeld
    have hHeld := hS2
    clear hS2
    try simp only [Act.put, List.setIfInBounds_toArray, List.set_cons_zero, List.set_cons_succ]
    refine takeL (i := 4) (v := .bool false) rfl (by kernel_rfl) (by kernel_rfl) (by kernel_rfl) (fun _ _ _ h => h) (Or.inl ⟨by rfl, ?_⟩) (by assumption) ?_
    · intro x hSx; go_simp
    try simp only [Act.put, List.setIfInBounds_toArray, List.set_cons_zero, List.set_cons_succ]
    refine takeL (i := 5) (v := .bool false) rfl (by kernel_rfl) (by kernel_rfl) (by kernel_rfl) (fun _ _ _ h => h) (Or.inl ⟨by rfl, ?_⟩) (by assumption) ?_
    · intro x hSx; go_simp
    try simp only [Act.put, List.setIfInBounds_toArray, List.set_cons_zero, List.set_cons_succ]
    refine takeL (i := 6) (v := undef) rfl (by kernel_rfl) (by kernel_rfl) (by kernel_rfl) (fun _ _ _ h => h) (Or.inr ⟨by rfl, rfl⟩) (by assumption) ?_
    try simp only [Act.put, List.setIfInBounds_toArray, List.set_cons_zero, List.set_cons_succ]
    refine takeL (i := 7) (v := undef) rfl (by kernel_rfl) (by kernel_rfl) (by kernel_rfl) (fun _ _ _ h => h) (Or.inr ⟨by rfl, rfl⟩) (by assumption) ?_
    try simp only [Act.put, List.setIfInBounds_toArray, List.set_cons_zero, List.set_cons_succ]
    refine takeL (i := 8) (v := undef) rfl (by kernel_rfl) (by kernel_rfl) (by kernel_rfl) (fun _ _ _ h => h) (Or.inr ⟨by rfl, rfl⟩) (by assumption) ?_
    try simp only [Act.put, List.setIfInBounds_toArray, List.set_cons_zero, List.set_cons_succ]
    refine takeL (i := 9) (v := undef) rfl (by kernel_rfl) (by kernel_rfl) (by kernel_rfl) (fun _ _ _ h => h) (Or.inr ⟨by rfl, rfl⟩) (by assumption) ?_
    try simp only [Act.put, List.setIfInBounds_toArray, List.set_cons_zero, List.set_cons_succ]
    refine takeL (i := 10) (v := .bool false) rfl (by kernel_rfl) (by kernel_rfl) (by kernel_rfl) (fun _ _ _ h => h) (Or.inl ⟨by rfl, ?_⟩) (by assumption) ?_
    · intro x hSx; go_simp
    try simp only [Act.put, List.setIfInBounds_toArray, List.set_cons_zero, List.set_cons_succ]
    refine takeL (i := 11) (v := .bool false) rfl (by kernel_rfl) (by kernel_rfl) (by kernel_rfl) (fun _ _ _ h => h) (Or.inl ⟨by rfl, ?_⟩) (by assumption) ?_
    · intro x hSx; go_simp
    try simp only [Act.put, List.setIfInBounds_toArray, List.set_cons_zero, List.set_cons_succ]
    refine wpAnyH_done (by kernel_rfl) ?_ _
    go_wp2
    go_ret
    exact ⟨rfl, b1.trans (hHeld.mono b1.size)⟩
  | true =>
    refine takeL (i := 0) (v := .bool true) rfl (by kernel_rfl) (by kernel_rfl) (by kernel_rfl) (fun _ _ _ h => h) (Or.inl ⟨by rfl, ?_⟩) (by assumption) ?_
    · intro x hSx; go_simp
    try simp only [Act.put, List.setIfInBounds_toArray, List.set_cons_zero, List.set_cons_succ]
    refine takeL (i := 1) (v := .bool true) rfl (by kernel_rfl) (by kernel_rfl) (by kernel_rfl) (fun _ _ _ h => h) (Or.inl ⟨by rfl, ?_⟩) (by assumption) ?_
    · intro x hSx; go_simp
    try simp only [Act.put, List.setIfInBounds_toArray, List.set_cons_zero, List.set_cons_succ]
    refine takeL (i := 2) (v := .iface T x) rfl (by kernel_rfl) (by kernel_rfl) (by kernel_rfl) (fun _ _ _ h => h) (Or.inl ⟨by rfl, ?_⟩) (by assumption) ?_
    · intro x hSx; go_simp
    try simp only [Act.put, List.setIfInBounds_toArray, List.set_cons_zero, List.set_cons_succ]
    refine wpAnyH_ready (rs := [3]) (by kernel_rfl) (by simp) ?_
    refine readyOne rfl (fun K' hK => ?_)
    go_simp
    refine (HR.out _).mono ?_
    rintro e wT ⟨rfl, kT⟩
    go_wp2_with fail
    refine hK.out _ _ (below_next hHeld kT) (fun hS2 => ?_)
    clear hK K' kT hHeld
    have hHeld := hS2
    clear hS2
    try simp only [Act.put, List.setIfInBounds_toArray, List.set_cons_zero, List.set_cons_succ]
    refine takeL (i := 4) (v := .bool true) rfl (by kernel_rfl) (by kernel_rfl) (by kernel_rfl) (fun _ _ _ h => h) (Or.inl ⟨by rfl, ?_⟩) (by assumption) ?_
    · intro x hSx; go_simp
    try simp only [Act.put, List.setIfInBounds_toArray, List.set_cons_zero, List.set_cons_succ]
    refine takeL (i := 5) (v := .bool true) rfl (by kernel_rfl) (by kernel_rfl) (by kernel_rfl) (fun _ _ _ h => h) (Or.inl ⟨by rfl, ?_⟩) (by assumption) ?_
    · intro x hSx; go_simp
    try simp only [Act.put, List.setIfInBounds_toArray, List.set_cons_zero, List.set_cons_succ]
    refine takeL (i := 6) (v := .iface T x) rfl (by kernel_rfl) (by kernel_rfl) (by kernel_rfl) (fun _ _ _ h => h) (Or.inl ⟨by rfl, ?_⟩) (by assumption) ?_
    · intro x hSx; go_simp
    try simp only [Act.put, List.setIfInBounds_toArray, List.set_cons_zero, List.set_cons_succ]
    refine takeL (i := 8) (v := .agg #[.int .i64 kind, .int .i64 valid, .int .i64 uid, .int .i64 next, .int .i64 flags, .string user, .string name, .string text]) rfl (by kernel_rfl) (by kernel_rfl) (by kernel_rfl) (fun _ _ _ h => h) (Or.inl ⟨by rfl, ?_⟩) (by assumption) ?_
    · intro x hSx; have q0 := r0 x hSx; have q1 := r1 x hSx; have q2 := r2 x hSx; have q3 := r3 x hSx; have q4 := r4 x hSx; have q5 := r5 x hSx; have q6 := r6 x hSx; have q7 := r7 x hSx; go_simp
    try simp only [Act.put, List.setIfInBounds_toArray, List.set_cons_zero, List.set_cons_succ]
    refine wpAnyH_ready (rs := [7]) (by kernel_rfl) (by simp) ?_
    refine readyOne rfl (fun K' hK => ?_)
    go_simp
    refine (HB.out _).mono ?_
    rintro e wT ⟨rfl, kT⟩
    go_wp2_with fail
    refine hK.out _ _ (below_next hHeld kT) (fun hS2 => ?_)
    clear hK K' kT hHeld
    have hHeld := hS2
    clear hS2
    try simp only [Act.put, List.setIfInBounds_toArray, List.set_cons_zero, List.set_cons_succ]
    refine takeL (i := 9) (v := .bool d) rfl (by kernel_rfl) (by kernel_rfl) (by kernel_rfl) (fun _ _ _ h => h) (Or.inl ⟨by rfl, ?_⟩) (by assumption) ?_
    · intro x hSx; go_simp; rw [← HD.out]; exact rec_ifs (fun b => Result.ok (Next.value (Value.bool b)) x) _ _ _ _ _ _ _ _ _ _ _ _ _ _ _ _
    try simp only [Act.put, List.setIfInBounds_toArray, List.set_cons_zero, List.set_cons_succ]
    refine takeL (i := 10) (v := .bool d) rfl (by kernel_rfl) (by kernel_rfl) (by kernel_rfl) (fun _ _ _ h => h) (Or.inl ⟨by rfl, ?_⟩) (by assumption) ?_
    · intro x hSx; go_simp
    try simp only [Act.put, List.setIfInBounds_toArray, List.set_cons_zero, List.set_cons_succ]
    refine takeL (i := 11) (v := .bool d) rfl (by kernel_rfl) (by kernel_rfl) (by kernel_rfl) (fun _ _ _ h => h) (Or.inl ⟨by rfl, ?_⟩) (by assumption) ?_
    · intro x hSx; go_simp
    try simp only [Act.put, List.setIfInBounds_toArray, List.set_cons_zero, List.set_cons_succ]
    refine wpAnyH_done (by kernel_rfl) ?_ _
    go_wp2
    go_ret
    exact ⟨rfl, b1.trans (hHeld.mono b1.size)⟩

set_option maxRecDepth 100000 in
set_option maxHeartbeats 1000000 in
theorem recOk_no (r : Rc) (w : World) (hk : ¬ (1 ≤ r.kind ∧ r.kind ≤ 5)) :
    Calls Tryz.prog 54 #[r.v] w fun e w' => e = .returned (.bool false) ∧ Below w.heap.size w w' := by
  have bx := Box.new w r.cs 47
  have b0 : Below w.heap.size w (w.alloc (.cells r.cs 47)) := (Below.refl _ _).alloc (Nat.le_refl _) _
  obtain ⟨c0, c1, c2, c3, c4, c5, c6, c7⟩ := bx.rec
  have hRO := fun wx => recordOf_no r wx hk
  clear bx hk
  obtain ⟨kind, valid, uid, next, flags, user, name, text⟩ := r
  unfold Rc.v at hRO ⊢
  unfold Rc.cs at *
  simp only at *
  have HRO := Lib.hid hRO
  clear hRO
  go_enter Tryz.func54, Tryz.ntmps54
  go_wp2_with fail
  generalize w.alloc (.cells #[.int .i64 kind, .int .i64 valid, .int .i64 uid, .int .i64 next, .int .i64 flags, .string user, .string name, .string text] 47) = W at *
  refine (HRO.out _).mono ?_
  rintro e w1 ⟨rfl, k1⟩
  have b1 := b0.trans (k1.mono b0.size)
  clear c0 c1 c2 c3 c4 c5 c6 c7
  go_wp2_with fail
  refine wp_region_held_drew (S := fun x => Below w1.heap.size w1 x) (by kernel_rfl) ((Below.refl _ _).drew) (fun hHeld => ?_)
  refine takeL (i := 0) (v := .bool false) rfl (by kernel_rfl) (by kernel_rfl) (by kernel_rfl) (fun _ _ _ h => h) (Or.inl ⟨by rfl, ?_⟩) (by assumption) ?_
  · intro x hSx; go_simp
  try simp only [Act.put, List.setIfInBounds_toArray, List.set_cons_zero, List.set_cons_succ]
  refine takeL (i := 1) (v := .bool false) rfl (by kernel_rfl) (by kernel_rfl) (by kernel_rfl) (fun _ _ _ h => h) (Or.inl ⟨by rfl, ?_⟩) (by assumption) ?_
  · intro x hSx; go_simp
  try simp only [Act.put, List.setIfInBounds_toArray, List.set_cons_zero, List.set_cons_succ]
  refine takeL (i := 2) (v := undef) rfl (by kernel_rfl) (by kernel_rfl) (by kernel_rfl) (fun _ _ _ h => h) (Or.inr ⟨by rfl, rfl⟩) (by assumption) ?_
  try simp only [Act.put, List.setIfInBounds_toArray, List.set_cons_zero, List.set_cons_succ]
  refine takeL (i := 3) (v := undef) rfl (by kernel_rfl) (by kernel_rfl) (by kernel_rfl) (fun _ _ _ h => h) (Or.inr ⟨by rfl, rfl⟩) (by assumption) ?_
  try simp only [Act.put, List.setIfInBounds_toArray, List.set_cons_zero, List.set_cons_succ]
  refine takeL (i := 4) (v := .bool false) rfl (by kernel_rfl) (by kernel_rfl) (by kernel_rfl) (fun _ _ _ h => h) (Or.inl ⟨by rfl, ?_⟩) (by assumption) ?_
  · intro x hSx; go_simp
  try simp only [Act.put, List.setIfInBounds_toArray, List.set_cons_zero, List.set_cons_succ]
  refine takeL (i := 5) (v := .bool false) rfl (by kernel_rfl) (by kernel_rfl) (by kernel_rfl) (fun _ _ _ h => h) (Or.inl ⟨by rfl, ?_⟩) (by assumption) ?_
  · intro x hSx; go_simp
  try simp only [Act.put, List.setIfInBounds_toArray, List.set_cons_zero, List.set_cons_succ]
  refine takeL (i := 6) (v := undef) rfl (by kernel_rfl) (by kernel_rfl) (by kernel_rfl) (fun _ _ _ h => h) (Or.inr ⟨by rfl, rfl⟩) (by assumption) ?_
  try simp only [Act.put, List.setIfInBounds_toArray, List.set_cons_zero, List.set_cons_succ]
  refine takeL (i := 7) (v := undef) rfl (by kernel_rfl) (by kernel_rfl) (by kernel_rfl) (fun _ _ _ h => h) (Or.inr ⟨by rfl, rfl⟩) (by assumption) ?_
  try simp only [Act.put, List.setIfInBounds_toArray, List.set_cons_zero, List.set_cons_succ]
  refine takeL (i := 8) (v := undef) rfl (by kernel_rfl) (by kernel_rfl) (by kernel_rfl) (fun _ _ _ h => h) (Or.inr ⟨by rfl, rfl⟩) (by assumption) ?_
  try simp only [Act.put, List.setIfInBounds_toArray, List.set_cons_zero, List.set_cons_succ]
  refine takeL (i := 9) (v := undef) rfl (by kernel_rfl) (by kernel_rfl) (by kernel_rfl) (fun _ _ _ h => h) (Or.inr ⟨by rfl, rfl⟩) (by assumption) ?_
  try simp only [Act.put, List.setIfInBounds_toArray, List.set_cons_zero, List.set_cons_succ]
  refine takeL (i := 10) (v := .bool false) rfl (by kernel_rfl) (by kernel_rfl) (by kernel_rfl) (fun _ _ _ h => h) (Or.inl ⟨by rfl, ?_⟩) (by assumption) ?_
  · intro x hSx; go_simp
  try simp only [Act.put, List.setIfInBounds_toArray, List.set_cons_zero, List.set_cons_succ]
  refine takeL (i := 11) (v := .bool false) rfl (by kernel_rfl) (by kernel_rfl) (by kernel_rfl) (fun _ _ _ h => h) (Or.inl ⟨by rfl, ?_⟩) (by assumption) ?_
  · intro x hSx; go_simp
  try simp only [Act.put, List.setIfInBounds_toArray, List.set_cons_zero, List.set_cons_succ]
  refine wpAnyH_done (by kernel_rfl) ?_ _
  go_wp2
  go_ret
  exact ⟨rfl, b1.trans (hHeld.mono b1.size)⟩

theorem ok_1 {r : Rc} (hk : r.kind = 1) : decide r.ok = (decide (bxP r.valid r.next r.user r.name) && decide ((⟨1, r.valid, 0, r.next, 0, r.user, r.name, emp⟩ : Rc) = r)) := by
  rw [← Bool.decide_and]
  apply decide_eq_decide.2
  obtain ⟨kind, valid, uid, next, flags, user, name, text⟩ := r
  simp only at hk
  subst hk
  simp only [Rc.ok, bxP, Rc.mk.injEq]
  constructor
  · rintro ⟨_, h2, h3, h4, h5, h6⟩
    simp at h3 h4 h5 h6
    simp [h2, h3, h4, h5, h6]
  · rintro ⟨⟨h1, h2, h3, h4⟩, _, _, h5, _, h6, _, _, h7⟩
    simp [← h5, ← h6, ← h7, h1, h2, h3, h4]
theorem ok_2 {r : Rc} (hk : r.kind = 2) : decide r.ok = (decide (1 ≤ r.valid ∧ r.valid ≤ 9999) && decide ((⟨2, r.valid, 0, 0, 0, emp, emp, emp⟩ : Rc) = r)) := by
  rw [← Bool.decide_and]
  apply decide_eq_decide.2
  obtain ⟨kind, valid, uid, next, flags, user, name, text⟩ := r
  simp only at hk
  subst hk
  simp only [Rc.ok, Rc.mk.injEq]
  constructor
  · rintro ⟨_, h2, h3, h4, h5, h6⟩
    simp at h3 h4 h5 h6
    simp [h2, h3, h4, h5, h6]
  · rintro ⟨h1, _, _, h2, h3, h4, h5, h6, h7⟩
    simp [← h2, ← h3, ← h4, ← h5, ← h6, ← h7, h1]
theorem ok_3 {r : Rc} (hk : r.kind = 3) : decide r.ok = (decide (adP r.valid r.uid r.flags r.text) && decide ((⟨3, r.valid, r.uid, 0, r.flags, emp, emp, r.text⟩ : Rc) = r)) := by
  rw [← Bool.decide_and]
  apply decide_eq_decide.2
  obtain ⟨kind, valid, uid, next, flags, user, name, text⟩ := r
  simp only at hk
  subst hk
  simp only [Rc.ok, adP, Rc.mk.injEq]
  constructor
  · rintro ⟨_, h2, h3, h4, h5, h6⟩
    simp at h3 h4 h5 h6
    simp [h2, h3, h4, h5, h6]
  · rintro ⟨⟨h1, h2, h3, h4⟩, _, _, _, h5, _, h6, h7, _⟩
    simp [← h5, ← h6, ← h7, h1, h2, h3, h4]
theorem ok_4 {r : Rc} (hk : r.kind = 4) : decide r.ok = (decide (flP r.valid r.uid r.flags) && decide ((⟨4, r.valid, r.uid, 0, r.flags, emp, emp, emp⟩ : Rc) = r)) := by
  rw [← Bool.decide_and]
  apply decide_eq_decide.2
  obtain ⟨kind, valid, uid, next, flags, user, name, text⟩ := r
  simp only at hk
  subst hk
  simp only [Rc.ok, flP, Rc.mk.injEq]
  constructor
  · rintro ⟨_, h2, h3, h4, h5, h6⟩
    simp at h3 h4 h5 h6
    simp [h2, h3, h4, h5, h6]
  · rintro ⟨⟨h1, h2, h3⟩, _, _, _, h5, _, h6, h7, h8⟩
    simp [← h5, ← h6, ← h7, ← h8, h1, h2, h3]
theorem ok_5 {r : Rc} (hk : r.kind = 5) : decide r.ok = (decide (goP r.valid r.uid) && decide ((⟨5, r.valid, r.uid, 0, 0, emp, emp, emp⟩ : Rc) = r)) := by
  rw [← Bool.decide_and]
  apply decide_eq_decide.2
  obtain ⟨kind, valid, uid, next, flags, user, name, text⟩ := r
  simp only at hk
  subst hk
  simp only [Rc.ok, goP, Rc.mk.injEq]
  constructor
  · rintro ⟨_, h2, h3, h4, h5, h6⟩
    simp at h3 h4 h5 h6
    simp [h2, h3, h4, h5, h6]
  · rintro ⟨⟨h1, h2⟩, _, _, _, h4, h5, h6, h7, h8⟩
    simp [← h4, ← h5, ← h6, ← h7, ← h8, h1, h2]

set_option maxRecDepth 100000 in
set_option maxHeartbeats 1000000 in
theorem implRecOk_any (r : Rc) (w : World) :
    Calls Tryz.prog 54 #[r.v] w fun e w' => e = .returned (.bool (decide r.ok)) ∧ Below w.heap.size w w' := by
  by_cases h1 : r.kind = 1
  · rw [ok_1 h1]
    exact recOk_go r _ _ _ _ _ w (fun wx => recordOf_1 r wx h1) (fun k wx hk => box_method _ _ _ _ k wx hk) (fun wx => by kernel_rfl) (fun wx => boxRight_any _ _ _ _ wx) (fun wx => recOf_1 _ _ _ _ wx)
  by_cases h2 : r.kind = 2
  · rw [ok_2 h2]
    exact recOk_go r _ _ _ _ _ w (fun wx => recordOf_2 r wx h2) (fun k wx hk => drop_method _ k wx hk) (fun wx => by kernel_rfl) (fun wx => dropRight_any _ wx) (fun wx => recOf_2 _ wx)
  by_cases h3 : r.kind = 3
  · rw [ok_3 h3]
    exact recOk_go r _ _ _ _ _ w (fun wx => recordOf_3 r wx h3) (fun k wx hk => add_method _ _ _ _ k wx hk) (fun wx => by kernel_rfl) (fun wx => addRight_any _ _ _ _ wx) (fun wx => recOf_3 _ _ _ _ wx)
  by_cases h4 : r.kind = 4
  · rw [ok_4 h4]
    exact recOk_go r _ _ _ _ _ w (fun wx => recordOf_4 r wx h4) (fun k wx hk => flag_method _ _ _ k wx hk) (fun wx => by kernel_rfl) (fun wx => flagRight_any _ _ _ wx) (fun wx => recOf_4 _ _ _ wx)
  by_cases h5 : r.kind = 5
  · rw [ok_5 h5]
    exact recOk_go r _ _ _ _ _ w (fun wx => recordOf_5 r wx h5) (fun k wx hk => gone_method _ _ k wx hk) (fun wx => by kernel_rfl) (fun wx => goneRight_any _ _ wx) (fun wx => recOf_5 _ _ wx)
  have hk : ¬ (1 ≤ r.kind ∧ r.kind ≤ 5) := by omega
  rw [decide_eq_false (fun h : r.ok => hk h.1)]
  exact recOk_no r w hk

end Go.Proofs.YtahebgceoidebaaGreat

/- What records tell: the program's ItemsOk. -/
namespace Go.Proofs.YtahebgceoidebaaGreat
open Go.RowKit

theorem run_makeMap_hint {P : Program} {t k e : TypeId} (ht : P.underlying t = some (.map k e)) (n : Int) (w : World) : (Instr.makeMap t (some (.int .i64 n))).run P w = .ok (.map (some w.heap.size)) (w.alloc (.map #[] 0)) := by
  simp [Instr.makeMap, run_underlying ht, asInt, asIntOf, Result.andThen]

theorem wf_of {x : Int} (h1 : -9223372036854775808 ≤ x) (h2 : x ≤ 9223372036854775807) : (Lit.int .i64 x).wf = true := WalkArith.wf_i64 ⟨h1, h2⟩

/-- A map from a Seq to its record holds the first i items. -/
def SeqF (l : List Itm) (i : Nat) (f : Int → Option Rc) : Prop := ∀ q r, f q = some r ↔ ((q, r) : Itm) ∈ l.take i
theorem SeqF.zero (l : List Itm) : SeqF l 0 (fun _ => none) := fun q r => by simp
theorem SeqF.next {l : List Itm} {i : Nat} {f : Int → Option Rc} {q : Int} {r : Rc} (h : SeqF l i f) (hx : l[i]? = some (q, r)) (hf : f q = none ∨ f q = some r) : SeqF l (i + 1) (fun y => if y = q then some r else f y) := by
  intro q' r'
  have e : l.take (i + 1) = l.take i ++ [(q, r)] := by rw [List.take_add_one, hx]; rfl
  rw [e, List.mem_append]
  by_cases c : q' = q
  · subst c
    simp only [if_true, Option.some.injEq, List.mem_singleton, Prod.mk.injEq, true_and]
    constructor
    · intro e2; exact .inr e2.symm
    · rintro (h1 | h1)
      · have := (h q' r').2 h1
        rcases hf with hf | hf
        · rw [hf] at this; cases this
        · rw [hf] at this; cases this; rfl
      · exact h1.symm
  · simp only [if_neg c, List.mem_singleton, Prod.mk.injEq]
    constructor
    · intro e2; exact .inl ((h q' r').1 e2)
    · rintro (h1 | h1)
      · exact (h q' r').2 h1
      · exact absurd h1.1 c
theorem SeqF.at' {l : List Itm} {i : Nat} {f : Int → Option Rc} (h : SeqF l i f) {q : Int} {r : Rc} (hf : f q = some r) : ∃ j, j < i ∧ l[j]? = some (q, r) := by
  have := (h q r).1 hf
  obtain ⟨j, hj, e⟩ := List.getElem_of_mem this
  have hj' : j < i ∧ j < l.length := by rw [List.length_take] at hj; omega
  refine ⟨j, hj'.1, ?_⟩
  rw [List.getElem_take] at e
  rw [List.getElem?_eq_getElem hj'.2, e]
theorem SeqF.none' {l : List Itm} {i : Nat} {f : Int → Option Rc} (h : SeqF l i f) {q : Int} (hf : f q = none) {j : Nat} {x : Itm} (hj : l[j]? = some x) (hl : j < i) : x.1 ≠ q := by
  intro e
  have : ((q, x.2) : Itm) ∈ l.take i := by
    rw [← e]
    exact List.mem_of_getElem? (i := j) (by rw [List.getElem?_take, if_pos hl]; exact hj)
  rw [(h q x.2).2 this] at hf
  cases hf

theorem rcv_inj (x y : Rc) (h : x.v = y.v) : x = y := by
  obtain ⟨a0, a1, a2, a3, a4, a5, a6, a7⟩ := x
  obtain ⟨b0, b1, b2, b3, b4, b5, b6, b7⟩ := y
  simp only [Rc.v] at h
  injection h with h
  simp only [Array.mk.injEq, List.cons.injEq, Value.int.injEq, Value.string.injEq, true_and, and_true] at h
  obtain ⟨rfl, rfl, rfl, rfl, rfl, rfl, rfl, rfl⟩ := h
  rfl

theorem frameNumberOk_yes (n : Int) (w : World) (h1 : 1 ≤ n) (h2 : n ≤ 1000000000) : Calls Tryz.prog 53 #[.int .i64 n] w fun e w' => e = .returned (.bool true) ∧ w = w' := by
  go_enter Tryz.func53, Tryz.ntmps53
  go_wp2
  go_ret
  simp
theorem frameNumberOk_no (n : Int) (w : World) (h : ¬ (1 ≤ n ∧ n ≤ 1000000000)) : Calls Tryz.prog 53 #[.int .i64 n] w fun e w' => e = .returned (.bool false) ∧ w = w' := by
  by_cases h1 : 1 ≤ n
  · have h2 : ¬ n ≤ 1000000000 := fun c => h ⟨h1, c⟩
    clear h
    go_enter Tryz.func53, Tryz.ntmps53
    go_wp2
    go_ret
    simp
  · clear h
    go_enter Tryz.func53, Tryz.ntmps53
    go_wp2
    go_ret
    simp

theorem rc_part {r s : Rc} (h : r ≠ s) : r.kind ≠ s.kind ∨ (r.kind = s.kind ∧ r.valid ≠ s.valid) ∨ (r.kind = s.kind ∧ r.valid = s.valid ∧ r.uid ≠ s.uid) ∨ (r.kind = s.kind ∧ r.valid = s.valid ∧ r.uid = s.uid ∧ r.next ≠ s.next) ∨ (r.kind = s.kind ∧ r.valid = s.valid ∧ r.uid = s.uid ∧ r.next = s.next ∧ r.flags ≠ s.flags) ∨
    (r.kind = s.kind ∧ r.valid = s.valid ∧ r.uid = s.uid ∧ r.next = s.next ∧ r.flags = s.flags ∧ r.user ≠ s.user) ∨ (r.kind = s.kind ∧ r.valid = s.valid ∧ r.uid = s.uid ∧ r.next = s.next ∧ r.flags = s.flags ∧ r.user = s.user ∧ r.name ≠ s.name) ∨ (r.kind = s.kind ∧ r.valid = s.valid ∧ r.uid = s.uid ∧ r.next = s.next ∧ r.flags = s.flags ∧ r.user = s.user ∧ r.name = s.name ∧ r.text ≠ s.text) := by
  obtain ⟨a0, a1, a2, a3, a4, a5, a6, a7⟩ := r
  obtain ⟨b0, b1, b2, b3, b4, b5, b6, b7⟩ := s
  simp only
  by_cases h0 : a0 = b0
  case neg => exact .inl h0
  by_cases h1 : a1 = b1
  case neg => exact .inr (.inl ⟨h0, h1⟩)
  by_cases h2 : a2 = b2
  case neg => exact .inr (.inr (.inl ⟨h0, h1, h2⟩))
  by_cases h3 : a3 = b3
  case neg => exact .inr (.inr (.inr (.inl ⟨h0, h1, h2, h3⟩)))
  by_cases h4 : a4 = b4
  case neg => exact .inr (.inr (.inr (.inr (.inl ⟨h0, h1, h2, h3, h4⟩))))
  by_cases h5 : a5 = b5
  case neg => exact .inr (.inr (.inr (.inr (.inr (.inl ⟨h0, h1, h2, h3, h4, h5⟩)))))
  by_cases h6 : a6 = b6
  case neg => exact .inr (.inr (.inr (.inr (.inr (.inr (.inl ⟨h0, h1, h2, h3, h4, h5, h6⟩))))))
  by_cases h7 : a7 = b7
  case neg => exact .inr (.inr (.inr (.inr (.inr (.inr (.inr ⟨h0, h1, h2, h3, h4, h5, h6, h7⟩))))))
  subst h0 h1 h2 h3 h4 h5 h6 h7
  exact absurd rfl h

/-- The keys of a map from whole numbers. -/
def iK : KeyE Tryz.prog Int := intK 3 Tryz.underlying3

set_option maxRecDepth 100000 in
theorem zero_rec (w : World) : (zeroValue 47).run Tryz.prog w = .ok (Rc.nil.v) w := by kernel_rfl

set_option maxRecDepth 100000 in
set_option maxHeartbeats 4000000 in
theorem implItemsOk_any (l : List Itm) (v : Value) (w : World) (h : Rows' itE w v l) (hl : l.length ≤ 1099511627776) :
    Calls Tryz.prog 40 #[v] w fun e w' => e = .returned (.bool (decide (itemsOk l))) ∧ Below w.heap.size w w' := by
  obtain ⟨ad, cap, rfl, hrow⟩ := h.items
  have HR := Lib.hid hrow
  clear h hrow
  obtain ⟨D, hD⟩ : ∃ D, decide (itemsOk l) = D := ⟨_, rfl⟩
  have HD := Lib.hid hD
  rw [hD]
  clear hD
  have hmm := fun n wx => run_makeMap_hint (P := Tryz.prog) (t := 87) Tryz.underlying87 n wx
  by_cases hlen : l.length ≤ 200
  case neg =>
    have hgt : (200 : Int) < (l.length : Int) := by omega
    go_enter Tryz.func40, Tryz.ntmps40
    go_wp2
    go_ret
    exact ⟨by rw [← HD.out, decide_eq_false (fun c => hlen c.2.2)]; rfl, Below.refl _ _⟩
  have hgt : ¬ (200 : Int) < (l.length : Int) := by omega
  have M0 : MapIs iK Rc.v (w.alloc (.map #[] 0)) w.heap.size 0 (fun _ => none) := MapIs.made _ _ _
  have b0 := belNew w (.map #[] 0)
  go_enter Tryz.func40, Tryz.ntmps40
  go_wp2
  generalize w.alloc (.map #[] 0) = w1 at M0 b0 ⊢
  obtain ⟨g, hg⟩ : ∃ g, w.heap.size = g := ⟨_, rfl⟩
  rw [hg] at M0
  have hgle : Hid (w.heap.size ≤ g) := show _ ≤ _ by omega
  rw [hg]
  clear hg hmm
  go_loopw [16] (fun iv wr => ∃ (i : Nat) (f : Int → Option Rc), i ≤ l.length ∧ iv = .int .i64 (i : Int) ∧ ItG l i ∧ SeqF l i f ∧ MapIs iK Rc.v wr g i f ∧ Below w.heap.size w wr) (fun iv _ => l.length - (intOf iv).toNat)
  case atStart => exact ⟨0, _, by omega, rfl, ItG.zero l, SeqF.zero l, M0, b0⟩
  case round =>
    clear M0 b0
    obtain ⟨i, f, hi, rfl, hG, hF, hM, hb⟩ := hrel
    have HG := Lib.hid hG
    have HF := Lib.hid hF
    have HM := Lib.hid hM
    clear hG hF hM
    by_cases hlt : i < l.length
    · obtain ⟨x, hx⟩ : ∃ x, l[i]? = some x := ⟨_, List.getElem?_eq_getElem hlt⟩
      obtain ⟨ga, oa, rfl, a0, a1, a2, a3, a4, a5, a6, a7, a8⟩ := HR.out _ hb i _ hx
      have HX := Lib.hid hx
      obtain ⟨sq, K, V, U, N, FL, US, NM, TX⟩ := x
      simp only at a0 a1 a2 a3 a4 a5 a6 a7 a8
      have hi0 : (0 : Int) ≤ (i : Int) := by omega
      have hi1 : (i : Int) < (l.length : Int) := by omega
      clear hx
      have hbn : Below w.heap.size w (wr.alloc (.cells #[.int .i64 sq, .int .i64 K, .int .i64 V, .int .i64 U, .int .i64 N, .int .i64 FL, .string US, .string NM, .string TX] 49)) := hb.trans ((belNew wr _).mono hb.size)
      by_cases hs : 1 ≤ sq ∧ sq ≤ 1000000000
      case neg =>
        have HS := Lib.hid hs
        clear hs
        go_wp2_with (go_at_call 53; refine (frameNumberOk_no _ _ HS.out).mono ?_; rintro e w5 ⟨rfl, rfl⟩)
        go_ret
        exact ⟨by rw [← HD.out, items_bad HX.out (fun c => HS.out c.1)]; rfl, hbn⟩
      obtain ⟨hs1, hs2⟩ := hs
      have hRO := fun wx => implRecOk_any ⟨K, V, U, N, FL, US, NM, TX⟩ wx
      unfold Rc.v at hRO
      by_cases hok : (⟨K, V, U, N, FL, US, NM, TX⟩ : Rc).ok
      case neg =>
        rw [decide_eq_false hok] at hRO
        have HO := Lib.hid hok
        clear hok
        go_wp2_with (first | (go_at_call 53; refine (frameNumberOk_yes _ _ hs1 hs2).mono ?_; rintro e w5 ⟨rfl, rfl⟩) | (go_at_call 54; refine (hRO _).mono ?_; rintro e w6 ⟨rfl, hb6⟩))
        go_ret
        exact ⟨by rw [← HD.out, items_bad HX.out (fun c => HO.out c.2)]; rfl, hbn.trans (hb6.mono hbn.size)⟩
      rw [decide_eq_true hok] at hRO
      have HO := Lib.hid hok
      clear hok
      have hwf : iK.ok sq := wf_of (by omega) (by omega)
      have bR : Below wr.heap.size wr (wr.alloc (.cells #[.int .i64 sq, .int .i64 K, .int .i64 V, .int .i64 U, .int .i64 N, .int .i64 FL, .string US, .string NM, .string TX] 49)) := belNew wr _
      have XB := Box.new wr #[.int .i64 sq, .int .i64 K, .int .i64 V, .int .i64 U, .int .i64 N, .int .i64 FL, .string US, .string NM, .string TX] 49
      have HRO : Hid (∀ X, Below wr.heap.size wr X → Box X wr.heap.size #[.int .i64 sq, .int .i64 K, .int .i64 V, .int .i64 U, .int .i64 N, .int .i64 FL, .string US, .string NM, .string TX] 49 → Calls Tryz.prog 54 #[.agg #[.int .i64 K, .int .i64 V, .int .i64 U, .int .i64 N, .int .i64 FL, .string US, .string NM, .string TX]] X fun e w' => e = .returned (.bool true) ∧ Below wr.heap.size wr w' ∧ Box w' wr.heap.size #[.int .i64 sq, .int .i64 K, .int .i64 V, .int .i64 U, .int .i64 N, .int .i64 FL, .string US, .string NM, .string TX] 49) := fun X hX hB => (hRO X).mono fun e w' ⟨h1, h2⟩ => ⟨h1, hX.trans (h2.mono hX.size), hB.later h2⟩
      clear hRO
      cases hf : f sq with
      | none =>
        have HFS := Lib.hid hf
        clear hf
        go_wp2_with (first | (go_at_call 53; refine (frameNumberOk_yes _ _ hs1 hs2).mono ?_; rintro e w5 ⟨rfl, rfl⟩) | (go_at_call 54; refine (HRO.out _ bR XB).mono ?_; rintro e w6 ⟨rfl, hb6, XB6⟩; have hlk := (HM.out.later hb6).look_gone (t := 87) Tryz.underlying87 (zero_rec w6) hwf HFS.out true; change (Instr.lookup 87 (.map (some g)) (.int .i64 sq) true).run Tryz.prog w6 = .ok (.tuple #[Rc.nil.v, .bool false]) w6 at hlk; unfold Rc.nil Rc.v at hlk; obtain ⟨q0, q1, q2, q3, q4, q5, q6, q7, q8, _⟩ := XB6.nine; obtain ⟨p0, p1, p2, p3, p4, p5, p6, p7, p8, _⟩ := (XB6.later (belNew w6 (.cells #[.int .i64 0, .int .i64 0, .int .i64 0, .int .i64 0, .int .i64 0, .string emp, .string emp, .string emp] 47))).nine) | (at_mapUpdate; refine wpList_put rfl _ _ _ _ rfl iK Rc.v rcv_inj _ Tryz.underlying87 g i f rfl ((HM.out.later hb6).later (belNew _ _)) (by unfold maxLen; omega) sq ⟨K, V, U, N, FL, US, NM, TX⟩ rfl rfl hwf ?_; intro w8 hM8 hg8 hs8))
        go_wp2
        go_roundw
        case rel => exact ⟨i + 1, _, by omega, by go_num, HG.out.next HX.out ⟨⟨hs1, hs2⟩, HO.out⟩ (fun j y hj hji e => absurd e (HF.out.none' HFS.out hj hji)), HF.out.next HX.out (.inl HFS.out), hM8, (hb.trans ((hb6.trans ((belNew w6 _).mono hb6.size)).mono hb.size)).grown hg8 (Nat.le_trans hb.size (Nat.le_trans hb6.size (by simp))) (fun j hj => by cases hj; exact hgle.out)⟩
        case measure => simp [intOf]; omega
      | some r0 =>
        have HFS := Lib.hid hf
        clear hf
        by_cases hr : r0 = ⟨K, V, U, N, FL, US, NM, TX⟩
        · subst hr
          go_wp2_with (first | (go_at_call 53; refine (frameNumberOk_yes _ _ hs1 hs2).mono ?_; rintro e w5 ⟨rfl, rfl⟩) | (go_at_call 54; refine (HRO.out _ bR XB).mono ?_; rintro e w6 ⟨rfl, hb6, XB6⟩; have hlk := (HM.out.later hb6).look_there (t := 87) Tryz.underlying87 (zero_rec w6) hwf HFS.out true; change (Instr.lookup 87 (.map (some g)) (.int .i64 sq) true).run Tryz.prog w6 = .ok (.tuple #[Rc.v ⟨K, V, U, N, FL, US, NM, TX⟩, .bool true]) w6 at hlk; unfold Rc.v at hlk; obtain ⟨q0, q1, q2, q3, q4, q5, q6, q7, q8, _⟩ := XB6.nine; obtain ⟨p0, p1, p2, p3, p4, p5, p6, p7, p8, _⟩ := (XB6.later (belNew w6 (.cells #[.int .i64 K, .int .i64 V, .int .i64 U, .int .i64 N, .int .i64 FL, .string US, .string NM, .string TX] 47))).nine) | (at_mapUpdate; refine wpList_put rfl _ _ _ _ rfl iK Rc.v rcv_inj _ Tryz.underlying87 g i f rfl ((HM.out.later hb6).later (belNew _ _)) (by unfold maxLen; omega) sq ⟨K, V, U, N, FL, US, NM, TX⟩ rfl rfl hwf ?_; intro w8 hM8 hg8 hs8))
          go_wp2
          go_roundw
          case rel =>
            refine ⟨i + 1, _, by omega, by go_num, HG.out.next HX.out ⟨⟨hs1, hs2⟩, HO.out⟩ (fun j y hj hji e => ?_), HF.out.next HX.out (.inr HFS.out), hM8, (hb.trans ((hb6.trans ((belNew w6 _).mono hb6.size)).mono hb.size)).grown hg8 (Nat.le_trans hb.size (Nat.le_trans hb6.size (by simp))) (fun j hj => by cases hj; exact hgle.out)⟩
            obtain ⟨yq, yr⟩ := y
            simp only at e
            subst e
            have : f yq = some yr := (HF.out yq yr).2 (List.mem_of_getElem? (i := j) (by rw [List.getElem?_take, if_pos hji]; exact hj))
            rw [HFS.out] at this
            cases this
            rfl
          case measure => simp [intOf]; omega
        · have hp := rc_part hr
          have HP : Hid (decide (itemsOk l) = false) := by
            obtain ⟨j, hj, ej⟩ := HF.out.at' HFS.out
            exact items_part ej HX.out rfl (fun e => hr (Prod.mk.inj e).2)
          obtain ⟨K0, V0, U0, N0, FL0, US0, NM0, TX0⟩ := r0
          simp only at hp
          clear hr
          rcases hp with h0 | ⟨rfl, h0⟩ | ⟨rfl, rfl, h0⟩ | ⟨rfl, rfl, rfl, h0⟩ | ⟨rfl, rfl, rfl, rfl, h0⟩ | ⟨rfl, rfl, rfl, rfl, rfl, h0⟩ | ⟨rfl, rfl, rfl, rfl, rfl, rfl, h0⟩ | ⟨rfl, rfl, rfl, rfl, rfl, rfl, rfl, h0⟩
          all_goals (
            try have hba : ¬ (_ : List UInt8) = _ := fun e => h0 ((ba_same _ _).1 e)
            go_wp2_with (first | (go_at_call 53; refine (frameNumberOk_yes _ _ hs1 hs2).mono ?_; rintro e w5 ⟨rfl, rfl⟩) | (go_at_call 54; refine (HRO.out _ bR XB).mono ?_; rintro e w6 ⟨rfl, hb6, XB6⟩; have hlk := (HM.out.later hb6).look_there (t := 87) Tryz.underlying87 (zero_rec w6) hwf HFS.out true; dsimp only [iK, intK, Rc.v, if_true] at hlk; obtain ⟨q0, q1, q2, q3, q4, q5, q6, q7, q8, _⟩ := XB6.nine; have XB7 := fun cs t => (XB6.later (belNew w6 (.cells cs t))).nine))
            go_ret
            exact ⟨by rw [← HD.out, HP.out]; rfl, hb.trans ((hb6.trans ((belNew w6 _).mono hb6.size)).mono hb.size)⟩)
    · go_wp2
      go_ret
      have e : i = l.length := by omega
      subst e
      exact ⟨by rw [← HD.out, HG.out.done, decide_eq_true hlen]; rfl, hb⟩

end Go.Proofs.YtahebgceoidebaaGreat

/- The library's sort and compare at the numbers of this program. -/
namespace Go.Proofs
open Go.Shelf
def Tryz.sortBox_ren : Go.Shelf.Ren := ⟨fun | 6 => 73 | 15 => 87 | 14 => 86 | 28 => 100 | 29 => 101 | 20 => 92 | 21 => 93 | 22 => 94 | 23 => 95 | 24 => 96 | 25 => 97 | 26 => 98 | 27 => 99 | 46 => 103 | 47 => 104 | 48 => 105 | 49 => 106 | 50 => 107 | 57 => 116 | n => n, fun | 22 => 31 | 24 => 67 | 25 => 108 | 3 => 3 | 39 => 85 | 0 => 0 | 53 => 149 | 55 => 151 | 4 => 4 | 46 => 143 | 45 => 142 | 50 => 90 | 5 => 5 | 9 => 9 | 66 => 153 | 70 => 157 | 76 => 164 | 77 => 165 | n => n, fun | n => n⟩
theorem Tryz.sortBox : Go.Proofs.SlLaysF0.n6 Tryz.prog Tryz.sortBox_ren := {
  mixed := by kernel_rfl
  f6 := ⟨Tryz.f73.name, by decide, Tryz.func73.trans (congrArg some (by kernel_rfl))⟩
  f14 := ⟨Tryz.f86.name, by decide, Tryz.func86.trans (congrArg some (by kernel_rfl))⟩
  f15 := Tryz.func87.trans (congrArg some (by kernel_rfl))
  f20 := ⟨Tryz.f92.name, by decide, Tryz.func92.trans (congrArg some (by kernel_rfl))⟩
  f21 := ⟨Tryz.f93.name, by decide, Tryz.func93.trans (congrArg some (by kernel_rfl))⟩
  f22 := ⟨Tryz.f94.name, by decide, Tryz.func94.trans (congrArg some (by kernel_rfl))⟩
  f23 := ⟨Tryz.f95.name, by decide, Tryz.func95.trans (congrArg some (by kernel_rfl))⟩
  f24 := ⟨Tryz.f96.name, by decide, Tryz.func96.trans (congrArg some (by kernel_rfl))⟩
  f25 := ⟨Tryz.f97.name, by decide, Tryz.func97.trans (congrArg some (by kernel_rfl))⟩
  f26 := ⟨Tryz.f98.name, by decide, Tryz.func98.trans (congrArg some (by kernel_rfl))⟩
  f27 := ⟨Tryz.f99.name, by decide, Tryz.func99.trans (congrArg some (by kernel_rfl))⟩
  f28 := Tryz.func100.trans (congrArg some (by kernel_rfl))
  f29 := Tryz.func101.trans (congrArg some (by kernel_rfl))
  f46 := ⟨Tryz.f103.name, by decide, Tryz.func103.trans (congrArg some (by kernel_rfl))⟩
  f47 := Tryz.func104.trans (congrArg some (by kernel_rfl))
  f48 := Tryz.func105.trans (congrArg some (by kernel_rfl))
  f49 := ⟨Tryz.f106.name, by decide, Tryz.func106.trans (congrArg some (by kernel_rfl))⟩
  f50 := ⟨Tryz.f107.name, by decide, Tryz.func107.trans (congrArg some (by kernel_rfl))⟩
  f57 := ⟨Tryz.f116.name, by decide, Tryz.func116.trans (congrArg some (by kernel_rfl))⟩
  t0 := Tryz.underlying0
  a0 := Tryz.isAgg0
  z0 := Tryz.sizeOf0
  v0 := Tryz.zeroValue0
  t3 := Tryz.underlying3
  a3 := Tryz.isAgg3
  z3 := Tryz.sizeOf3
  v3 := Tryz.zeroValue3
  t4 := Tryz.underlying4
  a4 := Tryz.isAgg4
  z4 := Tryz.sizeOf4
  v4 := Tryz.zeroValue4
  t5 := Tryz.underlying5
  a5 := Tryz.isAgg5
  z5 := Tryz.sizeOf5
  v5 := Tryz.zeroValue5
  t9 := Tryz.underlying9
  a9 := Tryz.isAgg9
  z9 := Tryz.sizeOf9
  v9 := Tryz.zeroValue9
  t22 := Tryz.underlying31
  a22 := Tryz.isAgg31
  z22 := Tryz.sizeOf31
  v22 := Tryz.zeroValue31
  t25 := Tryz.underlying108
  a25 := Tryz.isAgg108
  z25 := Tryz.sizeOf108
  v25 := Tryz.zeroValue108
  t39 := Tryz.underlying85
  a39 := Tryz.isAgg85
  z39 := Tryz.sizeOf85
  v39 := Tryz.zeroValue85
  t45 := Tryz.underlying142
  a45 := Tryz.isAgg142
  z45 := Tryz.sizeOf142
  v45 := Tryz.zeroValue142
  t46 := Tryz.underlying143
  a46 := Tryz.isAgg143
  z46 := Tryz.sizeOf143
  v46 := Tryz.zeroValue143
  t50 := Tryz.underlying90
  a50 := Tryz.isAgg90
  z50 := Tryz.sizeOf90
  v50 := Tryz.zeroValue90
  t53 := Tryz.underlying149
  a53 := Tryz.isAgg149
  z53 := Tryz.sizeOf149
  v53 := Tryz.zeroValue149
  t55 := Tryz.underlying151
  a55 := Tryz.isAgg151
  z55 := Tryz.sizeOf151
  v55 := Tryz.zeroValue151
  t66 := Tryz.underlying153
  a66 := Tryz.isAgg153
  z66 := Tryz.sizeOf153
  v66 := Tryz.zeroValue153
  t70 := Tryz.underlying157
  a70 := Tryz.isAgg157
  z70 := Tryz.sizeOf157
  v70 := Tryz.zeroValue157
  t76 := Tryz.underlying164
  a76 := Tryz.isAgg164
  z76 := Tryz.sizeOf164
  v76 := Tryz.zeroValue164
  t77 := Tryz.underlying165
  a77 := Tryz.isAgg165
  z77 := Tryz.sizeOf165
  v77 := Tryz.zeroValue165 }
def Tryz.sortMail_ren : Go.Shelf.Ren := ⟨fun | 6 => 90 | 15 => 87 | 14 => 102 | 28 => 100 | 29 => 101 | 20 => 108 | 21 => 109 | 22 => 110 | 23 => 111 | 24 => 112 | 25 => 113 | 26 => 114 | 27 => 115 | 46 => 117 | 47 => 104 | 48 => 105 | 49 => 118 | 50 => 119 | 57 => 120 | n => n, fun | 22 => 64 | 24 => 69 | 25 => 140 | 3 => 3 | 39 => 85 | 0 => 0 | 53 => 149 | 55 => 151 | 4 => 4 | 46 => 143 | 45 => 142 | 50 => 90 | 5 => 5 | 9 => 9 | 66 => 153 | 70 => 157 | 76 => 164 | 77 => 165 | n => n, fun | n => n⟩
theorem Tryz.sortMail : Go.Proofs.SlLaysF0.n6 Tryz.prog Tryz.sortMail_ren := {
  mixed := by kernel_rfl
  f6 := ⟨Tryz.f90.name, by decide, Tryz.func90.trans (congrArg some (by kernel_rfl))⟩
  f14 := ⟨Tryz.f102.name, by decide, Tryz.func102.trans (congrArg some (by kernel_rfl))⟩
  f15 := Tryz.func87.trans (congrArg some (by kernel_rfl))
  f20 := ⟨Tryz.f108.name, by decide, Tryz.func108.trans (congrArg some (by kernel_rfl))⟩
  f21 := ⟨Tryz.f109.name, by decide, Tryz.func109.trans (congrArg some (by kernel_rfl))⟩
  f22 := ⟨Tryz.f110.name, by decide, Tryz.func110.trans (congrArg some (by kernel_rfl))⟩
  f23 := ⟨Tryz.f111.name, by decide, Tryz.func111.trans (congrArg some (by kernel_rfl))⟩
  f24 := ⟨Tryz.f112.name, by decide, Tryz.func112.trans (congrArg some (by kernel_rfl))⟩
  f25 := ⟨Tryz.f113.name, by decide, Tryz.func113.trans (congrArg some (by kernel_rfl))⟩
  f26 := ⟨Tryz.f114.name, by decide, Tryz.func114.trans (congrArg some (by kernel_rfl))⟩
  f27 := ⟨Tryz.f115.name, by decide, Tryz.func115.trans (congrArg some (by kernel_rfl))⟩
  f28 := Tryz.func100.trans (congrArg some (by kernel_rfl))
  f29 := Tryz.func101.trans (congrArg some (by kernel_rfl))
  f46 := ⟨Tryz.f117.name, by decide, Tryz.func117.trans (congrArg some (by kernel_rfl))⟩
  f47 := Tryz.func104.trans (congrArg some (by kernel_rfl))
  f48 := Tryz.func105.trans (congrArg some (by kernel_rfl))
  f49 := ⟨Tryz.f118.name, by decide, Tryz.func118.trans (congrArg some (by kernel_rfl))⟩
  f50 := ⟨Tryz.f119.name, by decide, Tryz.func119.trans (congrArg some (by kernel_rfl))⟩
  f57 := ⟨Tryz.f120.name, by decide, Tryz.func120.trans (congrArg some (by kernel_rfl))⟩
  t0 := Tryz.underlying0
  a0 := Tryz.isAgg0
  z0 := Tryz.sizeOf0
  v0 := Tryz.zeroValue0
  t3 := Tryz.underlying3
  a3 := Tryz.isAgg3
  z3 := Tryz.sizeOf3
  v3 := Tryz.zeroValue3
  t4 := Tryz.underlying4
  a4 := Tryz.isAgg4
  z4 := Tryz.sizeOf4
  v4 := Tryz.zeroValue4
  t5 := Tryz.underlying5
  a5 := Tryz.isAgg5
  z5 := Tryz.sizeOf5
  v5 := Tryz.zeroValue5
  t9 := Tryz.underlying9
  a9 := Tryz.isAgg9
  z9 := Tryz.sizeOf9
  v9 := Tryz.zeroValue9
  t22 := Tryz.underlying64
  a22 := Tryz.isAgg64
  z22 := Tryz.sizeOf64
  v22 := Tryz.zeroValue64
  t25 := Tryz.underlying140
  a25 := Tryz.isAgg140
  z25 := Tryz.sizeOf140
  v25 := Tryz.zeroValue140
  t39 := Tryz.underlying85
  a39 := Tryz.isAgg85
  z39 := Tryz.sizeOf85
  v39 := Tryz.zeroValue85
  t45 := Tryz.underlying142
  a45 := Tryz.isAgg142
  z45 := Tryz.sizeOf142
  v45 := Tryz.zeroValue142
  t46 := Tryz.underlying143
  a46 := Tryz.isAgg143
  z46 := Tryz.sizeOf143
  v46 := Tryz.zeroValue143
  t50 := Tryz.underlying90
  a50 := Tryz.isAgg90
  z50 := Tryz.sizeOf90
  v50 := Tryz.zeroValue90
  t53 := Tryz.underlying149
  a53 := Tryz.isAgg149
  z53 := Tryz.sizeOf149
  v53 := Tryz.zeroValue149
  t55 := Tryz.underlying151
  a55 := Tryz.isAgg151
  z55 := Tryz.sizeOf151
  v55 := Tryz.zeroValue151
  t66 := Tryz.underlying153
  a66 := Tryz.isAgg153
  z66 := Tryz.sizeOf153
  v66 := Tryz.zeroValue153
  t70 := Tryz.underlying157
  a70 := Tryz.isAgg157
  z70 := Tryz.sizeOf157
  v70 := Tryz.zeroValue157
  t76 := Tryz.underlying164
  a76 := Tryz.isAgg164
  z76 := Tryz.sizeOf164
  v76 := Tryz.zeroValue164
  t77 := Tryz.underlying165
  a77 := Tryz.isAgg165
  z77 := Tryz.sizeOf165
  v77 := Tryz.zeroValue165 }
def Tryz.cmpInt_ren : Go.Shelf.Ren := ⟨fun | 5 => 80 | 7 => 88 | n => n, fun | 22 => 3 | 3 => 3 | 4 => 4 | n => n, fun | n => n⟩
theorem Tryz.cmpInt : Go.Proofs.SlLaysC2.n5 Tryz.prog Tryz.cmpInt_ren := {
  mixed := by kernel_rfl
  f5 := ⟨Tryz.f80.name, by decide, Tryz.func80.trans (congrArg some (by kernel_rfl))⟩
  f7 := ⟨Tryz.f88.name, by decide, Tryz.func88.trans (congrArg some (by kernel_rfl))⟩
  t3 := Tryz.underlying3
  a3 := Tryz.isAgg3
  z3 := Tryz.sizeOf3
  v3 := Tryz.zeroValue3
  t4 := Tryz.underlying4
  a4 := Tryz.isAgg4
  z4 := Tryz.sizeOf4
  v4 := Tryz.zeroValue4
  t22 := Tryz.underlying3
  a22 := Tryz.isAgg3
  z22 := Tryz.sizeOf3
  v22 := Tryz.zeroValue3 }
end Go.Proofs

/- How the records of a box are gathered in memory; the latest of a mail. -/
namespace Go.Proofs.YtahebgceoidebaaGreat
open Go.RowKit

/-- An item's value. -/
def itmV (x : Itm) : Value := itV x.1 x.2
theorem itmV_inj (x y : Itm) (h : itmV x = itmV y) : x = y := by
  obtain ⟨s, a0, a1, a2, a3, a4, a5, a6, a7⟩ := x
  obtain ⟨s', b0, b1, b2, b3, b4, b5, b6, b7⟩ := y
  simp only [itmV, itV] at h
  injection h with h
  simp only [Array.mk.injEq, List.cons.injEq, Value.int.injEq, Value.string.injEq, true_and, and_true] at h
  obtain ⟨rfl, rfl, rfl, rfl, rfl, rfl, rfl, rfl, rfl⟩ := h
  rfl
/-- A pointer to a block. -/
def ptrV (g : Nat) : Value := .pointer (some ⟨g, 0, none⟩)
theorem ptrV_inj (x y : Nat) (h : ptrV x = ptrV y) : x = y := by
  unfold ptrV at h
  injection h with h
  injection h with h
  injection h

/-- The cells of what is gathered of a box: its maps stand in the blocks a and a + 1. -/
def tbC (a : Nat) (t : Tb) : Array Value := #[.int .i64 t.named.1, .int .i64 t.named.2.kind, .int .i64 t.named.2.valid, .int .i64 t.named.2.uid, .int .i64 t.named.2.next, .int .i64 t.named.2.flags, .string t.named.2.user, .string t.named.2.name, .string t.named.2.text, .int .i64 t.next, .map (some a), .map (some (a + 1))]
/-- What is gathered of a box lies in the blocks a, a + 1 and a + 2. -/
structure TbAt (w : World) (a n : Nat) (t : Tb) : Prop where
  box : Box w (a + 2) (tbC a t) 105
  adds : MapIs iK itmV w a n t.adds
  flags : MapIs iK itmV w (a + 1) n t.flags
theorem TbAt.later {w w' : World} {a n : Nat} {t : Tb} (h : TbAt w a n t) (hb : Below w.heap.size w w') : TbAt w' a n t := ⟨h.box.later hb, h.adds.later hb, h.flags.later hb⟩
theorem TbAt.kept {w w' : World} {a n : Nat} {t : Tb} {r : Option Nat} (h : TbAt w a n t) (hg : w.grownBy w' r) (h0 : some a ≠ r) (h1 : some (a + 1) ≠ r) (h2 : some (a + 2) ≠ r) : TbAt w' a n t :=
  ⟨(hg.block _ h.box.lt h2).trans h.box, h.adds.kept hg h0, h.flags.kept hg h1⟩
theorem TbAt.mono {w : World} {a n n' : Nat} {t : Tb} (h : TbAt w a n t) (hn : n ≤ n') : TbAt w a n' t := ⟨h.box, h.adds.mono hn, h.flags.mono hn⟩
theorem TbAt.same {w w' : World} {a n : Nat} {t : Tb} (h : TbAt w a n t) (e0 : w'.heap[a]? = w.heap[a]?) (e1 : w'.heap[a + 1]? = w.heap[a + 1]?) (e2 : w'.heap[a + 2]? = w.heap[a + 2]?) : TbAt w' a n t :=
  ⟨e2.trans h.box, h.adds.same e0, h.flags.same e1⟩

set_option maxRecDepth 100000 in
theorem zero_item (w : World) : (zeroValue 49).run Tryz.prog w = .ok (itmV (0, Rc.nil)) w := by kernel_rfl

set_option maxRecDepth 100000 in
set_option maxHeartbeats 2000000 in
/-- The latest of a mail is kept: nothing but that map has turned. -/
theorem keepLatest_any (f : Int → Option Itm) (x : Itm) (g n : Nat) (w : World) (h : MapIs iK itmV w g n f) (hn : n ≤ 1000000) (hu : iK.ok x.2.uid) :
    Calls Tryz.prog 89 #[.map (some g), itmV x] w fun e w' => e = .returned (.tuple #[]) ∧ MapIs iK itmV w' g (n + 1) (keepL f x) ∧ w.grownBy w' (some g) := by
  have gA := World.grownBy_alloc w (.cells #[.int .i64 x.1, .int .i64 x.2.kind, .int .i64 x.2.valid, .int .i64 x.2.uid, .int .i64 x.2.next, .int .i64 x.2.flags, .string x.2.user, .string x.2.name, .string x.2.text] 49) (some g)
  have M1 := h.later (belNew w (.cells #[.int .i64 x.1, .int .i64 x.2.kind, .int .i64 x.2.valid, .int .i64 x.2.uid, .int .i64 x.2.next, .int .i64 x.2.flags, .string x.2.user, .string x.2.name, .string x.2.text] 49))
  have X1 := Box.new w #[.int .i64 x.1, .int .i64 x.2.kind, .int .i64 x.2.valid, .int .i64 x.2.uid, .int .i64 x.2.next, .int .i64 x.2.flags, .string x.2.user, .string x.2.name, .string x.2.text] 49
  obtain ⟨z, hz, hzs⟩ : ∃ z : Itm, (Instr.lookup 103 (.map (some g)) (.int .i64 x.2.uid) false).run Tryz.prog (w.alloc (.cells #[.int .i64 x.1, .int .i64 x.2.kind, .int .i64 x.2.valid, .int .i64 x.2.uid, .int .i64 x.2.next, .int .i64 x.2.flags, .string x.2.user, .string x.2.name, .string x.2.text] 49)) = .ok (itmV z) (w.alloc (.cells #[.int .i64 x.1, .int .i64 x.2.kind, .int .i64 x.2.valid, .int .i64 x.2.uid, .int .i64 x.2.next, .int .i64 x.2.flags, .string x.2.user, .string x.2.name, .string x.2.text] 49)) ∧ sqO (f x.2.uid) = z.1 := by
    cases hf : f x.2.uid with
    | none => exact ⟨(0, Rc.nil), M1.look_gone (t := 103) Tryz.underlying103 (zero_item _) hu hf false, rfl⟩
    | some y => exact ⟨y, M1.look_there (t := 103) Tryz.underlying103 (zero_item _) hu hf false, rfl⟩
  have HZS := Lib.hid hzs
  have HM := Lib.hid M1
  have HU := Lib.hid hu
  have HGA := Lib.hid gA
  clear hzs M1 hu gA h
  obtain ⟨q0, q1, q2, q3, q4, q5, q6, q7, q8, _⟩ := X1.nine
  clear X1
  have hfd : ∀ wx, (Instr.field 49 (itmV z) 0).run Tryz.prog wx = .ok (.int .i64 z.1) wx := fun _ => by kernel_rfl
  by_cases hlt : z.1 < x.1
  · have HK : Hid (keepL f x = fun u => if u = x.2.uid then some x else f u) := keepL_lt (by rw [HZS.out]; exact hlt)
    obtain ⟨zs, zr⟩ := z
    obtain ⟨sq, K, V, U, N, FL, US, NM, TX⟩ := x
    unfold itmV itV at hz hfd ⊢
    simp only at hz hfd hlt HK HU HM HGA q0 q1 q2 q3 q4 q5 q6 q7 q8 ⊢
    go_enter Tryz.func89, Tryz.ntmps89
    go_wp2_with (at_mapUpdate; refine wpList_put rfl _ _ _ _ rfl iK itmV itmV_inj _ Tryz.underlying103 g n f rfl HM.out (by unfold maxLen; omega) U (sq, ⟨K, V, U, N, FL, US, NM, TX⟩) rfl rfl HU.out ?_; intro w8 hM8 hg8 hs8)
    go_end0
    exact ⟨rfl, by rw [HK.out]; exact hM8, HGA.out.trans hg8⟩
  · have HK : Hid (keepL f x = f) := keepL_ge (by rw [HZS.out]; exact hlt)
    obtain ⟨zs, zr⟩ := z
    obtain ⟨sq, K, V, U, N, FL, US, NM, TX⟩ := x
    unfold itmV itV at hz hfd ⊢
    simp only at hz hfd hlt HK HU HM HGA q0 q1 q2 q3 q4 q5 q6 q7 q8 ⊢
    go_enter Tryz.func89, Tryz.ntmps89
    go_wp2
    go_end0
    exact ⟨rfl, by rw [HK.out]; exact HM.out.mono (by omega), HGA.out⟩

theorem compare_any (x y : Int) (w : World) : Calls Tryz.prog 80 #[.int .i64 x, .int .i64 y] w fun e w' => e = .returned (.int .i64 (Lib.compareInt x y)) ∧ w = w' :=
  (AnyG.cmp_Compare_int Tryz.cmpInt x y w).mono fun _ _ ⟨h1, h2⟩ => ⟨h1, h2.symm⟩

set_option maxRecDepth 100000 in
set_option maxHeartbeats 1000000 in
/-- The first of two numbers that is not 0. -/
theorem cmpOr_any (x y : Int) (g : Nat) (w : World) (h0 : w.cell? ⟨g, 0, none⟩ = some (.int .i64 x)) (h1 : w.cell? ⟨g, 1, none⟩ = some (.int .i64 y)) :
    Calls Tryz.prog 79 #[.slice (some ⟨g, 0, none⟩) 2 2] w fun e w' => e = .returned (.int .i64 (if x ≠ 0 then x else y)) ∧ w = w' := by
  obtain ⟨D, hD⟩ : ∃ D, (if x ≠ 0 then x else y) = D := ⟨_, rfl⟩
  have HD := Lib.hid hD
  rw [hD]
  clear hD
  go_enter Tryz.func79, Tryz.ntmps79
  go_wp2
  go_loopw [8] (fun iv wr => (iv = .int .i64 0 ∨ (iv = .int .i64 1 ∧ Hid (x = 0)) ∨ (iv = .int .i64 2 ∧ Hid (x = 0) ∧ Hid (y = 0))) ∧ w = wr) (fun iv _ => 2 - (intOf iv).toNat)
  case atStart => exact ⟨.inl rfl, rfl⟩
  case round =>
    obtain ⟨hc, rfl⟩ := hrel
    rcases hc with rfl | ⟨rfl, hx⟩ | ⟨rfl, hx, hy⟩
    · by_cases hx : x = 0
      · have HX := Lib.hid hx
        go_wp2
        exact ⟨⟨.inr (.inl ⟨by first | rfl | go_num, HX⟩), by trivial⟩, by simp [intOf]⟩
      · have HX := Lib.hid hx
        go_wp2
        go_ret
        exact ⟨by rw [← HD.out, if_pos HX.out]; rfl, rfl⟩
    · by_cases hy : y = 0
      · have HY := Lib.hid hy
        go_wp2
        exact ⟨⟨.inr (.inr ⟨by first | rfl | go_num, hx, HY⟩), by trivial⟩, by simp [intOf]⟩
      · go_wp2
        go_ret
        exact ⟨by rw [← HD.out, if_neg (fun c => c hx.out)]; rfl, rfl⟩
    · go_wp2
      go_ret
      exact ⟨by rw [← HD.out, if_neg (fun c => c hx.out), hy.out]; rfl, rfl⟩

end Go.Proofs.YtahebgceoidebaaGreat
