/- Texts of our own, joined. -/
import Derived.Test.YtlifgcgoehkinaaGreatDoorJdx
/- The records of a box gathered: one record more. -/
namespace Go.Proofs.YtlifgcgoehkinaaGreatDoor
open Go.RowKit

def nsC (x y : Itm) : Int := if Lib.compareInt x.2.next y.2.next ≠ 0 then Lib.compareInt x.2.next y.2.next else Lib.compareInt x.1 y.1
theorem nsC_pos (x y : Itm) : 0 < nsC x y ↔ aheadB (fun z => z.2.next) x y = true := by
  unfold nsC aheadB Lib.compareInt
  simp only [decide_eq_true_eq]
  by_cases h1 : x.2.next < y.2.next
  · simp [h1]; omega
  · by_cases h2 : y.2.next < x.2.next
    · simp [h1, h2]
    · have h3 : x.2.next = y.2.next := by omega
      simp only [h3, Int.lt_irrefl, if_false]
      by_cases h4 : x.1 < y.1
      · simp [h4]; omega
      · by_cases h5 : y.1 < x.1
        · simp [h4, h5]
        · simp [h4, h5]

set_option maxRecDepth 100000 in
set_option maxHeartbeats 2000000 in
theorem byNextAndSeq_any (x y : Itm) (w : World) : Calls Tryz.prog 83 #[itmV x, itmV y] w fun e w' => e = .returned (.int .i64 (nsC x y)) ∧ Below w.heap.size w w' := by
  have X0 := (Box.new w #[.int .i64 x.1, .int .i64 x.2.kind, .int .i64 x.2.valid, .int .i64 x.2.uid, .int .i64 x.2.next, .int .i64 x.2.flags, .string x.2.user, .string x.2.name, .string x.2.text] 68).later (belNew _ (.cells #[.int .i64 y.1, .int .i64 y.2.kind, .int .i64 y.2.valid, .int .i64 y.2.uid, .int .i64 y.2.next, .int .i64 y.2.flags, .string y.2.user, .string y.2.name, .string y.2.text] 68))
  have X1 := Box.new (w.alloc (.cells #[.int .i64 x.1, .int .i64 x.2.kind, .int .i64 x.2.valid, .int .i64 x.2.uid, .int .i64 x.2.next, .int .i64 x.2.flags, .string x.2.user, .string x.2.name, .string x.2.text] 68)) #[.int .i64 y.1, .int .i64 y.2.kind, .int .i64 y.2.valid, .int .i64 y.2.uid, .int .i64 y.2.next, .int .i64 y.2.flags, .string y.2.user, .string y.2.name, .string y.2.text] 68
  rw [show (w.alloc (.cells #[.int .i64 x.1, .int .i64 x.2.kind, .int .i64 x.2.valid, .int .i64 x.2.uid, .int .i64 x.2.next, .int .i64 x.2.flags, .string x.2.user, .string x.2.name, .string x.2.text] 68)).heap.size = w.heap.size + 1 from by simp] at X1
  have b1 : Below w.heap.size w ((w.alloc (.cells #[.int .i64 x.1, .int .i64 x.2.kind, .int .i64 x.2.valid, .int .i64 x.2.uid, .int .i64 x.2.next, .int .i64 x.2.flags, .string x.2.user, .string x.2.name, .string x.2.text] 68)).alloc (.cells #[.int .i64 y.1, .int .i64 y.2.kind, .int .i64 y.2.valid, .int .i64 y.2.uid, .int .i64 y.2.next, .int .i64 y.2.flags, .string y.2.user, .string y.2.name, .string y.2.text] 68)) := ((Below.refl _ _).alloc (Nat.le_refl _) _).alloc (by simp) _
  obtain ⟨D, hD⟩ : ∃ D, nsC x y = D := ⟨_, rfl⟩
  have HD := Lib.hid hD
  rw [hD]
  clear hD
  unfold itmV itV
  go_enter Tryz.func83, Tryz.ntmps83
  go_upto_region 1 with fail
  generalize (w.alloc (.cells #[.int .i64 x.1, .int .i64 x.2.kind, .int .i64 x.2.valid, .int .i64 x.2.uid, .int .i64 x.2.next, .int .i64 x.2.flags, .string x.2.user, .string x.2.name, .string x.2.text] 68)).alloc (.cells #[.int .i64 y.1, .int .i64 y.2.kind, .int .i64 y.2.valid, .int .i64 y.2.uid, .int .i64 y.2.next, .int .i64 y.2.flags, .string y.2.user, .string y.2.name, .string y.2.text] 68) = w1 at X0 X1 b1 ⊢
  obtain ⟨g1, hg1⟩ : ∃ g1, w.heap.size + 1 = g1 := ⟨_, rfl⟩
  rw [hg1] at X1 ⊢
  obtain ⟨g0, hg0⟩ : ∃ g0, w.heap.size = g0 := ⟨_, rfl⟩
  rw [hg0] at X0
  have r0 : ∀ X, Below w1.heap.size w1 X → X.cell? ⟨g0, 4, none⟩ = some (.int .i64 x.2.next) := fun X hb => (X0.later hb).cell 4 _ rfl
  have r1 : ∀ X, Below w1.heap.size w1 X → X.cell? ⟨g1, 4, none⟩ = some (.int .i64 y.2.next) := fun X hb => (X1.later hb).cell 4 _ rfl
  have r2 : ∀ X, Below w1.heap.size w1 X → X.cell? ⟨g0, 0, none⟩ = some (.int .i64 x.1) := fun X hb => (X0.later hb).cell 0 _ rfl
  have r3 : ∀ X, Below w1.heap.size w1 X → X.cell? ⟨g1, 0, none⟩ = some (.int .i64 y.1) := fun X hb => (X1.later hb).cell 0 _ rfl
  have HB := Lib.hid b1
  have HG0 := Lib.hid hg0
  have HG1 := Lib.hid hg1
  rw [hg0]
  clear X0 X1 b1 hg0 hg1
  refine wp_region_held_drew (S := fun x => Below w1.heap.size w1 x) (by kernel_rfl) ((Below.refl _ _).drew) (fun hHeld => ?_)
  refine takeL (i := 0) (v := .pointer (some ⟨g0, 1, none⟩)) rfl (by kernel_rfl) (by kernel_rfl) (by kernel_rfl) (fun _ _ _ h => h) (Or.inl ⟨by rfl, ?_⟩) (by assumption) ?_
  · intro x hSx; go_simp
  try simp only [Act.put, List.setIfInBounds_toArray, List.set_cons_zero, List.set_cons_succ]
  refine takeL (i := 1) (v := .pointer (some ⟨g0, 4, none⟩)) rfl (by kernel_rfl) (by kernel_rfl) (by kernel_rfl) (fun _ _ _ h => h) (Or.inl ⟨by rfl, ?_⟩) (by assumption) ?_
  · intro x hSx; go_simp
  try simp only [Act.put, List.setIfInBounds_toArray, List.set_cons_zero, List.set_cons_succ]
  refine takeL (i := 2) (v := .int .i64 x.2.next) rfl (by kernel_rfl) (by kernel_rfl) (by kernel_rfl) (fun _ _ _ h => h) (Or.inl ⟨by rfl, ?_⟩) (by assumption) ?_
  · intro x hSx; have q0 := r0 x hSx; go_simp
  try simp only [Act.put, List.setIfInBounds_toArray, List.set_cons_zero, List.set_cons_succ]
  refine takeL (i := 3) (v := .pointer (some ⟨g1, 1, none⟩)) rfl (by kernel_rfl) (by kernel_rfl) (by kernel_rfl) (fun _ _ _ h => h) (Or.inl ⟨by rfl, ?_⟩) (by assumption) ?_
  · intro x hSx; go_simp
  try simp only [Act.put, List.setIfInBounds_toArray, List.set_cons_zero, List.set_cons_succ]
  refine takeL (i := 4) (v := .pointer (some ⟨g1, 4, none⟩)) rfl (by kernel_rfl) (by kernel_rfl) (by kernel_rfl) (fun _ _ _ h => h) (Or.inl ⟨by rfl, ?_⟩) (by assumption) ?_
  · intro x hSx; go_simp
  try simp only [Act.put, List.setIfInBounds_toArray, List.set_cons_zero, List.set_cons_succ]
  refine takeL (i := 5) (v := .int .i64 y.2.next) rfl (by kernel_rfl) (by kernel_rfl) (by kernel_rfl) (fun _ _ _ h => h) (Or.inl ⟨by rfl, ?_⟩) (by assumption) ?_
  · intro x hSx; have q0 := r1 x hSx; go_simp
  try simp only [Act.put, List.setIfInBounds_toArray, List.set_cons_zero, List.set_cons_succ]
  refine takeL (i := 7) (v := .pointer (some ⟨g0, 0, none⟩)) rfl (by kernel_rfl) (by kernel_rfl) (by kernel_rfl) (fun _ _ _ h => h) (Or.inl ⟨by rfl, ?_⟩) (by assumption) ?_
  · intro x hSx; go_simp
  try simp only [Act.put, List.setIfInBounds_toArray, List.set_cons_zero, List.set_cons_succ]
  refine takeL (i := 8) (v := .int .i64 x.1) rfl (by kernel_rfl) (by kernel_rfl) (by kernel_rfl) (fun _ _ _ h => h) (Or.inl ⟨by rfl, ?_⟩) (by assumption) ?_
  · intro x hSx; have q0 := r2 x hSx; go_simp
  try simp only [Act.put, List.setIfInBounds_toArray, List.set_cons_zero, List.set_cons_succ]
  refine takeL (i := 9) (v := .pointer (some ⟨g1, 0, none⟩)) rfl (by kernel_rfl) (by kernel_rfl) (by kernel_rfl) (fun _ _ _ h => h) (Or.inl ⟨by rfl, ?_⟩) (by assumption) ?_
  · intro x hSx; go_simp
  try simp only [Act.put, List.setIfInBounds_toArray, List.set_cons_zero, List.set_cons_succ]
  refine takeL (i := 10) (v := .int .i64 y.1) rfl (by kernel_rfl) (by kernel_rfl) (by kernel_rfl) (fun _ _ _ h => h) (Or.inl ⟨by rfl, ?_⟩) (by assumption) ?_
  · intro x hSx; have q0 := r3 x hSx; go_simp
  try simp only [Act.put, List.setIfInBounds_toArray, List.set_cons_zero, List.set_cons_succ]
  refine wpAnyH_ready (rs := [6]) (by kernel_rfl) (by simp) ?_
  refine readyOne rfl (fun K' hK => ?_)
  go_simp
  refine (compare_any _ _ _).mono ?_
  rintro e wT ⟨rfl, rfl⟩
  go_wp2_with fail
  refine hK.out _ _ (hHeld) (fun hS2 => ?_)
  clear hK K' hHeld
  have hHeld := hS2
  clear hS2
  try simp only [Act.put, List.setIfInBounds_toArray, List.set_cons_zero, List.set_cons_succ]
  refine wpAnyH_ready (rs := [11]) (by kernel_rfl) (by simp) ?_
  refine readyOne rfl (fun K' hK => ?_)
  go_simp
  refine (compare_any _ _ _).mono ?_
  rintro e wT ⟨rfl, rfl⟩
  go_wp2_with fail
  refine hK.out _ _ (hHeld) (fun hS2 => ?_)
  clear hK K' hHeld
  have hHeld := hS2
  clear hS2
  try simp only [Act.put, List.setIfInBounds_toArray, List.set_cons_zero, List.set_cons_succ]
  refine wpAnyH_ready (rs := [12]) (by kernel_rfl) (by simp) ?_
  refine readyOne rfl (fun K' hK => ?_)
  go_simp
  refine hK.out _ _ (belNew0 w1 _) (fun hS2 => ?_)
  clear hK K' hHeld
  have hHeld := hS2
  clear hS2
  try simp only [Act.put, List.setIfInBounds_toArray, List.set_cons_zero, List.set_cons_succ]
  have XN := Box.new w1 #[.int .i64 (Lib.compareInt x.2.next y.2.next), .int .i64 (Lib.compareInt x.1 y.1)] 3
  have z0 : (w1.alloc (.cells #[.int .i64 (Lib.compareInt x.2.next y.2.next), .int .i64 (Lib.compareInt x.1 y.1)] 3)).drew.cell? ⟨w1.heap.size, 0, none⟩ = some (.int .i64 (Lib.compareInt x.2.next y.2.next)) := XN.cell 0 _ rfl
  have z1 : (w1.alloc (.cells #[.int .i64 (Lib.compareInt x.2.next y.2.next), .int .i64 (Lib.compareInt x.1 y.1)] 3)).drew.cell? ⟨w1.heap.size, 1, none⟩ = some (.int .i64 (Lib.compareInt x.1 y.1)) := XN.cell 1 _ rfl
  have HOR := Lib.hid (cmpOr_any _ _ _ _ z0 z1)
  clear XN z0 z1
  generalize (w1.alloc (.cells #[.int .i64 (Lib.compareInt x.2.next y.2.next), .int .i64 (Lib.compareInt x.1 y.1)] 3)).drew = w2 at HOR hHeld ⊢
  rw [show (if Lib.compareInt x.2.next y.2.next ≠ 0 then Lib.compareInt x.2.next y.2.next else Lib.compareInt x.1 y.1) = D from HD.out] at HOR
  refine wpAnyH_ready (rs := [13]) (by kernel_rfl) (by simp) ?_
  refine readyOne rfl (fun K' hK => ?_)
  go_simp
  refine HOR.out.mono ?_
  rintro e wT ⟨rfl, rfl⟩
  go_wp2_with fail
  refine hK.out _ _ hHeld (fun hS2 => ?_)
  clear hK K' hHeld
  have hHeld := hS2
  clear hS2
  try simp only [Act.put, List.setIfInBounds_toArray, List.set_cons_zero, List.set_cons_succ]
  refine takeL (i := 14) (v := .int .i64 D) rfl (by kernel_rfl) (by kernel_rfl) (by kernel_rfl) (fun _ _ _ h => h) (Or.inl ⟨by rfl, ?_⟩) (by assumption) ?_
  · intro x hSx; go_simp
  try simp only [Act.put, List.setIfInBounds_toArray, List.set_cons_zero, List.set_cons_succ]
  refine wpAnyH_done (by kernel_rfl) ?_ _
  go_wp2
  go_ret
  exact ⟨rfl, HB.out.trans (hHeld.mono HB.out.size)⟩

end Go.Proofs.YtlifgcgoehkinaaGreatDoor
