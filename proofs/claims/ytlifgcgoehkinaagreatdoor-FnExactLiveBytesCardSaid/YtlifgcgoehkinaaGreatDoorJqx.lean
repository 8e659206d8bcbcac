/- Texts of our own, joined. -/
import Derived.Test.YtlifgcgoehkinaaGreatDoorJpx
/- LiveBytes of the model and of the program. -/
namespace Go.Proofs.YtlifgcgoehkinaaGreatDoor
open Go.RowKit

noncomputable def lbP (S : So) : Nat → Nat
  | 0 => 0
  | k + 1 => lbP S k + szI S k
noncomputable def lbO (S : So) : Int := (lbP S S.g.used.length : Int)
theorem lbP_le (S : So) (hL : S.lean) (k : Nat) : lbP S k ≤ 205520896 * k := by
  induction k with
  | zero => exact Nat.le_refl _
  | succ k ih => have := szI_le S hL k; show lbP S k + szI S k ≤ _; omega

set_option maxRecDepth 100000 in
set_option maxHeartbeats 8000000 in
theorem specLiveBytes_any (S : So) (v : Value) (w : World) (h : SoRd w v S) (hL : S.lean) :
    Calls Tryz.prog 5 #[v] w fun e w' => e = .returned (.int .i64 (lbO S)) ∧ Below w.heap.size w w' := by
  obtain ⟨va, vb, au, af, cu, cf, rfl, _, hu, _⟩ := h.opened
  have b0 := belNew w (.cells #[va, vb, .int .i64 S.g.segs, .slice au S.g.used.length cu, .int .i64 S.g.ng, .int .i64 S.g.ns, .int .i64 S.g.st, .int .i64 S.g.nv, .slice af S.fr.length cf] 41)
  have q0 := Box.new w #[va, vb, .int .i64 S.g.segs, .slice au S.g.used.length cu, .int .i64 S.g.ng, .int .i64 S.g.ns, .int .i64 S.g.st, .int .i64 S.g.nv, .slice af S.fr.length cf] 41
  have hun : S.g.used.length ≤ 1048576 := (S.g.lean_small hL.1).2.1
  have HSZ : Hid (∀ X, Below w.heap.size w X → Calls Tryz.prog 11 #[.agg #[va, vb, .int .i64 S.g.segs, .slice au S.g.used.length cu, .int .i64 S.g.ng, .int .i64 S.g.ns, .int .i64 S.g.st, .int .i64 S.g.nv, .slice af S.fr.length cf]] X fun e w' => ∃ v', e = .returned v' ∧ RBuf intE X.heap.size X w' v' (szs S S.g.used.length)) := fun X hX => specSizes_any S _ X (h.later hX) hL
  have HLE : Hid (∀ k, szI S k ≤ 205520896) := fun k => szI_le S hL k
  have HSM : Hid (∀ k, lbP S k ≤ 205520896 * k) := fun k => lbP_le S hL k
  obtain ⟨N, hN⟩ : ∃ N, lbO S = N := ⟨_, rfl⟩
  have HV : Hid ((lbP S S.g.used.length : Int) = N) := hN
  rw [hN]
  clear hN hu h hL 
  obtain ⟨W, hW⟩ : ∃ W, w.alloc (.cells #[va, vb, .int .i64 S.g.segs, .slice au S.g.used.length cu, .int .i64 S.g.ng, .int .i64 S.g.ns, .int .i64 S.g.st, .int .i64 S.g.nv, .slice af S.fr.length cf] 41) = W := ⟨_, rfl⟩
  rw [hW] at b0 q0
  have HW := Lib.hid hW
  clear hW
  obtain ⟨n, hn⟩ : ∃ n, S.g.used.length = n := ⟨_, rfl⟩
  obtain ⟨m, hm⟩ : ∃ m, S.fr.length = m := ⟨_, rfl⟩
  simp only [hn, hm] at q0 HW HSZ HV ⊢
  rw [hn] at hun
  clear hm hn
  obtain ⟨g0, hg0⟩ : ∃ g0, w.heap.size = g0 := ⟨_, rfl⟩
  rw [hg0] at q0
  have HG0 := Lib.hid hg0
  clear hg0
  go_enter Tryz.func5, Tryz.ntmps5
  go_upto_region 1 with fail
  rw [HW.out, HG0.out]
  obtain ⟨⟨x0, x1, x2, x3, x4, x5, x6, x7, x8⟩, _⟩ := q0.nineL
  go_wp2_with fail
  clear x0 x1 x2 x3 x4 x5 x6 x7 x8 q0
  refine (HSZ.out _ b0).mono ?_
  rintro e w1 ⟨v1, rfl, R1⟩
  have HR1 := Lib.hid R1.rows
  have HB1 : Hid (Below w.heap.size w w1) := b0.trans (R1.bel.mono b0.size)
  obtain ⟨a1, p1, rfl⟩ := R1.form
  have hsl : (szs S n).length = n := szs_len S n
  rw [hsl] at HR1 ⊢
  have HSL := Lib.hid hsl
  clear R1 HSZ b0 hsl
  go_wp2_with fail
  go_loopw [4, 5] (fun bv iv wr => ∃ k : Nat, k ≤ n ∧ iv = .int .i64 (k : Int) ∧ bv = .int .i64 (lbP S k : Int) ∧ wr = w1) (fun _ iv _ => n - (intOf iv).toNat)
  case atStart => exact ⟨0, by omega, rfl, rfl, rfl⟩
  case round =>
    obtain ⟨k, hk, rfl, rfl, rfl⟩ := hrel
    by_cases hlt : k < n
    · obtain ⟨gz, oz, rfl, hcz⟩ := HR1.out.intAt HSL.out (szs_at S hlt)
      have z0 := hcz _ (Below.refl _ _)
      have hi0 : (0 : Int) ≤ (k : Int) := by omega
      have hi1 : (k : Int) < (n : Int) := by omega
      have h1 := HSM.out k
      have h2 := HLE.out k
      have HN : Hid (lbP S (k + 1) = lbP S k + szI S k) := rfl
      obtain ⟨Z, hZ⟩ : ∃ Z, szI S k = Z := ⟨_, rfl⟩
      obtain ⟨Y, hY⟩ : ∃ Y, lbP S k = Y := ⟨_, rfl⟩
      rw [hZ] at z0 HN h2
      rw [hY] at HN h1 ⊢
      have hws : IntKind.i64.wrap ((Y : Int) + (Z : Int)) = (Y : Int) + (Z : Int) := IntWalk.i64_in _ ⟨by omega, by omega⟩
      clear hcz hZ hY HSM HLE HR1
      go_wp2
      exact ⟨⟨k + 1, by omega, by simp, by rw [HN.out]; push_cast; rfl, by first | trivial | rfl⟩, by first | omega | (simp [intOf]; omega)⟩
    · have HV2 : Hid ((lbP S k : Int) = N) := by
        show _ = _
        rw [← HV.out, show k = n by omega]
      clear HR1
      go_wp2
      go_ret
      exact ⟨by rw [HV2.out]; first | done | rfl | simp, HB1.out⟩

set_option maxRecDepth 100000 in
set_option maxHeartbeats 8000000 in
theorem implLiveBytes_any (S : So) (v : Value) (w : World) (h : SoRd w v S) (hL : S.lean) (ht : SumTab w) :
    Calls Tryz.prog 7 #[v] w fun e w' => e = .returned (.int .i64 (lbO S)) ∧ Below w.heap.size w w' := by
  obtain ⟨va, vb, au, af, cu, cf, rfl, _, hu, _⟩ := h.opened
  have b0 := belNew w (.cells #[va, vb, .int .i64 S.g.segs, .slice au S.g.used.length cu, .int .i64 S.g.ng, .int .i64 S.g.ns, .int .i64 S.g.st, .int .i64 S.g.nv, .slice af S.fr.length cf] 41)
  have q0 := Box.new w #[va, vb, .int .i64 S.g.segs, .slice au S.g.used.length cu, .int .i64 S.g.ng, .int .i64 S.g.ns, .int .i64 S.g.st, .int .i64 S.g.nv, .slice af S.fr.length cf] 41
  have hun : S.g.used.length ≤ 1048576 := (S.g.lean_small hL.1).2.1
  have HSZ : Hid (∀ X, Below w.heap.size w X → Calls Tryz.prog 14 #[.agg #[va, vb, .int .i64 S.g.segs, .slice au S.g.used.length cu, .int .i64 S.g.ng, .int .i64 S.g.ns, .int .i64 S.g.st, .int .i64 S.g.nv, .slice af S.fr.length cf]] X fun e w' => ∃ v', e = .returned v' ∧ RBuf intE X.heap.size X w' v' (szs S S.g.used.length)) := fun X hX => liveSizes_any S _ X (h.later hX) hL (ht.later hX)
  have HLE : Hid (∀ k, szI S k ≤ 205520896) := fun k => szI_le S hL k
  have HSM : Hid (∀ k, lbP S k ≤ 205520896 * k) := fun k => lbP_le S hL k
  obtain ⟨N, hN⟩ : ∃ N, lbO S = N := ⟨_, rfl⟩
  have HV : Hid ((lbP S S.g.used.length : Int) = N) := hN
  rw [hN]
  clear hN hu h hL ht
  obtain ⟨W, hW⟩ : ∃ W, w.alloc (.cells #[va, vb, .int .i64 S.g.segs, .slice au S.g.used.length cu, .int .i64 S.g.ng, .int .i64 S.g.ns, .int .i64 S.g.st, .int .i64 S.g.nv, .slice af S.fr.length cf] 41) = W := ⟨_, rfl⟩
  rw [hW] at b0 q0
  have HW := Lib.hid hW
  clear hW
  obtain ⟨n, hn⟩ : ∃ n, S.g.used.length = n := ⟨_, rfl⟩
  obtain ⟨m, hm⟩ : ∃ m, S.fr.length = m := ⟨_, rfl⟩
  simp only [hn, hm] at q0 HW HSZ HV ⊢
  rw [hn] at hun
  clear hm hn
  obtain ⟨g0, hg0⟩ : ∃ g0, w.heap.size = g0 := ⟨_, rfl⟩
  rw [hg0] at q0
  have HG0 := Lib.hid hg0
  clear hg0
  go_enter Tryz.func7, Tryz.ntmps7
  go_upto_region 1 with fail
  rw [HW.out, HG0.out]
  obtain ⟨⟨x0, x1, x2, x3, x4, x5, x6, x7, x8⟩, _⟩ := q0.nineL
  go_wp2_with fail
  clear x0 x1 x2 x3 x4 x5 x6 x7 x8 q0
  refine (HSZ.out _ b0).mono ?_
  rintro e w1 ⟨v1, rfl, R1⟩
  have HR1 := Lib.hid R1.rows
  have HB1 : Hid (Below w.heap.size w w1) := b0.trans (R1.bel.mono b0.size)
  obtain ⟨a1, p1, rfl⟩ := R1.form
  have hsl : (szs S n).length = n := szs_len S n
  rw [hsl] at HR1 ⊢
  have HSL := Lib.hid hsl
  clear R1 HSZ b0 hsl
  go_wp2_with fail
  go_loopw [3, 9] (fun bv iv wr => ∃ k : Nat, k ≤ n ∧ iv = .int .i64 (k : Int) ∧ bv = .int .i64 (lbP S k : Int) ∧ wr = w1) (fun _ iv _ => n - (intOf iv).toNat)
  case atStart => exact ⟨0, by omega, rfl, rfl, rfl⟩
  case round =>
    obtain ⟨k, hk, rfl, rfl, rfl⟩ := hrel
    by_cases hlt : k < n
    · obtain ⟨gz, oz, rfl, hcz⟩ := HR1.out.intAt HSL.out (szs_at S hlt)
      have z0 := hcz _ (Below.refl _ _)
      have hi0 : (0 : Int) ≤ (k : Int) := by omega
      have hi1 : (k : Int) < (n : Int) := by omega
      have h1 := HSM.out k
      have h2 := HLE.out k
      have HN : Hid (lbP S (k + 1) = lbP S k + szI S k) := rfl
      obtain ⟨Z, hZ⟩ : ∃ Z, szI S k = Z := ⟨_, rfl⟩
      obtain ⟨Y, hY⟩ : ∃ Y, lbP S k = Y := ⟨_, rfl⟩
      rw [hZ] at z0 HN h2
      rw [hY] at HN h1 ⊢
      have hws : IntKind.i64.wrap ((Y : Int) + (Z : Int)) = (Y : Int) + (Z : Int) := IntWalk.i64_in _ ⟨by omega, by omega⟩
      clear hcz hZ hY HSM HLE HR1
      go_wp2
      exact ⟨⟨k + 1, by omega, by simp, by rw [HN.out]; push_cast; rfl, by first | trivial | rfl⟩, by first | omega | (simp [intOf]; omega)⟩
    · have HV2 : Hid ((lbP S k : Int) = N) := by
        show _ = _
        rw [← HV.out, show k = n by omega]
      clear HR1
      go_wp2
      go_ret
      exact ⟨by rw [HV2.out]; first | done | rfl | simp, HB1.out⟩

end Go.Proofs.YtlifgcgoehkinaaGreatDoor
