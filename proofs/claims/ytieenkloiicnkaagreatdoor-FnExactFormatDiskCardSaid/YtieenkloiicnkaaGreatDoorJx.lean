/- Texts of our own, joined. -/
import Derived.Test.YtieenkloiicnkaaGreatDoorJm
import Derived.Test.YtieenkloiicnkaaGreatDoorJf
import Derived.Test.YtieenkloiicnkaaGreatDoorJj
import Derived.Deep.RegionLaw
/- What DiskNew hands back, the model's and the program's. -/
namespace Go.Proofs.YtieenkloiicnkaaGreatDoor
open Go.RowKit

def zero32 : ByteArray := ⟨(List.replicate 32 0).toArray⟩
def newD (n : Int) : Dk := if 1 ≤ n ∧ n ≤ 100 then ⟨List.replicate n.toNat zero32, []⟩ else ⟨[], []⟩

theorem zero_any (w : World) : Calls Tryz.prog 97 #[] w fun e w' => e = .returned (.string zero32) ∧ Below w.heap.size w w' := by
  go_enter Tryz.func97, Tryz.ntmps97
  go_wp2_with (go_at_call 137; refine (long_any 32 0 _ (by omega)).mono ?_; rintro e w1 ⟨rfl, k1⟩)
  go_ret
  exact ⟨rfl, k1⟩

theorem nilOwn {α : Type} {E : Enc α} {B T : Nat} {w : World} (hB : B ≤ w.heap.size) (hT : T ≤ w.heap.size) : LOwn E B T w (.slice none 0 0) [] := ⟨⟨World.ownsRow_nil _ _ _ _, Below.refl _ _, hB⟩, hT, fun k hk => by cases hk⟩
theorem apNil (v : Value) : v.ownBlock = none ∨ v.ownBlock ≠ (Value.slice none 0 0).ownBlock := by
  cases hv : v.ownBlock with
  | none => exact .inl rfl
  | some k => exact .inr (by simp [Value.ownBlock])

set_option maxHeartbeats 1000000 in
theorem implDiskNew_any (n : Int) (w : World) : Calls Tryz.prog 60 #[.int .i64 n] w fun e w' => DiskR (newD n) (decide (1 ≤ n ∧ n ≤ 100)) w e w' := by
  have hx := Box.new w #[.slice none 0 0, .slice none 0 0] 33
  have b0 : Below w.heap.size w (w.alloc (.cells #[.slice none 0 0, .slice none 0 0] 33)) := (Below.refl _ _).alloc (Nat.le_refl _) _
  have hsz : (w.alloc (.cells #[.slice none 0 0, .slice none 0 0] 33)).heap.size = w.heap.size + 1 := by simp
  by_cases hin : 1 ≤ n ∧ n ≤ 100
  · obtain ⟨k, rfl⟩ := Int.eq_ofNat_of_zero_le (show 0 ≤ n by omega)
    have E2 := Lib.hid (show newD (k : Int) = ⟨List.replicate k zero32, []⟩ from by unfold newD; rw [if_pos hin, Int.toNat_natCast])
    have hk1 : 1 ≤ k := by omega
    have hk2 : k ≤ 100 := by omega
    have HD := Lib.hid (decide_eq_true hin)
    have HB := Lib.hid b0
    have HX := Lib.hid hx
    have HSZ := Lib.hid hsz
    clear hx b0 hsz
    go_enter Tryz.func60, Tryz.ntmps60
    go_wp2_with (first
      | (at_make; refine wpList_make_rows rfl _ _ secE rfl .i64 .i64 _ _ k rfl rfl rfl rfl (by show 33 * k ≤ _; omega) ?_; intro w1 r1 z1; have R1 := Lib.hid r1; have r1' := r1.here; rw [HSZ.out] at r1'; have R1' := Lib.hid r1'; clear r1 r1' z1)
      | (go_at_call 101; refine (sectorTexts_any (List.replicate k secE.z0) _ _ _ R1'.out (by simp; omega)).mono ?_; rintro e w2 ⟨v2, rfl, r2⟩; have hll : ((List.replicate k secE.z0).map Sec.str).length = k := by simp
         obtain ⟨a2, q2, rfl⟩ := r2.form; rw [hll] at r2 ⊢; have x2 := ((HX.out.later R1.out.bel).later r2.bel); have r0 := x2.cell 0 (.slice none 0 0) rfl; have r3 := x2.cell 1 (.slice none 0 0) rfl; have f0 := x2.loose 0; have f1 := x2.loose 1))
    have bW := HB.out.trans (R1.out.bel.mono HB.out.size)
    have bF := bW.trans (r2.bel.mono bW.size)
    have hl : w.heap.size < w1.heap.size := by have := R1.out.bel.size; have := HSZ.out; omega
    refine bodyPost_ret (v := .tuple #[.agg #[.slice a2 k q2, .slice none 0 0], .bool true]) (by simp [results, Tryz.results60, go_sem, r0, r3]) rfl ?_
    rw [E2.out, HD.out]
    have hmap : (List.replicate k secE.z0).map Sec.str = List.replicate k zero32 := by rw [List.map_replicate]; rfl
    rw [hmap] at r2
    have q := (r2.lown.store w.heap.size 0 (.slice a2 k q2) hl).store w.heap.size 1 (.slice none 0 0) hl
    have bE := (bF.setCell (p := ⟨w.heap.size, 0, none⟩) (Nat.le_refl _) (.slice a2 k q2)).setCell (p := ⟨w.heap.size, 1, none⟩) (Nat.le_refl _) (.slice none 0 0)
    refine ⟨_, rfl, ⟨_, _, rfl, (q.deeper (Nat.le_of_lt hl)).wider (by simp) (Nat.le_refl _), nilOwn bE.size (Nat.le_refl _), apNil _⟩, bE⟩
  · have E2 := Lib.hid (show newD n = ⟨[], []⟩ from if_neg hin)
    have HD := Lib.hid (decide_eq_false hin)
    go_enter Tryz.func60, Tryz.ntmps60
    go_wp2
    all_goals
      refine bodyPost_ret (v := .tuple #[.agg #[.slice none 0 0, .slice none 0 0], .bool false]) (by simp [results, Tryz.results60, go_sem]) rfl ?_
      rw [E2.out]
      try rw [HD.out]
      exact ⟨_, rfl, ⟨_, _, rfl, nilOwn b0.size (Nat.le_refl _), nilOwn b0.size (Nat.le_refl _), apNil _⟩, b0⟩

set_option maxRecDepth 100000 in
set_option maxHeartbeats 2000000 in
theorem specDiskNew_any (n : Int) (w : World) : Calls Tryz.prog 57 #[.int .i64 n] w fun e w' => DiskR (newD n) (decide (1 ≤ n ∧ n ≤ 100)) w e w' := by
  have b00 : Below w.heap.size w (w.alloc (.cells #[.slice none 0 0, .slice none 0 0] 33)) := (Below.refl _ _).alloc (Nat.le_refl _) _
  by_cases hin : 1 ≤ n ∧ n ≤ 100
  · obtain ⟨k, rfl⟩ := Int.eq_ofNat_of_zero_le (show 0 ≤ n by omega)
    have E2 := Lib.hid (show newD (k : Int) = ⟨List.replicate k zero32, []⟩ from by unfold newD; rw [if_pos hin, Int.toNat_natCast])
    have hk1 : 1 ≤ k := by omega
    have hk2 : k ≤ 100 := by omega
    have HD := Lib.hid (decide_eq_true hin)
    obtain ⟨hx0, hx1, b0, hsz⟩ := two_boxes w #[.slice none 0 0, .slice none 0 0] #[.slice none 0 0, .slice none 0 0] 33 33
    clear b00
    go_enter Tryz.func57, Tryz.ntmps57
    go_wp2_with (go_at_call 56; refine (in_yes _ _ _ _ (by omega) (by omega)).mono ?_; rintro e w5 ⟨rfl, rfl⟩)
    generalize ((w.alloc (.cells #[.slice none 0 0, .slice none 0 0] 33)).alloc (.cells #[.slice none 0 0, .slice none 0 0] 33)) = W at hx0 hx1 b0 hsz ⊢
    have X0 := Lib.hid hx0
    have X1 := Lib.hid hx1
    have HSZ := Lib.hid hsz
    have B0 := Lib.hid b0
    clear hx0 hx1 hsz b0
    go_loopw [5] (fun iv wr => ∃ i : Nat, i ≤ k ∧ iv = .int .i64 (i : Int) ∧ ∃ (a : Option Addr) (q : Nat), Box wr (w.heap.size + 1) #[.slice a i q, .slice none 0 0] 33 ∧ RBuf strE W.heap.size wr wr (.slice a i q) (List.replicate i zero32) ∧ Box wr w.heap.size #[.slice none 0 0, .slice none 0 0] 33 ∧ Below w.heap.size w wr) (fun iv _ => k - (intOf iv).toNat)
    case atStart => exact ⟨0, by omega, rfl, none, 0, X1.out, ⟨World.ownsRow_nil _ _ _ _, Below.refl _ _, Nat.le_refl _⟩, X0.out, B0.out⟩
    case round =>
      obtain ⟨i, hi, rfl, a, q, bx, rb, by0, bel⟩ := hrel
      have hW : w.heap.size + 1 < W.heap.size := by have := HSZ.out; omega
      by_cases hlt : i < k
      · have c0 := bx.cell 0 (.slice a i q) rfl
        have hlr : (List.replicate i zero32).length = i := List.length_replicate
        have HC : Hid (∀ (x : World) (o : Obj), Below wr.drew.heap.size wr.drew x → RBuf strE W.heap.size (x.alloc o) (x.alloc o) (.slice a i q) (List.replicate i zero32) ∧ x.cell? ⟨w.heap.size + 1, 0, none⟩ = some (.slice a i q) ∧ (x.alloc o).cell? ⟨w.heap.size + 1, 0, none⟩ = some (.slice a i q)) := by
          intro x o hx
          have hx2 : Below wr.heap.size wr x := ((Below.refl _ _).drew).trans hx
          exact ⟨((rb.later hx2).alloc o).here, (bx.later hx2).cell 0 _ rfl, ((bx.later hx2).later ((Below.refl _ _).alloc (Nat.le_refl _) _)).cell 0 _ rfl⟩
        have HC6 : Hid (∀ (x y : World) (o : Obj), Below wr.drew.heap.size wr.drew x → (x.alloc o).grownBy y (Value.slice a i q).ownBlock → Box y (w.heap.size + 1) #[.slice a i q, .slice none 0 0] 33 ∧ Box y w.heap.size #[.slice none 0 0, .slice none 0 0] 33 ∧ Below w.heap.size w y) := by
          intro x y o hx hg
          have hx2 : Below wr.heap.size wr x := ((Below.refl _ _).drew).trans hx
          have hxo : Below wr.heap.size wr (x.alloc o) := hx2.trans (((Below.refl x.heap.size x).alloc (Nat.le_refl _) o).mono hx2.size)
          have bo := bx.later hxo
          have bo0 := by0.later hxo
          have hb := bel.trans (hxo.mono bel.size)
          refine ⟨(hg.block _ bo.lt (fun e => by have := (rb.own.lt _ e.symm).1; omega)).trans bo, (hg.block _ bo0.lt (fun e => by have := (rb.own.lt _ e.symm).1; omega)).trans bo0, hb.grown hg hb.size (fun j hj => by have := (rb.own.lt j hj).1; omega)⟩
        clear bx rb by0 bel
        go_wp2
        go_region_law (first
          | (go_simp; go_at_call 97; refine (zero_any _).mono ?_; rintro e w5 ⟨rfl, k5⟩; have c5 := (HC.out _ (.cells #[] 0) k5).2.1; have d5 := (HC.out _ (.cells #[.string zero32] 9) k5).2.2; dsimp only)
          | (refine step_append_rows (by rfl) _ _ strE (by rfl) W.heap.size _ (List.replicate i zero32) (by rfl) (HC.out _ _ k5).1 w5.heap.size _ [zero32] (by rfl) (RBuf.lit1 strE w5 zero32) (by simp [strE]; omega) ?_; intro v6 w6 hr6 hg6 at6 lt6; obtain ⟨a6, q6, rfl⟩ := hr6.form; obtain ⟨bx6, by6, bel6⟩ := HC6.out _ _ _ k5 hg6; have z1 := bx6.cell 0 (.slice a i q) rfl; have f1 := bx6.loose 0))
        all_goals
          have e6 : (List.replicate i zero32 ++ [zero32]).length = i + 1 := by simp
          have e7 : List.replicate i zero32 ++ [zero32] = List.replicate (i + 1) zero32 := List.replicate_succ'.symm
          rw [e7, List.length_replicate] at hr6
          have g1 := bx6.set 0 (.slice a6 (i + 1) q6)
          have g2 := by6.other (g := w.heap.size + 1) (by omega) 0 (.slice a6 (i + 1) q6)
          have nO : (Value.slice a6 (i + 1) q6).ownBlock ≠ some (w.heap.size + 1) := fun e => by have := (hr6.own.lt _ e).1; omega
          have g3 := (hr6.lown.grown (stored_grown w6 (w.heap.size + 1) 0 (.slice a6 (i + 1) q6)) (.inr nO)).1
          have g4 := bel6.setCell (p := ⟨w.heap.size + 1, 0, none⟩) (by simp) (.slice a6 (i + 1) q6)
          have G := Lib.hid (show Box (w6.setCell ⟨w.heap.size + 1, 0, none⟩ (.slice a6 (i + 1) q6)) (w.heap.size + 1) #[.slice a6 (i + 1) q6, .slice none 0 0] 33 ∧ _ ∧ _ ∧ _ from ⟨by simpa using g1, g3, g2, g4⟩)
          clear g1 g2 g3 g4 bx6 by6 bel6 hr6 hg6 at6 lt6 nO HC HC6 e6 e7
          go_wp2
          go_roundw
          case rel => exact ⟨i + 1, by omega, by go_num, a6, q6, G.out⟩
          case measure => simp [intOf]; omega
      · have hie : i = k := by omega
        subst hie
        have m0 := bx.cell 0 (.slice a i q) rfl
        have m1 := bx.cell 1 (.slice none 0 0) rfl
        have r0 := by0.cell 0 (.slice none 0 0) rfl
        have r1 := by0.cell 1 (.slice none 0 0) rfl
        have f0 := by0.loose 0
        have f1 := by0.loose 1
        have RB := Lib.hid rb
        have BL := Lib.hid bel
        clear bx rb by0 bel
        go_wp2
        refine bodyPost_ret (v := .tuple #[.agg #[.slice a i q, .slice none 0 0], .bool true]) (by simp [results, Tryz.results57, go_sem, r0, r1]) rfl ?_
        rw [E2.out, HD.out]
        have q1 := (RB.out.lown.store w.heap.size 0 (.slice a i q) (by omega)).store w.heap.size 1 (.slice none 0 0) (by omega)
        have bE := (BL.out.setCell (p := ⟨w.heap.size, 0, none⟩) (Nat.le_refl _) (.slice a i q)).setCell (p := ⟨w.heap.size, 1, none⟩) (Nat.le_refl _) (.slice none 0 0)
        exact ⟨_, rfl, ⟨_, _, rfl, (q1.deeper (by omega)).wider (by simp) (Nat.le_refl _), nilOwn bE.size (Nat.le_refl _), apNil _⟩, bE⟩
  · have E2 := Lib.hid (show newD n = ⟨[], []⟩ from if_neg hin)
    have HD := Lib.hid (decide_eq_false hin)
    go_enter Tryz.func57, Tryz.ntmps57
    go_wp2_with (go_at_call 56; refine (in_no _ _ _ _ hin).mono ?_; rintro e w5 ⟨rfl, rfl⟩)
    refine bodyPost_ret (v := .tuple #[.agg #[.slice none 0 0, .slice none 0 0], .bool false]) (by simp [results, Tryz.results57, go_sem]) rfl ?_
    rw [E2.out, HD.out]
    exact ⟨_, rfl, ⟨_, _, rfl, nilOwn b00.size (Nat.le_refl _), nilOwn b00.size (Nat.le_refl _), apNil _⟩, b00⟩

end Go.Proofs.YtieenkloiicnkaaGreatDoor
