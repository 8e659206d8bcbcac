/- Texts of our own, joined. -/
import Derived.Test.YtlifgcgoehkinaaGreatDoorJn
/- Frames: what FrameText and FrameSize hand back, of the model and of the program. -/
namespace Go.Proofs.YtlifgcgoehkinaaGreatDoor
open Go.RowKit

theorem raw_eq (f : Fr) : f.raw = vtB f.gen.toNat ++ vtB f.seq.toNat ++ (vtB f.body.size ++ f.body) := rfl
theorem raw_eq' (f : Fr) : f.raw = vtB f.gen.toNat ++ vtB f.seq.toNat ++ vtB f.body.size ++ f.body := by rw [raw_eq, ByteArray.append_assoc, ByteArray.append_assoc, ByteArray.append_assoc]
theorem seT_raw {f : Fr} (h : f.ok) : seT f.raw = .tuple #[.string f.tx, .bool true] := by
  rw [seT_yes (by have := Fr.raw_size h; omega)]; rfl
theorem varT_num {n : Int} (h : Fr.numOk n) : varT n = .tuple #[.string (vtB n.toNat), .bool true] := by unfold Fr.numOk at h; rw [varT_yes (by omega)]; rfl
theorem shT_body {s : ByteArray} (h : s.size ≤ 180) : shT s = .tuple #[.string (vtB s.size ++ s), .bool true] := by rw [shT_yes (by omega)]; rfl
theorem vtB_le {n : Nat} (h : n ≤ 1000000000) : (vtB n).size ≤ 5 := by rw [vtB_size]; exact vt_five h

set_option maxRecDepth 100000 in
set_option maxHeartbeats 1000000 in
theorem implFrameText_any (f : Fr) (w : World) (hs : f.body.size ≤ 1099511627776) (ht : SumTab w) :
    Calls Tryz.prog 48 #[f.v] w fun e w' => e = .returned (ftT f) ∧ Below w.heap.size w w' := by
  obtain ⟨c0, c1, c2⟩ := box3_cells w f
  have b0 : Below w.heap.size w (w.alloc (.cells #[.int .i64 f.gen, .int .i64 f.seq, .string f.body] 62)) := (Below.refl _ _).alloc (Nat.le_refl _) _
  have HT : Hid (∀ x, Below w.heap.size w x → SumTab x) := fun x hb => ht.later hb
  clear ht
  have e0 : f.v = .agg #[.int .i64 f.gen, .int .i64 f.seq, .string f.body] := rfl
  rw [e0]
  by_cases hok : f.ok
  · have hft := Lib.hid (ftT_yes hok)
    have hse := Lib.hid (seT_raw hok)
    have hg := Lib.hid (varT_num hok.1)
    have hq := Lib.hid (varT_num hok.2.1)
    have hb := Lib.hid (shT_body hok.2.2.2)
    have sg := vtB_le (n := f.gen.toNat) (by have := hok.1; omega)
    have sq := vtB_le (n := f.seq.toNat) (by have := hok.2.1; omega)
    have sb := vtB_le (n := f.body.size) (by have := hok.2.2.2; omega)
    have hre := Lib.hid (raw_eq f)
    have hrs := Fr.raw_size hok
    have hb180 := hok.2.2.2
    have hokd := Lib.hid (decide_eq_true hok)
    have HOK := Lib.hid hok
    have hadd1 := fun wx => run_string_add_sum (P := Tryz.prog) (w := wx) (vtB f.gen.toNat) (vtB f.seq.toNat) (by omega)
    have hadd2 := fun wx => run_string_add_sum (P := Tryz.prog) (w := wx) (vtB f.gen.toNat ++ vtB f.seq.toNat) (vtB f.body.size ++ f.body) (by simp only [ByteArray.size_append]; omega)
    rw [← hre.out] at hadd2
    have HC : Hid (∀ x, Below (w.alloc (.cells #[.int .i64 f.gen, .int .i64 f.seq, .string f.body] 62)).heap.size (w.alloc (.cells #[.int .i64 f.gen, .int .i64 f.seq, .string f.body] 62)) x → x.cell? ⟨w.heap.size, 0, none⟩ = some (.int .i64 f.gen) ∧ x.cell? ⟨w.heap.size, 1, none⟩ = some (.int .i64 f.seq) ∧ x.cell? ⟨w.heap.size, 2, none⟩ = some (.string f.body) ∧ Below w.heap.size w x) := by
      intro x hb
      refine ⟨(hb.cell (p := ⟨w.heap.size, 0, none⟩) (by simp)).trans c0, (hb.cell (p := ⟨w.heap.size, 1, none⟩) (by simp)).trans c1, (hb.cell (p := ⟨w.heap.size, 2, none⟩) (by simp)).trans c2, b0.trans (hb.mono b0.size)⟩
    clear hok
    go_enter Tryz.func48, Tryz.ntmps48
    go_wp2_with fail
    generalize w.alloc (.cells #[.int .i64 f.gen, .int .i64 f.seq, .string f.body] 62) = W at *
    refine (implFrameOk_any f _ hs).mono ?_
    rintro e w1 ⟨rfl, k1⟩
    rw [hokd.out]
    obtain ⟨d0, _, _, _⟩ := HC.out _ k1
    go_wp2_with fail
    refine (implVarText_any _ _).mono ?_
    rintro e w2 ⟨rfl, k2⟩
    rw [hg.out]
    have j2 := k1.trans (k2.mono k1.size)
    obtain ⟨_, d1, _, _⟩ := HC.out _ j2
    clear d0
    go_wp2_with fail
    refine (implVarText_any _ _).mono ?_
    rintro e w3 ⟨rfl, k3⟩
    rw [hq.out]
    have j3 := j2.trans (k3.mono j2.size)
    obtain ⟨_, _, d2, _⟩ := HC.out _ j3
    clear d1
    go_wp2_with fail
    refine (implShortText_any _ _ hs).mono ?_
    rintro e w4 ⟨rfl, k4⟩
    rw [hb.out]
    have j4 := j3.trans (k4.mono j3.size)
    obtain ⟨_, _, _, b4⟩ := HC.out _ j4
    clear d2
    go_wp2_with fail
    refine (implSealed_any f.raw _ (by omega) (HT.out _ b4)).mono ?_
    rintro e w5 ⟨rfl, k5⟩
    rw [hse.out]
    go_wp2
    go_ret2
    exact ⟨by rw [hft.out]; rfl, b4.trans (k5.mono b4.size)⟩
  · have hft := Lib.hid (ftT_no hok)
    have hokd := Lib.hid (decide_eq_false hok)
    clear hok
    go_enter Tryz.func48, Tryz.ntmps48
    go_wp2_with fail
    generalize w.alloc (.cells #[.int .i64 f.gen, .int .i64 f.seq, .string f.body] 62) = W at *
    refine (implFrameOk_any f _ hs).mono ?_
    rintro e w1 ⟨rfl, k1⟩
    rw [hokd.out]
    go_wp2
    go_ret2
    exact ⟨by rw [hft.out]; rfl, b0.trans (k1.mono b0.size)⟩

theorem l01VarI_any (n : Int) (w : World) (h0 : 0 ≤ n) (hn : n ≤ 1000000000) :
    Calls Tryz.prog 60 #[.int .i64 n] w fun e w' => e = .returned (.string (vtB n.toNat)) ∧ Below w.heap.size w w' := by
  have := l01Var_any n.toNat w (by omega)
  rw [Int.toNat_of_nonneg h0] at this
  exact this

set_option maxRecDepth 100000 in
set_option maxHeartbeats 4000000 in
theorem specFrameText_any (f : Fr) (w : World) (hs : f.body.size ≤ 1099511627776) :
    Calls Tryz.prog 38 #[f.v] w fun e w' => e = .returned (ftT f) ∧ Below w.heap.size w w' := by
  obtain ⟨c0, c1, c2⟩ := box3_cells w f
  have b0 : Below w.heap.size w (w.alloc (.cells #[.int .i64 f.gen, .int .i64 f.seq, .string f.body] 62)) := (Below.refl _ _).alloc (Nat.le_refl _) _
  have e0 : f.v = .agg #[.int .i64 f.gen, .int .i64 f.seq, .string f.body] := rfl
  rw [e0]
  by_cases hok : f.ok
  · have hft := Lib.hid (ftT_yes hok)
    have hse := Lib.hid (seT_raw hok)
    have sg := vtB_le (n := f.gen.toNat) (by have := hok.1; omega)
    have sq := vtB_le (n := f.seq.toNat) (by have := hok.2.1; omega)
    have sb := vtB_le (n := f.body.size) (by have := hok.2.2.2; omega)
    have hre := Lib.hid (raw_eq' f)
    have hrs := Fr.raw_size hok
    have hb180 := hok.2.2.2
    have hokd := Lib.hid (decide_eq_true hok)
    obtain ⟨⟨hg1, hg2⟩, ⟨hq1, hq2⟩, _⟩ := id hok
    have hadd1 := fun wx => run_string_add_sum (P := Tryz.prog) (w := wx) (vtB f.gen.toNat) (vtB f.seq.toNat) (by omega)
    have hadd2 := fun wx => run_string_add_sum (P := Tryz.prog) (w := wx) (vtB f.gen.toNat ++ vtB f.seq.toNat) (vtB f.body.size) (by simp only [ByteArray.size_append]; omega)
    have hadd3 := fun wx => run_string_add_sum (P := Tryz.prog) (w := wx) (vtB f.gen.toNat ++ vtB f.seq.toNat ++ vtB f.body.size) f.body (by simp only [ByteArray.size_append]; omega)
    rw [← hre.out] at hadd3
    have HC : Hid (∀ x, Below (w.alloc (.cells #[.int .i64 f.gen, .int .i64 f.seq, .string f.body] 62)).heap.size (w.alloc (.cells #[.int .i64 f.gen, .int .i64 f.seq, .string f.body] 62)) x → (x.cell? ⟨w.heap.size, 0, none⟩ = some (.int .i64 f.gen) ∧ x.cell? ⟨w.heap.size, 1, none⟩ = some (.int .i64 f.seq) ∧ x.cell? ⟨w.heap.size, 2, none⟩ = some (.string f.body)) ∧ Below w.heap.size w x) := by
      intro x hb
      refine ⟨⟨(hb.cell (p := ⟨w.heap.size, 0, none⟩) (by simp)).trans c0, (hb.cell (p := ⟨w.heap.size, 1, none⟩) (by simp)).trans c1, (hb.cell (p := ⟨w.heap.size, 2, none⟩) (by simp)).trans c2⟩, b0.trans (hb.mono b0.size)⟩
    clear hok
    go_enter Tryz.func38, Tryz.ntmps38
    go_wp2_with fail
    generalize w.alloc (.cells #[.int .i64 f.gen, .int .i64 f.seq, .string f.body] 62) = W at *
    refine (specFrameOk_any f _ hs).mono ?_
    rintro e w1 ⟨rfl, k1⟩
    rw [hokd.out]
    have b1 := b0.trans (k1.mono b0.size)
    obtain ⟨⟨d0, d1, d2⟩, _⟩ := HC.out _ k1
    have HK0 : Hid (w1.drew.cell? ⟨w.heap.size, 0, none⟩ = some (.int .i64 f.gen) ∧ w1.drew.cell? ⟨w.heap.size, 1, none⟩ = some (.int .i64 f.seq) ∧ w1.drew.cell? ⟨w.heap.size, 2, none⟩ = some (.string f.body) ∧ Below w1.heap.size w1 w1.drew) := ⟨d0, d1, d2, (Below.refl _ _).drew⟩
    have HK1 : Hid (∀ x y : World, (x.cell? ⟨w.heap.size, 0, none⟩ = some (.int .i64 f.gen) ∧ x.cell? ⟨w.heap.size, 1, none⟩ = some (.int .i64 f.seq) ∧ x.cell? ⟨w.heap.size, 2, none⟩ = some (.string f.body) ∧ Below w1.heap.size w1 x) → Below x.heap.size x y → (y.cell? ⟨w.heap.size, 0, none⟩ = some (.int .i64 f.gen) ∧ y.cell? ⟨w.heap.size, 1, none⟩ = some (.int .i64 f.seq) ∧ y.cell? ⟨w.heap.size, 2, none⟩ = some (.string f.body) ∧ Below w1.heap.size w1 y)) :=
      fun x y h hb => ⟨(hb.cell (p := ⟨w.heap.size, 0, none⟩) (World.block_lt_of_cell? _ _ h.1)).trans h.1, (hb.cell (p := ⟨w.heap.size, 1, none⟩) (World.block_lt_of_cell? _ _ h.2.1)).trans h.2.1, (hb.cell (p := ⟨w.heap.size, 2, none⟩) (World.block_lt_of_cell? _ _ h.2.2.1)).trans h.2.2.1, h.2.2.2.trans (hb.mono h.2.2.2.size)⟩
    clear c0 c1 c2 HC k1
    go_wp2_with fail
    go_region_held3 (fun x => x.cell? ⟨w.heap.size, 0, none⟩ = some (.int .i64 f.gen) ∧ x.cell? ⟨w.heap.size, 1, none⟩ = some (.int .i64 f.seq) ∧ x.cell? ⟨w.heap.size, 2, none⟩ = some (.string f.body) ∧ Below w1.heap.size w1 x)
      (first | exact HK0.out | exact HK1.out _ _ (by assumption) k1)
      (first
        | (go_at_call 60; refine (l01VarI_any _ _ (by omega) (by omega)).mono ?_; rintro e w2 ⟨rfl, k1⟩; try rw [Int.toNat_natCast])
        | (go_at_call 62; refine (specSealed_any f.raw _ (by omega)).mono ?_; rintro e w2 ⟨rfl, k1⟩; rw [hse.out]))
    all_goals
      rename_i hHeld
      have BH := Lib.hid hHeld.2.2.2
      clear hHeld HK0 HK1
      go_wp2
      go_ret2
      exact ⟨by rw [hft.out]; rfl, b1.trans (BH.out.mono b1.size)⟩
  · have hft := Lib.hid (ftT_no hok)
    have hokd := Lib.hid (decide_eq_false hok)
    clear hok
    go_enter Tryz.func38, Tryz.ntmps38
    go_wp2_with fail
    generalize w.alloc (.cells #[.int .i64 f.gen, .int .i64 f.seq, .string f.body] 62) = W at *
    refine (specFrameOk_any f _ hs).mono ?_
    rintro e w1 ⟨rfl, k1⟩
    rw [hokd.out]
    go_wp2
    go_ret2
    exact ⟨by rw [hft.out]; rfl, b0.trans (k1.mono b0.size)⟩

def fsz (f : Fr) : Nat := if f.ok then f.tx.size else 0
theorem fsz_form (f : Fr) : ∃ (t : ByteArray) (b : Bool), ftT f = .tuple #[.string t, .bool b] ∧ t.size = fsz f ∧ t.size ≤ 196 := by
  unfold fsz
  by_cases h : f.ok
  · exact ⟨f.tx, true, ftT_yes h, by rw [if_pos h], Fr.tx_le h⟩
  · exact ⟨⟨#[]⟩, false, ftT_no h, by rw [if_neg h]; rfl, by decide⟩

theorem implFrameSize_any (f : Fr) (w : World) (hs : f.body.size ≤ 1099511627776) (ht : SumTab w) :
    Calls Tryz.prog 28 #[f.v] w fun e w' => e = .returned (.int .i64 (fsz f : Int)) ∧ Below w.heap.size w w' := by
  have b0 : Below w.heap.size w (w.alloc (.cells #[.int .i64 f.gen, .int .i64 f.seq, .string f.body] 62)) := (Below.refl _ _).alloc (Nat.le_refl _) _
  have ht0 := ht.later b0
  obtain ⟨t, b, h1, h2, h3⟩ := fsz_form f
  have H1 := Lib.hid h1
  have H2 := Lib.hid h2
  have hv : f.v = .agg #[.int .i64 f.gen, .int .i64 f.seq, .string f.body] := rfl
  clear h1 h2 ht
  rw [hv]
  go_enter Tryz.func28, Tryz.ntmps28
  go_wp2_with fail
  rw [← hv]
  refine (implFrameText_any f _ hs ht0).mono ?_
  rintro e w1 ⟨rfl, k1⟩
  rw [H1.out]
  go_wp2
  go_ret
  exact ⟨by rw [← H2.out]; rfl, b0.trans (k1.mono b0.size)⟩

theorem specFrameSize_any (f : Fr) (w : World) (hs : f.body.size ≤ 1099511627776) :
    Calls Tryz.prog 23 #[f.v] w fun e w' => e = .returned (.int .i64 (fsz f : Int)) ∧ Below w.heap.size w w' := by
  have b0 : Below w.heap.size w (w.alloc (.cells #[.int .i64 f.gen, .int .i64 f.seq, .string f.body] 62)) := (Below.refl _ _).alloc (Nat.le_refl _) _
  obtain ⟨t, b, h1, h2, h3⟩ := fsz_form f
  have H1 := Lib.hid h1
  have H2 := Lib.hid h2
  have hv : f.v = .agg #[.int .i64 f.gen, .int .i64 f.seq, .string f.body] := rfl
  clear h1 h2
  rw [hv]
  go_enter Tryz.func23, Tryz.ntmps23
  go_wp2_with fail
  rw [← hv]
  refine (specFrameText_any f _ hs).mono ?_
  rintro e w1 ⟨rfl, k1⟩
  rw [H1.out]
  go_wp2
  go_ret
  exact ⟨by rw [← H2.out]; rfl, b0.trans (k1.mono b0.size)⟩

end Go.Proofs.YtlifgcgoehkinaaGreatDoor
