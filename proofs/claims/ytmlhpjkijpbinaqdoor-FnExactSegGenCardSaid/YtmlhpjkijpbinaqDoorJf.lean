/- Texts of our own, joined. -/
import Derived.Test.YtmlhpjkijpbinaqDoorJe
import Derived.Test.YtmlhpjkijpbinaqDoorJb
import Derived.Lib.SmallJoins
import Derived.Deep.Cut
import Derived.Test.YtmlhpjkijpbinaqDoorJa
import Derived.Laws.OwnMore
import Derived.Test.YtmlhpjkijpbinaqDoorJd
/- Frames: what FrameText and FrameSize hand back, of the model and of the program. -/
namespace Go.Proofs.YtmlhpjkijpbinaqDoor
open Go.RowKit

theorem raw_eq (f : Fr) : f.raw = vtB f.gen.toNat ++ vtB f.seq.toNat ++ (vtB f.body.size ++ f.body) := rfl
theorem raw_eq' (f : Fr) : f.raw = vtB f.gen.toNat ++ vtB f.seq.toNat ++ vtB f.body.size ++ f.body := by rw [raw_eq, ByteArray.append_assoc, ByteArray.append_assoc, ByteArray.append_assoc]
theorem seT_raw {f : Fr} (h : f.ok) : seT f.raw = .tuple #[.string f.tx, .bool true] := by
  rw [seT_yes (by have := Fr.raw_size h; omega)]; rfl
theorem varT_num {n : Int} (h : Fr.numOk n) : varT n = .tuple #[.string (vtB n.toNat), .bool true] := by unfold Fr.numOk at h; rw [varT_yes (by omega)]; rfl
theorem shT_body {s : ByteArray} (h : s.size ≤ 180) : shT s = .tuple #[.string (vtB s.size ++ s), .bool true] := by rw [shT_yes (by omega)]; rfl
theorem vtB_le {n : Nat} (h : n ≤ 1000000000) : (vtB n).size ≤ 5 := by rw [vtB_size]; exact vt_five h

set_option maxRecDepth 100000 in
set_option maxHeartbeats 1000000 in
theorem implFrameText_any (f : Fr) (w : World) (hs : f.body.size ≤ 1099511627776) (ht : SumTab w) :
    Calls Tryd.prog 29 #[f.v] w fun e w' => e = .returned (ftT f) ∧ Below w.heap.size w w' := by
  obtain ⟨c0, c1, c2⟩ := box3_cells w f
  have b0 : Below w.heap.size w (w.alloc (.cells #[.int .i64 f.gen, .int .i64 f.seq, .string f.body] 32)) := (Below.refl _ _).alloc (Nat.le_refl _) _
  have HT : Hid (∀ x, Below w.heap.size w x → SumTab x) := fun x hb => ht.later hb
  clear ht
  have e0 : f.v = .agg #[.int .i64 f.gen, .int .i64 f.seq, .string f.body] := rfl
  rw [e0]
  by_cases hok : f.ok
  · have hft := Lib.hid (ftT_yes hok)
    have hse := Lib.hid (seT_raw hok)
    have hg := Lib.hid (varT_num hok.1)
    have hq := Lib.hid (varT_num hok.2.1)
    have hb := Lib.hid (shT_body hok.2.2.2)
    have sg := vtB_le (n := f.gen.toNat) (by have := hok.1; omega)
    have sq := vtB_le (n := f.seq.toNat) (by have := hok.2.1; omega)
    have sb := vtB_le (n := f.body.size) (by have := hok.2.2.2; omega)
    have hre := Lib.hid (raw_eq f)
    have hrs := Fr.raw_size hok
    have hb180 := hok.2.2.2
    have hokd := Lib.hid (decide_eq_true hok)
    have HOK := Lib.hid hok
    have hadd1 := fun wx => run_string_add_sum (P := Tryd.prog) (w := wx) (vtB f.gen.toNat) (vtB f.seq.toNat) (by omega)
    have hadd2 := fun wx => run_string_add_sum (P := Tryd.prog) (w := wx) (vtB f.gen.toNat ++ vtB f.seq.toNat) (vtB f.body.size ++ f.body) (by simp only [ByteArray.size_append]; omega)
    rw [← hre.out] at hadd2
    have HC : Hid (∀ x, Below (w.alloc (.cells #[.int .i64 f.gen, .int .i64 f.seq, .string f.body] 32)).heap.size (w.alloc (.cells #[.int .i64 f.gen, .int .i64 f.seq, .string f.body] 32)) x → x.cell? ⟨w.heap.size, 0, none⟩ = some (.int .i64 f.gen) ∧ x.cell? ⟨w.heap.size, 1, none⟩ = some (.int .i64 f.seq) ∧ x.cell? ⟨w.heap.size, 2, none⟩ = some (.string f.body) ∧ Below w.heap.size w x) := by
      intro x hb
      refine ⟨(hb.cell (p := ⟨w.heap.size, 0, none⟩) (by simp)).trans c0, (hb.cell (p := ⟨w.heap.size, 1, none⟩) (by simp)).trans c1, (hb.cell (p := ⟨w.heap.size, 2, none⟩) (by simp)).trans c2, b0.trans (hb.mono b0.size)⟩
    clear hok
    go_enter Tryd.func29, Tryd.ntmps29
    go_wp2_with fail
    generalize w.alloc (.cells #[.int .i64 f.gen, .int .i64 f.seq, .string f.body] 32) = W at *
    refine (implFrameOk_any f _ hs).mono ?_
    rintro e w1 ⟨rfl, k1⟩
    rw [hokd.out]
    obtain ⟨d0, _, _, _⟩ := HC.out _ k1
    go_wp2_with fail
    refine (implVarText_any _ _).mono ?_
    rintro e w2 ⟨rfl, k2⟩
    rw [hg.out]
    have j2 := k1.trans (k2.mono k1.size)
    obtain ⟨_, d1, _, _⟩ := HC.out _ j2
    clear d0
    go_wp2_with fail
    refine (implVarText_any _ _).mono ?_
    rintro e w3 ⟨rfl, k3⟩
    rw [hq.out]
    have j3 := j2.trans (k3.mono j2.size)
    obtain ⟨_, _, d2, _⟩ := HC.out _ j3
    clear d1
    go_wp2_with fail
    refine (implShortText_any _ _ hs).mono ?_
    rintro e w4 ⟨rfl, k4⟩
    rw [hb.out]
    have j4 := j3.trans (k4.mono j3.size)
    obtain ⟨_, _, _, b4⟩ := HC.out _ j4
    clear d2
    go_wp2_with fail
    refine (implSealed_any f.raw _ (by omega) (HT.out _ b4)).mono ?_
    rintro e w5 ⟨rfl, k5⟩
    rw [hse.out]
    go_wp2
    go_ret2
    exact ⟨by rw [hft.out]; rfl, b4.trans (k5.mono b4.size)⟩
  · have hft := Lib.hid (ftT_no hok)
    have hokd := Lib.hid (decide_eq_false hok)
    clear hok
    go_enter Tryd.func29, Tryd.ntmps29
    go_wp2_with fail
    generalize w.alloc (.cells #[.int .i64 f.gen, .int .i64 f.seq, .string f.body] 32) = W at *
    refine (implFrameOk_any f _ hs).mono ?_
    rintro e w1 ⟨rfl, k1⟩
    rw [hokd.out]
    go_wp2
    go_ret2
    exact ⟨by rw [hft.out]; rfl, b0.trans (k1.mono b0.size)⟩

theorem l01VarI_any (n : Int) (w : World) (h0 : 0 ≤ n) (hn : n ≤ 1000000000) :
    Calls Tryd.prog 47 #[.int .i64 n] w fun e w' => e = .returned (.string (vtB n.toNat)) ∧ Below w.heap.size w w' := by
  have := l01Var_any n.toNat w (by omega)
  rw [Int.toNat_of_nonneg h0] at this
  exact this

set_option maxRecDepth 100000 in
set_option maxHeartbeats 4000000 in
theorem specFrameText_any (f : Fr) (w : World) (hs : f.body.size ≤ 1099511627776) :
    Calls Tryd.prog 28 #[f.v] w fun e w' => e = .returned (ftT f) ∧ Below w.heap.size w w' := by
  obtain ⟨c0, c1, c2⟩ := box3_cells w f
  have b0 : Below w.heap.size w (w.alloc (.cells #[.int .i64 f.gen, .int .i64 f.seq, .string f.body] 32)) := (Below.refl _ _).alloc (Nat.le_refl _) _
  have e0 : f.v = .agg #[.int .i64 f.gen, .int .i64 f.seq, .string f.body] := rfl
  rw [e0]
  by_cases hok : f.ok
  · have hft := Lib.hid (ftT_yes hok)
    have hse := Lib.hid (seT_raw hok)
    have sg := vtB_le (n := f.gen.toNat) (by have := hok.1; omega)
    have sq := vtB_le (n := f.seq.toNat) (by have := hok.2.1; omega)
    have sb := vtB_le (n := f.body.size) (by have := hok.2.2.2; omega)
    have hre := Lib.hid (raw_eq' f)
    have hrs := Fr.raw_size hok
    have hb180 := hok.2.2.2
    have hokd := Lib.hid (decide_eq_true hok)
    obtain ⟨⟨hg1, hg2⟩, ⟨hq1, hq2⟩, _⟩ := id hok
    have hadd1 := fun wx => run_string_add_sum (P := Tryd.prog) (w := wx) (vtB f.gen.toNat) (vtB f.seq.toNat) (by omega)
    have hadd2 := fun wx => run_string_add_sum (P := Tryd.prog) (w := wx) (vtB f.gen.toNat ++ vtB f.seq.toNat) (vtB f.body.size) (by simp only [ByteArray.size_append]; omega)
    have hadd3 := fun wx => run_string_add_sum (P := Tryd.prog) (w := wx) (vtB f.gen.toNat ++ vtB f.seq.toNat ++ vtB f.body.size) f.body (by simp only [ByteArray.size_append]; omega)
    rw [← hre.out] at hadd3
    have HC : Hid (∀ x, Below (w.alloc (.cells #[.int .i64 f.gen, .int .i64 f.seq, .string f.body] 32)).heap.size (w.alloc (.cells #[.int .i64 f.gen, .int .i64 f.seq, .string f.body] 32)) x → (x.cell? ⟨w.heap.size, 0, none⟩ = some (.int .i64 f.gen) ∧ x.cell? ⟨w.heap.size, 1, none⟩ = some (.int .i64 f.seq) ∧ x.cell? ⟨w.heap.size, 2, none⟩ = some (.string f.body)) ∧ Below w.heap.size w x) := by
      intro x hb
      refine ⟨⟨(hb.cell (p := ⟨w.heap.size, 0, none⟩) (by simp)).trans c0, (hb.cell (p := ⟨w.heap.size, 1, none⟩) (by simp)).trans c1, (hb.cell (p := ⟨w.heap.size, 2, none⟩) (by simp)).trans c2⟩, b0.trans (hb.mono b0.size)⟩
    clear hok
    go_enter Tryd.func28, Tryd.ntmps28
    go_wp2_with fail
    generalize w.alloc (.cells #[.int .i64 f.gen, .int .i64 f.seq, .string f.body] 32) = W at *
    refine (specFrameOk_any f _ hs).mono ?_
    rintro e w1 ⟨rfl, k1⟩
    rw [hokd.out]
    have b1 := b0.trans (k1.mono b0.size)
    obtain ⟨⟨d0, d1, d2⟩, _⟩ := HC.out _ k1
    have HK0 : Hid (w1.drew.cell? ⟨w.heap.size, 0, none⟩ = some (.int .i64 f.gen) ∧ w1.drew.cell? ⟨w.heap.size, 1, none⟩ = some (.int .i64 f.seq) ∧ w1.drew.cell? ⟨w.heap.size, 2, none⟩ = some (.string f.body) ∧ Below w1.heap.size w1 w1.drew) := ⟨d0, d1, d2, (Below.refl _ _).drew⟩
    have HK1 : Hid (∀ x y : World, (x.cell? ⟨w.heap.size, 0, none⟩ = some (.int .i64 f.gen) ∧ x.cell? ⟨w.heap.size, 1, none⟩ = some (.int .i64 f.seq) ∧ x.cell? ⟨w.heap.size, 2, none⟩ = some (.string f.body) ∧ Below w1.heap.size w1 x) → Below x.heap.size x y → (y.cell? ⟨w.heap.size, 0, none⟩ = some (.int .i64 f.gen) ∧ y.cell? ⟨w.heap.size, 1, none⟩ = some (.int .i64 f.seq) ∧ y.cell? ⟨w.heap.size, 2, none⟩ = some (.string f.body) ∧ Below w1.heap.size w1 y)) :=
      fun x y h hb => ⟨(hb.cell (p := ⟨w.heap.size, 0, none⟩) (World.block_lt_of_cell? _ _ h.1)).trans h.1, (hb.cell (p := ⟨w.heap.size, 1, none⟩) (World.block_lt_of_cell? _ _ h.2.1)).trans h.2.1, (hb.cell (p := ⟨w.heap.size, 2, none⟩) (World.block_lt_of_cell? _ _ h.2.2.1)).trans h.2.2.1, h.2.2.2.trans (hb.mono h.2.2.2.size)⟩
    clear c0 c1 c2 HC k1
    go_wp2_with fail
    go_region_held3 (fun x => x.cell? ⟨w.heap.size, 0, none⟩ = some (.int .i64 f.gen) ∧ x.cell? ⟨w.heap.size, 1, none⟩ = some (.int .i64 f.seq) ∧ x.cell? ⟨w.heap.size, 2, none⟩ = some (.string f.body) ∧ Below w1.heap.size w1 x)
      (first | exact HK0.out | exact HK1.out _ _ (by assumption) k1)
      (first
        | (go_at_call 47; refine (l01VarI_any _ _ (by omega) (by omega)).mono ?_; rintro e w2 ⟨rfl, k1⟩; try rw [Int.toNat_natCast])
        | (go_at_call 46; refine (specSealed_any f.raw _ (by omega)).mono ?_; rintro e w2 ⟨rfl, k1⟩; rw [hse.out]))
    all_goals
      rename_i hHeld
      have BH := Lib.hid hHeld.2.2.2
      clear hHeld HK0 HK1
      go_wp2
      go_ret2
      exact ⟨by rw [hft.out]; rfl, b1.trans (BH.out.mono b1.size)⟩
  · have hft := Lib.hid (ftT_no hok)
    have hokd := Lib.hid (decide_eq_false hok)
    clear hok
    go_enter Tryd.func28, Tryd.ntmps28
    go_wp2_with fail
    generalize w.alloc (.cells #[.int .i64 f.gen, .int .i64 f.seq, .string f.body] 32) = W at *
    refine (specFrameOk_any f _ hs).mono ?_
    rintro e w1 ⟨rfl, k1⟩
    rw [hokd.out]
    go_wp2
    go_ret2
    exact ⟨by rw [hft.out]; rfl, b0.trans (k1.mono b0.size)⟩

/-- What FrameSize hands back. -/
def fsz (f : Fr) : Nat := if f.ok then f.tx.size else 0
theorem fsz_form (f : Fr) : ∃ (t : ByteArray) (b : Bool), ftT f = .tuple #[.string t, .bool b] ∧ t.size = fsz f ∧ t.size ≤ 196 := by
  unfold fsz
  by_cases h : f.ok
  · exact ⟨f.tx, true, ftT_yes h, by rw [if_pos h], Fr.tx_le h⟩
  · exact ⟨⟨#[]⟩, false, ftT_no h, by rw [if_neg h]; rfl, by decide⟩

theorem implFrameSize_any (f : Fr) (w : World) (hs : f.body.size ≤ 1099511627776) (ht : SumTab w) :
    Calls Tryd.prog 15 #[f.v] w fun e w' => e = .returned (.int .i64 (fsz f : Int)) ∧ Below w.heap.size w w' := by
  have b0 : Below w.heap.size w (w.alloc (.cells #[.int .i64 f.gen, .int .i64 f.seq, .string f.body] 32)) := (Below.refl _ _).alloc (Nat.le_refl _) _
  have ht0 := ht.later b0
  obtain ⟨t, b, h1, h2, h3⟩ := fsz_form f
  have H1 := Lib.hid h1
  have H2 := Lib.hid h2
  have hv : f.v = .agg #[.int .i64 f.gen, .int .i64 f.seq, .string f.body] := rfl
  clear h1 h2 ht
  rw [hv]
  go_enter Tryd.func15, Tryd.ntmps15
  go_wp2_with fail
  rw [← hv]
  refine (implFrameText_any f _ hs ht0).mono ?_
  rintro e w1 ⟨rfl, k1⟩
  rw [H1.out]
  go_wp2
  go_ret
  exact ⟨by rw [← H2.out]; rfl, b0.trans (k1.mono b0.size)⟩

theorem specFrameSize_any (f : Fr) (w : World) (hs : f.body.size ≤ 1099511627776) :
    Calls Tryd.prog 13 #[f.v] w fun e w' => e = .returned (.int .i64 (fsz f : Int)) ∧ Below w.heap.size w w' := by
  have b0 : Below w.heap.size w (w.alloc (.cells #[.int .i64 f.gen, .int .i64 f.seq, .string f.body] 32)) := (Below.refl _ _).alloc (Nat.le_refl _) _
  obtain ⟨t, b, h1, h2, h3⟩ := fsz_form f
  have H1 := Lib.hid h1
  have H2 := Lib.hid h2
  have hv : f.v = .agg #[.int .i64 f.gen, .int .i64 f.seq, .string f.body] := rfl
  clear h1 h2
  rw [hv]
  go_enter Tryd.func13, Tryd.ntmps13
  go_wp2_with fail
  rw [← hv]
  refine (specFrameText_any f _ hs).mono ?_
  rintro e w1 ⟨rfl, k1⟩
  rw [H1.out]
  go_wp2
  go_ret
  exact ⟨by rw [← H2.out]; rfl, b0.trans (k1.mono b0.size)⟩

end Go.Proofs.YtmlhpjkijpbinaqDoor

/- Frames: what ReadFrame hands back, of the model and of the program. -/
namespace Go.Proofs.YtmlhpjkijpbinaqDoor
open Go.RowKit

def zeroFr : Fr := ⟨0, 0, ⟨#[]⟩⟩
/-- What lies ahead of a sum, at whatever place. -/
def ruA (s : ByteArray) (a : Int) : Option (Fr × Nat) := if 0 ≤ a ∧ a ≤ s.size then ru s a.toNat else none
def rfA (s : ByteArray) (a : Int) : Option (Fr × Nat) := if 0 ≤ a ∧ a ≤ s.size then rf fourOf s a.toNat else none
/-- What ReadFrame hands back. -/
def rfT (s : ByteArray) (a : Int) : Value :=
  match rfA s a with
  | some (f, e) => .tuple #[f.v, .int .i64 e, .bool true]
  | none => .tuple #[zeroFr.v, .int .i64 0, .bool false]
theorem rfT_some {s : ByteArray} {a : Int} {f : Fr} {e : Nat} (h : rfA s a = some (f, e)) : rfT s a = .tuple #[f.v, .int .i64 e, .bool true] := by rw [rfT, h]
theorem rfT_none {s : ByteArray} {a : Int} (h : rfA s a = none) : rfT s a = .tuple #[zeroFr.v, .int .i64 0, .bool false] := by rw [rfT, h]
theorem rfA_none {s : ByteArray} {a : Int} (h : ruA s a = none) : rfA s a = none := by
  unfold ruA at h
  unfold rfA
  split
  · rename_i h1
    rw [if_pos h1] at h
    exact rf_none h
  · rfl
theorem rfA_nat {s : ByteArray} {k : Nat} (h : k ≤ s.size) : rfA s (k : Int) = rf fourOf s k := by rw [rfA, if_pos (by omega), Int.toNat_natCast]
theorem ruA_some {s : ByteArray} {a : Int} {x : Fr × Nat} (h : ruA s a = some x) : ∃ k : Nat, a = (k : Int) ∧ k ≤ s.size ∧ ru s k = some x := by
  unfold ruA at h
  split at h
  · rename_i h1
    refine ⟨a.toNat, ?_, ?_, h⟩
    · rw [Int.toNat_of_nonneg h1.1]
    · omega
  · cases h
theorem rfA_some {s : ByteArray} {a : Int} {f : Fr} {e : Nat} (h : rfA s a = some (f, e)) : ∃ k : Nat, a = (k : Int) ∧ k ≤ s.size ∧ rf fourOf s k = some (f, e) := by
  unfold rfA at h
  split at h
  · rename_i h1
    refine ⟨a.toNat, ?_, ?_, h⟩
    · rw [Int.toNat_of_nonneg h1.1]
    · omega
  · cases h

theorem rv_ways (s : ByteArray) (a : Int) : (rvT s a = zeroT ∧ (¬ (0 ≤ a ∧ a ≤ s.size) ∨ rv s.data.toList a.toNat = none)) ∨
    (∃ n b : Nat, rvT s a = .tuple #[.int .i64 n, .int .i64 b, .bool true] ∧ (0 ≤ a ∧ a ≤ s.size) ∧ rv s.data.toList a.toNat = some (n, b)) := by
  by_cases h : 0 ≤ a ∧ a ≤ s.size
  · obtain ⟨k, rfl⟩ := Int.eq_ofNat_of_zero_le h.1
    have hk : k ≤ s.size := by omega
    cases hr : rv s.data.toList k with
    | none => exact .inl ⟨rvT_none hk hr, .inr (by simpa using hr)⟩
    | some x =>
      obtain ⟨n, b⟩ := x
      exact .inr ⟨n, b, rvT_some hk hr, h, by simpa using hr⟩
  · exact .inl ⟨rvT_out h, .inl h⟩

theorem rvT_form' (s : ByteArray) (a : Int) : ∃ (n b : Nat) (f : Bool), rvT s a = .tuple #[.int .i64 n, .int .i64 b, .bool f] := by
  rcases rv_ways s a with ⟨h, _⟩ | ⟨n, b, h, _⟩
  · exact ⟨0, 0, false, h⟩
  · exact ⟨n, b, true, h⟩
theorem rsT_form' (s : ByteArray) (a : Int) : ∃ (t : ByteArray) (b : Int) (f : Bool), rsT s a = .tuple #[.string t, .int .i64 b, .bool f] := rsT_form s a

/-- The ways of reading what lies ahead of a sum. -/
theorem ru_cases (s : ByteArray) (a : Int) : (rvT s a = zeroT ∧ ruA s a = none) ∨
    (∃ g a1 : Nat, rvT s a = .tuple #[.int .i64 g, .int .i64 a1, .bool true] ∧ rvT s a1 = zeroT ∧ ruA s a = none) ∨
    (∃ g a1 q b1 : Nat, rvT s a = .tuple #[.int .i64 g, .int .i64 a1, .bool true] ∧ rvT s a1 = .tuple #[.int .i64 q, .int .i64 b1, .bool true] ∧ rsT s b1 = zeroS ∧ ruA s a = none) ∨
    (∃ (g a1 q b1 : Nat) (t : ByteArray) (e : Nat), rvT s a = .tuple #[.int .i64 g, .int .i64 a1, .bool true] ∧ rvT s a1 = .tuple #[.int .i64 q, .int .i64 b1, .bool true] ∧ rsT s b1 = .tuple #[.string t, .int .i64 e, .bool true] ∧ ruA s a = some (⟨g, q, t⟩, e)) := by
  rcases rv_ways s a with ⟨h1, h2⟩ | ⟨g, a1, h1, hr, h2⟩
  · refine .inl ⟨h1, ?_⟩
    unfold ruA
    split
    · rename_i h
      rcases h2 with h2 | h2
      · exact absurd h h2
      · exact ru_no1 h2
    · rfl
  · obtain ⟨k, rfl⟩ := Int.eq_ofNat_of_zero_le hr.1
    rw [Int.toNat_natCast] at h2
    have hk : k ≤ s.size := by omega
    obtain ⟨_, _, hA, _⟩ := rv_bytes h2 hk
    have hru : ruA s k = ru s k := by rw [ruA, if_pos hr, Int.toNat_natCast]
    rw [hru]
    rcases rv_ways s (a1 : Int) with ⟨h3, h4⟩ | ⟨q, b1, h3, hr3, h4⟩
    · refine .inr (.inl ⟨g, a1, h1, h3, ?_⟩)
      rcases h4 with h4 | h4
      · omega
      · exact ru_no2 h2 (by simpa using h4)
    · rw [Int.toNat_natCast] at h4
      obtain ⟨_, _, hB, _⟩ := rv_bytes h4 hA
      rcases rv_ways s (b1 : Int) with ⟨h5, h6⟩ | ⟨n, c, h5, hr5, h6⟩
      · refine .inr (.inr (.inl ⟨g, a1, q, b1, h1, h3, ?_, ?_⟩))
        · rcases h6 with h6 | h6
          · omega
          · exact rsT_none hB (by simpa using h6)
        · rcases h6 with h6 | h6
          · omega
          · exact ru_no3 h2 h4 (by simpa using h6)
      · rw [Int.toNat_natCast] at h6
        by_cases hn : n ≤ 20000 ∧ n + c ≤ s.size
        · refine .inr (.inr (.inr ⟨g, a1, q, b1, s.extract c (c + n), c + n, h1, h3, ?_, ru_yes h2 h4 h6 hn⟩))
          rw [rsT_yes hB h6 hn, Int.natCast_add]
        · exact .inr (.inr (.inl ⟨g, a1, q, b1, h1, h3, rsT_no hB h6 hn, ru_no4 h2 h4 h6 hn⟩))

/-- Does p stand at the beginning of s? -/
def isPre (s p : ByteArray) : Bool := decide (p.size ≤ s.size ∧ s.extract 0 p.size = p)
theorem isPre_yes {s p : ByteArray} (h : p.size ≤ s.size) : isPre s p = ((s.extract 0 p.size).toList == p.toList) := by
  unfold isPre
  by_cases he : s.extract 0 p.size = p
  · simp [h, he]
  · have : ¬ (s.extract 0 p.size).toList = p.toList := fun e => he (by rw [ByteArray.toList_eq, ByteArray.toList_eq] at e; exact ba_ext e)
    rw [decide_eq_false (fun x => he x.2)]
    simp [this]
theorem isPre_no {s p : ByteArray} (h : ¬ p.size ≤ s.size) : isPre s p = false := decide_eq_false (fun x => h x.1)

theorem hasPrefix0_any (s p : ByteArray) (w : World) :
    Calls Tryd.prog 74 #[.string s, .string p] w fun e w' => e = .returned (.bool (isPre s p)) ∧ w = w' := by
  by_cases h : p.size ≤ s.size
  · have h2 : (p.size : Int) ≤ (s.size : Int) := by omega
    go_enter Tryd.func74, Tryd.ntmps74
    go_wp2
    go_ret
    exact ⟨by rw [isPre_yes h]; rfl, rfl⟩
  · go_enter Tryd.func74, Tryd.ntmps74
    go_wp2
    go_ret
    exact ⟨by rw [isPre_no h]; rfl, rfl⟩

theorem hasPrefix_any (s p : ByteArray) (w : World) :
    Calls Tryd.prog 62 #[.string s, .string p] w fun e w' => e = .returned (.bool (isPre s p)) ∧ w = w' := by
  go_enter Tryd.func62, Tryd.ntmps62
  go_wp2_with (go_at_call 74; refine (hasPrefix0_any _ _ _).mono ?_; rintro e w1 ⟨rfl, rfl⟩)
  go_ret
  exact ⟨rfl, rfl⟩

/-- What readUnsealedFrame hands back. -/
def RuR (s : ByteArray) (a : Int) (w : World) (e : Ending) (w' : World) : Prop :=
  ((∃ f p, ruA s a = some (f, p) ∧ e = .returned (.tuple #[f.v, .bool true])) ∨ (ruA s a = none ∧ ∃ f : Fr, e = .returned (.tuple #[f.v, .bool false]))) ∧ Below w.heap.size w w'

set_option maxRecDepth 100000 in
set_option maxHeartbeats 1000000 in
theorem readUnsealed_any (s : ByteArray) (a : Int) (w : World) (hs : s.size ≤ 1099511627776) :
    Calls Tryd.prog 61 #[.string s, .int .i64 a] w fun e w' => RuR s a w e w' := by
  have b0 : Below w.heap.size w (w.alloc (.cells #[.int .i64 0, .int .i64 0, .string ⟨#[]⟩] 32)) := (Below.refl _ _).alloc (Nat.le_refl _) _
  have hx := Box.new w #[.int .i64 0, .int .i64 0, .string ⟨#[]⟩] 32
  have HC : Hid (∀ x, Below (w.alloc (.cells #[.int .i64 0, .int .i64 0, .string ⟨#[]⟩] 32)).heap.size (w.alloc (.cells #[.int .i64 0, .int .i64 0, .string ⟨#[]⟩] 32)) x → Box x w.heap.size #[.int .i64 0, .int .i64 0, .string ⟨#[]⟩] 32 ∧ Below w.heap.size w x) :=
    fun x h => ⟨hx.later h, b0.trans (h.mono b0.size)⟩
  rcases ru_cases s a with ⟨h1, h2⟩ | ⟨g, a1, h1, h3, h2⟩ | ⟨g, a1, q, b1, h1, h3, h4, h2⟩ | ⟨g, a1, q, b1, t, e, h1, h3, h4, h2⟩
  · have H1 := Lib.hid h1
    have H2 := Lib.hid h2
    clear h1 h2 hx
    go_enter Tryd.func61, Tryd.ntmps61
    go_wp2_with fail
    generalize w.alloc (.cells #[.int .i64 0, .int .i64 0, .string ⟨#[]⟩] 32) = W at *
    refine (implReadVar_any _ _ _ hs).mono ?_
    rintro e' w1 ⟨rfl, k1⟩
    rw [H1.out, zeroT]
    obtain ⟨x1, b1⟩ := HC.out _ k1
    obtain ⟨c0, c1, c2, f0, f1, f2⟩ := x1.three
    go_wp2
    have y := x1.set3 (.int .i64 0) (.int .i64 0) (.string ⟨#[]⟩)
    obtain ⟨g0, g1, g2, _⟩ := y.three
    unfold set3 at g0 g1 g2
    refine bodyPost_ret (v := .tuple #[zeroFr.v, .bool false]) (by simp [results, Tryd.results61, go_sem, g0, g1, g2, Fr.v, zeroFr]) rfl ?_
    exact ⟨.inr ⟨H2.out, zeroFr, rfl⟩, below_set3 b1 (Nat.le_refl _) (.int .i64 0) (.int .i64 0) (.string ⟨#[]⟩)⟩
  · have H1 := Lib.hid h1
    have H2 := Lib.hid h2
    have H3 := Lib.hid h3
    clear h1 h2 hx h3
    go_enter Tryd.func61, Tryd.ntmps61
    go_wp2_with fail
    generalize w.alloc (.cells #[.int .i64 0, .int .i64 0, .string ⟨#[]⟩] 32) = W at *
    refine (implReadVar_any _ _ _ hs).mono ?_
    rintro e' w1 ⟨rfl, k1⟩
    rw [H1.out]
    go_wp2_with fail
    refine (implReadVar_any _ _ _ hs).mono ?_
    rintro e' w2 ⟨rfl, l2⟩
    rw [H3.out, zeroT]
    have k2 := k1.trans (l2.mono k1.size)
    obtain ⟨x2, b2⟩ := HC.out _ k2
    obtain ⟨c0, c1, c2, f0, f1, f2⟩ := x2.three
    go_wp2
    have y := x2.set3 (.int .i64 0) (.int .i64 0) (.string ⟨#[]⟩)
    obtain ⟨g0, g1, g2, _⟩ := y.three
    unfold set3 at g0 g1 g2
    refine bodyPost_ret (v := .tuple #[zeroFr.v, .bool false]) (by simp [results, Tryd.results61, go_sem, g0, g1, g2, Fr.v, zeroFr]) rfl ?_
    exact ⟨.inr ⟨H2.out, zeroFr, rfl⟩, below_set3 b2 (Nat.le_refl _) (.int .i64 0) (.int .i64 0) (.string ⟨#[]⟩)⟩
  · have H1 := Lib.hid h1
    have H2 := Lib.hid h2
    have H3 := Lib.hid h3
    have H4 := Lib.hid h4
    clear h1 h2 hx h3 h4
    go_enter Tryd.func61, Tryd.ntmps61
    go_wp2_with fail
    generalize w.alloc (.cells #[.int .i64 0, .int .i64 0, .string ⟨#[]⟩] 32) = W at *
    refine (implReadVar_any _ _ _ hs).mono ?_
    rintro e' w1 ⟨rfl, k1⟩
    rw [H1.out]
    go_wp2_with fail
    refine (implReadVar_any _ _ _ hs).mono ?_
    rintro e' w2 ⟨rfl, l2⟩
    rw [H3.out]
    have k2 := k1.trans (l2.mono k1.size)
    go_wp2_with fail
    refine (implReadShort_any _ _ _ hs).mono ?_
    rintro e' w3 ⟨rfl, l3⟩
    rw [H4.out, zeroS]
    have k3 := k2.trans (l3.mono k2.size)
    obtain ⟨x3, b3⟩ := HC.out _ k3
    obtain ⟨c0, c1, c2, f0, f1, f2⟩ := x3.three
    go_wp2
    have y := x3.set3 (.int .i64 (g : Int)) (.int .i64 (q : Int)) (.string ⟨#[]⟩)
    obtain ⟨g0, g1, g2, _⟩ := y.three
    unfold set3 at g0 g1 g2
    refine bodyPost_ret (v := .tuple #[Fr.v ⟨g, q, ⟨#[]⟩⟩, .bool false]) (by simp [results, Tryd.results61, go_sem, g0, g1, g2, Fr.v]) rfl ?_
    exact ⟨.inr ⟨H2.out, ⟨g, q, ⟨#[]⟩⟩, rfl⟩, below_set3 b3 (Nat.le_refl _) (.int .i64 (g : Int)) (.int .i64 (q : Int)) (.string ⟨#[]⟩)⟩
  · have H1 := Lib.hid h1
    have H2 := Lib.hid h2
    have H3 := Lib.hid h3
    have H4 := Lib.hid h4
    clear h1 h2 hx h3 h4
    go_enter Tryd.func61, Tryd.ntmps61
    go_wp2_with fail
    generalize w.alloc (.cells #[.int .i64 0, .int .i64 0, .string ⟨#[]⟩] 32) = W at *
    refine (implReadVar_any _ _ _ hs).mono ?_
    rintro e' w1 ⟨rfl, k1⟩
    rw [H1.out]
    go_wp2_with fail
    refine (implReadVar_any _ _ _ hs).mono ?_
    rintro e' w2 ⟨rfl, l2⟩
    rw [H3.out]
    have k2 := k1.trans (l2.mono k1.size)
    go_wp2_with fail
    refine (implReadShort_any _ _ _ hs).mono ?_
    rintro e' w3 ⟨rfl, l3⟩
    rw [H4.out]
    have k3 := k2.trans (l3.mono k2.size)
    obtain ⟨x3, b3⟩ := HC.out _ k3
    obtain ⟨c0, c1, c2, f0, f1, f2⟩ := x3.three
    go_wp2
    have y := x3.set3 (.int .i64 (g : Int)) (.int .i64 (q : Int)) (.string t)
    obtain ⟨g0, g1, g2, _⟩ := y.three
    unfold set3 at g0 g1 g2
    refine bodyPost_ret (v := .tuple #[Fr.v ⟨g, q, t⟩, .bool true]) (by simp [results, Tryd.results61, go_sem, g0, g1, g2, Fr.v]) rfl ?_
    exact ⟨.inl ⟨_, _, H2.out, rfl⟩, below_set3 b3 (Nat.le_refl _) (.int .i64 (g : Int)) (.int .i64 (q : Int)) (.string t)⟩

theorem pre_iff {s : ByteArray} {k e : Nat} {f : Fr} (h : ru s k = some (f, e)) (hk : k ≤ s.size) : isPre (s.extract k s.size) f.tx = decide (e + 4 ≤ s.size ∧ f.tx = s.extract k (e + 4)) := by
  obtain ⟨h1, h2, h3, _⟩ := ru_raw h hk
  have hsz : f.tx.size = e - k + 4 := by rw [Fr.tx_size, h1, ByteArray.size_extract]; omega
  unfold isPre
  apply decide_eq_decide.2
  rw [hsz, ByteArray.size_extract]
  have e1 : ∀ m, k + m ≤ s.size → (s.extract k s.size).extract 0 m = s.extract k (k + m) := by
    intro m hm
    apply ba_ext
    rw [extract_data, extract_data, extract_data, List.drop_zero, List.take_take]
    congr 1
    omega
  constructor
  · rintro ⟨a1, a2⟩
    rw [e1 _ (by omega)] at a2
    refine ⟨by omega, ?_⟩
    rw [show e + 4 = k + (e - k + 4) by omega]
    exact a2.symm
  · rintro ⟨a1, a2⟩
    refine ⟨by omega, ?_⟩
    rw [e1 _ (by omega), a2]
    congr 1
    omega

set_option maxRecDepth 100000 in
set_option maxHeartbeats 1000000 in
theorem implReadFrame_any (s : ByteArray) (a : Int) (w : World) (hs : s.size ≤ 1099511627776) (ht : SumTab w) :
    Calls Tryd.prog 44 #[.string s, .int .i64 a] w fun e w' => e = .returned (rfT s a) ∧ Below w.heap.size w w' := by
  have b0 : Below w.heap.size w (w.alloc (.cells #[.int .i64 0, .int .i64 0, .string ⟨#[]⟩] 32)) := (Below.refl _ _).alloc (Nat.le_refl _) _
  have hx := Box.new w #[.int .i64 0, .int .i64 0, .string ⟨#[]⟩] 32
  have HC : Hid (∀ x, Below (w.alloc (.cells #[.int .i64 0, .int .i64 0, .string ⟨#[]⟩] 32)).heap.size (w.alloc (.cells #[.int .i64 0, .int .i64 0, .string ⟨#[]⟩] 32)) x → Box x w.heap.size #[.int .i64 0, .int .i64 0, .string ⟨#[]⟩] 32 ∧ Below w.heap.size w x) :=
    fun x h => ⟨hx.later h, b0.trans (h.mono b0.size)⟩
  have HT : Hid (∀ x, Below w.heap.size w x → SumTab x) := fun x hb => ht.later hb
  clear hx ht
  go_enter Tryd.func44, Tryd.ntmps44
  go_wp2_with fail
  generalize w.alloc (.cells #[.int .i64 0, .int .i64 0, .string ⟨#[]⟩] 32) = W at *
  refine (readUnsealed_any s a _ hs).mono ?_
  rintro e w1 ⟨⟨f, p, hu, rfl⟩ | ⟨hu, f, rfl⟩, k1⟩
  · obtain ⟨k, rfl, hk, hru⟩ := ruA_some hu
    obtain ⟨r1, r2, r3, r4, r5, r6⟩ := ru_raw hru hk
    have hpre := Lib.hid (pre_iff hru hk)
    have hsz : f.tx.size = p - k + 4 := by rw [Fr.tx_size, r1, ByteArray.size_extract]; omega
    have hrf := Lib.hid (rfA_nat hk)
    have HU := Lib.hid hru
    have y2 := Box.new w1 #[.int .i64 f.gen, .int .i64 f.seq, .string f.body] 32
    have k2 : Below W.heap.size W (w1.alloc (.cells #[.int .i64 f.gen, .int .i64 f.seq, .string f.body] 32)) := k1.alloc k1.size _
    have hv : f.v = .agg #[.int .i64 f.gen, .int .i64 f.seq, .string f.body] := rfl
    clear r1 hu hru
    rw [hv]
    go_upto_region 2 with fail
    generalize w1.alloc (.cells #[.int .i64 f.gen, .int .i64 f.seq, .string f.body] 32) = w2 at y2 k2 ⊢
    obtain ⟨c0, c1, c2, _, _, _⟩ := y2.three
    obtain ⟨_, b2⟩ := HC.out _ k2
    go_wp2_with fail
    rw [← hv]
    refine (implFrameText_any f _ (by omega) (HT.out _ b2)).mono ?_
    rintro e w3 ⟨rfl, k3⟩
    clear c0 c1 c2
    have y3 := y2.later k3
    have j3 := k2.trans (k3.mono k2.size)
    obtain ⟨x3, b3⟩ := HC.out _ j3
    obtain ⟨c0, c1, c2, f0, f1, f2⟩ := x3.three
    by_cases hok : f.ok
    · rw [ftT_yes hok]
      have hle := Fr.tx_le hok
      have hks : (k : Int) ≤ (s.size : Int) := by omega
      by_cases hp : p + 4 ≤ s.size ∧ f.tx = s.extract k (p + 4)
      · have hpt : isPre (s.extract k s.size) f.tx = true := by rw [hpre.out]; exact decide_eq_true hp
        have HZ := Lib.hid (rfT_some (hrf.out.trans (rf_yes HU.out ⟨hok, hp.1, hp.2⟩)))
        have HP := Lib.hid hpt
        obtain ⟨g0, g1, g2, _, _, _⟩ := y3.three
        clear hp hpt hpre hok
        go_wp2_with (first | (go_at_call 62; refine (hasPrefix_any _ _ _).mono ?_; rintro e w4 ⟨rfl, rfl⟩; rw [HP.out]))
        have y := x3.set3 (.int .i64 f.gen) (.int .i64 f.seq) (.string f.body)
        obtain ⟨q0, q1, q2, _⟩ := y.three
        unfold set3 at q0 q1 q2
        refine bodyPost_ret (v := .tuple #[f.v, .int .i64 ((p + 4 : Nat) : Int), .bool true]) (by simp [results, Tryd.results44, go_sem, q0, q1, q2, Fr.v]; omega) rfl ?_
        exact ⟨by rw [HZ.out], below_set3 b3 (Nat.le_refl _) _ _ _⟩
      · have hpt : isPre (s.extract k s.size) f.tx = false := by rw [hpre.out]; exact decide_eq_false hp
        have HZ := Lib.hid (rfT_none (hrf.out.trans (rf_no HU.out (fun h => hp ⟨h.2.1, h.2.2⟩))))
        have HP := Lib.hid hpt
        clear hp hpt hpre hok
        go_wp2_with (first | (go_at_call 62; refine (hasPrefix_any _ _ _).mono ?_; rintro e w4 ⟨rfl, rfl⟩; rw [HP.out]))
        have y := x3.set3 (.int .i64 0) (.int .i64 0) (.string ⟨#[]⟩)
        obtain ⟨q0, q1, q2, _⟩ := y.three
        unfold set3 at q0 q1 q2
        refine bodyPost_ret (v := .tuple #[zeroFr.v, .int .i64 0, .bool false]) (by simp [results, Tryd.results44, go_sem, q0, q1, q2, Fr.v, zeroFr]) rfl ?_
        exact ⟨by rw [HZ.out], below_set3 b3 (Nat.le_refl _) _ _ _⟩
    · rw [ftT_no hok]
      have HZ := Lib.hid (rfT_none (hrf.out.trans (rf_no HU.out (fun h => hok h.1))))
      clear hok hpre
      go_wp2
      have y := x3.set3 (.int .i64 0) (.int .i64 0) (.string ⟨#[]⟩)
      obtain ⟨q0, q1, q2, _⟩ := y.three
      unfold set3 at q0 q1 q2
      refine bodyPost_ret (v := .tuple #[zeroFr.v, .int .i64 0, .bool false]) (by simp [results, Tryd.results44, go_sem, q0, q1, q2, Fr.v, zeroFr]) rfl ?_
      exact ⟨by rw [HZ.out], below_set3 b3 (Nat.le_refl _) _ _ _⟩
  · have HZ := Lib.hid (rfT_none (rfA_none hu))
    have y2 := Box.new w1 #[.int .i64 f.gen, .int .i64 f.seq, .string f.body] 32
    have k2 : Below W.heap.size W (w1.alloc (.cells #[.int .i64 f.gen, .int .i64 f.seq, .string f.body] 32)) := k1.alloc k1.size _
    clear hu
    unfold Fr.v
    go_upto_region 2 with fail
    generalize w1.alloc (.cells #[.int .i64 f.gen, .int .i64 f.seq, .string f.body] 32) = w2 at y2 k2 ⊢
    obtain ⟨x2, b2⟩ := HC.out _ k2
    obtain ⟨c0, c1, c2, f0, f1, f2⟩ := x2.three
    go_wp2
    have y := x2.set3 (.int .i64 0) (.int .i64 0) (.string ⟨#[]⟩)
    obtain ⟨q0, q1, q2, _⟩ := y.three
    unfold set3 at q0 q1 q2
    refine bodyPost_ret (v := .tuple #[zeroFr.v, .int .i64 0, .bool false]) (by simp [results, Tryd.results44, go_sem, q0, q1, q2, Fr.v, zeroFr]) rfl ?_
    exact ⟨by rw [HZ.out], below_set3 b2 (Nat.le_refl _) _ _ _⟩

end Go.Proofs.YtmlhpjkijpbinaqDoor

/- Frames: what the model's ReadFrame hands back. -/
namespace Go.Proofs.YtmlhpjkijpbinaqDoor
open Go.RowKit

theorem specReadFrame_form (s t : ByteArray) (k e : Nat) : (t.toList == (s.extract k e).toList) = decide (t = s.extract k e) := by
  by_cases h : t = s.extract k e
  · simp [h]
  · have : ¬ t.toList = (s.extract k e).toList := fun e => h (by rw [ByteArray.toList_eq, ByteArray.toList_eq] at e; exact ba_ext e)
    rw [decide_eq_false h]
    simp [this]

set_option maxRecDepth 100000 in
set_option maxHeartbeats 2000000 in
theorem specReadFrame_any (s : ByteArray) (a : Int) (w : World) (hs : s.size ≤ 1099511627776) :
    Calls Tryd.prog 24 #[.string s, .int .i64 a] w fun e w' => e = .returned (rfT s a) ∧ Below w.heap.size w w' := by
  have b0 : Below w.heap.size w (w.alloc (.cells #[.int .i64 0, .int .i64 0, .string ⟨#[]⟩] 32)) := (Below.refl _ _).alloc (Nat.le_refl _) _
  have hx := Box.new w #[.int .i64 0, .int .i64 0, .string ⟨#[]⟩] 32
  have HC : Hid (∀ x, Below (w.alloc (.cells #[.int .i64 0, .int .i64 0, .string ⟨#[]⟩] 32)).heap.size (w.alloc (.cells #[.int .i64 0, .int .i64 0, .string ⟨#[]⟩] 32)) x → Box x w.heap.size #[.int .i64 0, .int .i64 0, .string ⟨#[]⟩] 32 ∧ Below w.heap.size w x) :=
    fun x h => ⟨hx.later h, b0.trans (h.mono b0.size)⟩
  have HV : Hid (∀ a, ∃ (n b : Nat) (f : Bool), rvT s a = .tuple #[.int .i64 n, .int .i64 b, .bool f]) := fun a => rvT_form' s a
  have HS : Hid (∀ a, ∃ (t : ByteArray) (b : Int) (f : Bool), rsT s a = .tuple #[.string t, .int .i64 b, .bool f]) := fun a => rsT_form' s a
  clear hx
  rcases ru_cases s a with ⟨h1, h2⟩ | ⟨g, a1, h1, h3, h2⟩ | ⟨g, a1, q, b1, h1, h3, h4, h2⟩ | ⟨g, a1, q, b1, t, e, h1, h3, h4, h2⟩
  · have H1 := Lib.hid h1
    have HZ := Lib.hid (rfT_none (rfA_none h2))
    clear h1 h2
    go_enter Tryd.func24, Tryd.ntmps24
    go_wp2_with fail
    generalize w.alloc (.cells #[.int .i64 0, .int .i64 0, .string ⟨#[]⟩] 32) = W at *
    refine (specReadVar_any _ _ _ hs).mono ?_
    rintro e' w1 ⟨rfl, l1⟩
    rw [H1.out, zeroT]
    have k1 := l1
    obtain ⟨n2, c2, g2, H2⟩ := HV.out 0
    have H2 := Lib.hid H2
    go_wp2_with fail
    refine (specReadVar_any _ _ _ hs).mono ?_
    rintro e' w2 ⟨rfl, l2⟩
    rw [H2.out]
    have k2 := k1.trans (l2.mono k1.size)
    obtain ⟨t3, c3, g3, H3⟩ := HS.out c2
    have H3 := Lib.hid H3
    go_wp2_with fail
    refine (specReadShort_any _ _ _ hs).mono ?_
    rintro e' w3 ⟨rfl, l3⟩
    rw [H3.out]
    have k3 := k2.trans (l3.mono k2.size)
    have y4 := Box.new w3 #[.int .i64 0, .int .i64 (n2 : Int), .string t3] 32
    have k4 : Below W.heap.size W (w3.alloc (.cells #[.int .i64 0, .int .i64 (n2 : Int), .string t3] 32)) := k3.alloc k3.size _
    go_upto_region 5 with fail
    generalize w3.alloc (.cells #[.int .i64 0, .int .i64 (n2 : Int), .string t3] 32) = w4 at y4 k4 ⊢
    obtain ⟨x4, b4'⟩ := HC.out _ k4
    obtain ⟨c0, c1, c2, f0, f1, f2⟩ := x4.three
    go_wp2
    have y := x4.set3 (.int .i64 0) (.int .i64 0) (.string ⟨#[]⟩)
    obtain ⟨q0, q1, q2, _⟩ := y.three
    unfold set3 at q0 q1 q2
    refine bodyPost_ret (v := .tuple #[zeroFr.v, .int .i64 0, .bool false]) (by simp [results, Tryd.results24, go_sem, q0, q1, q2, Fr.v, zeroFr]) rfl ?_
    exact ⟨by rw [HZ.out], below_set3 b4' (Nat.le_refl _) _ _ _⟩
  · have H1 := Lib.hid h1
    have H2 := Lib.hid h3
    have HZ := Lib.hid (rfT_none (rfA_none h2))
    clear h1 h2 h3
    go_enter Tryd.func24, Tryd.ntmps24
    go_wp2_with fail
    generalize w.alloc (.cells #[.int .i64 0, .int .i64 0, .string ⟨#[]⟩] 32) = W at *
    refine (specReadVar_any _ _ _ hs).mono ?_
    rintro e' w1 ⟨rfl, l1⟩
    rw [H1.out]
    have k1 := l1
    go_wp2_with fail
    refine (specReadVar_any _ _ _ hs).mono ?_
    rintro e' w2 ⟨rfl, l2⟩
    rw [H2.out, zeroT]
    have k2 := k1.trans (l2.mono k1.size)
    obtain ⟨t3, c3, g3, H3⟩ := HS.out 0
    have H3 := Lib.hid H3
    go_wp2_with fail
    refine (specReadShort_any _ _ _ hs).mono ?_
    rintro e' w3 ⟨rfl, l3⟩
    rw [H3.out]
    have k3 := k2.trans (l3.mono k2.size)
    have y4 := Box.new w3 #[.int .i64 (g : Int), .int .i64 0, .string t3] 32
    have k4 : Below W.heap.size W (w3.alloc (.cells #[.int .i64 (g : Int), .int .i64 0, .string t3] 32)) := k3.alloc k3.size _
    go_upto_region 5 with fail
    generalize w3.alloc (.cells #[.int .i64 (g : Int), .int .i64 0, .string t3] 32) = w4 at y4 k4 ⊢
    obtain ⟨x4, b4'⟩ := HC.out _ k4
    obtain ⟨c0, c1, c2, f0, f1, f2⟩ := x4.three
    go_wp2
    have y := x4.set3 (.int .i64 0) (.int .i64 0) (.string ⟨#[]⟩)
    obtain ⟨q0, q1, q2, _⟩ := y.three
    unfold set3 at q0 q1 q2
    refine bodyPost_ret (v := .tuple #[zeroFr.v, .int .i64 0, .bool false]) (by simp [results, Tryd.results24, go_sem, q0, q1, q2, Fr.v, zeroFr]) rfl ?_
    exact ⟨by rw [HZ.out], below_set3 b4' (Nat.le_refl _) _ _ _⟩
  · have H1 := Lib.hid h1
    have H2 := Lib.hid h3
    have H3 := Lib.hid h4
    have HZ := Lib.hid (rfT_none (rfA_none h2))
    clear h1 h2 h3 h4
    go_enter Tryd.func24, Tryd.ntmps24
    go_wp2_with fail
    generalize w.alloc (.cells #[.int .i64 0, .int .i64 0, .string ⟨#[]⟩] 32) = W at *
    refine (specReadVar_any _ _ _ hs).mono ?_
    rintro e' w1 ⟨rfl, l1⟩
    rw [H1.out]
    have k1 := l1
    go_wp2_with fail
    refine (specReadVar_any _ _ _ hs).mono ?_
    rintro e' w2 ⟨rfl, l2⟩
    rw [H2.out]
    have k2 := k1.trans (l2.mono k1.size)
    go_wp2_with fail
    refine (specReadShort_any _ _ _ hs).mono ?_
    rintro e' w3 ⟨rfl, l3⟩
    rw [H3.out, zeroS]
    have k3 := k2.trans (l3.mono k2.size)
    have y4 := Box.new w3 #[.int .i64 (g : Int), .int .i64 (q : Int), .string ⟨#[]⟩] 32
    have k4 : Below W.heap.size W (w3.alloc (.cells #[.int .i64 (g : Int), .int .i64 (q : Int), .string ⟨#[]⟩] 32)) := k3.alloc k3.size _
    go_upto_region 5 with fail
    generalize w3.alloc (.cells #[.int .i64 (g : Int), .int .i64 (q : Int), .string ⟨#[]⟩] 32) = w4 at y4 k4 ⊢
    obtain ⟨x4, b4'⟩ := HC.out _ k4
    obtain ⟨c0, c1, c2, f0, f1, f2⟩ := x4.three
    go_wp2
    have y := x4.set3 (.int .i64 0) (.int .i64 0) (.string ⟨#[]⟩)
    obtain ⟨q0, q1, q2, _⟩ := y.three
    unfold set3 at q0 q1 q2
    refine bodyPost_ret (v := .tuple #[zeroFr.v, .int .i64 0, .bool false]) (by simp [results, Tryd.results24, go_sem, q0, q1, q2, Fr.v, zeroFr]) rfl ?_
    exact ⟨by rw [HZ.out], below_set3 b4' (Nat.le_refl _) _ _ _⟩
  · have H1 := Lib.hid h1
    have H2 := Lib.hid h3
    have H3 := Lib.hid h4
    obtain ⟨k, rfl, hk, hru⟩ := ruA_some h2
    obtain ⟨r1, r2, r3, r4, r5, r6⟩ := ru_raw hru hk
    have hrf := Lib.hid (rfA_nat hk)
    have HU := Lib.hid hru
    obtain ⟨f, hf⟩ : ∃ f : Fr, (⟨g, q, t⟩ : Fr) = f := ⟨_, rfl⟩
    have HF := Lib.hid hf
    have hv : Hid (f.v = .agg #[.int .i64 (g : Int), .int .i64 (q : Int), .string t]) := by rw [← hf]; rfl
    have hk0 : (0 : Int) ≤ (k : Int) := by omega
    have hke : (k : Int) ≤ (e : Int) := by omega
    rw [hf] at r6
    clear h1 h2 h3 h4 r1 r4 r5 hru hf
    go_enter Tryd.func24, Tryd.ntmps24
    go_wp2_with fail
    generalize w.alloc (.cells #[.int .i64 0, .int .i64 0, .string ⟨#[]⟩] 32) = W at *
    refine (specReadVar_any _ _ _ hs).mono ?_
    rintro e' w1 ⟨rfl, l1⟩
    rw [H1.out]
    have k1 := l1
    go_wp2_with fail
    refine (specReadVar_any _ _ _ hs).mono ?_
    rintro e' w2 ⟨rfl, l2⟩
    rw [H2.out]
    have k2 := k1.trans (l2.mono k1.size)
    go_wp2_with fail
    refine (specReadShort_any _ _ _ hs).mono ?_
    rintro e' w3 ⟨rfl, l3⟩
    rw [H3.out]
    have k3 := k2.trans (l3.mono k2.size)
    have y4 := Box.new w3 #[.int .i64 (g : Int), .int .i64 (q : Int), .string t] 32
    have k4 : Below W.heap.size W (w3.alloc (.cells #[.int .i64 (g : Int), .int .i64 (q : Int), .string t] 32)) := k3.alloc k3.size _
    go_upto_region 5 with fail
    generalize w3.alloc (.cells #[.int .i64 (g : Int), .int .i64 (q : Int), .string t] 32) = w4 at y4 k4 ⊢
    by_cases hlen : e + 4 ≤ s.size
    · obtain ⟨c0, c1, c2, _, _, _⟩ := y4.three
      have hl1 : (e : Int) ≤ (s.size : Int) - 4 := by omega
      go_wp2_with fail
      rw [← hv.out]
      refine (specFrameText_any f _ (by omega)).mono ?_
      rintro e' w5 ⟨rfl, l5⟩
      have j5 := k4.trans (l5.mono k4.size)
      have y5 := y4.later l5
      clear c0 c1 c2
      by_cases hok : f.ok
      · rw [ftT_yes hok]
        have hle := Fr.tx_le hok
        have hfm := specReadFrame_form s f.tx k (e + 4)
        by_cases hp : f.tx = s.extract k (e + 4)
        · have HZ := Lib.hid (rfT_some (hrf.out.trans (rf_yes HU.out (by rw [HF.out]; exact ⟨hok, hlen, hp⟩))))
          obtain ⟨g0, g1, g2, _, _, _⟩ := y5.three
          obtain ⟨x5, b5⟩ := HC.out _ j5
          obtain ⟨c0, c1, c2, f0, f1, f2⟩ := x5.three
          rw [decide_eq_true hp] at hfm
          clear hp hok
          go_wp2
          have y := x5.set3 (.int .i64 (g : Int)) (.int .i64 (q : Int)) (.string t)
          obtain ⟨q0, q1, q2, _⟩ := y.three
          unfold set3 at q0 q1 q2
          refine bodyPost_ret (v := .tuple #[Fr.v ⟨g, q, t⟩, .int .i64 ((e + 4 : Nat) : Int), .bool true]) (by simp [results, Tryd.results24, go_sem, q0, q1, q2, Fr.v]) rfl ?_
          exact ⟨by rw [HZ.out], below_set3 b5 (Nat.le_refl _) _ _ _⟩
        · have HZ := Lib.hid (rfT_none (hrf.out.trans (rf_no HU.out (by rw [HF.out]; exact fun h => hp h.2.2))))
          rw [decide_eq_false hp] at hfm
          clear hp hok
          obtain ⟨x5, b5'⟩ := HC.out _ j5
          obtain ⟨c0, c1, c2, f0, f1, f2⟩ := x5.three
          go_wp2
          have y := x5.set3 (.int .i64 0) (.int .i64 0) (.string ⟨#[]⟩)
          obtain ⟨q0, q1, q2, _⟩ := y.three
          unfold set3 at q0 q1 q2
          refine bodyPost_ret (v := .tuple #[zeroFr.v, .int .i64 0, .bool false]) (by simp [results, Tryd.results24, go_sem, q0, q1, q2, Fr.v, zeroFr]) rfl ?_
          exact ⟨by rw [HZ.out], below_set3 b5' (Nat.le_refl _) _ _ _⟩
      · rw [ftT_no hok]
        have HZ := Lib.hid (rfT_none (hrf.out.trans (rf_no HU.out (by rw [HF.out]; exact fun h => hok h.1))))
        clear hok
        obtain ⟨x5, b5'⟩ := HC.out _ j5
        obtain ⟨c0, c1, c2, f0, f1, f2⟩ := x5.three
        go_wp2
        have y := x5.set3 (.int .i64 0) (.int .i64 0) (.string ⟨#[]⟩)
        obtain ⟨q0, q1, q2, _⟩ := y.three
        unfold set3 at q0 q1 q2
        refine bodyPost_ret (v := .tuple #[zeroFr.v, .int .i64 0, .bool false]) (by simp [results, Tryd.results24, go_sem, q0, q1, q2, Fr.v, zeroFr]) rfl ?_
        exact ⟨by rw [HZ.out], below_set3 b5' (Nat.le_refl _) _ _ _⟩
    · have HZ := Lib.hid (rfT_none (hrf.out.trans (rf_no HU.out (fun h => hlen h.2.1))))
      have hl1 : (s.size : Int) - 4 < (e : Int) := by omega
      clear hlen
      obtain ⟨x4, b4'⟩ := HC.out _ k4
      obtain ⟨c0, c1, c2, f0, f1, f2⟩ := x4.three
      go_wp2
      have y := x4.set3 (.int .i64 0) (.int .i64 0) (.string ⟨#[]⟩)
      obtain ⟨q0, q1, q2, _⟩ := y.three
      unfold set3 at q0 q1 q2
      refine bodyPost_ret (v := .tuple #[zeroFr.v, .int .i64 0, .bool false]) (by simp [results, Tryd.results24, go_sem, q0, q1, q2, Fr.v, zeroFr]) rfl ?_
      exact ⟨by rw [HZ.out], below_set3 b4' (Nat.le_refl _) _ _ _⟩

end Go.Proofs.YtmlhpjkijpbinaqDoor

/- Appends of one list of the call's own to another, at an operation, in a list of operations and in a region that draws its order. -/
namespace Go.Proofs.YtmlhpjkijpbinaqDoor
open Go.RowKit

variable {α : Type} {E : Enc α}

theorem RBuf.shift {B : Nat} {w w' : World} {v : Value} {l : List α} {r : Option Nat} (h : RBuf E B w w v l) (hg : w.grownBy w' r) (hne : v.ownBlock = none ∨ v.ownBlock ≠ r) : RBuf E B w' w' v l :=
  ⟨h.own.kept hg hne, Below.refl _ _, Nat.le_trans h.le hg.size⟩

theorem RBuf.lower {B B0 : Nat} {w : World} {v : Value} {l : List α} (h : RBuf E B w w v l) (hB : B0 ≤ B) : RBuf E B0 w w v l := h.down (Below.refl _ _) hB

/-- What is appended: a list of whoever's own. -/
theorem run_append_rows {w : World} (ty : TypeId) (B : Nat) (v : Value) (l : List α) (hb : RBuf E B w w v l) (Bx : Nat) (vx : Value) (m : List α) (hx : RBuf E Bx w w vx m)
    (hlen : (l.length + m.length) * (E.bytes + 1) ≤ 140737488355328) :
    ∃ v' w', (Builtin.append_ #[E.sty, E.sty] ty #[v, vx]).run Tryd.prog w = .ok v' w' ∧ RBuf E B w' w' v' (l ++ m) ∧ w.grownBy w' v.ownBlock ∧ (v'.ownBlock = v.ownBlock ∨ v'.ownBlock = some w.heap.size) := by
  obtain ⟨i0, hi, hz0, hz1, hz2⟩ := info_parts E.info
  have e0 : (l.length + m.length) * (E.bytes + 1) = (l.length + m.length) * E.bytes + (l.length + m.length) := Nat.mul_succ _ _
  rcases hx.own.2 with ⟨rfl, h0⟩ | ⟨g, cap, cur, rfl, hg, hh, hnc, hcp, hcs, htake⟩
  · obtain rfl := List.length_eq_zero_iff.1 h0
    refine ⟨v, w, run_append_owned_none (P := Tryd.prog) w B E.sty ty E.ty i0 E.sz E.und hi v l.length (E.row l) hb.own, by simpa using hb, World.grownBy.refl _ _, .inl rfl⟩
  · obtain ⟨v', w', h1, h2, h3, _, h5⟩ := run_append_own_at (P := Tryd.prog) w B E.sty ty E.ty i0 E.zero E.sz E.bytes E.und hi hz0 hz1 hz2 E.zc E.pos v l.length (E.row l) hb.own ⟨g, 0, none⟩ m.length cap (E.row m) (E.row_length m)
      (fun j u hu => by
        have hjl : j < m.length * E.sz := by have := (List.getElem?_eq_some_iff.1 hu).1; rwa [E.row_length] at this
        rw [Addr.add_lit, Nat.zero_add, hx.own.cellAt j hjl]; exact hu) (E.row_one' m) (by unfold maxLen; omega) (by omega) hb.le
    refine ⟨v', w', h1, ⟨?_, Below.refl _ _, Nat.le_trans hb.le h3.size⟩, h3, h5⟩
    rw [List.length_append, E.row_append]
    exact h2

theorem wp_append_rows {w : World} {o : Oper} {a : Act} {K : Act → World → Prop} {Q : Exit → Act → World → Prop} (s x : Operand) (E : Enc α)
    (ho : o.op = .call { callee := .builtin .append, args := #[s, x], argTypes := #[E.sty, E.sty] })
    (B : Nat) (v : Value) (l : List α) (hs : a.eval s = v) (hb : RBuf E B w w v l) (Bx : Nat) (vx : Value) (m : List α) (hxv : a.eval x = vx) (hx : RBuf E Bx w w vx m)
    (hlen : (l.length + m.length) * (E.bytes + 1) ≤ 140737488355328)
    (h : ∀ v' w', RBuf E B w' w' v' (l ++ m) → w.grownBy w' v.ownBlock → (v'.ownBlock = v.ownBlock ∨ v'.ownBlock = some w.heap.size) → K (a.put o.dst v') w') : o.wp Tryd.prog a w K Q := by
  obtain ⟨v', w', hr, h2, h3, h4⟩ := run_append_rows o.type B v l hb Bx vx m hx hlen
  unfold Oper.wp execOp
  simp only [ho, resolve, invoke, builtin, Sem.run_bind, Sem.run_pure, Result.andThen_ok, List.map_toArray, List.map_cons, List.map_nil, hs, hxv, hr]
  exact h v' w' h2 h3 h4

theorem wpList_append_rows {w : World} {ops : Array Oper} {rest : List Oper} {o : Oper} {a : Act} {Q : Exit → Act → World → Prop} (hgd : o.guard = none) (s x : Operand) (E : Enc α)
    (ho : o.op = .call { callee := .builtin .append, args := #[s, x], argTypes := #[E.sty, E.sty] })
    (B : Nat) (v : Value) (l : List α) (hs : a.eval s = v) (hb : RBuf E B w w v l) (Bx : Nat) (vx : Value) (m : List α) (hxv : a.eval x = vx) (hx : RBuf E Bx w w vx m)
    (hlen : (l.length + m.length) * (E.bytes + 1) ≤ 140737488355328)
    (h : ∀ v' w', RBuf E B w' w' v' (l ++ m) → w.grownBy w' v.ownBlock → (v'.ownBlock = v.ownBlock ∨ v'.ownBlock = some w.heap.size) → wpList Tryd.prog ops Q rest (a.put o.dst v') w') : wpList Tryd.prog ops Q (o :: rest) a w :=
  wpList_plain hgd fun _ hK => wp_append_rows s x E ho B v l hs hb Bx vx m hxv hx hlen fun v' w' h2 h3 h4 => hK _ _ (h v' w' h2 h3 h4)

theorem step_append_rows {w : World} {ops : Array Oper} {o : Oper} {a : Act} {K : Act → World → Prop} {Q : Exit → Act → World → Prop} {X : Prop} (hgd : o.guard = none) (s x : Operand) (E : Enc α)
    (ho : o.op = .call { callee := .builtin .append, args := #[s, x], argTypes := #[E.sty, E.sty] })
    (B : Nat) (v : Value) (l : List α) (hs : a.eval s = v) (hb : RBuf E B w w v l) (Bx : Nat) (vx : Value) (m : List α) (hxv : a.eval x = vx) (hx : RBuf E Bx w w vx m)
    (hlen : (l.length + m.length) * (E.bytes + 1) ≤ 140737488355328)
    (h : ∀ v' w', RBuf E B w' w' v' (l ++ m) → w.grownBy w' v.ownBlock → (v'.ownBlock = v.ownBlock ∨ v'.ownBlock = some w.heap.size) → (∀ k, v.ownBlock = some k → B ≤ k ∧ k < w.heap.size) → K (a.put o.dst v') w') :
    if Region.wanted o (yielded ops a.tmps) = true then Oper.wp Tryd.prog o a w K Q else X := by
  have hw : Region.wanted o (yielded ops a.tmps) = true := by simp [Region.wanted, hgd]
  rw [if_pos hw]
  exact wp_append_rows s x E ho B v l hs hb Bx vx m hxv hx hlen fun v' w' h2 h3 h4 => h v' w' h2 h3 h4 (fun k hk => hb.own.lt k hk)

/-- One element in a new row, as an append asks for it. -/
theorem RBuf.lit1 (E : Enc α) (w : World) (x : α) : RBuf E w.heap.size (w.alloc (.cells (E.f x).toArray E.ty)) (w.alloc (.cells (E.f x).toArray E.ty)) (.slice (some ⟨w.heap.size, 0, none⟩) 1 1) [x] := by
  refine ⟨?_, Below.refl _ _, by simp⟩
  have := World.ownsRow_lit (base := w.heap.size) (e := E.ty) (size := E.sz) w (E.f x).toArray 1 (Nat.le_refl _) (by decide) (by simp [E.len])
  simpa [E.row_one] using this

end Go.Proofs.YtmlhpjkijpbinaqDoor

/- How frames lie in memory. -/
namespace Go.Proofs.YtmlhpjkijpbinaqDoor
open Go.RowKit

def frE : Enc Fr where
  ty := 32
  sty := 22
  sz := 3
  bytes := 32
  zero := .agg #[.int .i64 0, .int .i64 0, .string ⟨#[]⟩]
  f := fun x => [.int .i64 x.gen, .int .i64 x.seq, .string x.body]
  len := fun _ => rfl
  pos := by decide
  one := fun _ u hu => by simp at hu; rcases hu with rfl | rfl | rfl <;> rfl
  und := Tryd.underlying22
  info := by kernel_rfl
  zc := rfl
  z0 := ⟨0, 0, ⟨#[]⟩⟩
  zf := rfl

/-- The cells of one element in a new row, as an append asks for them. -/
theorem row_new {α : Type} (E : Enc α) (w : World) (x : α) : ∀ j u, (E.row [x])[j]? = some u → (w.alloc (.cells (E.f x).toArray E.ty)).cell? ((⟨w.heap.size, 0, none⟩ : Addr).add j) = some u := by
  intro j u hj
  rw [E.row_one] at hj
  rw [Addr.add_lit, Nat.zero_add]
  exact (Box.new w (E.f x).toArray E.ty).cell j u (by simpa using hj)

end Go.Proofs.YtmlhpjkijpbinaqDoor

/- Frames: what the model's ScanFrames hands back. -/
namespace Go.Proofs.YtmlhpjkijpbinaqDoor
open Go.RowKit

/-- The frames of a Gen from the beginning on. -/
def scan (s : ByteArray) (g : Int) : List (Fr × Nat) := sq fourOf s g 0
def scanL (s : ByteArray) (g : Int) : List Fr := (scan s g).map (·.1)
def scanE (s : ByteArray) (g : Int) : Nat := behind 0 (scan s g)
theorem scanL_le (s : ByteArray) (g : Int) : (scanL s g).length ≤ s.size := by
  have := (sq_all (four := fourOf) (s := s) (g := g) (k := 0) (Nat.zero_le _)).2.1
  simpa [scanL, scan] using this

/-- What ScanFrames hands back. -/
def ScanR (s : ByteArray) (g : Int) (w : World) (e : Ending) (w' : World) : Prop :=
  ∃ v, e = .returned (.tuple #[v, .int .i64 (scanE s g : Int)]) ∧ RBuf frE w.heap.size w w' v (scanL s g)

set_option maxRecDepth 100000 in
set_option maxHeartbeats 2000000 in
theorem specScanFrames_any (s : ByteArray) (g : Int) (w : World) (hs : s.size ≤ 1099511627776) :
    Calls Tryd.prog 7 #[.string s, .int .i64 g] w fun e w' => ScanR s g w e w' := by
  have hst := RBuf.fresh frE w
  go_enter Tryd.func7, Tryd.ntmps7
  go_wp2
  go_loopw [6, 7] (fun ov av wr => ∃ (pre : List (Fr × Nat)) (k : Nat), k ≤ s.size ∧ behind 0 pre = k ∧ pre ++ sq fourOf s g k = scan s g ∧ av = .int .i64 (k : Int) ∧ RBuf frE w.heap.size w wr ov (pre.map (·.1))) (fun _ av _ => s.size + 1 - (intOf av).toNat)
  case atStart => exact ⟨[], 0, by omega, rfl, rfl, rfl, hst⟩
  case round =>
    obtain ⟨pre, k, hk, hbe, hpre, rfl, hb⟩ := hrel
    have HBE := Lib.hid hbe
    have HPRE := Lib.hid hpre
    have hlen : (pre.map (·.1)).length ≤ s.size := by
      have h1 := congrArg List.length hpre
      have h2 := (sq_all (four := fourOf) (s := s) (g := g) (k := 0) (Nat.zero_le _)).2.1
      rw [List.length_append] at h1
      unfold scan at h1
      rw [List.length_map]
      omega
    clear hbe hpre
    go_wp2_with fail
    refine (specReadFrame_any s k _ (by omega)).mono ?_
    rintro e w1 ⟨rfl, k1⟩
    have hb1 := hb.later k1
    cases hr : rf fourOf s k with
    | none =>
      rw [rfT_none ((rfA_nat hk).trans hr)]
      have HQ := Lib.hid (sq_none (g := g) hr)
      have hb2 := Lib.hid (hb1.alloc (.cells #[.int .i64 0, .int .i64 0, .string ⟨#[]⟩] 32))
      clear hr
      unfold zeroFr Fr.v
      go_wp2
      go_ret2
      have e0 := HPRE.out
      rw [HQ.out, List.append_nil] at e0
      exact ⟨_, by rw [scanE, ← e0, HBE.out]; rfl, by rw [scanL, ← e0]; exact hb2.out⟩
    | some x =>
      obtain ⟨f, n⟩ := x
      rw [rfT_some ((rfA_nat hk).trans hr)]
      obtain ⟨hok, hkn, hns, _⟩ := rf_some hr hk
      have hb2 := Lib.hid (hb1.alloc (.cells #[.int .i64 f.gen, .int .i64 f.seq, .string f.body] 32))
      unfold Fr.v
      by_cases hg : f.gen = g
      · have HQ := Lib.hid (sq_yes hk hr hg)
        have HG := Lib.hid hg
        have hgq : (f.gen == g) = true := by simp [hg]
        have hgn : (f.gen != g) = false := by simp [hg]
        clear hr hg hok
        have y2 := Box.new w1 #[.int .i64 f.gen, .int .i64 f.seq, .string f.body] 32
        clear hb hb1 k1
        go_upto_region 4 with fail
        generalize w1.alloc (.cells #[.int .i64 f.gen, .int .i64 f.seq, .string f.body] 32) = w2 at hb2 y2 ⊢
        obtain ⟨c0, c1, c2, _, _, _⟩ := y2.three
        have hb3 := Lib.hid (hb2.out.alloc (.cells #[.int .i64 f.gen, .int .i64 f.seq, .string f.body] 32))
        have hnew : Hid (∀ j u, (frE.row [f])[j]? = some u → (w2.alloc (.cells #[.int .i64 f.gen, .int .i64 f.seq, .string f.body] 32)).cell? ((⟨w2.heap.size, 0, none⟩ : Addr).add j) = some u) := row_new frE w2 f
        have hl0 : ((pre.map (·.1)).length + [f].length) * (frE.bytes + 1) ≤ 140737488355328 := by simp only [frE, List.length_cons, List.length_nil]; omega
        have HL0 := Lib.hid hl0
        go_wp2_with (at_builtin; refine wpList_append_row rfl _ _ frE rfl w.heap.size _ (pre.map (·.1)) rfl hb3.out ⟨w2.heap.size, 0, none⟩ [f] 1 rfl ?c1 ?c2 ?_)
        case c1 => exact hnew.out
        case c2 => exact HL0.out
        intro v4 w4 hb4 _ _
        clear hb2 hb3 hnew HL0 c0 c1 c2
        go_wp2
        go_roundw
        case rel => exact ⟨pre ++ [(f, n)], n, by omega, behind_snoc _ _ _, by rw [← HPRE.out, HQ.out]; simp, rfl, by rw [List.map_append]; exact hb4⟩
        case measure => simp [intOf]; omega
      · have HQ := Lib.hid (sq_no hr hg)
        have hgn : (f.gen != g) = true := by simp [hg]
        clear hr hok
        go_wp2
        go_ret2
        have e0 := HPRE.out
        rw [HQ.out, List.append_nil] at e0
        exact ⟨_, by rw [scanE, ← e0, HBE.out]; rfl, by rw [scanL, ← e0]; exact hb2.out⟩

end Go.Proofs.YtmlhpjkijpbinaqDoor
