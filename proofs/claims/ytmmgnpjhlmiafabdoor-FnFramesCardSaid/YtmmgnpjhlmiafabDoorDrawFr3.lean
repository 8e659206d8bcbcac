/- What is drawn for the chapter on frames: the draws themselves, and laws.sameFrames. -/
import Derived.Test.YtmmgnpjhlmiafabDoorDrawFr2
import Derived.Test.YtmmgnpjhlmiafabDoorPuts
namespace Go.Proofs.YtmmgnpjhlmiafabDoor
open Go.RowKit

theorem below_of_new2 {w w1 w2 : World} {pc : Nat} (hb : Below w.heap.size w w1) (hp : w.heap.size ≤ pc) (hg : w1.grownBy w2 (some pc)) : Below w.heap.size w w2 :=
  hb.grown hg hb.size (fun k hk => by have := Option.some.inj hk; omega)

/-- The cursor of a draw, and what was there before. -/
structure Drw (w : World) (pc : Nat) (a : Option Addr) (len cap : Nat) (X : World) : Prop where
  cur : Cur X pc a len cap
  bel : Below w.heap.size w X
  le : w.heap.size ≤ pc

theorem Drw.step {w : World} {pc : Nat} {a : Option Addr} {len cap : Nat} {X Y : World} (h : Drw w pc a len cap X) (hc : Cur Y pc a len cap) (hg : X.grownBy Y (some pc)) : Drw w pc a len cap Y := ⟨hc, below_of_new2 h.bel h.le hg, h.le⟩
theorem Drw.later {w : World} {pc : Nat} {a : Option Addr} {len cap : Nat} {X Y : World} (h : Drw w pc a len cap X) (hb : Below X.heap.size X Y) : Drw w pc a len cap Y := ⟨h.cur.below hb h.cur.lt h.cur.codeLt, h.bel.trans (hb.mono h.bel.size), h.le⟩

set_option maxRecDepth 100000 in
set_option maxHeartbeats 1000000 in
theorem drawReadFrame_any (a : Option Addr) (len cap : Nat) (w : World) (hcode : CodeIn w a len) (hs : len ≤ 1048576) :
    Calls Tryd.prog 14 #[.slice a len cap] w fun e w' => ∃ (s : ByteArray) (x : Int), s.size ≤ 1000 ∧ e = .returned (.tuple #[.string s, .int .i64 x]) ∧ Below w.heap.size w w' := by
  go_enter Tryd.func14, Tryd.ntmps14
  go_wp2_with fail
  refine (new_any a len cap _ hcode hs).mono ?_
  rintro e w1 ⟨pc, hp, rfl, hc1, hb1⟩
  have D1 : Drw w pc a len cap w1 := ⟨hc1, hb1, hp⟩
  clear hc1 hb1
  go_wp2_with fail
  refine (below_any 6 pc a len cap _ D1.cur (by omega)).mono ?_
  rintro e w2 ⟨x, _, _, rfl, hc2, hg2⟩
  have D2 := D1.step hc2 hg2
  clear hc2 hg2 D1
  go_wp2_with fail
  refine (any_any pc a len cap _ D2.cur).mono ?_
  rintro e w3 ⟨f, hf, rfl, hc3, hg3⟩
  have D3 := D2.step hc3 hg3
  clear hc3 hg3 D2
  go_wp2_with fail
  refine (specFrameText_any f _ (by omega)).mono ?_
  rintro e w4 ⟨rfl, k4⟩
  obtain ⟨s, b, hft, hsz⟩ := ftT_form f
  rw [hft]
  have D4 := D3.later k4
  clear k4 D3 hft
  go_wp2_with fail
  refine (any_any pc a len cap _ D4.cur).mono ?_
  rintro e w5 ⟨f', hf', rfl, hc5, hg5⟩
  have D5 := D4.step hc5 hg5
  clear hc5 hg5 D4
  go_wp2_with fail
  refine (specFrameText_any f' _ (by omega)).mono ?_
  rintro e w6 ⟨rfl, k6⟩
  obtain ⟨t, b', hft', htz⟩ := ftT_form f'
  rw [hft']
  have D6 := D5.later k6
  clear k6 D5 hft'
  have hadd := fun wx => run_string_add_sum (P := Tryd.prog) (w := wx) s t (by omega)
  have hsum : (s ++ t).size ≤ 1000 := by rw [ByteArray.size_append]; omega
  rcases (show x = 0 ∨ x = 1 ∨ x = 2 ∨ (x ≠ 0 ∧ x ≠ 1 ∧ x ≠ 2) by omega) with rfl | rfl | rfl | ⟨n0, n1, n2⟩
  · go_wp2_with fail
    refine (spoilt_any s pc a len cap _ D6.cur (by omega)).mono ?_
    rintro e w7 ⟨u, hu, rfl, hc7, hg7⟩
    have D7 := D6.step hc7 hg7
    go_wp2
    go_ret2
    exact ⟨u, 0, by omega, rfl, D7.bel⟩
  · go_wp2
    go_ret2
    exact ⟨s ++ t, s.size, hsum, rfl, D6.bel⟩
  · go_wp2_with fail
    refine (place_any 30 pc a len cap _ D6.cur (by omega) (by omega)).mono ?_
    rintro e w7 ⟨y, rfl, hc7, hg7⟩
    have D7 := D6.step hc7 hg7
    go_wp2
    go_ret2
    exact ⟨s ++ t, y, hsum, rfl, D7.bel⟩
  · have hb0 : ((x : Int) == 0) = false := beq_eq_false_iff_ne.2 (by omega)
    have hb1 : ((x : Int) == 1) = false := beq_eq_false_iff_ne.2 (by omega)
    have hb2 : ((x : Int) == 2) = false := beq_eq_false_iff_ne.2 (by omega)
    clear n0 n1 n2
    go_wp2
    go_ret2
    exact ⟨s ++ t, 0, hsum, rfl, D6.bel⟩

set_option maxRecDepth 100000 in
set_option maxHeartbeats 2000000 in
theorem drawScanFrames_any (a : Option Addr) (len cap : Nat) (w : World) (hcode : CodeIn w a len) (hs : len ≤ 1048576) :
    Calls Tryd.prog 16 #[.slice a len cap] w fun e w' => ∃ (s : ByteArray), s.size ≤ 2000 ∧ e = .returned (.tuple #[.string s, .int .i64 2]) ∧ Below w.heap.size w w' := by
  go_enter Tryd.func16, Tryd.ntmps16
  go_wp2_with fail
  refine (new_any a len cap _ hcode hs).mono ?_
  rintro e w1 ⟨pc, hp, rfl, hc1, hb1⟩
  have D1 : Drw w pc a len cap w1 := ⟨hc1, hb1, hp⟩
  clear hc1 hb1
  go_wp2_with fail
  refine (below_any 4 pc a len cap _ D1.cur (by omega)).mono ?_
  rintro e w2 ⟨x, _, _, rfl, hc2, hg2⟩
  have D2 := D1.step hc2 hg2
  clear hc2 hg2 D1
  go_wp2
  go_loopw [6, 7] (fun sv iv wr => ∃ (s : ByteArray) (i : Nat), i ≤ 5 ∧ sv = .string s ∧ iv = .int .i64 (i : Int) ∧ s.size ≤ 196 * i ∧ Drw w pc a len cap wr) (fun _ iv _ => (5 - intOf iv).toNat)
  case atStart => exact ⟨⟨#[]⟩, 0, by omega, rfl, rfl, by decide, D2⟩
  case round =>
    obtain ⟨s, i, hi, rfl, rfl, hsz, D⟩ := hrel
    go_wp2_with fail
    refine (below_any 5 pc a len cap _ D.cur (by omega)).mono ?_
    rintro e w3 ⟨y, hy, _, rfl, hc3, hg3⟩
    have hy2 := hy (by omega)
    have D3 := D.step hc3 hg3
    clear hy hc3 hg3 D D2
    by_cases hlt : (i : Int) < (y : Int)
    · go_wp2_with fail
      refine (frame_any pc a len cap _ D3.cur).mono ?_
      rintro e w4 ⟨f, ⟨hok, hb20⟩, rfl, hc4, hg4⟩
      have D4 := D3.step hc4 hg4
      have b5 : Below w4.heap.size w4 (w4.alloc (.cells #[.int .i64 f.gen, .int .i64 f.seq, .string f.body] 30)) := (Below.refl _ _).alloc (Nat.le_refl _) _
      have D5 := D4.later b5
      have y5 := Box.new w4 #[.int .i64 f.gen, .int .i64 f.seq, .string f.body] 30
      have hne : w4.heap.size ≠ pc := by have := D4.cur.lt; omega
      have hz5 : w.heap.size ≤ w4.heap.size := D4.bel.size
      clear hc4 hg4 D3 b5
      have hv : f.v = .agg #[.int .i64 f.gen, .int .i64 f.seq, .string f.body] := rfl
      rw [hv]
      go_upto_region 8 with fail
      generalize w4.alloc (.cells #[.int .i64 f.gen, .int .i64 f.seq, .string f.body] 30) = w5 at D5 y5 ⊢
      go_wp2_with fail
      refine (once_any 6 pc a len cap _ D5.cur (by omega)).mono ?_
      rintro e w6 ⟨he, hc6, hg6⟩
      have D6 := D5.step hc6 hg6
      have y6 := y5.cur hg6 hne
      clear hc6 hg6 D5 y5
      rcases he with rfl | rfl
      · obtain ⟨c0, c1, c2, _, _, _⟩ := y6.three
        go_wp2_with fail
        rw [← hv]
        refine (specFrameText_any f _ (by omega)).mono ?_
        rintro e w7 ⟨rfl, k7⟩
        obtain ⟨t, b, hft, htz⟩ := ftT_form f
        rw [hft]
        have D7 := D6.later k7
        have hadd := fun wx => run_string_add_sum (P := Tryd.prog) (w := wx) s t (by omega)
        clear hft k7 c0 c1 c2
        go_wp2
        go_roundw
        case rel => exact ⟨s ++ t, i + 1, by omega, rfl, by go_num, by rw [ByteArray.size_append]; omega, D7⟩
        case measure => simp [intOf]; omega
      · obtain ⟨f2, hf2⟩ : ∃ f2 : Fr, (⟨2, f.seq, f.body⟩ : Fr) = f2 := ⟨_, rfl⟩
        have y7 := y6.set 0 (.int .i64 2)
        have hv2 : f2.v = .agg #[.int .i64 2, .int .i64 f.seq, .string f.body] := by rw [← hf2]; rfl
        have hs2 : f2.body.size ≤ 20 := by rw [← hf2]; exact hb20
        have D7 : Drw w pc a len cap (w6.setCell ⟨w4.heap.size, 0, none⟩ (.int .i64 2)) :=
          ⟨D6.cur.new D4.cur (Nat.le_refl _) 0 _, D6.bel.setCell (p := ⟨w4.heap.size, 0, none⟩) hz5 _, D6.le⟩
        obtain ⟨c0, c1, c2, f0, f1, g2⟩ := y6.three
        go_upto_region 10 with fail
        generalize w6.setCell ⟨w4.heap.size, 0, none⟩ (.int .i64 2) = w7 at y7 D7 ⊢
        clear c0 c1 c2 f0 f1 g2 hf2
        have y7' : Box w7 w4.heap.size #[.int .i64 2, .int .i64 f.seq, .string f.body] 30 := y7
        obtain ⟨c0, c1, c2, _, _, _⟩ := y7'.three
        clear y7 y7'
        go_wp2_with fail
        rw [← hv2]
        refine (specFrameText_any f2 _ (by omega)).mono ?_
        rintro e w8 ⟨rfl, k8⟩
        obtain ⟨t, b, hft, htz⟩ := ftT_form f2
        rw [hft]
        have D8 := D7.later k8
        have hadd := fun wx => run_string_add_sum (P := Tryd.prog) (w := wx) s t (by omega)
        clear hft k8 c0 c1 c2
        go_wp2
        go_roundw
        case rel => exact ⟨s ++ t, i + 1, by omega, rfl, by go_num, by rw [ByteArray.size_append]; omega, D8⟩
        case measure => simp [intOf]; omega
    · by_cases hx : x = 0 ∧ 0 < s.size
      · obtain ⟨rfl, h0⟩ := hx
        have hsz0 : (0 : Int) < (s.size : Int) := by omega
        go_wp2_with fail
        refine (below_any _ pc a len cap _ D3.cur (by omega)).mono ?_
        rintro e w4 ⟨z, hz, _, rfl, hc4, hg4⟩
        have hz2 := hz (by omega)
        have hz3 : (z : Int) ≤ (s.size : Int) := by omega
        have D4 := D3.step hc4 hg4
        have hzz : (s.extract 0 z).size = z := by rw [ByteArray.size_extract]; omega
        have hadd := fun wx => run_string_add_sum (P := Tryd.prog) (w := wx) (s.extract 0 z) ⟨#[0, 0]⟩ (by rw [hzz]; show z + 2 ≤ _; omega)
        clear hz
        go_wp2
        go_ret2
        exact ⟨_, by rw [ByteArray.size_append, hzz]; show z + 2 ≤ _; omega, rfl, D4.bel⟩
      · have hadd := fun wx => run_string_add_sum (P := Tryd.prog) (w := wx) s ⟨#[0, 0]⟩ (by show s.size + 2 ≤ _; omega)
        by_cases h0 : x = 0
        · subst h0
          have hsz0 : ¬ (0 : Int) < (s.size : Int) := by omega
          clear hx
          go_wp2
          go_ret2
          exact ⟨_, by rw [ByteArray.size_append]; show s.size + 2 ≤ _; omega, rfl, D3.bel⟩
        · have hb0 : ((x : Int) == 0) = false := beq_eq_false_iff_ne.2 (by omega)
          clear hx h0
          go_wp2
          go_ret2
          exact ⟨_, by rw [ByteArray.size_append]; show s.size + 2 ≤ _; omega, rfl, D3.bel⟩

end Go.Proofs.YtmmgnpjhlmiafabDoor
