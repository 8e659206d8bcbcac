/- What is drawn for the chapter on frames: a list of right frames of one Gen. -/
import Derived.Test.YtmmgnpjhlmiafabDoorDrawFr3
namespace Go.Proofs.YtmmgnpjhlmiafabDoor
open Go.RowKit

theorem RBuf.cursor {α : Type} {E : Enc α} {B : Nat} {w w' : World} {v : Value} {l : List α} {pc : Nat} (h : RBuf E B w w v l) (hg : w.grownBy w' (some pc)) (hp : pc < B) : RBuf E B w' w' v l := by
  refine ⟨h.own.kept hg ?_, Below.refl _ _, Nat.le_trans h.le hg.size⟩
  cases hv : v.ownBlock with
  | none => exact .inl rfl
  | some k => exact .inr (by intro e; have := (h.own.lt k hv).1; have := Option.some.inj e; omega)

/-- A list that lies in a row, be it empty. -/
def InRow (v : Value) (n : Nat) : Prop := ∃ g cap : Nat, v = .slice (some ⟨g, 0, none⟩) n cap ∧ n ≤ cap
theorem RBuf.inRow {α : Type} {E : Enc α} {B : Nat} {w0 w : World} {v : Value} {l : List α} (h : RBuf E B w0 w v l) (hl : l ≠ []) : InRow v l.length := by
  rcases h.own.2 with ⟨_, h0⟩ | ⟨g, cap, cur, rfl, _, _, hnc, _⟩
  · exact absurd (List.length_eq_zero_iff.1 h0) hl
  · exact ⟨g, cap, rfl, hnc⟩

/-- The frames that are drawn. -/
def Fr.three (f : Fr) : Prop := f.ok ∧ f.gen = 3 ∧ f.body.size ≤ 20

set_option maxRecDepth 100000 in
set_option maxHeartbeats 2000000 in
theorem drawFrames_any (a : Option Addr) (len cap : Nat) (w : World) (hcode : CodeIn w a len) (hs : len ≤ 1048576) :
    Calls Tryd.prog 6 #[.slice a len cap] w fun e w' => ∃ (l : List Fr) (v : Value), (∀ f ∈ l, f.three) ∧ l.length ≤ 6 ∧ e = .returned v ∧ RBuf frE w.heap.size w w' v l ∧ InRow v l.length := by
  go_enter Tryd.func6, Tryd.ntmps6
  go_wp2_with fail
  refine (new_any a len cap _ hcode hs).mono ?_
  rintro e w1 ⟨pc, hp, rfl, hc1, hb1⟩
  have hst : RBuf frE w1.heap.size w1 (w1.alloc (.cells #[] 30)) (.slice (some ⟨w1.heap.size, 0, none⟩) 0 0) [] := RBuf.fresh frE w1
  have hpc := hc1.lt
  have hcl := hc1.codeLt
  have D2 : Drw w pc a len cap (w1.alloc (.cells #[] 30)) := (⟨hc1, hb1, hp⟩ : Drw w pc a len cap w1).later hst.bel
  have hz1 : w.heap.size ≤ w1.heap.size := hb1.size
  go_wp2
  go_loopw [4, 5] (fun v iv wr => ∃ (l : List Fr) (i : Nat), i ≤ 6 ∧ l.length = i ∧ iv = .int .i64 (i : Int) ∧ (∀ f ∈ l, f.three) ∧ RBuf frE w1.heap.size wr wr v l ∧ InRow v l.length ∧ Drw w pc a len cap wr) (fun _ iv _ => (6 - intOf iv).toNat)
  case atStart => exact ⟨[], 0, by omega, rfl, rfl, by simp, hst.here, ⟨_, _, rfl, Nat.le_refl _⟩, D2⟩
  case round =>
    clear hst D2 hc1 hb1
    obtain ⟨l, i, hi, hli, rfl, hall, hb, hrow, D⟩ := hrel
    have HA := Lib.hid hall
    have HR := Lib.hid hrow
    clear hall hrow
    go_wp2_with fail
    refine (below_any 6 pc a len cap _ D.cur (by omega)).mono ?_
    rintro e w3 ⟨y, hy, _, rfl, hc3, hg3⟩
    have hy2 := hy (by omega)
    have D3 := D.step hc3 hg3
    have hb3 := hb.cursor hg3 hpc
    clear hy hc3 hg3 D hb
    by_cases hlt : (i : Int) < (y : Int)
    · go_wp2_with fail
      refine (frame_any pc a len cap _ D3.cur).mono ?_
      rintro e w4 ⟨f, ⟨hok, hb20⟩, rfl, hc4, hg4⟩
      have D4 := D3.step hc4 hg4
      have hb4 := hb3.cursor hg4 hpc
      have b5 : Below w4.heap.size w4 (w4.alloc (.cells #[.int .i64 f.gen, .int .i64 f.seq, .string f.body] 30)) := (Below.refl _ _).alloc (Nat.le_refl _) _
      have D5 := D4.later b5
      have hb5 := (hb4.later b5).here
      have y5 := Box.new w4 #[.int .i64 f.gen, .int .i64 f.seq, .string f.body] 30
      have hz5 : w.heap.size ≤ w4.heap.size := D4.bel.size
      have hown : ∀ k, (v : Value) → v.ownBlock = some k → True := fun _ _ _ => trivial
      clear hc4 hg4 D3 b5 hb3 hown
      unfold Fr.v
      go_upto_region 7 with fail
      have hneo : u4.ownBlock = none ∨ u4.ownBlock ≠ some w4.heap.size := by
        cases hv : u4.ownBlock with
        | none => exact .inl rfl
        | some k => exact .inr (by intro e; have := (hb4.own.lt k hv).2; have := Option.some.inj e; omega)
      have hle4 := hb4.le
      generalize w4.alloc (.cells #[.int .i64 f.gen, .int .i64 f.seq, .string f.body] 30) = w5 at *
      have y6 : Box (w5.setCell ⟨w4.heap.size, 0, none⟩ (.int .i64 3)) w4.heap.size #[.int .i64 3, .int .i64 f.seq, .string f.body] 30 := y5.set 0 (.int .i64 3)
      have D6 : Drw w pc a len cap (w5.setCell ⟨w4.heap.size, 0, none⟩ (.int .i64 3)) :=
        ⟨D5.cur.new D4.cur (Nat.le_refl _) 0 _, D5.bel.setCell (p := ⟨w4.heap.size, 0, none⟩) hz5 _, D5.le⟩
      have hb6 : RBuf frE w1.heap.size (w5.setCell ⟨w4.heap.size, 0, none⟩ (.int .i64 3)) (w5.setCell ⟨w4.heap.size, 0, none⟩ (.int .i64 3)) u4 l :=
        (hb5.grown (stored_grown _ w4.heap.size 0 (.int .i64 3)) hneo (fun k hk => by have := Option.some.inj hk; omega)).here
      obtain ⟨c0, c1, c2, f0, f1, f2⟩ := y5.three
      go_upto_region 8 with fail
      generalize w5.setCell ⟨w4.heap.size, 0, none⟩ (.int .i64 3) = w6 at y6 D6 hb6 ⊢
      clear c0 c1 c2 f0 f1 f2 y5 D5 hb5 hb4 D4
      obtain ⟨c0, c1, c2, _, _, _⟩ := y6.three
      obtain ⟨g, hgf⟩ : ∃ g : Fr, (⟨3, f.seq, f.body⟩ : Fr) = g := ⟨_, rfl⟩
      have h3 : Hid g.three := by rw [← hgf]; exact ⟨⟨⟨by show (1 : Int) ≤ 3; decide, by show (3 : Int) ≤ 1000000000; decide⟩, hok.2.1, hok.2.2⟩, rfl, hb20⟩
      have HGF := Lib.hid hgf
      have hb7 := Lib.hid (hb6.alloc (.cells #[.int .i64 3, .int .i64 f.seq, .string f.body] 30))
      have hnew : Hid (∀ j u, (frE.row [g])[j]? = some u → (w6.alloc (.cells #[.int .i64 3, .int .i64 f.seq, .string f.body] 30)).cell? ((⟨w6.heap.size, 0, none⟩ : Addr).add j) = some u) := by rw [← hgf]; exact row_new frE w6 ⟨3, f.seq, f.body⟩
      have hl0 : Hid ((l.length + [g].length) * (frE.bytes + 1) ≤ 140737488355328) := by show _ ≤ _; simp only [frE, List.length_cons, List.length_nil]; omega
      clear hgf
      go_wp2_with (at_builtin; refine wpList_append_row rfl _ _ frE rfl w1.heap.size _ l rfl hb7.out ⟨w6.heap.size, 0, none⟩ [g] 1 rfl ?c1 ?c2 ?_)
      case c1 => exact hnew.out
      case c2 => exact hl0.out
      intro v8 w8 hb8 _ _
      have D8 : Drw w pc a len cap w8 := ⟨D6.cur.below (hb8.bel) (by omega) (fun b off h1 h2 => hcl b off h1 h2), D6.bel.trans (hb8.bel.mono hz1), D6.le⟩
      clear hb7 hnew hl0 c0 c1 c2 D6
      go_wp2
      go_roundw
      case rel => exact ⟨l ++ [g], i + 1, by omega, by simp [hli], by go_num, fun x hx => by
        rcases List.mem_append.1 hx with h | h
        · exact HA.out x h
        · simp at h; rw [h]; exact h3.out, hb8.here, hb8.inRow (by simp), D8⟩
      case measure => simp [intOf]; omega
    · go_wp2
      go_ret
      exact ⟨l, _, HA.out, by omega, rfl, hb3.down D3.bel hz1, HR.out⟩

end Go.Proofs.YtmmgnpjhlmiafabDoor
