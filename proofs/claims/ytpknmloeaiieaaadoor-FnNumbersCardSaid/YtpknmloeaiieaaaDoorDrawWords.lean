/- What is drawn for the chapter on words: what spec.l01Number, DrawVarText and DrawHex hand back. -/
import Derived.Test.YtpknmloeaiieaaaDoorDraw2
import Derived.Lib.Hide
namespace Go.Proofs.YtpknmloeaiieaaaDoor
open Go.RowKit

theorem ints_cell (w : World) (zs : List Int) (t : TypeId) (j : Nat) (hj : j < zs.length) : (w.alloc (.cells (zs.map (Value.int .i64)).toArray t)).cell? ⟨w.heap.size, j, none⟩ = some (.int .i64 zs[j]) := by
  rw [Joins.cell_of_block (heap_alloc_new w _)]
  simp [hj]

/-- A drawn number. -/
def NumR (pc : Nat) (a : Option Addr) (len cap : Nat) (w : World) (e : Ending) (w' : World) : Prop :=
  ∃ x : Int, (-9223372036854775808 ≤ x ∧ x ≤ 9223372036854775807) ∧ e = .returned (.int .i64 x) ∧ Cur w' pc a len cap ∧ w.grownBy w' (some pc)

set_option maxRecDepth 100000 in
set_option maxHeartbeats 1000000 in
theorem number_any (pc : Nat) (a : Option Addr) (len cap : Nat) (w : World) (hc : Cur w pc a len cap) :
    Calls Tryd.prog 22 #[.pointer (some ⟨pc, 0, none⟩)] w fun e w' => NumR pc a len cap w e w' := by
  have hpc := hc.lt
  go_enter Tryd.func22, Tryd.ntmps22
  go_wp2_with fail
  refine (below_any 4 pc a len cap _ hc (by omega)).mono ?_
  rintro e w1 ⟨x, hx, _, rfl, hc1, hg1⟩
  have hx4 : x < 4 := by have := hx (by omega); omega
  clear hx
  have hpc1 := hc1.lt
  have hcl1 := hc1.codeLt
  rcases (show x = 0 ∨ x = 1 ∨ (x ≠ 0 ∧ x ≠ 1) by omega) with rfl | rfl | ⟨h0, h1⟩
  · obtain ⟨zs, hzs⟩ : ∃ zs : List Int, zs = [-1, 0, 127, 128, 16383, 16384, 1000000000, 1000000001, 9223372036854775807, -9223372036854775808] := ⟨_, rfl⟩
    have hl : zs.length = 10 := by rw [hzs]; rfl
    have hr : ∀ z ∈ zs, -9223372036854775808 ≤ z ∧ z ≤ 9223372036854775807 := by rw [hzs]; decide
    have hW : w1.alloc (.cells #[.int .i64 (-1), .int .i64 0, .int .i64 127, .int .i64 128, .int .i64 16383, .int .i64 16384, .int .i64 1000000000, .int .i64 1000000001, .int .i64 9223372036854775807, .int .i64 (-9223372036854775808)] 3) = w1.alloc (.cells (zs.map (Value.int .i64)).toArray 3) := by rw [hzs]; rfl
    have HW := Lib.hid hW
    have HZ : Hid (zs.length = 10 ∧ ∀ z ∈ zs, -9223372036854775808 ≤ z ∧ z ≤ 9223372036854775807) := ⟨hl, hr⟩
    have hbel : Below w1.heap.size w1 (w1.alloc (.cells (zs.map (Value.int .i64)).toArray 3)) := (Below.refl _ _).alloc (Nat.le_refl _) _
    clear hl hr hW hzs
    go_wp2_with fail
    rw [HW.out]
    refine (pickInt_any w1.heap.size 10 10 pc a len cap _ (hc1.below hbel hpc1 hcl1) (by omega) (by omega) (by omega) (by omega) (fun j hj => ⟨_, ints_cell w1 zs 3 j (by rw [HZ.out.1]; exact hj)⟩)).mono ?_
    rintro e w2 ⟨j, x, hj, hx, rfl, hc2, hg2⟩
    rw [ints_cell w1 zs 3 j (by rw [HZ.out.1]; exact hj)] at hx
    have hx2 := HZ.out.2 _ (List.getElem_mem (by rw [HZ.out.1]; exact hj) : zs[j]'(by rw [HZ.out.1]; exact hj) ∈ zs)
    simp only [Option.some.injEq, Value.int.injEq, true_and] at hx
    rw [hx] at hx2
    have hg3 := (grownBy_below (World.grownBy.refl w1 (some pc)) hbel (Nat.le_refl _)).trans hg2
    clear hx hg2
    go_wp2
    go_ret
    exact ⟨x, hx2, rfl, hc2, hg1.trans hg3⟩
  · go_wp2_with fail
    refine (below_any 1000000000 pc a len cap _ hc1 (by omega)).mono ?_
    rintro e w2 ⟨y, hy, _, rfl, hc2, hg2⟩
    go_wp2
    go_ret
    have hy2 := hy (by omega)
    exact ⟨(y : Int), ⟨by omega, by omega⟩, rfl, hc2, hg1.trans hg2⟩
  · have hb0 : ((x : Int) == 0) = false := beq_eq_false_iff_ne.2 (by omega)
    have hb1 : ((x : Int) == 1) = false := beq_eq_false_iff_ne.2 (by omega)
    clear h0 h1
    go_wp2_with fail
    refine (below_any 400 pc a len cap _ hc1 (by omega)).mono ?_
    rintro e w2 ⟨y, hy, _, rfl, hc2, hg2⟩
    go_wp2
    go_ret
    have hy2 := hy (by omega)
    exact ⟨(y : Int), ⟨by omega, by omega⟩, rfl, hc2, hg1.trans hg2⟩

theorem below_of_new {w w1 w2 : World} {pc : Nat} (hb : Below w.heap.size w w1) (hp : w.heap.size ≤ pc) (hg : w1.grownBy w2 (some pc)) : Below w.heap.size w w2 :=
  hb.grown hg hb.size (fun k hk => by have := Option.some.inj hk; omega)

set_option maxRecDepth 100000 in
theorem drawVarText_any (a : Option Addr) (len cap : Nat) (w : World) (hcode : CodeIn w a len) (hs : len ≤ 1048576) :
    Calls Tryd.prog 6 #[.slice a len cap] w fun e w' => (∃ x : Int, (-9223372036854775808 ≤ x ∧ x ≤ 9223372036854775807) ∧ e = .returned (.int .i64 x)) ∧ Below w.heap.size w w' := by
  go_enter Tryd.func6, Tryd.ntmps6
  go_wp2_with fail
  refine (new_any a len cap _ hcode hs).mono ?_
  rintro e w1 ⟨pc, hp, rfl, hc1, hb1⟩
  go_wp2_with fail
  refine (number_any pc a len cap _ hc1).mono ?_
  rintro e w2 ⟨x, hx, rfl, hc2, hg2⟩
  go_wp2
  go_ret
  exact ⟨⟨x, hx, rfl⟩, below_of_new hb1 hp hg2⟩

/-- A drawn text. -/
def StrR (w : World) (e : Ending) (w' : World) : Prop := ∃ s : ByteArray, s.size ≤ 1048576 ∧ e = .returned (.string s) ∧ Below w.heap.size w w'

set_option maxRecDepth 100000 in
set_option maxHeartbeats 1000000 in
theorem drawHex_any (a : Option Addr) (len cap : Nat) (w : World) (hcode : CodeIn w a len) (hs : len ≤ 1048576) :
    Calls Tryd.prog 11 #[.slice a len cap] w fun e w' => StrR w e w' := by
  go_enter Tryd.func11, Tryd.ntmps11
  go_wp2_with fail
  refine (new_any a len cap _ hcode hs).mono ?_
  rintro e w1 ⟨pc, hp, rfl, hc1, hb1⟩
  go_wp2_with fail
  refine (once_any 60 pc a len cap _ hc1 (by omega)).mono ?_
  rintro e w2 ⟨he, hc2, hg2⟩
  have hb2 := below_of_new hb1 hp hg2
  rcases he with rfl | rfl
  · go_wp2_with fail
    refine (below_any 2 pc a len cap _ hc2 (by omega)).mono ?_
    rintro e w3 ⟨x, hx, _, rfl, hc3, hg3⟩
    have hx2 : x < 2 := by have := hx (by omega); omega
    have hb3 := below_of_new hb2 hp hg3
    clear hx
    go_wp2_with fail
    rw [show (20000 : Int) + (x : Int) = ((20000 + x : Nat) : Int) by omega]
    refine (long_any (20000 + x) 200 _ (by omega)).mono ?_
    rintro e w4 ⟨rfl, hb4⟩
    go_wp2
    go_ret
    exact ⟨_, by simp [ByteArray.size]; omega, rfl, hb3.trans (hb4.mono hb3.size)⟩
  · go_wp2_with fail
    refine (below_any 30 pc a len cap _ hc2 (by omega)).mono ?_
    rintro e w3 ⟨x, hx, _, rfl, hc3, hg3⟩
    have hx2 : x < 30 := by have := hx (by omega); omega
    have hb3 := below_of_new hb2 hp hg3
    clear hx
    go_wp2_with fail
    refine (text_any (x : Int) pc a len cap _ hc3 (by omega)).mono ?_
    rintro e w4 ⟨s, hsz, _, rfl, hc4, hg4⟩
    go_wp2
    go_ret
    exact ⟨s, by omega, rfl, below_of_new hb3 hp hg4⟩

end Go.Proofs.YtpknmloeaiieaaaDoor
