/- What is drawn where sectors are read: any disk and a place, and how many. -/
import Derived.Test.YtmmgnpjhlmiafabDrawAny
namespace Go.Proofs.Ytmmgnpjhlmiafab
open Go.RowKit

set_option maxRecDepth 100000 in
theorem place_in (n : Int) (pc : Nat) (a : Option Addr) (len cap : Nat) (w : World) (hc : Cur w pc a len cap) (h0 : 0 ≤ n) (hn : n ≤ 1000000) :
    Calls Try.prog 20 #[.pointer (some ⟨pc, 0, none⟩), .int .i64 n] w fun e w' => ∃ x : Int, (-9223372036854775808 ≤ x ∧ x ≤ 9223372036854775807) ∧ e = .returned (.int .i64 x) ∧ Cur w' pc a len cap ∧ w.grownBy w' (some pc) := by
  go_enter Try.func20, Try.ntmps20
  go_wp2_with fail
  refine (once_any 15 pc a len cap _ hc (by omega)).mono ?_
  rintro e w1 ⟨he, hc1, hg1⟩
  rcases he with rfl | rfl
  · go_wp2_with fail
    refine (pickLit_any [-1, n, n + 1, 9223372036854775807, -9223372036854775808] 5 pc a len cap _ hc1 rfl (by omega) (by omega)).mono ?_
    rintro e w2 ⟨y, hy, rfl, hc2, hg2⟩
    have hin : -9223372036854775808 ≤ y ∧ y ≤ 9223372036854775807 := by
      simp only [List.mem_cons, List.not_mem_nil, or_false] at hy
      rcases hy with rfl | rfl | rfl | rfl | rfl <;> constructor <;> omega
    clear hy
    go_wp2
    go_ret
    exact ⟨y, hin, rfl, hc2, hg1.trans hg2⟩
  · go_wp2_with fail
    refine (below_any n pc a len cap _ hc1 (by omega)).mono ?_
    rintro e w2 ⟨y, hy, hy0, rfl, hc2, hg2⟩
    have hin : -9223372036854775808 ≤ (y : Int) ∧ (y : Int) ≤ 9223372036854775807 := by
      by_cases h : 0 < n
      · have := hy h; omega
      · have := hy0 (by omega); omega
    clear hy hy0
    go_wp2
    go_ret
    exact ⟨_, hin, rfl, hc2, hg1.trans hg2⟩

/-- A drawn disk and a place. -/
def RdR (w : World) (e : Ending) (w' : World) : Prop :=
  ∃ (d : Dk) (v : Value) (z : Int), d.drawn ∧ e = .returned (.tuple #[v, .int .i64 z]) ∧ DOwn w.heap.size w'.heap.size w' v d ∧ Below w.heap.size w w'
/-- A drawn disk, a place and a number. -/
def TxR (w : World) (e : Ending) (w' : World) : Prop :=
  ∃ (d : Dk) (v : Value) (z n : Int), d.drawn ∧ (-9223372036854775808 ≤ z ∧ z ≤ 9223372036854775807) ∧ e = .returned (.tuple #[v, .int .i64 z, .int .i64 n]) ∧ DOwn w.heap.size w'.heap.size w' v d ∧ Below w.heap.size w w'

set_option maxRecDepth 100000 in
set_option maxHeartbeats 1000000 in
theorem drawRead_any (a : Option Addr) (len cap : Nat) (w : World) (hcode : CodeIn w a len) (hs : len ≤ 1048576) :
    Calls Try.prog 6 #[.slice a len cap] w fun e w' => RdR w e w' := by
  have hx := Box.new w #[.slice none 0 0, .slice none 0 0] 27
  have b0 : Below w.heap.size w (w.alloc (.cells #[.slice none 0 0, .slice none 0 0] 27)) := belAlloc _ _
  have hc0 := hcode.later b0
  have hz0 : w.heap.size < (w.alloc (.cells #[.slice none 0 0, .slice none 0 0] 27)).heap.size := by simp
  go_enter Try.func6, Try.ntmps6
  go_wp2_with fail
  generalize w.alloc (.cells #[.slice none 0 0, .slice none 0 0] 27) = W at *
  refine (new_any a len cap _ hc0 hs).mono ?_
  rintro e w1 ⟨pc, hp, rfl, hc1, hb1⟩
  have hz1 := hb1.size
  go_wp2_with fail
  refine (place_in 5 pc a len cap _ hc1 (by omega) (by omega)).mono ?_
  rintro e w2 ⟨z, _, rfl, hc2, hg2⟩
  go_wp2_with fail
  refine (any_any pc a len cap _ hc2).mono ?_
  rintro e w4 ⟨d, v, hdr, rfl, o4, hc4, hg4⟩
  have hg := hg2.trans hg4
  have hz2 := hg2.size
  have x4 := (hx.later hb1).cur hg (by omega)
  have b4 : Below w.heap.size w w4 := (b0.trans (hb1.mono b0.size)).grown hg (Nat.le_trans b0.size hb1.size) (fun k hk => by have := Option.some.inj hk; omega)
  obtain ⟨s1, s2, c1, c2, rfl⟩ := o4.form
  have d0 := x4.cell 0 (.slice none 0 0) rfl
  have d1 := x4.cell 1 (.slice none 0 0) rfl
  have f0 := x4.loose 0
  have f1 := x4.loose 1
  have rX := (x4.set 0 (.slice s1 d.sec.length c1)).set 1 (.slice s2 d.cache.length c2)
  have q0 := rX.cell 0 (.slice s1 d.sec.length c1) rfl
  have q1 := rX.cell 1 (.slice s2 d.cache.length c2) rfl
  have HR : Hid (RdR w (.returned (.tuple #[.agg #[.slice s1 d.sec.length c1, .slice s2 d.cache.length c2], .int .i64 z])) ((w4.setCell ⟨w.heap.size, 0, none⟩ (.slice s1 d.sec.length c1)).setCell ⟨w.heap.size, 1, none⟩ (.slice s2 d.cache.length c2))) :=
    ⟨d, _, z, hdr, rfl, (((o4.base (by omega)).boxStore x4 0 _).boxStore (x4.set 0 _) 1 _).top, (b4.setCell (p := ⟨w.heap.size, 0, none⟩) (Nat.le_refl _) _).setCell (p := ⟨w.heap.size, 1, none⟩) (Nat.le_refl _) _⟩
  clear rX x4 o4 hg hg2 hg4 hc2 hc4 hc1
  go_wp2
  refine bodyPost_ret (v := .tuple #[.agg #[.slice s1 d.sec.length c1, .slice s2 d.cache.length c2], .int .i64 z]) (by simp [results, Try.results6, go_sem, q0, q1]) rfl ?_
  exact HR.out

set_option maxRecDepth 100000 in
set_option maxHeartbeats 1000000 in
theorem drawText_any (a : Option Addr) (len cap : Nat) (w : World) (hcode : CodeIn w a len) (hs : len ≤ 1048576) :
    Calls Try.prog 9 #[.slice a len cap] w fun e w' => TxR w e w' := by
  have hx := Box.new w #[.slice none 0 0, .slice none 0 0] 27
  have b0 : Below w.heap.size w (w.alloc (.cells #[.slice none 0 0, .slice none 0 0] 27)) := belAlloc _ _
  have hc0 := hcode.later b0
  have hz0 : w.heap.size < (w.alloc (.cells #[.slice none 0 0, .slice none 0 0] 27)).heap.size := by simp
  go_enter Try.func9, Try.ntmps9
  go_wp2_with fail
  generalize w.alloc (.cells #[.slice none 0 0, .slice none 0 0] 27) = W at *
  refine (new_any a len cap _ hc0 hs).mono ?_
  rintro e w1 ⟨pc, hp, rfl, hc1, hb1⟩
  have hz1 := hb1.size
  go_wp2_with fail
  refine (place_in 5 pc a len cap _ hc1 (by omega) (by omega)).mono ?_
  rintro e w2 ⟨z, hzin, rfl, hc2, hg2⟩
  have HZ := Lib.hid hzin
  clear hzin
  go_wp2_with fail
  refine (pickLit_any [0, 1, 2, 3, -1, 101] 6 pc a len cap _ hc2 rfl (by omega) (by omega)).mono ?_
  rintro e w3 ⟨n, _, rfl, hc3, hg3⟩
  go_wp2_with fail
  refine (any_any pc a len cap _ hc3).mono ?_
  rintro e w4 ⟨d, v, hdr, rfl, o4, hc4, hg4⟩
  have hg23 := hg2.trans hg3
  have hg := hg23.trans hg4
  have hz2 := hg23.size
  have x4 := (hx.later hb1).cur hg (by omega)
  have b4 : Below w.heap.size w w4 := (b0.trans (hb1.mono b0.size)).grown hg (Nat.le_trans b0.size hb1.size) (fun k hk => by have := Option.some.inj hk; omega)
  obtain ⟨s1, s2, c1, c2, rfl⟩ := o4.form
  have d0 := x4.cell 0 (.slice none 0 0) rfl
  have d1 := x4.cell 1 (.slice none 0 0) rfl
  have f0 := x4.loose 0
  have f1 := x4.loose 1
  have rX := (x4.set 0 (.slice s1 d.sec.length c1)).set 1 (.slice s2 d.cache.length c2)
  have q0 := rX.cell 0 (.slice s1 d.sec.length c1) rfl
  have q1 := rX.cell 1 (.slice s2 d.cache.length c2) rfl
  have HR : Hid (TxR w (.returned (.tuple #[.agg #[.slice s1 d.sec.length c1, .slice s2 d.cache.length c2], .int .i64 z, .int .i64 n])) ((w4.setCell ⟨w.heap.size, 0, none⟩ (.slice s1 d.sec.length c1)).setCell ⟨w.heap.size, 1, none⟩ (.slice s2 d.cache.length c2))) :=
    ⟨d, _, z, n, hdr, HZ.out, rfl, (((o4.base (by omega)).boxStore x4 0 _).boxStore (x4.set 0 _) 1 _).top, (b4.setCell (p := ⟨w.heap.size, 0, none⟩) (Nat.le_refl _) _).setCell (p := ⟨w.heap.size, 1, none⟩) (Nat.le_refl _) _⟩
  clear rX x4 o4 hg hg2 hg3 hg4 hg23 hc2 hc3 hc4 hc1 HZ
  go_wp2
  refine bodyPost_ret (v := .tuple #[.agg #[.slice s1 d.sec.length c1, .slice s2 d.cache.length c2], .int .i64 z, .int .i64 n]) (by simp [results, Try.results9, go_sem, q0, q1]) rfl ?_
  exact HR.out

end Go.Proofs.Ytmmgnpjhlmiafab
