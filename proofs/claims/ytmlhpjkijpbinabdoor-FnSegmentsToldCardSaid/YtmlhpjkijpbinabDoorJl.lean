/- Texts of our own, joined. -/
import Derived.Test.YtmlhpjkijpbinabDoorJk
import Derived.Test.YtmlhpjkijpbinabDoorJe
import Derived.ProofKit
import Derived.LaidMore
/- What is drawn for the chapter on segments: any disk, with or without segments, and the number of one. -/
namespace Go.Proofs.YtmlhpjkijpbinabDoor
open Go.RowKit

theorem bel_drew (x : World) : Below x.heap.size x x.drew := (Below.refl _ _).drew

theorem strRow_map (l : List ByteArray) : strE.row l = l.map Value.string := by
  induction l with
  | nil => rfl
  | cons x l ih => rw [List.map_cons, ← ih]; rfl

section
variable {w : World} {pc : Nat} {a : Option Addr} {len cap b : Nat} {va vb : Value} {d : Dk} {X Y : World}

/-- The list of sectors cut. -/
theorem LdI.cutSec {g n c : Nat} (k : Nat) (hk : k ≤ n) (h : LdI w pc a len cap b (.slice (some ⟨g, 0, none⟩) n c) vb d X) (hw : Cur w pc a len cap) : n ≤ c ∧ LdI w pc a len cap b (.slice (some ⟨g, 0, none⟩) k c) vb ⟨d.sec.take k, d.cache⟩ (X.setCell ⟨b, 0, none⟩ (.slice (some ⟨g, 0, none⟩) k c)) := by
  obtain ⟨va', vb', hv, l1, l2, hap⟩ := h.dsk
  simp only [Value.agg.injEq, Array.mk.injEq, List.cons.injEq, and_true] at hv
  obtain ⟨rfl, rfl⟩ := hv
  have hlt := h.lt
  rcases l1.1.own.2 with ⟨e, _⟩ | ⟨g', cap', cur, e, hB, hh, hnc, hcp, hcs, htake⟩
  · cases e
  · simp only [Value.slice.injEq, Option.some.injEq, Addr.mk.injEq, and_true] at e
    obtain ⟨rfl, rfl, rfl⟩ := e
    have hkl : (d.sec.take k).length = k := by rw [List.length_take]; omega
    have d2 : DOwn w.heap.size X.heap.size X (.agg #[.slice (some ⟨g, 0, none⟩) k c, vb]) ⟨d.sec.take k, d.cache⟩ := by
      refine ⟨_, _, rfl, ⟨⟨⟨?_, .inr ⟨g, c, cur, by rw [hkl], hB, hh, by rw [hkl]; omega, hcp, hcs, ?_⟩⟩, Below.refl _ _, l1.1.le⟩, l1.2.1, fun j hj => l1.2.2 j hj⟩, l2, hap⟩
      · rw [strE.row_length]
      · rw [strRow_map] at htake
        rw [strRow_map, List.map_take, ← htake]
        rw [show strE.sz = 1 from rfl] at htake ⊢
        simp only [hkl, Nat.mul_one, List.take_take, Nat.min_eq_left hk]
    exact ⟨hnc, h.cur.new hw (by omega) 0 _, grownBy_new h.grown (by omega) 0 _, h.res.other (by omega) _ _, h.box.set 0 _, (d2.boxStore h.box 0 _).top, hlt, h.pcl⟩
end

theorem Dk.drawn_take {d : Dk} (h : d.drawn) (k : Nat) : (⟨d.sec.take k, d.cache⟩ : Dk).drawn := by
  refine ⟨?_, h.2.1, fun s hs => h.2.2.1 s (List.mem_of_mem_take hs), h.2.2.2⟩
  show (d.sec.take k).length ≤ 100
  have := h.1
  rw [List.length_take]; omega

set_option maxRecDepth 100000 in
set_option maxHeartbeats 1500000 in
theorem segAny_any (pc : Nat) (a : Option Addr) (len cap : Nat) (w : World) (hc : Cur w pc a len cap) :
    Calls Tryd.prog 56 #[.pointer (some ⟨pc, 0, none⟩)] w fun e w' => AnyR w pc a len cap e w' := by
  have hx := Box.new w #[.slice none 0 0, .slice none 0 0] 45
  have hg0 : w.grownBy (w.alloc (.cells #[.slice none 0 0, .slice none 0 0] 45)) (some pc) := World.grownBy_alloc _ _ _
  have hc0 := hc.alloc (.cells #[.slice none 0 0, .slice none 0 0] 45)
  have hpc := hc.lt
  have hz0 : w.heap.size < (w.alloc (.cells #[.slice none 0 0, .slice none 0 0] 45)).heap.size := by simp
  go_enter Tryd.func56, Tryd.ntmps56
  go_wp2_with fail
  generalize w.alloc (.cells #[.slice none 0 0, .slice none 0 0] 45) = W at *
  refine (below_any 10 pc a len cap _ hc0 (by omega)).mono ?_
  rintro e w1 ⟨ks, hk1, _, rfl, hc1, hg1⟩
  have hk12 := hk1 (by omega)
  clear hk1
  go_wp2_with fail
  refine (below_any 60 pc a len cap _ hc1 (by omega)).mono ?_
  rintro e w2 ⟨x, hx1, _, rfl, hc2, hg2⟩
  have hx60 := hx1 (by omega)
  clear hx1
  go_wp2_with fail
  refine (segDisk_any pc a len cap _ hc2).mono ?_
  rintro e w3 ⟨d, v3, hsg, rfl, o3, hc3, hg3⟩
  obtain ⟨hok, hnil, nx, hnx, hnl⟩ := hsg
  have hl48 : 48 ≤ d.sec.length := by omega
  clear hnl hnx hnil
  obtain ⟨hsm, hts, htu⟩ := Dk.ok_small hok
  go_wp2_with fail
  refine (specCopy_any d _ _ _ _ o3 hsm).mono ?_
  rintro e w4 ⟨v4, rfl, o4, k4⟩
  obtain ⟨a1, a2, q1, q2, rfl⟩ := o4.form
  have hz1 := hg1.size
  have hz2 := hg2.size
  have hz3 := hg3.size
  have hz4 := k4.size
  have k5 : Below w4.heap.size w4 (w4.alloc (.cells #[.slice a1 d.sec.length q1, .slice a2 d.cache.length q2] 45)) := belAlloc _ _
  have kk := k4.trans (k5.mono k4.size)
  have I5 : LdI w pc a len cap w4.heap.size (.slice a1 d.sec.length q1) (.slice a2 d.cache.length q2) d (w4.alloc (.cells #[.slice a1 d.sec.length q1, .slice a2 d.cache.length q2] 45)) :=
    ⟨hc3.below kk hc3.lt hc3.codeLt, (((hg0.trans hg1).trans hg2).trans hg3).trans (grownBy_below (World.grownBy.refl _ _) kk (Nat.le_refl _)), (((hx.cur hg1 (by omega)).cur hg2 (by omega)).cur hg3 (by omega)).later kk, Box.new w4 _ _, ((o4.later k5).base (by omega)).top, by omega, hpc⟩
  go_upto_region 4 with fail
  generalize w4.alloc (.cells #[.slice a1 d.sec.length q1, .slice a2 d.cache.length q2] 45) = w5 at I5 ⊢
  clear hx hg0 hc0 hg1 hc1 hg2 hc2 hg3 hc3 o3 o4 k4 k5 kk
  have HC := Lib.hid hc
  clear hc
  have hdr := Dk.ok_drawn hok
  have hl1 := hok.1
  have hl100 := hok.2.1
  obtain ⟨g1, rfl⟩ : ∃ g1 : Nat, a1 = some ⟨g1, 0, none⟩ := by
    obtain ⟨va', vb', hv, l1, _, _⟩ := I5.dsk
    simp only [Value.agg.injEq, Array.mk.injEq, List.cons.injEq, and_true] at hv
    obtain ⟨rfl, rfl⟩ := hv
    rcases l1.1.own.2 with ⟨_, e⟩ | ⟨g, cap, cur, e, _⟩
    · omega
    · simp only [Value.slice.injEq] at e; exact ⟨g, e.1⟩
  rcases (show ks = 0 ∨ ks = 1 ∨ ks = 2 ∨ (ks ≠ 0 ∧ ks ≠ 1 ∧ ks ≠ 2) by omega) with rfl | rfl | rfl | ⟨n0, n1, n2⟩
  · go_upto_region 6 with fail
    obtain ⟨k, hk0⟩ : ∃ k : Nat, (x : Int) % (d.sec.length : Int) = (k : Int) := Int.eq_ofNat_of_zero_le (Int.emod_nonneg _ (by omega))
    have hk : k < d.sec.length := by have := Int.emod_lt_of_pos (x : Int) (show (0 : Int) < (d.sec.length : Int) by omega); omega
    have hdn : ¬ (d.sec = []) := fun e => by rw [e] at hl1; simp at hl1
    have htk : (x : Int).tmod (d.sec.length : Int) = (k : Int) := by rw [Int.tmod_eq_emod_of_nonneg (by omega)]; exact hk0
    clear hk0
    have hi0 : (0 : Int) ≤ (k : Int) := by omega
    obtain ⟨hnc, I6⟩ := I5.drew.cutSec k (by omega) HC.out
    obtain ⟨_, J6⟩ := I5.cutSec k (by omega) HC.out
    have hkc : (k : Int) ≤ (q1 : Int) := by omega
    have I0 := Lib.hid I5.drew
    obtain ⟨m0, m1, f0, f1⟩ := I0.out.cells
    have I8 := Lib.hid I6
    have J8 := Lib.hid J6
    clear I5 I6 J6
    go_region_law (first | (go_simp; go_at_call 66; skip))
    all_goals
      obtain ⟨y0, y1, x0, x1, h0, h1, u0, u1, HR⟩ := I8.out.done HC.out
      obtain ⟨y0', y1', x0', x1', h0', h1', u0', u1', HR'⟩ := J8.out.done HC.out
      clear I8 J8 m0 m1 f0 f1
      go_wp2
      refine bodyPost_ret (v := .agg #[.slice (some ⟨g1, 0, none⟩) k q1, .slice a2 d.cache.length q2]) (by simp [results, Tryd.results56, go_sem, u0', u1']) rfl ?_
      obtain ⟨z1, z2, z3⟩ := HR'.out
      have bD := bel_drew (((w5.setCell ⟨w4.heap.size, 0, none⟩ (.slice (some ⟨g1, 0, none⟩) k q1)).setCell ⟨w.heap.size, 0, none⟩ (.slice (some ⟨g1, 0, none⟩) k q1)).setCell ⟨w.heap.size, 1, none⟩ (.slice a2 d.cache.length q2))
      exact ⟨_, _, Dk.drawn_take hdr k, rfl, z1.later bD, z2.below bD z2.lt z2.codeLt, grownBy_below z3 bD z3.size⟩
  · obtain ⟨k, hk0⟩ : ∃ k : Nat, 8 + (x : Int) % 30 = (k : Int) := Int.eq_ofNat_of_zero_le (by omega)
    have hk : k < d.sec.length := by omega
    have hi0 : (0 : Int) ≤ (k : Int) := by omega
    have hi1 : (k : Int) < (d.sec.length : Int) := by omega
    obtain ⟨xb, hxb⟩ : ∃ xb : UInt8, (x : Int) = (xb.toNat : Int) := ⟨UInt8.ofNat x, by rw [show (UInt8.ofNat x).toNat = x % 256 from rfl]; omega⟩
    have hw8 : IntKind.u8.wrap (x : Int) = (xb.toNat : Int) := by rw [← hxb]; show (x : Int) % 256 = _; omega
    clear hxb
    obtain ⟨m0, m1, f0, f1⟩ := I5.cells
    go_upto_region 10 with fail
    have htk : IntKind.i64.wrap (8 + (x : Int).tmod 30) = (k : Int) := by rw [Int.tmod_eq_emod_of_nonneg (by omega), hk0]; exact IntWalk.i64_in _ ⟨by omega, by omega⟩
    clear hk0
    have I0 := Lib.hid I5.drew
    clear m0 m1 f0 f1
    obtain ⟨m0, m1, f0, f1⟩ := I0.out.cells
    clear I5
    go_region_law (first | (go_simp; go_at_call 66; refine (long_some 32 xb _ (by omega)).mono ?_; rintro e w6 ⟨t, ht, rfl, k6⟩; have I6 := Lib.hid (I0.out.later k6); obtain ⟨m0, m1, f0, f1⟩ := I6.out.cells; obtain ⟨cs, fs, I7⟩ := I6.out.setSec HC.out hk t; have I8 := Lib.hid I7; clear I7; dsimp only))
    all_goals
      obtain ⟨y0, y1, x0, x1, h0, h1, u0, u1, HR⟩ := I8.out.done HC.out
      go_wp2
      refine bodyPost_ret (v := .agg #[.slice (some ⟨g1, 0, none⟩) d.sec.length q1, .slice a2 d.cache.length q2]) (by simp [results, Tryd.results56, go_sem, u0, u1]) rfl ?_
      exact ⟨_, _, Dk.drawn_set hdr k ht, rfl, HR.out⟩
  · rw [show ((2 : Nat) : Int) = 2 from rfl]
    go_wp2_with fail
    refine (anyDk_any pc a len cap _ I5.cur).mono ?_
    rintro e w6 ⟨d6, v6, hdr6, rfl, o6, hc6, hg6⟩
    obtain ⟨s1, s2, c1, c2, rfl⟩ := o6.form
    have I6 := I5.step hc6 hg6
    have hz5 : w.heap.size ≤ w5.heap.size := I5.grown.size
    have I7 := I6.put HC.out o6 hz5
    have x6 := I6.res
    have d0 := x6.cell 0 (.slice none 0 0) rfl
    have d1 := x6.cell 1 (.slice none 0 0) rfl
    have f0 := x6.loose 0
    have f1 := x6.loose 1
    have rX := (x6.set 0 (.slice s1 d6.sec.length c1)).set 1 (.slice s2 d6.cache.length c2)
    have q0 := rX.cell 0 (.slice s1 d6.sec.length c1) rfl
    have q1' := rX.cell 1 (.slice s2 d6.cache.length c2) rfl
    have HR : Hid (AnyR w pc a len cap (.returned (.agg #[.slice s1 d6.sec.length c1, .slice s2 d6.cache.length c2])) ((w6.setCell ⟨w.heap.size, 0, none⟩ (.slice s1 d6.sec.length c1)).setCell ⟨w.heap.size, 1, none⟩ (.slice s2 d6.cache.length c2))) :=
      ⟨d6, _, hdr6, rfl, (((o6.base hz5).boxStore x6 0 _).boxStore (x6.set 0 _) 1 _).top, (I6.cur.new HC.out (Nat.le_refl _) 0 _).new HC.out (Nat.le_refl _) 1 _, grownBy_new (grownBy_new I6.grown (Nat.le_refl _) 0 _) (Nat.le_refl _) 1 _⟩
    clear I5 I6 I7 o6 rX x6 hc6 hg6
    go_wp2
    refine bodyPost_ret (v := .agg #[.slice s1 d6.sec.length c1, .slice s2 d6.cache.length c2]) (by simp [results, Tryd.results56, go_sem, q0, q1']) rfl ?_
    exact HR.out
  · obtain ⟨m0, m1, x0, x1, f0, f1, u0, u1, HR⟩ := I5.done HC.out
    have e0 : ((ks : Int) == 0) = false := beq_eq_false_iff_ne.2 (by omega)
    have e1 : ((ks : Int) == 1) = false := beq_eq_false_iff_ne.2 (by omega)
    have e2 : ((ks : Int) == 2) = false := beq_eq_false_iff_ne.2 (by omega)
    clear I5
    go_wp2
    refine bodyPost_ret (v := .agg #[.slice (some ⟨g1, 0, none⟩) d.sec.length q1, .slice a2 d.cache.length q2]) (by simp [results, Tryd.results56, go_sem, u0, u1]) rfl ?_
    exact ⟨_, _, hdr, rfl, HR.out⟩

set_option maxRecDepth 100000 in
theorem drawSegDisk_any (a : Option Addr) (len cap : Nat) (w : World) (hcode : CodeIn w a len) (hs : len ≤ 1048576) :
    Calls Tryd.prog 25 #[.slice a len cap] w fun e w' => ∃ d : Dk, d.seg ∧ DiskR1 d w e w' := by
  have hx := Box.new w #[.slice none 0 0, .slice none 0 0] 45
  have b0 : Below w.heap.size w (w.alloc (.cells #[.slice none 0 0, .slice none 0 0] 45)) := belAlloc _ _
  have hc0 := hcode.later b0
  have hz0 : w.heap.size < (w.alloc (.cells #[.slice none 0 0, .slice none 0 0] 45)).heap.size := by simp
  go_enter Tryd.func25, Tryd.ntmps25
  go_wp2_with fail
  generalize w.alloc (.cells #[.slice none 0 0, .slice none 0 0] 45) = W at *
  refine (new_any a len cap _ hc0 hs).mono ?_
  rintro e w1 ⟨pc, hp, rfl, hc1, hb1⟩
  go_wp2_with fail
  refine (segDisk_any pc a len cap _ hc1).mono ?_
  rintro e w2 ⟨d, v, hsg, rfl, o2, hc2, hg2⟩
  have HSG := Lib.hid hsg
  clear hsg
  have x2 := (hx.later hb1).cur hg2 (by omega)
  have b2 : Below w.heap.size w w2 := (b0.trans (hb1.mono b0.size)).grown hg2 (Nat.le_trans b0.size hb1.size) (fun k hk => by have := Option.some.inj hk; omega)
  obtain ⟨s1, s2, c1, c2, rfl⟩ := o2.form
  have d0 := x2.cell 0 (.slice none 0 0) rfl
  have d1 := x2.cell 1 (.slice none 0 0) rfl
  have f0 := x2.loose 0
  have f1 := x2.loose 1
  have rX := (x2.set 0 (.slice s1 d.sec.length c1)).set 1 (.slice s2 d.cache.length c2)
  have q0 := rX.cell 0 (.slice s1 d.sec.length c1) rfl
  have q1 := rX.cell 1 (.slice s2 d.cache.length c2) rfl
  have hz1 := hb1.size
  have HR : Hid (DiskR1 d w (.returned (.agg #[.slice s1 d.sec.length c1, .slice s2 d.cache.length c2])) ((w2.setCell ⟨w.heap.size, 0, none⟩ (.slice s1 d.sec.length c1)).setCell ⟨w.heap.size, 1, none⟩ (.slice s2 d.cache.length c2))) :=
    ⟨_, rfl, (((o2.base (by omega)).boxStore x2 0 _).boxStore (x2.set 0 _) 1 _).top, (b2.setCell (p := ⟨w.heap.size, 0, none⟩) (Nat.le_refl _) _).setCell (p := ⟨w.heap.size, 1, none⟩) (Nat.le_refl _) _⟩
  clear rX x2 o2
  go_wp2
  refine bodyPost_ret (v := .agg #[.slice s1 d.sec.length c1, .slice s2 d.cache.length c2]) (by simp [results, Tryd.results25, go_sem, q0, q1]) rfl ?_
  exact ⟨d, HSG.out, HR.out⟩

/-- A drawn disk, and a number. -/
def SdR (w : World) (e : Ending) (w' : World) : Prop :=
  ∃ (d : Dk) (v : Value) (z : Int), d.drawn ∧ e = .returned (.tuple #[v, .int .i64 z]) ∧ DOwn w.heap.size w'.heap.size w' v d ∧ Below w.heap.size w w'

set_option maxRecDepth 100000 in
set_option maxHeartbeats 1000000 in
theorem segPair_any (a : Option Addr) (len cap : Nat) (w : World) (hcode : CodeIn w a len) (hs : len ≤ 1048576) :
    Calls Tryd.prog 52 #[.slice a len cap] w fun e w' => SdR w e w' := by
  have hx := Box.new w #[.slice none 0 0, .slice none 0 0] 45
  have b0 : Below w.heap.size w (w.alloc (.cells #[.slice none 0 0, .slice none 0 0] 45)) := belAlloc _ _
  have hc0 := hcode.later b0
  have hz0 : w.heap.size < (w.alloc (.cells #[.slice none 0 0, .slice none 0 0] 45)).heap.size := by simp
  go_enter Tryd.func52, Tryd.ntmps52
  go_wp2_with fail
  generalize w.alloc (.cells #[.slice none 0 0, .slice none 0 0] 45) = W at *
  refine (new_any a len cap _ hc0 hs).mono ?_
  rintro e w1 ⟨pc, hp, rfl, hc1, hb1⟩
  have hz1 := hb1.size
  go_wp2_with fail
  refine (pickLit_any [0, 1, 2, 3, 4, 5, 10, 11, -1] 9 pc a len cap _ hc1 rfl (by omega) (by omega)).mono ?_
  rintro e w2 ⟨z, _, rfl, hc2, hg2⟩
  go_wp2_with fail
  refine (segAny_any pc a len cap _ hc2).mono ?_
  rintro e w4 ⟨d, v, hdr, rfl, o4, hc4, hg4⟩
  have hg := hg2.trans hg4
  have hz2 := hg2.size
  have x4 := (hx.later hb1).cur hg (by omega)
  have b4 : Below w.heap.size w w4 := (b0.trans (hb1.mono b0.size)).grown hg (Nat.le_trans b0.size hb1.size) (fun k hk => by have := Option.some.inj hk; omega)
  obtain ⟨s1, s2, c1, c2, rfl⟩ := o4.form
  have d0 := x4.cell 0 (.slice none 0 0) rfl
  have d1 := x4.cell 1 (.slice none 0 0) rfl
  have f0 := x4.loose 0
  have f1 := x4.loose 1
  have rX := (x4.set 0 (.slice s1 d.sec.length c1)).set 1 (.slice s2 d.cache.length c2)
  have q0 := rX.cell 0 (.slice s1 d.sec.length c1) rfl
  have q1 := rX.cell 1 (.slice s2 d.cache.length c2) rfl
  have HR : Hid (SdR w (.returned (.tuple #[.agg #[.slice s1 d.sec.length c1, .slice s2 d.cache.length c2], .int .i64 z])) ((w4.setCell ⟨w.heap.size, 0, none⟩ (.slice s1 d.sec.length c1)).setCell ⟨w.heap.size, 1, none⟩ (.slice s2 d.cache.length c2))) :=
    ⟨d, _, z, hdr, rfl, (((o4.base (by omega)).boxStore x4 0 _).boxStore (x4.set 0 _) 1 _).top, (b4.setCell (p := ⟨w.heap.size, 0, none⟩) (Nat.le_refl _) _).setCell (p := ⟨w.heap.size, 1, none⟩) (Nat.le_refl _) _⟩
  clear rX x4 o4 hg hg2 hg4 hc2 hc4 hc1
  go_wp2
  refine bodyPost_ret (v := .tuple #[.agg #[.slice s1 d.sec.length c1, .slice s2 d.cache.length c2], .int .i64 z]) (by simp [results, Tryd.results52, go_sem, q0, q1]) rfl ?_
  exact HR.out

set_option maxRecDepth 100000 in
theorem drawSegFrames_any (a : Option Addr) (len cap : Nat) (w : World) (hcode : CodeIn w a len) (hs : len ≤ 1048576) :
    Calls Tryd.prog 21 #[.slice a len cap] w fun e w' => SdR w e w' := by
  have hx := Box.new w #[.slice none 0 0, .slice none 0 0] 45
  have b0 : Below w.heap.size w (w.alloc (.cells #[.slice none 0 0, .slice none 0 0] 45)) := belAlloc _ _
  have hc0 := hcode.later b0
  have hz0 : w.heap.size < (w.alloc (.cells #[.slice none 0 0, .slice none 0 0] 45)).heap.size := by simp
  go_enter Tryd.func21, Tryd.ntmps21
  go_wp2_with fail
  generalize w.alloc (.cells #[.slice none 0 0, .slice none 0 0] 45) = W at *
  refine (segPair_any a len cap _ hc0 hs).mono ?_
  rintro e w4 ⟨d, v, z, hdr, rfl, o4, k4⟩
  have x4 := hx.later k4
  have b4 : Below w.heap.size w w4 := b0.trans (k4.mono b0.size)
  obtain ⟨s1, s2, c1, c2, rfl⟩ := o4.form
  have d0 := x4.cell 0 (.slice none 0 0) rfl
  have d1 := x4.cell 1 (.slice none 0 0) rfl
  have f0 := x4.loose 0
  have f1 := x4.loose 1
  have rX := (x4.set 0 (.slice s1 d.sec.length c1)).set 1 (.slice s2 d.cache.length c2)
  have q0 := rX.cell 0 (.slice s1 d.sec.length c1) rfl
  have q1 := rX.cell 1 (.slice s2 d.cache.length c2) rfl
  have HR : Hid (SdR w (.returned (.tuple #[.agg #[.slice s1 d.sec.length c1, .slice s2 d.cache.length c2], .int .i64 z])) ((w4.setCell ⟨w.heap.size, 0, none⟩ (.slice s1 d.sec.length c1)).setCell ⟨w.heap.size, 1, none⟩ (.slice s2 d.cache.length c2))) :=
    ⟨d, _, z, hdr, rfl, (((o4.base (by omega)).boxStore x4 0 _).boxStore (x4.set 0 _) 1 _).top, (b4.setCell (p := ⟨w.heap.size, 0, none⟩) (Nat.le_refl _) _).setCell (p := ⟨w.heap.size, 1, none⟩) (Nat.le_refl _) _⟩
  clear rX x4 o4
  go_wp2
  refine bodyPost_ret (v := .tuple #[.agg #[.slice s1 d.sec.length c1, .slice s2 d.cache.length c2], .int .i64 z]) (by simp [results, Tryd.results21, go_sem, q0, q1]) rfl ?_
  exact HR.out

theorem newD_drawn (n : Int) : (newD n).drawn := by
  unfold newD
  split
  · refine ⟨?_, by simp, ?_, by simp⟩
    · show (List.replicate n.toNat zero32).length ≤ 100
      simp; omega
    · intro s hs
      have : s ∈ List.replicate n.toNat zero32 := hs
      simp only [List.mem_replicate] at this
      rw [this.2]; decide
  · exact ⟨by simp, by simp, by simp, by simp⟩

set_option maxRecDepth 100000 in
set_option maxHeartbeats 1000000 in
theorem drawSegsOf_any (a : Option Addr) (len cap : Nat) (w : World) (hcode : CodeIn w a len) (hs : len ≤ 1048576) :
    Calls Tryd.prog 24 #[.slice a len cap] w fun e w' => ∃ d : Dk, d.drawn ∧ DiskR1 d w e w' := by
  have hx := Box.new w #[.slice none 0 0, .slice none 0 0] 45
  have b0 : Below w.heap.size w (w.alloc (.cells #[.slice none 0 0, .slice none 0 0] 45)) := belAlloc _ _
  have hc0 := hcode.later b0
  have hz0 : w.heap.size < (w.alloc (.cells #[.slice none 0 0, .slice none 0 0] 45)).heap.size := by simp
  go_enter Tryd.func24, Tryd.ntmps24
  go_wp2_with fail
  generalize w.alloc (.cells #[.slice none 0 0, .slice none 0 0] 45) = W at *
  refine (new_any a len cap _ hc0 hs).mono ?_
  rintro e w1 ⟨pc, hp, rfl, hc1, hb1⟩
  have hz1 := hb1.size
  go_wp2_with fail
  refine (below_any 3 pc a len cap _ hc1 (by omega)).mono ?_
  rintro e w2 ⟨k, _, _, rfl, hc2, hg2⟩
  have hz2 := hg2.size
  by_cases hk : k = 0
  · subst hk
    go_wp2_with fail
    refine (pickLit_any [1, 47, 48, 55, 96, 97, 100, 8, 7] 9 pc a len cap _ hc2 rfl (by omega) (by omega)).mono ?_
    rintro e w3 ⟨z, _, rfl, hc3, hg3⟩
    go_wp2_with fail
    refine (specDiskNew_any z _).mono ?_
    rintro e w4 ⟨v4, rfl, o4, k4⟩
    have hdr := Lib.hid (newD_drawn z)
    generalize newD z = d at o4 hdr
    obtain ⟨s1, s2, c1, c2, rfl⟩ := o4.form
    have hg := hg2.trans hg3
    have hz3 := hg3.size
    have k5 : Below w4.heap.size w4 (w4.alloc (.cells #[.slice s1 d.sec.length c1, .slice s2 d.cache.length c2] 45)) := belAlloc _ _
    have b3 : Below w.heap.size w w3 := (b0.trans (hb1.mono b0.size)).grown hg (Nat.le_trans b0.size hb1.size) (fun k hk => by have := Option.some.inj hk; omega)
    have kk := k4.trans (k5.mono k4.size)
    have b5 := b3.trans (kk.mono b3.size)
    have y5 := Box.new w4 #[.slice s1 d.sec.length c1, .slice s2 d.cache.length c2] 45
    have x5 := ((hx.later hb1).cur hg (by omega)).later kk
    have o5 := (o4.later k5).base b3.size
    go_upto_region 6 with fail
    generalize w4.alloc (.cells #[.slice s1 d.sec.length c1, .slice s2 d.cache.length c2] 45) = w5 at y5 x5 o5 b5 ⊢
    have m0 := y5.cell 0 (.slice s1 d.sec.length c1) rfl
    have m1 := y5.cell 1 (.slice s2 d.cache.length c2) rfl
    have d0 := x5.cell 0 (.slice none 0 0) rfl
    have d1 := x5.cell 1 (.slice none 0 0) rfl
    have f0 := x5.loose 0
    have f1 := x5.loose 1
    have rX := (x5.set 0 (.slice s1 d.sec.length c1)).set 1 (.slice s2 d.cache.length c2)
    have q0 := rX.cell 0 (.slice s1 d.sec.length c1) rfl
    have q1 := rX.cell 1 (.slice s2 d.cache.length c2) rfl
    have HR : Hid (DiskR1 d w (.returned (.agg #[.slice s1 d.sec.length c1, .slice s2 d.cache.length c2])) ((w5.setCell ⟨w.heap.size, 0, none⟩ (.slice s1 d.sec.length c1)).setCell ⟨w.heap.size, 1, none⟩ (.slice s2 d.cache.length c2))) :=
      ⟨_, rfl, ((o5.boxStore x5 0 _).boxStore (x5.set 0 _) 1 _).top, (b5.setCell (p := ⟨w.heap.size, 0, none⟩) (Nat.le_refl _) _).setCell (p := ⟨w.heap.size, 1, none⟩) (Nat.le_refl _) _⟩
    clear rX x5 o4 o5 y5 hg hg2 hg3 hc2 hc3 hc1
    go_wp2
    refine bodyPost_ret (v := .agg #[.slice s1 d.sec.length c1, .slice s2 d.cache.length c2]) (by simp [results, Tryd.results24, go_sem, q0, q1]) rfl ?_
    exact ⟨d, hdr.out, HR.out⟩
  · have hk0 : ((k : Int) == 0) = false := beq_eq_false_iff_ne.2 (by omega)
    go_wp2_with fail
    refine (segAny_any pc a len cap _ hc2).mono ?_
    rintro e w4 ⟨d, v, hdr, rfl, o4, hc4, hg4⟩
    have hg := hg2.trans hg4
    have x4 := (hx.later hb1).cur hg (by omega)
    have b4 : Below w.heap.size w w4 := (b0.trans (hb1.mono b0.size)).grown hg (Nat.le_trans b0.size hb1.size) (fun k hk => by have := Option.some.inj hk; omega)
    obtain ⟨s1, s2, c1, c2, rfl⟩ := o4.form
    have d0 := x4.cell 0 (.slice none 0 0) rfl
    have d1 := x4.cell 1 (.slice none 0 0) rfl
    have f0 := x4.loose 0
    have f1 := x4.loose 1
    have rX := (x4.set 0 (.slice s1 d.sec.length c1)).set 1 (.slice s2 d.cache.length c2)
    have q0 := rX.cell 0 (.slice s1 d.sec.length c1) rfl
    have q1 := rX.cell 1 (.slice s2 d.cache.length c2) rfl
    have HR : Hid (DiskR1 d w (.returned (.agg #[.slice s1 d.sec.length c1, .slice s2 d.cache.length c2])) ((w4.setCell ⟨w.heap.size, 0, none⟩ (.slice s1 d.sec.length c1)).setCell ⟨w.heap.size, 1, none⟩ (.slice s2 d.cache.length c2))) :=
      ⟨_, rfl, (((o4.base (by omega)).boxStore x4 0 _).boxStore (x4.set 0 _) 1 _).top, (b4.setCell (p := ⟨w.heap.size, 0, none⟩) (Nat.le_refl _) _).setCell (p := ⟨w.heap.size, 1, none⟩) (Nat.le_refl _) _⟩
    clear rX x4 o4 hg hg2 hg4 hc2 hc4 hc1
    go_wp2
    refine bodyPost_ret (v := .agg #[.slice s1 d.sec.length c1, .slice s2 d.cache.length c2]) (by simp [results, Tryd.results24, go_sem, q0, q1]) rfl ?_
    exact ⟨d, hdr, HR.out⟩

end Go.Proofs.YtmlhpjkijpbinabDoor

/- The table of sixteen words, where the row lays it. -/
namespace Go.Proofs.YtmlhpjkijpbinabDoor
open Go.ChangeShapes Go.WideShapes Go.ChangeAt Go.RowKit
open Go.ChangeMaps (open_string shut_string)
set_option linter.unusedVariables false

theorem sumTabData : (Rows.laid_loop_example_g00287_impl_sumTable : DataW Unit) = Lib.tabData .u32 sumTabI := by rfl

theorem sumTab_of_laid {W : World} (h : laidMetH Tryd.prog [("loop.example/g00287/impl.sumTable", Rows.laid_loop_example_g00287_impl_sumTable)] W) : SumTab W := by
  rw [MakeChecks.laidMetH_plain _ _ _ (by kernel_rfl)] at h
  obtain ⟨ps, ⟨g0, t0, cs0, f0, p0, q0, hg0, ht0, hv0, hd0, _, _⟩, _⟩ := h
  have hg : Tryd.prog.globalNamed "loop.example/g00287/impl.sumTable" = some 0 := by kernel_rfl
  have ht : (Tryd.prog.globals[0]?).map (·.type) = some 117 := by kernel_rfl
  obtain rfl := Option.some.inj (hg.symm.trans hg0)
  obtain rfl := Option.some.inj (ht.symm.trans ht0)
  unfold SumTab Lib.TabIs
  rw [sumTabData] at hd0
  rw [hv0, ← Lib.cells_of_tab (P := Tryd.prog) Tryd.underlying117 Tryd.underlying84 (by kernel_rfl) (by kernel_rfl) hd0]

end Go.Proofs.YtmlhpjkijpbinabDoor
