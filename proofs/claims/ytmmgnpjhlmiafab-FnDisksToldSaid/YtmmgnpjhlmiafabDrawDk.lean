/- What is drawn for the chapter on sectors: a right disk that was written on. -/
import Derived.Test.YtmmgnpjhlmiafabSpecBytes
import Derived.Test.YtmmgnpjhlmiafabDiskNew
import Derived.Test.YtmmgnpjhlmiafabDrawKit
import Derived.Deep.RegionLaw
namespace Go.Proofs.Ytmmgnpjhlmiafab
open Go.RowKit

theorem DOwn.cursor {B T pc : Nat} {w w' : World} {v : Value} {d : Dk} (h : DOwn B T w v d) (hg : w.grownBy w' (some pc)) (hp : pc < B) : DOwn B T w' v d := by
  obtain ⟨va, vb, hv, h1, h2, h3⟩ := h
  have ne : ∀ {α : Type} {E : Enc α} {x : Value} {l : List α}, LOwn E B T w x l → (x.ownBlock = none ∨ x.ownBlock ≠ some pc) := by
    intro α E x l hx
    cases hv : x.ownBlock with
    | none => exact .inl rfl
    | some k => exact .inr (by intro e; have := (hx.1.own.lt k hv).1; have := Option.some.inj e; omega)
  exact ⟨va, vb, hv, h1.grown hg (ne h1), h2.grown hg (ne h2), h3⟩

/-- What is known while a disk is drawn: the cursor, the answer's box, and the disk's box. -/
structure LdI (w : World) (pc : Nat) (a : Option Addr) (len cap b : Nat) (va vb : Value) (d : Dk) (X : World) : Prop where
  cur : Cur X pc a len cap
  grown : w.grownBy X (some pc)
  res : Box X w.heap.size #[.slice none 0 0, .slice none 0 0] 27
  box : Box X b #[va, vb] 27
  dsk : DOwn w.heap.size X.heap.size X (.agg #[va, vb]) d
  lt : w.heap.size < b
  pcl : pc < w.heap.size

section
variable {w : World} {pc : Nat} {a : Option Addr} {len cap b : Nat} {va vb : Value} {d : Dk} {X Y : World}

theorem LdI.step (h : LdI w pc a len cap b va vb d X) (hc : Cur Y pc a len cap) (hg : X.grownBy Y (some pc)) : LdI w pc a len cap b va vb d Y :=
  ⟨hc, h.grown.trans hg, h.res.cur hg (by have := h.pcl; omega), h.box.cur hg (by have := h.pcl; have := h.lt; omega), (h.dsk.cursor hg h.pcl).top, h.lt, h.pcl⟩
theorem LdI.later (h : LdI w pc a len cap b va vb d X) (hb : Below X.heap.size X Y) : LdI w pc a len cap b va vb d Y :=
  h.step (h.cur.below hb h.cur.lt h.cur.codeLt) (grownBy_below (World.grownBy.refl _ _) hb (Nat.le_refl _))
theorem LdI.drew (h : LdI w pc a len cap b va vb d X) : LdI w pc a len cap b va vb d X.drew := h.later ((Below.refl _ _).drew)
theorem LdI.cells {s1 s2 : Option Addr} {c1 c2 n1 n2 : Nat} (h : LdI w pc a len cap b (.slice s1 n1 c1) (.slice s2 n2 c2) d X) : X.cell? ⟨b, 0, none⟩ = some (.slice s1 n1 c1) ∧ X.cell? ⟨b, 1, none⟩ = some (.slice s2 n2 c2) ∧ X.frozen? ⟨b, 0, none⟩ = false ∧ X.frozen? ⟨b, 1, none⟩ = false :=
  ⟨h.box.cell 0 _ rfl, h.box.cell 1 _ rfl, h.box.loose 0, h.box.loose 1⟩
/-- Another disk is put into the box. -/
theorem LdI.put {ua ub : Value} {d2 : Dk} {B : Nat} (h : LdI w pc a len cap b va vb d X) (hw : Cur w pc a len cap) (h2 : DOwn B X.heap.size X (.agg #[ua, ub]) d2) (hB : w.heap.size ≤ B) : LdI w pc a len cap b ua ub d2 ((X.setCell ⟨b, 0, none⟩ ua).setCell ⟨b, 1, none⟩ ub) := by
  have hlt := h.lt
  have o1 := h.box.set 0 ua
  refine ⟨(h.cur.new hw (by omega) 0 ua).new hw (by omega) 1 ub, grownBy_new (grownBy_new h.grown (by omega) 0 ua) (by omega) 1 ub, (h.res.other (by omega) _ _).other (by omega) _ _, o1.set 1 ub, ?_, hlt, h.pcl⟩
  exact (((h2.base hB).boxStore h.box 0 ua).boxStore o1 1 ub).top
end

theorem flush_32 (c : List Wr) : ∀ sec : List ByteArray, (∀ s ∈ sec, s.size = 32) → (∀ x ∈ c, x.text.size = 32) → ∀ s ∈ flush sec c, s.size = 32 := by
  induction c with
  | nil => intro sec h _; exact h
  | cons x c ih =>
    intro sec h hc
    have e : flush sec (x :: c) = flush (sec.set x.at_.toNat x.text) c := rfl
    rw [e]
    refine ih _ (fun s hs => ?_) (fun y hy => hc y (by simp [hy]))
    rcases List.mem_or_eq_of_mem_set hs with h1 | h1
    · exact h s h1
    · rw [h1]; exact hc x (by simp)
theorem flD_ok {d : Dk} (h : d.ok) : (flD d).ok ∧ (flD d).sec.length = d.sec.length ∧ (flD d).cache = [] := by
  unfold flD
  rw [if_pos h]
  obtain ⟨h1, h2, h3, h4, h5⟩ := h
  have hl := flush_length d.sec d.cache
  exact ⟨⟨by show 1 ≤ (flush d.sec d.cache).length; omega, by show (flush d.sec d.cache).length ≤ 100; omega, by simp, flush_32 _ _ h4 (fun x hx => (h5 x hx).2.2), by simp⟩, hl, rfl⟩

/-- A drawn disk. -/
def DkR (w : World) (pc : Nat) (a : Option Addr) (len cap : Nat) (e : Ending) (w' : World) : Prop :=
  ∃ (d : Dk) (v : Value), d.ok ∧ d.cache.length ≤ 24 ∧ e = .returned v ∧ DOwn w.heap.size w'.heap.size w' v d ∧ Cur w' pc a len cap ∧ w.grownBy w' (some pc)

set_option maxRecDepth 100000 in
set_option maxHeartbeats 1500000 in
theorem disk_any (pc : Nat) (a : Option Addr) (len cap : Nat) (w : World) (hc : Cur w pc a len cap) :
    Calls Try.prog 34 #[.pointer (some ⟨pc, 0, none⟩)] w fun e w' => DkR w pc a len cap e w' := by
  have hx := Box.new w #[.slice none 0 0, .slice none 0 0] 27
  have hg0 : w.grownBy (w.alloc (.cells #[.slice none 0 0, .slice none 0 0] 27)) (some pc) := World.grownBy_alloc _ _ _
  have hc0 := hc.alloc (.cells #[.slice none 0 0, .slice none 0 0] 27)
  have hpc := hc.lt
  have hz0 : w.heap.size < (w.alloc (.cells #[.slice none 0 0, .slice none 0 0] 27)).heap.size := by simp
  go_enter Try.func34, Try.ntmps34
  go_wp2_with fail
  generalize w.alloc (.cells #[.slice none 0 0, .slice none 0 0] 27) = W at *
  refine (below_any 6 pc a len cap _ hc0 (by omega)).mono ?_
  rintro e w1 ⟨x, hx1, _, rfl, hc1, hg1⟩
  have hx6 := hx1 (by omega)
  clear hx1
  go_wp2_with fail
  refine (specDiskNew_any _ _).mono ?_
  rintro e w2 ⟨v2, rfl, o2, k2⟩
  have hin : 1 ≤ 1 + (x : Int) ∧ 1 + (x : Int) ≤ 100 := by omega
  have hnew : newD (1 + (x : Int)) = ⟨List.replicate (x + 1) zero32, []⟩ := by
    rw [newD, if_pos hin, show (1 + (x : Int)).toNat = x + 1 by omega]
  rw [hnew] at o2
  have hok0 : (⟨List.replicate (x + 1) zero32, []⟩ : Dk).ok := by
    refine ⟨by simp, by simp; omega, by simp, ?_, by simp⟩
    intro s hs
    simp only [List.mem_replicate] at hs
    rw [hs.2]
    rfl
  have hcd0 : (⟨List.replicate (x + 1) zero32, []⟩ : Dk).cache.length ≤ 3 * 0 := by simp
  clear hnew
  generalize (⟨List.replicate (x + 1) zero32, []⟩ : Dk) = d0 at o2 hok0 hcd0
  obtain ⟨a1, a2, q1, q2, rfl⟩ := o2.form
  have hz1 := hg1.size
  have hz2 := k2.size
  have k3 : Below w2.heap.size w2 (w2.alloc (.cells #[.slice a1 d0.sec.length q1, .slice a2 d0.cache.length q2] 27)) := belAlloc _ _
  have kk := k2.trans (k3.mono k2.size)
  have I3 : LdI w pc a len cap w2.heap.size (.slice a1 d0.sec.length q1) (.slice a2 d0.cache.length q2) d0 (w2.alloc (.cells #[.slice a1 d0.sec.length q1, .slice a2 d0.cache.length q2] 27)) :=
    ⟨hc1.below kk hc1.lt hc1.codeLt, (hg0.trans hg1).trans (grownBy_below (World.grownBy.refl _ _) kk (Nat.le_refl _)), (hx.cur hg1 (by omega)).later kk, Box.new w2 _ _, ((o2.later k3).base (by omega)).top, by omega, hpc⟩
  go_upto_region 2 with fail
  generalize w2.alloc (.cells #[.slice a1 d0.sec.length q1, .slice a2 d0.cache.length q2] 27) = w3 at I3 ⊢
  clear hx hg0 hc0 hg1 hc1 o2 k2 k3 kk
  have HC := Lib.hid hc
  clear hc
  go_wp2
  go_loopw [5] (fun iv wr => ∃ (i : Nat) (d : Dk) (va vb : Value), i ≤ 8 ∧ iv = .int .i64 (i : Int) ∧ d.ok ∧ d.cache.length ≤ 3 * i ∧ LdI w pc a len cap w2.heap.size va vb d wr) (fun iv _ => (9 - intOf iv).toNat)
  case atStart => exact ⟨0, d0, _, _, by omega, rfl, hok0, hcd0, I3⟩
  case round =>
    clear I3
    obtain ⟨i, d, va, vb, hi, rfl, hok, hcd, I⟩ := hrel
    obtain ⟨s1, s2, c1, c2, hv⟩ := I.dsk.form
    simp only [Value.agg.injEq, Array.mk.injEq, List.cons.injEq, and_true] at hv
    obtain ⟨rfl, rfl⟩ := hv
    obtain ⟨hsm, hts, htu⟩ := Dk.ok_small hok
    have hl1 := hok.1
    have hl100 := hok.2.1
    go_wp2_with fail
    refine (below_any 9 pc a len cap _ I.cur (by omega)).mono ?_
    rintro e w4 ⟨y, hy, _, rfl, hc4, hg4⟩
    have hy2 := hy (by omega)
    have I4 := I.step hc4 hg4
    clear I hc4 hg4 hy
    by_cases hlt : (i : Int) < (y : Int)
    · go_upto_region 5 with fail
      go_cut [] from 20 to 34 (fun wx => ∃ (d2 : Dk) (ua ub : Value), d2.ok ∧ d2.cache.length ≤ 3 * (i + 1) ∧ LdI w pc a len cap w2.heap.size ua ub d2 wx)
      case first =>
        have I0 := Lib.hid I4.drew
        obtain ⟨m0, m1, f0, f1⟩ := I0.out.cells
        clear I4
        go_region_law (first
          | (go_simp; go_at_call 46; refine (specWriteBytes_ok d _ x1 x2 t w.heap.size w8.heap.size _ I8.out.dsk hok (by omega) (by omega) (by omega)).mono ?_; rintro e w9 ⟨d2, f2, hok2, hl2, hm2, v2, rfl, o9, k9⟩; have hcd2 : Hid (d2.cache.length ≤ 3 * (i + 1)) := (by show _ ≤ _; omega); clear hl2 hm2; have I9 := Lib.hid (I8.out.later k9); obtain ⟨m0, m1, f0, f1⟩ := I9.out.cells; obtain ⟨u1, u2, p1, p2, rfl⟩ := o9.form; have hz9 : w.heap.size ≤ w8.heap.size := I8.out.grown.size; dsimp only)
          | (go_simp; go_at_call 47; refine (dtext_any (x3 : Int) pc a len cap _ I7.out.cur (by omega)).mono ?_; rintro e w8 ⟨t, t1, t2, rfl, hc8, hg8⟩; have I8 := Lib.hid (I7.out.step hc8 hg8); obtain ⟨m0, m1, f0, f1⟩ := I8.out.cells; have h1' := h1 (by omega); have h2' := h2 (by omega); dsimp only)
          | (go_simp; go_at_call 33; refine (below_any 50 pc a len cap _ I6.out.cur (by omega)).mono ?_; rintro e w7 ⟨x3, h3, _, rfl, hc7, hg7⟩; have I7 := Lib.hid (I6.out.step hc7 hg7); obtain ⟨m0, m1, f0, f1⟩ := I7.out.cells; have h3' := h3 (by omega); dsimp only)
          | (go_simp; go_at_call 33; refine (below_any 40 pc a len cap _ I5.out.cur (by omega)).mono ?_; rintro e w6 ⟨x2, h2, _, rfl, hc6, hg6⟩; have I6 := Lib.hid (I5.out.step hc6 hg6); obtain ⟨m0, m1, f0, f1⟩ := I6.out.cells; dsimp only)
          | (go_simp; go_at_call 33; refine (below_any (d.sec.length : Int) pc a len cap _ I0.out.cur (by omega)).mono ?_; rintro e w5 ⟨x1, h1, _, rfl, hc5, hg5⟩; have I5 := Lib.hid (I0.out.step hc5 hg5); obtain ⟨m0, m1, f0, f1⟩ := I5.out.cells; dsimp only))
        all_goals
          go_wp2_with fail
          go_meet
          exact ⟨d2, _, _, hok2, hcd2.out, I9.out.put HC.out o9 hz9⟩
      case rest =>
        obtain ⟨d2, ua, ub, hok2, hcd2, I5⟩ := hcut
        obtain ⟨t1, t2, r1, r2, hv⟩ := I5.dsk.form
        simp only [Value.agg.injEq, Array.mk.injEq, List.cons.injEq, and_true] at hv
        obtain ⟨rfl, rfl⟩ := hv
        obtain ⟨hsm2, hts2, htu2⟩ := Dk.ok_small hok2
        clear I4 hsm hts htu hl1 hl100
        go_wp2_with fail
        refine (once_any 4 pc a len cap _ I5.cur (by omega)).mono ?_
        rintro e w6 ⟨he, hc6, hg6⟩
        have I6 := I5.step hc6 hg6
        clear hc6 hg6 I5
        rcases he with rfl | rfl
        · obtain ⟨m0, m1, f0, f1⟩ := I6.cells
          go_wp2_with fail
          refine (specFlushDisk_any d2 _ w.heap.size w6.heap.size _ I6.dsk hsm2 hts2 htu2).mono ?_
          rintro e w7 ⟨v7, rfl, o7, k7⟩
          have hfl := flD_ok hok2
          have HFL := Lib.hid hfl
          clear hfl
          generalize flD d2 = d3 at o7 HFL
          obtain ⟨u1, u2, p1, p2, rfl⟩ := o7.form
          have I7 := I6.later k7
          have hz6 : w.heap.size ≤ w6.heap.size := I6.grown.size
          have I8 := Lib.hid (I7.put HC.out o7 hz6)
          clear m0 m1 f0 f1
          obtain ⟨m0, m1, f0, f1⟩ := I7.cells
          clear I6 I7 o7 k7
          go_wp2
          go_roundw
          case rel => exact ⟨i + 1, d3, _, _, by omega, by go_num, HFL.out.1, by rw [HFL.out.2.2]; exact Nat.zero_le _, I8.out⟩
          case measure => simp [intOf]; omega
        · go_wp2
          go_roundw
          case rel => exact ⟨i + 1, d2, _, _, by omega, by go_num, hok2, hcd2, I6⟩
          case measure => simp [intOf]; omega
    · obtain ⟨m0, m1, _, _⟩ := I4.cells
      have x0 := I4.res.cell 0 (.slice none 0 0) rfl
      have x1 := I4.res.cell 1 (.slice none 0 0) rfl
      have f0 := I4.res.loose 0
      have f1 := I4.res.loose 1
      have rX := (I4.res.set 0 (.slice s1 d.sec.length c1)).set 1 (.slice s2 d.cache.length c2)
      have q0 := rX.cell 0 (.slice s1 d.sec.length c1) rfl
      have q1 := rX.cell 1 (.slice s2 d.cache.length c2) rfl
      have HR : Hid (DkR w pc a len cap (.returned (.agg #[.slice s1 d.sec.length c1, .slice s2 d.cache.length c2])) ((w4.setCell ⟨w.heap.size, 0, none⟩ (.slice s1 d.sec.length c1)).setCell ⟨w.heap.size, 1, none⟩ (.slice s2 d.cache.length c2))) :=
        ⟨d, _, hok, by omega, rfl, ((I4.dsk.boxStore I4.res 0 _).boxStore (I4.res.set 0 _) 1 _).top, (I4.cur.new HC.out (Nat.le_refl _) 0 _).new HC.out (Nat.le_refl _) 1 _, grownBy_new (grownBy_new I4.grown (Nat.le_refl _) 0 _) (Nat.le_refl _) 1 _⟩
      clear I4 rX
      go_wp2
      refine bodyPost_ret (v := .agg #[.slice s1 d.sec.length c1, .slice s2 d.cache.length c2]) (by simp [results, Try.results34, go_sem, q0, q1]) rfl ?_
      exact HR.out


end Go.Proofs.Ytmmgnpjhlmiafab
