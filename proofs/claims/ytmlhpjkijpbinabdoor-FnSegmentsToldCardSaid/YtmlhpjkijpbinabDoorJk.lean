/- Texts of our own, joined. -/
import Derived.Test.YtmlhpjkijpbinabDoorJj
import Derived.Test.YtmlhpjkijpbinabDoorJh
import Derived.Deep.RegionLaw
import Derived.Test.YtmlhpjkijpbinabDoorJf
/- What is drawn for the chapter on sectors: a right disk that was written on. -/
namespace Go.Proofs.YtmlhpjkijpbinabDoor
open Go.RowKit

theorem DOwn.cursor {B T pc : Nat} {w w' : World} {v : Value} {d : Dk} (h : DOwn B T w v d) (hg : w.grownBy w' (some pc)) (hp : pc < B) : DOwn B T w' v d := by
  obtain ⟨va, vb, hv, h1, h2, h3⟩ := h
  have ne : ∀ {α : Type} {E : Enc α} {x : Value} {l : List α}, LOwn E B T w x l → (x.ownBlock = none ∨ x.ownBlock ≠ some pc) := by
    intro α E x l hx
    cases hv : x.ownBlock with
    | none => exact .inl rfl
    | some k => exact .inr (by intro e; have := (hx.1.own.lt k hv).1; have := Option.some.inj e; omega)
  exact ⟨va, vb, hv, h1.grown hg (ne h1), h2.grown hg (ne h2), h3⟩

/-- What is known while a disk is drawn: the cursor, the answer's box, and the disk's box. -/
structure LdI (w : World) (pc : Nat) (a : Option Addr) (len cap b : Nat) (va vb : Value) (d : Dk) (X : World) : Prop where
  cur : Cur X pc a len cap
  grown : w.grownBy X (some pc)
  res : Box X w.heap.size #[.slice none 0 0, .slice none 0 0] 45
  box : Box X b #[va, vb] 45
  dsk : DOwn w.heap.size X.heap.size X (.agg #[va, vb]) d
  lt : w.heap.size < b
  pcl : pc < w.heap.size

section
variable {w : World} {pc : Nat} {a : Option Addr} {len cap b : Nat} {va vb : Value} {d : Dk} {X Y : World}

theorem LdI.step (h : LdI w pc a len cap b va vb d X) (hc : Cur Y pc a len cap) (hg : X.grownBy Y (some pc)) : LdI w pc a len cap b va vb d Y :=
  ⟨hc, h.grown.trans hg, h.res.cur hg (by have := h.pcl; omega), h.box.cur hg (by have := h.pcl; have := h.lt; omega), (h.dsk.cursor hg h.pcl).top, h.lt, h.pcl⟩
theorem LdI.later (h : LdI w pc a len cap b va vb d X) (hb : Below X.heap.size X Y) : LdI w pc a len cap b va vb d Y :=
  h.step (h.cur.below hb h.cur.lt h.cur.codeLt) (grownBy_below (World.grownBy.refl _ _) hb (Nat.le_refl _))
theorem LdI.drew (h : LdI w pc a len cap b va vb d X) : LdI w pc a len cap b va vb d X.drew := h.later ((Below.refl _ _).drew)
theorem LdI.cells {s1 s2 : Option Addr} {c1 c2 n1 n2 : Nat} (h : LdI w pc a len cap b (.slice s1 n1 c1) (.slice s2 n2 c2) d X) : X.cell? ⟨b, 0, none⟩ = some (.slice s1 n1 c1) ∧ X.cell? ⟨b, 1, none⟩ = some (.slice s2 n2 c2) ∧ X.frozen? ⟨b, 0, none⟩ = false ∧ X.frozen? ⟨b, 1, none⟩ = false :=
  ⟨h.box.cell 0 _ rfl, h.box.cell 1 _ rfl, h.box.loose 0, h.box.loose 1⟩
/-- Another disk is put into the box. -/
theorem LdI.put {ua ub : Value} {d2 : Dk} {B : Nat} (h : LdI w pc a len cap b va vb d X) (hw : Cur w pc a len cap) (h2 : DOwn B X.heap.size X (.agg #[ua, ub]) d2) (hB : w.heap.size ≤ B) : LdI w pc a len cap b ua ub d2 ((X.setCell ⟨b, 0, none⟩ ua).setCell ⟨b, 1, none⟩ ub) := by
  have hlt := h.lt
  have o1 := h.box.set 0 ua
  refine ⟨(h.cur.new hw (by omega) 0 ua).new hw (by omega) 1 ub, grownBy_new (grownBy_new h.grown (by omega) 0 ua) (by omega) 1 ub, (h.res.other (by omega) _ _).other (by omega) _ _, o1.set 1 ub, ?_, hlt, h.pcl⟩
  exact (((h2.base hB).boxStore h.box 0 ua).boxStore o1 1 ub).top
end

theorem flush_32 (c : List Wr) : ∀ sec : List ByteArray, (∀ s ∈ sec, s.size = 32) → (∀ x ∈ c, x.text.size = 32) → ∀ s ∈ flush sec c, s.size = 32 := by
  induction c with
  | nil => intro sec h _; exact h
  | cons x c ih =>
    intro sec h hc
    have e : flush sec (x :: c) = flush (sec.set x.at_.toNat x.text) c := rfl
    rw [e]
    refine ih _ (fun s hs => ?_) (fun y hy => hc y (by simp [hy]))
    rcases List.mem_or_eq_of_mem_set hs with h1 | h1
    · exact h s h1
    · rw [h1]; exact hc x (by simp)
theorem flD_ok {d : Dk} (h : d.ok) : (flD d).ok ∧ (flD d).sec.length = d.sec.length ∧ (flD d).cache = [] := by
  unfold flD
  rw [if_pos h]
  obtain ⟨h1, h2, h3, h4, h5⟩ := h
  have hl := flush_length d.sec d.cache
  exact ⟨⟨by show 1 ≤ (flush d.sec d.cache).length; omega, by show (flush d.sec d.cache).length ≤ 100; omega, by simp, flush_32 _ _ h4 (fun x hx => (h5 x hx).2.2), by simp⟩, hl, rfl⟩

/-- A drawn disk. -/
def DkR (w : World) (pc : Nat) (a : Option Addr) (len cap : Nat) (e : Ending) (w' : World) : Prop :=
  ∃ (d : Dk) (v : Value), d.ok ∧ d.cache.length ≤ 24 ∧ e = .returned v ∧ DOwn w.heap.size w'.heap.size w' v d ∧ Cur w' pc a len cap ∧ w.grownBy w' (some pc)

set_option maxRecDepth 100000 in
set_option maxHeartbeats 1500000 in
theorem disk_any (pc : Nat) (a : Option Addr) (len cap : Nat) (w : World) (hc : Cur w pc a len cap) :
    Calls Tryd.prog 86 #[.pointer (some ⟨pc, 0, none⟩)] w fun e w' => DkR w pc a len cap e w' := by
  have hx := Box.new w #[.slice none 0 0, .slice none 0 0] 45
  have hg0 : w.grownBy (w.alloc (.cells #[.slice none 0 0, .slice none 0 0] 45)) (some pc) := World.grownBy_alloc _ _ _
  have hc0 := hc.alloc (.cells #[.slice none 0 0, .slice none 0 0] 45)
  have hpc := hc.lt
  have hz0 : w.heap.size < (w.alloc (.cells #[.slice none 0 0, .slice none 0 0] 45)).heap.size := by simp
  go_enter Tryd.func86, Tryd.ntmps86
  go_wp2_with fail
  generalize w.alloc (.cells #[.slice none 0 0, .slice none 0 0] 45) = W at *
  refine (below_any 6 pc a len cap _ hc0 (by omega)).mono ?_
  rintro e w1 ⟨x, hx1, _, rfl, hc1, hg1⟩
  have hx6 := hx1 (by omega)
  clear hx1
  go_wp2_with fail
  refine (specDiskNew_any _ _).mono ?_
  rintro e w2 ⟨v2, rfl, o2, k2⟩
  have hin : 1 ≤ 1 + (x : Int) ∧ 1 + (x : Int) ≤ 100 := by omega
  have hnew : newD (1 + (x : Int)) = ⟨List.replicate (x + 1) zero32, []⟩ := by
    rw [newD, if_pos hin, show (1 + (x : Int)).toNat = x + 1 by omega]
  rw [hnew] at o2
  have hok0 : (⟨List.replicate (x + 1) zero32, []⟩ : Dk).ok := by
    refine ⟨by simp, by simp; omega, by simp, ?_, by simp⟩
    intro s hs
    simp only [List.mem_replicate] at hs
    rw [hs.2]
    rfl
  have hcd0 : (⟨List.replicate (x + 1) zero32, []⟩ : Dk).cache.length ≤ 3 * 0 := by simp
  clear hnew
  generalize (⟨List.replicate (x + 1) zero32, []⟩ : Dk) = d0 at o2 hok0 hcd0
  obtain ⟨a1, a2, q1, q2, rfl⟩ := o2.form
  have hz1 := hg1.size
  have hz2 := k2.size
  have k3 : Below w2.heap.size w2 (w2.alloc (.cells #[.slice a1 d0.sec.length q1, .slice a2 d0.cache.length q2] 45)) := belAlloc _ _
  have kk := k2.trans (k3.mono k2.size)
  have I3 : LdI w pc a len cap w2.heap.size (.slice a1 d0.sec.length q1) (.slice a2 d0.cache.length q2) d0 (w2.alloc (.cells #[.slice a1 d0.sec.length q1, .slice a2 d0.cache.length q2] 45)) :=
    ⟨hc1.below kk hc1.lt hc1.codeLt, (hg0.trans hg1).trans (grownBy_below (World.grownBy.refl _ _) kk (Nat.le_refl _)), (hx.cur hg1 (by omega)).later kk, Box.new w2 _ _, ((o2.later k3).base (by omega)).top, by omega, hpc⟩
  go_upto_region 2 with fail
  generalize w2.alloc (.cells #[.slice a1 d0.sec.length q1, .slice a2 d0.cache.length q2] 45) = w3 at I3 ⊢
  clear hx hg0 hc0 hg1 hc1 o2 k2 k3 kk
  have HC := Lib.hid hc
  clear hc
  go_wp2
  go_loopw [5] (fun iv wr => ∃ (i : Nat) (d : Dk) (va vb : Value), i ≤ 8 ∧ iv = .int .i64 (i : Int) ∧ d.ok ∧ d.cache.length ≤ 3 * i ∧ LdI w pc a len cap w2.heap.size va vb d wr) (fun iv _ => (9 - intOf iv).toNat)
  case atStart => exact ⟨0, d0, _, _, by omega, rfl, hok0, hcd0, I3⟩
  case round =>
    clear I3
    obtain ⟨i, d, va, vb, hi, rfl, hok, hcd, I⟩ := hrel
    obtain ⟨s1, s2, c1, c2, hv⟩ := I.dsk.form
    simp only [Value.agg.injEq, Array.mk.injEq, List.cons.injEq, and_true] at hv
    obtain ⟨rfl, rfl⟩ := hv
    obtain ⟨hsm, hts, htu⟩ := Dk.ok_small hok
    have hl1 := hok.1
    have hl100 := hok.2.1
    go_wp2_with fail
    refine (below_any 9 pc a len cap _ I.cur (by omega)).mono ?_
    rintro e w4 ⟨y, hy, _, rfl, hc4, hg4⟩
    have hy2 := hy (by omega)
    have I4 := I.step hc4 hg4
    clear I hc4 hg4 hy
    by_cases hlt : (i : Int) < (y : Int)
    · go_upto_region 5 with fail
      go_cut [] from 20 to 34 (fun wx => ∃ (d2 : Dk) (ua ub : Value), d2.ok ∧ d2.cache.length ≤ 3 * (i + 1) ∧ LdI w pc a len cap w2.heap.size ua ub d2 wx)
      case first =>
        have I0 := Lib.hid I4.drew
        obtain ⟨m0, m1, f0, f1⟩ := I0.out.cells
        clear I4
        go_region_law (first
          | (go_simp; go_at_call 87; refine (specWriteBytes_ok d _ x1 x2 t w.heap.size w8.heap.size _ I8.out.dsk hok (by omega) (by omega) (by omega)).mono ?_; rintro e w9 ⟨d2, f2, hok2, hl2, hm2, v2, rfl, o9, k9⟩; have hcd2 : Hid (d2.cache.length ≤ 3 * (i + 1)) := (by show _ ≤ _; omega); clear hl2 hm2; have I9 := Lib.hid (I8.out.later k9); obtain ⟨m0, m1, f0, f1⟩ := I9.out.cells; obtain ⟨u1, u2, p1, p2, rfl⟩ := o9.form; have hz9 : w.heap.size ≤ w8.heap.size := I8.out.grown.size; dsimp only)
          | (go_simp; go_at_call 62; refine (dtext_any (x3 : Int) pc a len cap _ I7.out.cur (by omega)).mono ?_; rintro e w8 ⟨t, t1, t2, rfl, hc8, hg8⟩; have I8 := Lib.hid (I7.out.step hc8 hg8); obtain ⟨m0, m1, f0, f1⟩ := I8.out.cells; have h1' := h1 (by omega); have h2' := h2 (by omega); dsimp only)
          | (go_simp; go_at_call 34; refine (below_any 50 pc a len cap _ I6.out.cur (by omega)).mono ?_; rintro e w7 ⟨x3, h3, _, rfl, hc7, hg7⟩; have I7 := Lib.hid (I6.out.step hc7 hg7); obtain ⟨m0, m1, f0, f1⟩ := I7.out.cells; have h3' := h3 (by omega); dsimp only)
          | (go_simp; go_at_call 34; refine (below_any 40 pc a len cap _ I5.out.cur (by omega)).mono ?_; rintro e w6 ⟨x2, h2, _, rfl, hc6, hg6⟩; have I6 := Lib.hid (I5.out.step hc6 hg6); obtain ⟨m0, m1, f0, f1⟩ := I6.out.cells; dsimp only)
          | (go_simp; go_at_call 34; refine (below_any (d.sec.length : Int) pc a len cap _ I0.out.cur (by omega)).mono ?_; rintro e w5 ⟨x1, h1, _, rfl, hc5, hg5⟩; have I5 := Lib.hid (I0.out.step hc5 hg5); obtain ⟨m0, m1, f0, f1⟩ := I5.out.cells; dsimp only))
        all_goals
          go_wp2_with fail
          go_meet
          exact ⟨d2, _, _, hok2, hcd2.out, I9.out.put HC.out o9 hz9⟩
      case rest =>
        obtain ⟨d2, ua, ub, hok2, hcd2, I5⟩ := hcut
        obtain ⟨t1, t2, r1, r2, hv⟩ := I5.dsk.form
        simp only [Value.agg.injEq, Array.mk.injEq, List.cons.injEq, and_true] at hv
        obtain ⟨rfl, rfl⟩ := hv
        obtain ⟨hsm2, hts2, htu2⟩ := Dk.ok_small hok2
        clear I4 hsm hts htu hl1 hl100
        go_wp2_with fail
        refine (once_any 4 pc a len cap _ I5.cur (by omega)).mono ?_
        rintro e w6 ⟨he, hc6, hg6⟩
        have I6 := I5.step hc6 hg6
        clear hc6 hg6 I5
        rcases he with rfl | rfl
        · obtain ⟨m0, m1, f0, f1⟩ := I6.cells
          go_wp2_with fail
          refine (specFlushDisk_any d2 _ w.heap.size w6.heap.size _ I6.dsk hsm2 hts2 htu2).mono ?_
          rintro e w7 ⟨v7, rfl, o7, k7⟩
          have hfl := flD_ok hok2
          have HFL := Lib.hid hfl
          clear hfl
          generalize flD d2 = d3 at o7 HFL
          obtain ⟨u1, u2, p1, p2, rfl⟩ := o7.form
          have I7 := I6.later k7
          have hz6 : w.heap.size ≤ w6.heap.size := I6.grown.size
          have I8 := Lib.hid (I7.put HC.out o7 hz6)
          clear m0 m1 f0 f1
          obtain ⟨m0, m1, f0, f1⟩ := I7.cells
          clear I6 I7 o7 k7
          go_wp2
          go_roundw
          case rel => exact ⟨i + 1, d3, _, _, by omega, by go_num, HFL.out.1, by rw [HFL.out.2.2]; exact Nat.zero_le _, I8.out⟩
          case measure => simp [intOf]; omega
        · go_wp2
          go_roundw
          case rel => exact ⟨i + 1, d2, _, _, by omega, by go_num, hok2, hcd2, I6⟩
          case measure => simp [intOf]; omega
    · obtain ⟨m0, m1, _, _⟩ := I4.cells
      have x0 := I4.res.cell 0 (.slice none 0 0) rfl
      have x1 := I4.res.cell 1 (.slice none 0 0) rfl
      have f0 := I4.res.loose 0
      have f1 := I4.res.loose 1
      have rX := (I4.res.set 0 (.slice s1 d.sec.length c1)).set 1 (.slice s2 d.cache.length c2)
      have q0 := rX.cell 0 (.slice s1 d.sec.length c1) rfl
      have q1 := rX.cell 1 (.slice s2 d.cache.length c2) rfl
      have HR : Hid (DkR w pc a len cap (.returned (.agg #[.slice s1 d.sec.length c1, .slice s2 d.cache.length c2])) ((w4.setCell ⟨w.heap.size, 0, none⟩ (.slice s1 d.sec.length c1)).setCell ⟨w.heap.size, 1, none⟩ (.slice s2 d.cache.length c2))) :=
        ⟨d, _, hok, by omega, rfl, ((I4.dsk.boxStore I4.res 0 _).boxStore (I4.res.set 0 _) 1 _).top, (I4.cur.new HC.out (Nat.le_refl _) 0 _).new HC.out (Nat.le_refl _) 1 _, grownBy_new (grownBy_new I4.grown (Nat.le_refl _) 0 _) (Nat.le_refl _) 1 _⟩
      clear I4 rX
      go_wp2
      refine bodyPost_ret (v := .agg #[.slice s1 d.sec.length c1, .slice s2 d.cache.length c2]) (by simp [results, Tryd.results86, go_sem, q0, q1]) rfl ?_
      exact HR.out


end Go.Proofs.YtmlhpjkijpbinabDoor

/- What is drawn for the chapter on segments: a right disk with segments that are written on. -/
namespace Go.Proofs.YtmlhpjkijpbinabDoor
open Go.RowKit

/-- A right disk of five, six or seven segments on which nothing waits. -/
def Dk.seg (d : Dk) : Prop := d.ok ∧ d.cache = [] ∧ ∃ x : Nat, x < 3 ∧ d.sec.length = 48 + 8 * x

/-- The Body of a segment's first frame. -/
def segBy : ByteArray := ⟨#[115, 101, 103]⟩

/-- A drawn one. -/
def SgR (w : World) (pc : Nat) (a : Option Addr) (len cap : Nat) (e : Ending) (w' : World) : Prop :=
  ∃ (d : Dk) (v : Value), d.seg ∧ e = .returned v ∧ DOwn w.heap.size w'.heap.size w' v d ∧ Cur w' pc a len cap ∧ w.grownBy w' (some pc)

theorem ftT_form5 (f : Fr) : ∃ (t : ByteArray) (b : Bool), ftT f = .tuple #[.string t, .bool b] ∧ t.size ≤ 300 := by
  obtain ⟨t, b, h1, h2⟩ := ftT_form f
  exact ⟨t, b, h1, by omega⟩

/-- A frame's box while a disk is drawn, beside what LdI knows. -/
theorem LdI.newBox {w : World} {pc : Nat} {a : Option Addr} {len cap b : Nat} {va vb : Value} {d : Dk} {X : World} (h : LdI w pc a len cap b va vb d X) (hw : Cur w pc a len cap) {g i : Nat} {cs : Array Value} {t : TypeId} {u : Value} (hg : Box X g cs t) (hgw : w.heap.size < g) (hgb : g ≠ b) (ht1 : (9 : TypeId) ≠ t) (ht2 : (106 : TypeId) ≠ t) : LdI w pc a len cap b va vb d (X.setCell ⟨g, i, none⟩ u) := by
  have hlt := h.lt
  refine ⟨h.cur.new hw (by omega) i u, grownBy_new h.grown (by omega) i u, h.res.other (by omega) _ _, h.box.other (fun e => hgb e.symm) _ _, ?_, hlt, h.pcl⟩
  obtain ⟨xa, xb, hv, h1, h2, h3⟩ := h.dsk
  have e := stored_grown X g i u
  have : DOwn w.heap.size X.heap.size (X.setCell ⟨g, i, none⟩ u) (.agg #[va, vb]) d := ⟨xa, xb, hv, h1.grown e (.inr (hg.notRow h1.1 ht1)), h2.grown e (.inr (hg.notRow h2.1 ht2)), h3⟩
  exact this.top

set_option maxRecDepth 100000 in
set_option maxHeartbeats 3000000 in
theorem segDisk_any (pc : Nat) (a : Option Addr) (len cap : Nat) (w : World) (hc : Cur w pc a len cap) :
    Calls Tryd.prog 57 #[.pointer (some ⟨pc, 0, none⟩)] w fun e w' => SgR w pc a len cap e w' := by
  have hx := Box.new w #[.slice none 0 0, .slice none 0 0] 45
  have hg0 : w.grownBy (w.alloc (.cells #[.slice none 0 0, .slice none 0 0] 45)) (some pc) := World.grownBy_alloc _ _ _
  have hc0 := hc.alloc (.cells #[.slice none 0 0, .slice none 0 0] 45)
  have hpc := hc.lt
  have hz0 : w.heap.size < (w.alloc (.cells #[.slice none 0 0, .slice none 0 0] 45)).heap.size := by simp
  go_enter Tryd.func57, Tryd.ntmps57
  go_wp2_with fail
  generalize w.alloc (.cells #[.slice none 0 0, .slice none 0 0] 45) = W at *
  refine (below_any 3 pc a len cap _ hc0 (by omega)).mono ?_
  rintro e w1 ⟨x, hx1, _, rfl, hc1, hg1⟩
  have hx6 := hx1 (by omega)
  clear hx1
  go_wp2_with fail
  refine (specDiskNew_any _ _).mono ?_
  rintro e w2 ⟨v2, rfl, o2, k2⟩
  have hin : 1 ≤ 8 + (5 + (x : Int)) * 8 ∧ 8 + (5 + (x : Int)) * 8 ≤ 100 := by omega
  have hnew : newD (8 + (5 + (x : Int)) * 8) = ⟨List.replicate (48 + 8 * x) zero32, []⟩ := by
    rw [newD, if_pos hin, show (8 + (5 + (x : Int)) * 8).toNat = 48 + 8 * x by omega]
  rw [hnew] at o2
  have hok0 : (⟨List.replicate (48 + 8 * x) zero32, []⟩ : Dk).seg := by
    refine ⟨⟨by simp; omega, by simp; omega, by simp, ?_, by simp⟩, rfl, x, by omega, by simp⟩
    intro s hs
    simp only [List.mem_replicate] at hs
    rw [hs.2]
    rfl
  clear hnew
  generalize (⟨List.replicate (48 + 8 * x) zero32, []⟩ : Dk) = d0 at o2 hok0
  obtain ⟨a1, a2, q1, q2, rfl⟩ := o2.form
  have hz1 := hg1.size
  have hz2 := k2.size
  have k3 : Below w2.heap.size w2 (w2.alloc (.cells #[.slice a1 d0.sec.length q1, .slice a2 d0.cache.length q2] 45)) := belAlloc _ _
  have kk := k2.trans (k3.mono k2.size)
  have I3 : LdI w pc a len cap w2.heap.size (.slice a1 d0.sec.length q1) (.slice a2 d0.cache.length q2) d0 (w2.alloc (.cells #[.slice a1 d0.sec.length q1, .slice a2 d0.cache.length q2] 45)) :=
    ⟨hc1.below kk hc1.lt hc1.codeLt, (hg0.trans hg1).trans (grownBy_below (World.grownBy.refl _ _) kk (Nat.le_refl _)), (hx.cur hg1 (by omega)).later kk, Box.new w2 _ _, ((o2.later k3).base (by omega)).top, by omega, hpc⟩
  go_upto_region 2 with fail
  generalize w2.alloc (.cells #[.slice a1 d0.sec.length q1, .slice a2 d0.cache.length q2] 45) = w3 at I3 ⊢
  clear hx hg0 hc0 hg1 hc1 o2 k2 k3 kk
  have HC := Lib.hid hc
  clear hc
  have HK0 := Lib.hid hok0
  clear hok0
  go_wp2
  go_loopw [5] (fun iv wr => ∃ (i : Nat) (d : Dk) (va vb : Value), i ≤ 4 ∧ iv = .int .i64 (i : Int) ∧ d.seg ∧ LdI w pc a len cap w2.heap.size va vb d wr) (fun iv _ => (5 - intOf iv).toNat)
  case atStart => exact ⟨0, d0, _, _, by omega, rfl, HK0.out, I3⟩
  case round =>
    clear I3
    obtain ⟨i, d, va, vb, hi, rfl, hsg, I⟩ := hrel
    obtain ⟨hok, hnil, nx, hnx, hnl⟩ := hsg
    have HNL := Lib.hid (And.intro hnil hnl)
    have hl5 : 48 ≤ d.sec.length := by omega
    clear hnil hnl
    obtain ⟨s1, s2, c1, c2, hv⟩ := I.dsk.form
    simp only [Value.agg.injEq, Array.mk.injEq, List.cons.injEq, and_true] at hv
    obtain ⟨rfl, rfl⟩ := hv
    obtain ⟨hsm, hts, htu⟩ := Dk.ok_small hok
    go_wp2_with fail
    refine (below_any 4 pc a len cap _ I.cur (by omega)).mono ?_
    rintro e w4 ⟨y, hy, _, rfl, hc4, hg4⟩
    have hy2 := hy (by omega)
    have I4 := I.step hc4 hg4
    clear I hc4 hg4 hy
    by_cases hlt : (i : Int) < (y : Int)
    · go_wp2_with fail
      refine (below_any 5 pc a len cap _ I4.cur (by omega)).mono ?_
      rintro e w5 ⟨sg, hsg, _, rfl, hc5, hg5⟩
      have hsg2 := hsg (by omega)
      have I5 := I4.step hc5 hg5
      clear I4 hc5 hg5 hsg
      obtain ⟨F0, hF0⟩ : ∃ F0 : Fr, (⟨1 + (i : Int), 1, segBy⟩ : Fr) = F0 := ⟨_, rfl⟩
      have hv0 : F0.v = .agg #[.int .i64 (1 + (i : Int)), .int .i64 1, .string segBy] := by rw [← hF0]; rfl
      have hb0 : F0.body.size ≤ 20 := by rw [← hF0]; show segBy.size ≤ 20; decide
      clear hF0
      unfold segBy at hv0
      go_wp2_with fail
      rw [← hv0]
      refine (specFrameText_any F0 _ (by omega)).mono ?_
      rintro e w6 ⟨rfl, k6⟩
      obtain ⟨t0, tb, hft, htz⟩ := ftT_form5 F0
      rw [hft]
      have I6 := I5.later k6
      clear hft k6 I5 hv0
      go_wp2
      have J6 := Lib.hid I6
      go_loopw [8, 10] (fun sv jv wr => ∃ (s : ByteArray) (j : Nat), j ≤ 4 ∧ sv = .string s ∧ jv = .int .i64 (j : Int) ∧ s.size ≤ 300 * (j + 1) ∧ LdI w pc a len cap w2.heap.size (.slice s1 d.sec.length c1) (.slice s2 d.cache.length c2) d wr) (fun _ jv _ => (5 - intOf jv).toNat)
      case atStart => exact ⟨t0, 0, by omega, rfl, rfl, by omega, J6.out⟩
      case round =>
        clear I6 J6
        obtain ⟨s, j, hj, rfl, rfl, hsz, I⟩ := hrel
        go_wp2_with fail
        refine (below_any 4 pc a len cap _ I.cur (by omega)).mono ?_
        rintro e w7 ⟨z, hz, _, rfl, hc7, hg7⟩
        have hz2 := hz (by omega)
        have I7 := I.step hc7 hg7
        clear hz hc7 hg7 I
        by_cases hltj : (j : Int) < (z : Int)
        · go_wp2_with fail
          refine (frame_any pc a len cap _ I7.cur).mono ?_
          rintro e w8 ⟨f, ⟨_, hb20⟩, rfl, hc8, hg8⟩
          have I8 := I7.step hc8 hg8
          have b9 : Below w8.heap.size w8 (w8.alloc (.cells #[.int .i64 f.gen, .int .i64 f.seq, .string f.body] 30)) := belAlloc _ _
          have I9 := I8.later b9
          have y9 := Box.new w8 #[.int .i64 f.gen, .int .i64 f.seq, .string f.body] 30
          have hz8 : w.heap.size < w8.heap.size := I8.res.lt
          have hne : w8.heap.size ≠ w2.heap.size := by have := I8.box.lt; omega
          have hv : f.v = .agg #[.int .i64 f.gen, .int .i64 f.seq, .string f.body] := rfl
          rw [hv]
          clear hc8 hg8 I7 I8 b9
          go_upto_region 12 with fail
          generalize w8.alloc (.cells #[.int .i64 f.gen, .int .i64 f.seq, .string f.body] 30) = w9 at I9 y9 ⊢
          obtain ⟨f2, hf2⟩ : ∃ f2 : Fr, (⟨1 + (i : Int), f.seq, f.body⟩ : Fr) = f2 := ⟨_, rfl⟩
          have y10 := y9.set 0 (.int .i64 (1 + (i : Int)))
          have hv2 : f2.v = .agg #[.int .i64 (1 + (i : Int)), .int .i64 f.seq, .string f.body] := by rw [← hf2]; rfl
          have hs2 : f2.body.size ≤ 20 := by rw [← hf2]; exact hb20
          have I10 := I9.newBox HC.out (i := 0) (u := .int .i64 (1 + (i : Int))) y9 hz8 hne (by decide) (by decide)
          obtain ⟨c0, c1', c2', f0, f1, g2⟩ := y9.three
          go_upto_region 13 with fail
          generalize w9.setCell ⟨w8.heap.size, 0, none⟩ (.int .i64 (1 + (i : Int))) = w10 at y10 I10 ⊢
          clear c0 c1' c2' f0 f1 g2 hf2 y9 I9
          have y10' : Box w10 w8.heap.size #[.int .i64 (1 + (i : Int)), .int .i64 f.seq, .string f.body] 30 := y10
          obtain ⟨c0, c1', c2', _, _, _⟩ := y10'.three
          clear y10 y10'
          go_wp2_with fail
          rw [← hv2]
          refine (specFrameText_any f2 _ (by omega)).mono ?_
          rintro e w11 ⟨rfl, k11⟩
          obtain ⟨t, b, hft, htz⟩ := ftT_form5 f2
          rw [hft]
          have I11 := I10.later k11
          have hadd := fun wx => run_string_add_sum (P := Tryd.prog) (w := wx) s t (by omega)
          clear hft k11 c0 c1' c2' I10
          go_wp2
          go_roundw
          case rel => exact ⟨s ++ t, j + 1, by omega, rfl, by go_num, by rw [ByteArray.size_append]; omega, I11⟩
          case measure => simp [intOf]; omega
        · obtain ⟨m0, m1, f0, f1⟩ := I7.cells
          go_wp2_with fail
          refine (specSegWrite_ok d _ sg 0 s w.heap.size w7.heap.size _ I7.dsk hok (by omega) (by omega) (by omega) (by omega)).mono ?_
          rintro e w8 ⟨d2, f2, hok2, hl2, v8, rfl, o8, k8⟩
          have HL2 := Lib.hid hl2
          clear hl2
          obtain ⟨u1, u2, p1, p2, rfl⟩ := o8.form
          have I8 := I7.later k8
          have hz7 : w.heap.size ≤ w7.heap.size := I7.grown.size
          have I9 := I8.put HC.out o8 hz7
          clear m0 m1 f0 f1
          obtain ⟨m0, m1, f0, f1⟩ := I8.cells
          clear I7 I8 o8 k8
          go_upto_region 16 with fail
          generalize (w8.setCell ⟨w2.heap.size, 0, none⟩ (.slice u1 d2.sec.length p1)).setCell ⟨w2.heap.size, 1, none⟩ (.slice u2 d2.cache.length p2) = w9 at I9 ⊢
          clear m0 m1 f0 f1
          obtain ⟨m0, m1, f0, f1⟩ := I9.cells
          obtain ⟨hsm2, hts2, htu2⟩ := Dk.ok_small hok2
          go_wp2_with fail
          refine (specFlushDisk_any d2 _ w.heap.size w9.heap.size _ I9.dsk hsm2 hts2 htu2).mono ?_
          rintro e w10 ⟨v10, rfl, o10, k10⟩
          have hfl := flD_ok hok2
          have HFL : Hid ((flD d2).seg) := ⟨hfl.1, hfl.2.2, nx, hnx, by rw [hfl.2.1, HL2.out]; exact HNL.out.2⟩
          clear hfl
          generalize flD d2 = d3 at o10 HFL
          obtain ⟨r1, r2, e1, e2, rfl⟩ := o10.form
          have I10 := I9.later k10
          have hz9 : w.heap.size ≤ w9.heap.size := I9.grown.size
          have I11 := Lib.hid (I10.put HC.out o10 hz9)
          clear m0 m1 f0 f1
          obtain ⟨m0, m1, f0, f1⟩ := I10.cells
          clear I9 I10 o10 k10
          go_wp2
          go_roundw
          case rel => exact ⟨i + 1, d3, _, _, by omega, by go_num, HFL.out, I11.out⟩
          case measure => simp [intOf]; omega
    · obtain ⟨m0, m1, _, _⟩ := I4.cells
      have x0 := I4.res.cell 0 (.slice none 0 0) rfl
      have x1 := I4.res.cell 1 (.slice none 0 0) rfl
      have f0 := I4.res.loose 0
      have f1 := I4.res.loose 1
      have rX := (I4.res.set 0 (.slice s1 d.sec.length c1)).set 1 (.slice s2 d.cache.length c2)
      have q0 := rX.cell 0 (.slice s1 d.sec.length c1) rfl
      have q1 := rX.cell 1 (.slice s2 d.cache.length c2) rfl
      have HR : Hid (SgR w pc a len cap (.returned (.agg #[.slice s1 d.sec.length c1, .slice s2 d.cache.length c2])) ((w4.setCell ⟨w.heap.size, 0, none⟩ (.slice s1 d.sec.length c1)).setCell ⟨w.heap.size, 1, none⟩ (.slice s2 d.cache.length c2))) :=
        ⟨d, _, ⟨hok, HNL.out.1, nx, hnx, HNL.out.2⟩, rfl, ((I4.dsk.boxStore I4.res 0 _).boxStore (I4.res.set 0 _) 1 _).top, (I4.cur.new HC.out (Nat.le_refl _) 0 _).new HC.out (Nat.le_refl _) 1 _, grownBy_new (grownBy_new I4.grown (Nat.le_refl _) 0 _) (Nat.le_refl _) 1 _⟩
      clear I4 rX
      go_wp2
      refine bodyPost_ret (v := .agg #[.slice s1 d.sec.length c1, .slice s2 d.cache.length c2]) (by simp [results, Tryd.results57, go_sem, q0, q1]) rfl ?_
      exact HR.out

end Go.Proofs.YtmlhpjkijpbinabDoor

/- What is drawn for the chapter on sectors: any disk, a right one or one that something is wrong with. -/
namespace Go.Proofs.YtmlhpjkijpbinabDoor
open Go.RowKit

/-- What is known of any drawn disk. -/
def Dk.drawn (d : Dk) : Prop := d.sec.length ≤ 100 ∧ d.cache.length ≤ 100 ∧ (∀ s ∈ d.sec, s.size ≤ 100) ∧ ∀ x ∈ d.cache, x.text.size ≤ 100
theorem Dk.ok_drawn {d : Dk} (h : d.ok) : d.drawn := by
  obtain ⟨h1, h2, h3, h4, h5⟩ := h
  exact ⟨h2, by omega, fun s hs => by have := h4 s hs; omega, fun x hx => by have := (h5 x hx).2.2; omega⟩
theorem Dk.drawn_small {d : Dk} (h : d.drawn) : d.small ∧ (∀ s ∈ d.sec, s.size ≤ 1099511627776) ∧ ∀ x ∈ d.cache, x.text.size ≤ 1099511627776 := by
  obtain ⟨h1, h2, h3, h4⟩ := h
  exact ⟨⟨by omega, by omega⟩, fun s hs => by have := h3 s hs; omega, fun x hx => by have := h4 x hx; omega⟩
theorem Dk.drawn_set {d : Dk} (h : d.drawn) (k : Nat) {t : ByteArray} (ht : t.size ≤ 100) : (⟨d.sec.set k t, d.cache⟩ : Dk).drawn := by
  obtain ⟨h1, h2, h3, h4⟩ := h
  refine ⟨by simpa using h1, h2, fun s hs => ?_, h4⟩
  rcases List.mem_or_eq_of_mem_set hs with h | h
  · exact h3 s h
  · rw [h]; exact ht
theorem Dk.drawn_push {d : Dk} (h : d.drawn) (hl : d.cache.length < 100) {x : Wr} (ht : x.text.size ≤ 100) : (⟨d.sec, d.cache ++ [x]⟩ : Dk).drawn := by
  obtain ⟨h1, h2, h3, h4⟩ := h
  refine ⟨h1, by simp; omega, h3, fun y hy => ?_⟩
  rcases List.mem_append.1 hy with h | h
  · exact h4 y h
  · have : y = x := by simpa using h
    rw [this]; exact ht
theorem Dk.drawn_none {d : Dk} (h : d.drawn) : (⟨[], d.cache⟩ : Dk).drawn := ⟨by simp, h.2.1, by simp, h.2.2.2⟩

section
variable {w : World} {pc : Nat} {a : Option Addr} {len cap b : Nat} {va vb : Value} {d : Dk} {X Y : World}

/-- What waits, as an append asks for it. -/
theorem LdI.rowC (h : LdI w pc a len cap b va vb d X) (o : Obj) : RBuf wrE w.heap.size (X.alloc o) (X.alloc o) vb d.cache := by
  obtain ⟨va', vb', hv, l1, l2, hap⟩ := h.dsk
  simp only [Value.agg.injEq, Array.mk.injEq, List.cons.injEq, and_true] at hv
  obtain ⟨rfl, rfl⟩ := hv
  exact (l2.1.alloc o).here

/-- One more write waits. -/
theorem LdI.push (h : LdI w pc a len cap b va vb d X) (hw : Cur w pc a len cap) {o : Obj} {v' : Value} {x : Wr} (hr : RBuf wrE w.heap.size Y Y v' (d.cache ++ [x])) (hg : (X.alloc o).grownBy Y vb.ownBlock) (hat : v'.ownBlock = vb.ownBlock ∨ v'.ownBlock = some (X.alloc o).heap.size) :
    Box Y b #[va, vb] 45 ∧ LdI w pc a len cap b va v' ⟨d.sec, d.cache ++ [x]⟩ (Y.setCell ⟨b, 1, none⟩ v') := by
  have h1 := h.later ((Below.refl _ _).alloc (Nat.le_refl _) o)
  obtain ⟨va', vb', hv, l1, l2, hap⟩ := h1.dsk
  simp only [Value.agg.injEq, Array.mk.injEq, List.cons.injEq, and_true] at hv
  obtain ⟨rfl, rfl⟩ := hv
  have hlt := h.lt
  have nb := h1.box.notRow l2.1 (by decide)
  have nr := h1.res.notRow l2.1 (by decide)
  have hb : Below w.heap.size (X.alloc o) Y := (Below.refl _ _).grown hg (by have := h1.res.lt; omega) (fun k hk => (l2.1.own.lt k hk).1)
  have bY : Box Y b #[va, vb] 45 := (hg.block _ h1.box.lt (Ne.symm nb)).trans h1.box
  have rY : Box Y w.heap.size #[.slice none 0 0, .slice none 0 0] 45 := (hg.block _ h1.res.lt (Ne.symm nr)).trans h1.res
  have dY : DOwn w.heap.size Y.heap.size Y (.agg #[va, v']) ⟨d.sec, d.cache ++ [x]⟩ := by
    refine ⟨va, v', rfl, (l1.grown hg hap).wider hg.size (Nat.le_refl _), hr.lown, ?_⟩
    rcases hat with e | e
    · rw [e]; exact hap
    · cases hva : va.ownBlock with
      | none => exact .inl rfl
      | some k =>
        refine .inr fun e2 => ?_
        rw [e] at e2
        have := (l1.1.own.lt k hva).2
        have := Option.some.inj e2
        omega
  refine ⟨bY, (h1.cur.below hb hw.lt hw.codeLt).new hw (by omega) 1 v', grownBy_new (grownBy_below h1.grown hb (Nat.le_refl _)) (by omega) 1 v', rY.other (by omega) _ _, bY.set 1 v', (dY.boxStore bY 1 v').top, hlt, h.pcl⟩

/-- A sector written over. -/
theorem LdI.setSec {g n c k : Nat} (h : LdI w pc a len cap b (.slice (some ⟨g, 0, none⟩) n c) vb d X) (hw : Cur w pc a len cap) (hk : k < d.sec.length) (t : ByteArray) :
    X.cell? ⟨g, k, none⟩ = some (.string d.sec[k]) ∧ X.frozen? ⟨g, k, none⟩ = false ∧ LdI w pc a len cap b (.slice (some ⟨g, 0, none⟩) n c) vb ⟨d.sec.set k t, d.cache⟩ (X.setCell ⟨g, k, none⟩ (.string t)) := by
  obtain ⟨va', vb', hv, l1, l2, hap⟩ := h.dsk
  simp only [Value.agg.injEq, Array.mk.injEq, List.cons.injEq, and_true] at hv
  obtain ⟨rfl, rfl⟩ := hv
  obtain ⟨_, _, e⟩ := l1.1.form
  obtain ⟨_, rfl, _⟩ : _ ∧ n = d.sec.length ∧ _ := by simpa using e
  have hat := List.getElem?_eq_getElem hk
  have hB : w.heap.size ≤ g := (l1.1.own.lt g rfl).1
  have hlt := h.lt
  have nb := h.box.notRow l1.1 (by decide)
  have nr := h.res.notRow l1.1 (by decide)
  have nb' : b ≠ g := fun e => nb (by rw [e]; rfl)
  have nr' : w.heap.size ≠ g := fun e => nr (by rw [e]; rfl)
  have cs : X.cell? ⟨g, k, none⟩ = some (.string d.sec[k]) := by
    have := l1.1.cell rfl k _ hat 0 _ rfl
    rw [show strE.sz = 1 from rfl, Nat.mul_one, Nat.add_zero] at this
    exact this
  have hst := l1.1.stored k _ t hat 0 (by decide) (.string t) rfl
  rw [show strE.sz = 1 from rfl, Nat.mul_one, Nat.add_zero] at hst
  refine ⟨cs, l1.1.loose k, h.cur.new hw hB k _, grownBy_new h.grown hB k _, h.res.other nr' _ _, h.box.other nb' _ _, ?_, hlt, h.pcl⟩
  refine ⟨_, _, rfl, ?_, (l2.grown (stored_grown X g k (.string t)) ?_).wider (by simp) (Nat.le_refl _), hap⟩
  · have := hst.here
    have hl := this.lown
    simpa using hl
  · rcases hap with e | e
    · cases e
    · exact .inr (Ne.symm e)

/-- The list of sectors cut to nothing. -/
theorem LdI.noSec {g n c : Nat} (h : LdI w pc a len cap b (.slice (some ⟨g, 0, none⟩) n c) vb d X) (hw : Cur w pc a len cap) : n ≤ c ∧ LdI w pc a len cap b (.slice (some ⟨g, 0, none⟩) 0 c) vb ⟨[], d.cache⟩ (X.setCell ⟨b, 0, none⟩ (.slice (some ⟨g, 0, none⟩) 0 c)) := by
  obtain ⟨va', vb', hv, l1, l2, hap⟩ := h.dsk
  simp only [Value.agg.injEq, Array.mk.injEq, List.cons.injEq, and_true] at hv
  obtain ⟨rfl, rfl⟩ := hv
  have hlt := h.lt
  rcases l1.1.own.2 with ⟨e, _⟩ | ⟨g', cap', cur, e, hB, hh, hnc, hcp, hcs, htake⟩
  · cases e
  · simp only [Value.slice.injEq, Option.some.injEq, Addr.mk.injEq, and_true] at e
    obtain ⟨rfl, rfl, rfl⟩ := e
    have d2 : DOwn w.heap.size X.heap.size X (.agg #[.slice (some ⟨g, 0, none⟩) 0 c, vb]) ⟨[], d.cache⟩ := by
      refine ⟨_, _, rfl, ⟨⟨⟨by simp [Enc.row], .inr ⟨g, c, cur, rfl, hB, hh, Nat.zero_le _, hcp, hcs, by simp [Enc.row]⟩⟩, Below.refl _ _, l1.1.le⟩, l1.2.1, fun k hk => l1.2.2 k hk⟩, l2, hap⟩
    exact ⟨hnc, h.cur.new hw (by omega) 0 _, grownBy_new h.grown (by omega) 0 _, h.res.other (by omega) _ _, h.box.set 0 _, (d2.boxStore h.box 0 _).top, hlt, h.pcl⟩

/-- How the draw ends: the disk goes into the answer's box. -/
theorem LdI.done (h : LdI w pc a len cap b va vb d X) (hw : Cur w pc a len cap) :
    X.cell? ⟨b, 0, none⟩ = some va ∧ X.cell? ⟨b, 1, none⟩ = some vb ∧ X.cell? ⟨w.heap.size, 0, none⟩ = some (.slice none 0 0) ∧ X.cell? ⟨w.heap.size, 1, none⟩ = some (.slice none 0 0) ∧ X.frozen? ⟨w.heap.size, 0, none⟩ = false ∧ X.frozen? ⟨w.heap.size, 1, none⟩ = false ∧
    ((X.setCell ⟨w.heap.size, 0, none⟩ va).setCell ⟨w.heap.size, 1, none⟩ vb).cell? ⟨w.heap.size, 0, none⟩ = some va ∧ ((X.setCell ⟨w.heap.size, 0, none⟩ va).setCell ⟨w.heap.size, 1, none⟩ vb).cell? ⟨w.heap.size, 1, none⟩ = some vb ∧
    Hid (DOwn w.heap.size ((X.setCell ⟨w.heap.size, 0, none⟩ va).setCell ⟨w.heap.size, 1, none⟩ vb).heap.size ((X.setCell ⟨w.heap.size, 0, none⟩ va).setCell ⟨w.heap.size, 1, none⟩ vb) (.agg #[va, vb]) d ∧ Cur ((X.setCell ⟨w.heap.size, 0, none⟩ va).setCell ⟨w.heap.size, 1, none⟩ vb) pc a len cap ∧ w.grownBy ((X.setCell ⟨w.heap.size, 0, none⟩ va).setCell ⟨w.heap.size, 1, none⟩ vb) (some pc)) := by
  have rX := (h.res.set 0 va).set 1 vb
  exact ⟨h.box.cell 0 _ rfl, h.box.cell 1 _ rfl, h.res.cell 0 _ rfl, h.res.cell 1 _ rfl, h.res.loose 0, h.res.loose 1, rX.cell 0 _ rfl, rX.cell 1 _ rfl, ((h.dsk.boxStore h.res 0 _).boxStore (h.res.set 0 _) 1 _).top, (h.cur.new hw (Nat.le_refl _) 0 _).new hw (Nat.le_refl _) 1 _, grownBy_new (grownBy_new h.grown (Nat.le_refl _) 0 _) (Nat.le_refl _) 1 _⟩
end

theorem long_some (n : Nat) (x : UInt8) (w : World) (hn : n ≤ 100) :
    Calls Tryd.prog 66 #[.int .i64 (n : Int), .int .u8 (x.toNat : Int)] w fun e w' => ∃ t : ByteArray, t.size ≤ 100 ∧ e = .returned (.string t) ∧ Below w.heap.size w w' :=
  (long_any n x w (by omega)).mono fun _ _ h => ⟨_, by simp [ByteArray.size]; omega, h.1, h.2⟩

/-- How many writes may still be appended. -/
def leftAt (b : Nat) (w : World) : Nat := match w.cell? ⟨b, 1, none⟩ with | some (.slice _ n _) => 100 - n | _ => 0
theorem leftAt_eq {b n c : Nat} {w : World} {s : Option Addr} (h : w.cell? ⟨b, 1, none⟩ = some (.slice s n c)) : leftAt b w = 100 - n := by unfold leftAt; rw [h]

/-- Any drawn disk. -/
def AnyR (w : World) (pc : Nat) (a : Option Addr) (len cap : Nat) (e : Ending) (w' : World) : Prop :=
  ∃ (d : Dk) (v : Value), d.drawn ∧ e = .returned v ∧ DOwn w.heap.size w'.heap.size w' v d ∧ Cur w' pc a len cap ∧ w.grownBy w' (some pc)

set_option maxRecDepth 100000 in
set_option maxHeartbeats 1500000 in
theorem anyDk_any (pc : Nat) (a : Option Addr) (len cap : Nat) (w : World) (hc : Cur w pc a len cap) :
    Calls Tryd.prog 74 #[.pointer (some ⟨pc, 0, none⟩)] w fun e w' => AnyR w pc a len cap e w' := by
  have hx := Box.new w #[.slice none 0 0, .slice none 0 0] 45
  have hg0 : w.grownBy (w.alloc (.cells #[.slice none 0 0, .slice none 0 0] 45)) (some pc) := World.grownBy_alloc _ _ _
  have hc0 := hc.alloc (.cells #[.slice none 0 0, .slice none 0 0] 45)
  have hpc := hc.lt
  have hz0 : w.heap.size < (w.alloc (.cells #[.slice none 0 0, .slice none 0 0] 45)).heap.size := by simp
  go_enter Tryd.func74, Tryd.ntmps74
  go_wp2_with fail
  generalize w.alloc (.cells #[.slice none 0 0, .slice none 0 0] 45) = W at *
  refine (below_any 12 pc a len cap _ hc0 (by omega)).mono ?_
  rintro e w1 ⟨ks, hk1, _, rfl, hc1, hg1⟩
  have hk12 := hk1 (by omega)
  clear hk1
  go_wp2_with fail
  refine (below_any 60 pc a len cap _ hc1 (by omega)).mono ?_
  rintro e w2 ⟨x, hx1, _, rfl, hc2, hg2⟩
  have hx60 := hx1 (by omega)
  clear hx1
  go_wp2_with fail
  refine (disk_any pc a len cap _ hc2).mono ?_
  rintro e w3 ⟨d, v3, hok, h24, rfl, o3, hc3, hg3⟩
  obtain ⟨hsm, hts, htu⟩ := Dk.ok_small hok
  go_wp2_with fail
  refine (specCopy_any d _ _ _ _ o3 hsm).mono ?_
  rintro e w4 ⟨v4, rfl, o4, k4⟩
  obtain ⟨a1, a2, q1, q2, rfl⟩ := o4.form
  have hz1 := hg1.size
  have hz2 := hg2.size
  have hz3 := hg3.size
  have hz4 := k4.size
  have k5 : Below w4.heap.size w4 (w4.alloc (.cells #[.slice a1 d.sec.length q1, .slice a2 d.cache.length q2] 45)) := belAlloc _ _
  have kk := k4.trans (k5.mono k4.size)
  have I5 : LdI w pc a len cap w4.heap.size (.slice a1 d.sec.length q1) (.slice a2 d.cache.length q2) d (w4.alloc (.cells #[.slice a1 d.sec.length q1, .slice a2 d.cache.length q2] 45)) :=
    ⟨hc3.below kk hc3.lt hc3.codeLt, (((hg0.trans hg1).trans hg2).trans hg3).trans (grownBy_below (World.grownBy.refl _ _) kk (Nat.le_refl _)), (((hx.cur hg1 (by omega)).cur hg2 (by omega)).cur hg3 (by omega)).later kk, Box.new w4 _ _, ((o4.later k5).base (by omega)).top, by omega, hpc⟩
  go_upto_region 4 with fail
  generalize w4.alloc (.cells #[.slice a1 d.sec.length q1, .slice a2 d.cache.length q2] 45) = w5 at I5 ⊢
  clear hx hg0 hc0 hg1 hc1 hg2 hc2 hg3 hc3 o3 o4 k4 k5 kk
  have HC := Lib.hid hc
  clear hc
  have hdr := Dk.ok_drawn hok
  have hl1 := hok.1
  have hl100 := hok.2.1
  obtain ⟨n, hn⟩ : ∃ n : Nat, 31 + (x : Int) % 3 = (n : Int) := Int.eq_ofNat_of_zero_le (by omega)
  have hn1 : n ≤ 33 := by omega
  have hwn : IntKind.i64.wrap (31 + (x : Int) % 3) = (n : Int) := by rw [hn]; exact IntWalk.i64_in _ ⟨by omega, by omega⟩
  have ht3 : IntKind.i64.wrap (31 + (x : Int).tmod 3) = (n : Int) := by rw [Int.tmod_eq_emod_of_nonneg (by omega)]; exact hwn
  obtain ⟨g1, rfl⟩ : ∃ g1 : Nat, a1 = some ⟨g1, 0, none⟩ := by
    obtain ⟨va', vb', hv, l1, _, _⟩ := I5.dsk
    simp only [Value.agg.injEq, Array.mk.injEq, List.cons.injEq, and_true] at hv
    obtain ⟨rfl, rfl⟩ := hv
    rcases l1.1.own.2 with ⟨_, e⟩ | ⟨g, cap, cur, e, _⟩
    · omega
    · simp only [Value.slice.injEq] at e; exact ⟨g, e.1⟩
  rcases (show ks = 0 ∨ ks = 1 ∨ ks = 2 ∨ ks = 3 ∨ (ks ≠ 0 ∧ ks ≠ 1 ∧ ks ≠ 2 ∧ ks ≠ 3) by omega) with rfl | rfl | rfl | rfl | ⟨n0, n1, n2, n3⟩
  · go_upto_region 6 with fail
    obtain ⟨k, hk0⟩ : ∃ k : Nat, (x : Int) % (d.sec.length : Int) = (k : Int) := Int.eq_ofNat_of_zero_le (Int.emod_nonneg _ (by omega))
    have hk : k < d.sec.length := by have := Int.emod_lt_of_pos (x : Int) (show (0 : Int) < (d.sec.length : Int) by omega); omega
    have hdn : ¬ (d.sec = []) := fun e => by rw [e] at hl1; simp at hl1
    have htk : (x : Int).tmod (d.sec.length : Int) = (k : Int) := by rw [Int.tmod_eq_emod_of_nonneg (by omega)]; exact hk0
    clear hk0 hn hwn
    have hi0 : (0 : Int) ≤ (k : Int) := by omega
    have hi1 : (k : Int) < (d.sec.length : Int) := by omega
    have I0 := Lib.hid I5.drew
    obtain ⟨m0, m1, f0, f1⟩ := I0.out.cells
    clear I5
    go_region_law (first | (go_simp; go_at_call 66; refine (long_some n 97 _ (by omega)).mono ?_; rintro e w6 ⟨t, ht, rfl, k6⟩; have I6 := Lib.hid (I0.out.later k6); obtain ⟨m0, m1, f0, f1⟩ := I6.out.cells; obtain ⟨cs, fs, I7⟩ := I6.out.setSec HC.out hk t; have I8 := Lib.hid I7; clear I7; dsimp only))
    all_goals
      obtain ⟨y0, y1, x0, x1, h0, h1, u0, u1, HR⟩ := I8.out.done HC.out
      go_wp2
      refine bodyPost_ret (v := .agg #[.slice (some ⟨g1, 0, none⟩) d.sec.length q1, .slice a2 d.cache.length q2]) (by simp [results, Tryd.results74, go_sem, u0, u1]) rfl ?_
      exact ⟨_, _, Dk.drawn_set hdr k ht, rfl, HR.out⟩
  · go_upto_region 8 with fail
    obtain ⟨z, hz⟩ : ∃ z : Int, (x : Int) % 9 - 1 = z := ⟨_, rfl⟩
    have hwz : IntKind.i64.wrap ((x : Int).tmod 9 - 1) = z := by rw [Int.tmod_eq_emod_of_nonneg (by omega), IntWalk.i64_in _ ⟨by omega, by omega⟩, hz]
    clear hz hn hwn
    have I0 := Lib.hid I5.drew
    obtain ⟨m0, m1, f0, f1⟩ := I0.out.cells
    clear I5
    go_region_law (first
      | (go_simp; go_at_call 66; refine (long_some n 98 _ (by omega)).mono ?_; rintro e w6 ⟨t, ht, rfl, k6⟩; have I6 := Lib.hid (I0.out.later k6); obtain ⟨m0, m1, f0, f1⟩ := I6.out.cells; have I6b := Lib.hid (I6.out.later (belAlloc w6 (.cells #[.int .i64 z, .string t] 106))); obtain ⟨p0, p1, p2, p3⟩ := I6b.out.cells; dsimp only)
      | (refine step_append_rows (by rfl) _ _ wrE (by rfl) w.heap.size _ d.cache (by rfl) (I6.out.rowC _) w6.heap.size _ [⟨z, t⟩] (by rfl) (RBuf.lit1 wrE w6 ⟨z, t⟩) (by simp [wrE]; omega) ?_; intro v7 w7 hr7 hg7 at7 lt7; obtain ⟨a7, q7, hv7⟩ := hr7.form; simp only [List.length_append, List.length_cons, List.length_nil, Nat.zero_add] at hv7; subst hv7; obtain ⟨b7, I7⟩ := I6.out.push HC.out hr7 hg7 at7; have I8 := Lib.hid I7; have z1 := b7.cell 1 _ rfl; have f7 := b7.loose 1; clear I7 b7))
    all_goals
      obtain ⟨y0, y1, x0, x1, h0, h1, u0, u1, HR⟩ := I8.out.done HC.out
      clear hr7 hg7 at7 lt7
      go_wp2
      refine bodyPost_ret (v := .agg #[.slice (some ⟨g1, 0, none⟩) d.sec.length q1, .slice a7 (d.cache.length + 1) q7]) (by simp [results, Tryd.results74, go_sem, u0, u1]) rfl ?_
      exact ⟨_, _, Dk.drawn_push hdr (by omega) ht, rfl, HR.out⟩
  · obtain ⟨n2, hn2⟩ : ∃ n2 : Nat, 59 + (x : Int) % 3 = (n2 : Int) := Int.eq_ofNat_of_zero_le (by omega)
    have hn61 : n2 ≤ 61 := by omega
    have hwn2 : IntKind.i64.wrap (59 + (x : Int) % 3) = (n2 : Int) := by rw [hn2]; exact IntWalk.i64_in _ ⟨by omega, by omega⟩
    have hwt2 : IntKind.i64.wrap (59 + (x : Int).tmod 3) = (n2 : Int) := by rw [Int.tmod_eq_emod_of_nonneg (by omega)]; exact hwn2
    clear hn hwn ht3
    rw [show ((2 : Nat) : Int) = 2 from rfl]
    go_wp2
    go_loopw [] (fun wr => ∃ (d' : Dk) (s : Option Addr) (c : Nat), d'.drawn ∧ d'.cache.length ≤ 61 ∧ LdI w pc a len cap w4.heap.size (.slice (some ⟨g1, 0, none⟩) d.sec.length q1) (.slice s d'.cache.length c) d' wr) (fun wr => leftAt w4.heap.size wr)
    case atStart => exact ⟨d, a2, q2, hdr, by omega, I5⟩
    case round =>
      obtain ⟨d', s, c, hdr', hl61, I⟩ := hrel
      clear I5 hsm hts htu hdr hl1 hl100 hok h24
      by_cases hlt : (d'.cache.length : Int) < (n2 : Int)
      · obtain ⟨m0, m1, f0, f1⟩ := I.cells
        go_upto_region 11 with fail
        have I0 := Lib.hid I.drew
        clear m0 m1 f0 f1
        obtain ⟨m0, m1, f0, f1⟩ := I0.out.cells
        have M1 := Lib.hid (I.cells.2.1)
        clear I
        go_region_law (first
          | (go_simp; go_at_call 72; refine (zero_any _).mono ?_; rintro e w6 ⟨rfl, k6⟩; have I6 := Lib.hid (I0.out.later k6); obtain ⟨m0, m1, f0, f1⟩ := I6.out.cells; have I6b := Lib.hid (I6.out.later (belAlloc w6 (.cells #[.int .i64 0, .string zero32] 106))); obtain ⟨p0, p1, p2, p3⟩ := I6b.out.cells; dsimp only)
          | (refine step_append_rows (by rfl) _ _ wrE (by rfl) w.heap.size _ d'.cache (by rfl) (I6.out.rowC _) w6.heap.size _ [⟨0, zero32⟩] (by rfl) (RBuf.lit1 wrE w6 ⟨0, zero32⟩) (by simp [wrE]; omega) ?_; intro v7 w7 hr7 hg7 at7 lt7; obtain ⟨a7, q7, hv7⟩ := hr7.form; simp only [List.length_append, List.length_cons, List.length_nil, Nat.zero_add] at hv7; subst hv7; obtain ⟨b7, I7⟩ := I6.out.push HC.out hr7 hg7 at7; have I8 := Lib.hid I7; have z1 := b7.cell 1 _ rfl; have f7 := b7.loose 1; clear I7 b7))
        all_goals
          have hc8 := I8.out.cells.2.1
          have HD := Lib.hid (Dk.drawn_push (x := ⟨0, zero32⟩) hdr' (by omega) (by decide))
          have hl8 : (d'.cache ++ [(⟨0, zero32⟩ : Wr)]).length = d'.cache.length + 1 := by simp
          clear hr7 hg7 at7 lt7
          go_wp2
          go_roundw
          case rel => exact ⟨⟨d'.sec, d'.cache ++ [⟨0, zero32⟩]⟩, a7, q7, HD.out, by rw [hl8]; omega, by rw [hl8]; exact I8.out⟩
          case measure => rw [leftAt_eq hc8, leftAt_eq M1.out]; omega
      · obtain ⟨m0, m1, x0, x1, f0, f1, u0, u1, HR⟩ := I.done HC.out
        clear I
        go_wp2
        refine bodyPost_ret (v := .agg #[.slice (some ⟨g1, 0, none⟩) d.sec.length q1, .slice s d'.cache.length c]) (by simp [results, Tryd.results74, go_sem, u0, u1]) rfl ?_
        exact ⟨_, _, hdr', rfl, HR.out⟩
  · obtain ⟨hqc, I6⟩ := I5.noSec HC.out
    obtain ⟨m0, m1, f0, f1⟩ := I5.cells
    obtain ⟨y0, y1, x0, x1, h0, h1, u0, u1, HR⟩ := I6.done HC.out
    clear I5 I6
    go_wp2
    refine bodyPost_ret (v := .agg #[.slice (some ⟨g1, 0, none⟩) 0 q1, .slice a2 d.cache.length q2]) (by simp [results, Tryd.results74, go_sem, u0, u1]) rfl ?_
    exact ⟨_, _, Dk.drawn_none hdr, rfl, HR.out⟩
  · obtain ⟨m0, m1, x0, x1, f0, f1, u0, u1, HR⟩ := I5.done HC.out
    have e0 : ((ks : Int) == 0) = false := beq_eq_false_iff_ne.2 (by omega)
    have e1 : ((ks : Int) == 1) = false := beq_eq_false_iff_ne.2 (by omega)
    have e2 : ((ks : Int) == 2) = false := beq_eq_false_iff_ne.2 (by omega)
    have e3 : ((ks : Int) == 3) = false := beq_eq_false_iff_ne.2 (by omega)
    clear I5
    go_wp2
    refine bodyPost_ret (v := .agg #[.slice (some ⟨g1, 0, none⟩) d.sec.length q1, .slice a2 d.cache.length q2]) (by simp [results, Tryd.results74, go_sem, u0, u1]) rfl ?_
    exact ⟨_, _, hdr, rfl, HR.out⟩


end Go.Proofs.YtmlhpjkijpbinabDoor
