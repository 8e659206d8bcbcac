/- Texts of our own, joined. -/
import Derived.Test.YtmlhpjkijpbinabJi
import Derived.Test.YtmlhpjkijpbinabJj
/- What is drawn for the chapter on sectors: any disk, a right one or one that something is wrong with. -/
namespace Go.Proofs.Ytmlhpjkijpbinab
open Go.RowKit

/-- What is known of any drawn disk. -/
def Dk.drawn (d : Dk) : Prop := d.sec.length ≤ 100 ∧ d.cache.length ≤ 100 ∧ (∀ s ∈ d.sec, s.size ≤ 100) ∧ ∀ x ∈ d.cache, x.text.size ≤ 100
theorem Dk.ok_drawn {d : Dk} (h : d.ok) : d.drawn := by
  obtain ⟨h1, h2, h3, h4, h5⟩ := h
  exact ⟨h2, by omega, fun s hs => by have := h4 s hs; omega, fun x hx => by have := (h5 x hx).2.2; omega⟩
theorem Dk.drawn_small {d : Dk} (h : d.drawn) : d.small ∧ (∀ s ∈ d.sec, s.size ≤ 1099511627776) ∧ ∀ x ∈ d.cache, x.text.size ≤ 1099511627776 := by
  obtain ⟨h1, h2, h3, h4⟩ := h
  exact ⟨⟨by omega, by omega⟩, fun s hs => by have := h3 s hs; omega, fun x hx => by have := h4 x hx; omega⟩
theorem Dk.drawn_set {d : Dk} (h : d.drawn) (k : Nat) {t : ByteArray} (ht : t.size ≤ 100) : (⟨d.sec.set k t, d.cache⟩ : Dk).drawn := by
  obtain ⟨h1, h2, h3, h4⟩ := h
  refine ⟨by simpa using h1, h2, fun s hs => ?_, h4⟩
  rcases List.mem_or_eq_of_mem_set hs with h | h
  · exact h3 s h
  · rw [h]; exact ht
theorem Dk.drawn_push {d : Dk} (h : d.drawn) (hl : d.cache.length < 100) {x : Wr} (ht : x.text.size ≤ 100) : (⟨d.sec, d.cache ++ [x]⟩ : Dk).drawn := by
  obtain ⟨h1, h2, h3, h4⟩ := h
  refine ⟨h1, by simp; omega, h3, fun y hy => ?_⟩
  rcases List.mem_append.1 hy with h | h
  · exact h4 y h
  · have : y = x := by simpa using h
    rw [this]; exact ht
theorem Dk.drawn_none {d : Dk} (h : d.drawn) : (⟨[], d.cache⟩ : Dk).drawn := ⟨by simp, h.2.1, by simp, h.2.2.2⟩

section
variable {w : World} {pc : Nat} {a : Option Addr} {len cap b : Nat} {va vb : Value} {d : Dk} {X Y : World}

/-- What waits, as an append asks for it. -/
theorem LdI.rowC (h : LdI w pc a len cap b va vb d X) (o : Obj) : RBuf wrE w.heap.size (X.alloc o) (X.alloc o) vb d.cache := by
  obtain ⟨va', vb', hv, l1, l2, hap⟩ := h.dsk
  simp only [Value.agg.injEq, Array.mk.injEq, List.cons.injEq, and_true] at hv
  obtain ⟨rfl, rfl⟩ := hv
  exact (l2.1.alloc o).here

/-- One more write waits. -/
theorem LdI.push (h : LdI w pc a len cap b va vb d X) (hw : Cur w pc a len cap) {o : Obj} {v' : Value} {x : Wr} (hr : RBuf wrE w.heap.size Y Y v' (d.cache ++ [x])) (hg : (X.alloc o).grownBy Y vb.ownBlock) (hat : v'.ownBlock = vb.ownBlock ∨ v'.ownBlock = some (X.alloc o).heap.size) :
    Box Y b #[va, vb] 27 ∧ LdI w pc a len cap b va v' ⟨d.sec, d.cache ++ [x]⟩ (Y.setCell ⟨b, 1, none⟩ v') := by
  have h1 := h.later ((Below.refl _ _).alloc (Nat.le_refl _) o)
  obtain ⟨va', vb', hv, l1, l2, hap⟩ := h1.dsk
  simp only [Value.agg.injEq, Array.mk.injEq, List.cons.injEq, and_true] at hv
  obtain ⟨rfl, rfl⟩ := hv
  have hlt := h.lt
  have nb := h1.box.notRow l2.1 (by decide)
  have nr := h1.res.notRow l2.1 (by decide)
  have hb : Below w.heap.size (X.alloc o) Y := (Below.refl _ _).grown hg (by have := h1.res.lt; omega) (fun k hk => (l2.1.own.lt k hk).1)
  have bY : Box Y b #[va, vb] 27 := (hg.block _ h1.box.lt (Ne.symm nb)).trans h1.box
  have rY : Box Y w.heap.size #[.slice none 0 0, .slice none 0 0] 27 := (hg.block _ h1.res.lt (Ne.symm nr)).trans h1.res
  have dY : DOwn w.heap.size Y.heap.size Y (.agg #[va, v']) ⟨d.sec, d.cache ++ [x]⟩ := by
    refine ⟨va, v', rfl, (l1.grown hg hap).wider hg.size (Nat.le_refl _), hr.lown, ?_⟩
    rcases hat with e | e
    · rw [e]; exact hap
    · cases hva : va.ownBlock with
      | none => exact .inl rfl
      | some k =>
        refine .inr fun e2 => ?_
        rw [e] at e2
        have := (l1.1.own.lt k hva).2
        have := Option.some.inj e2
        omega
  refine ⟨bY, (h1.cur.below hb hw.lt hw.codeLt).new hw (by omega) 1 v', grownBy_new (grownBy_below h1.grown hb (Nat.le_refl _)) (by omega) 1 v', rY.other (by omega) _ _, bY.set 1 v', (dY.boxStore bY 1 v').top, hlt, h.pcl⟩

/-- A sector written over. -/
theorem LdI.setSec {g n c k : Nat} (h : LdI w pc a len cap b (.slice (some ⟨g, 0, none⟩) n c) vb d X) (hw : Cur w pc a len cap) (hk : k < d.sec.length) (t : ByteArray) :
    X.cell? ⟨g, k, none⟩ = some (.string d.sec[k]) ∧ X.frozen? ⟨g, k, none⟩ = false ∧ LdI w pc a len cap b (.slice (some ⟨g, 0, none⟩) n c) vb ⟨d.sec.set k t, d.cache⟩ (X.setCell ⟨g, k, none⟩ (.string t)) := by
  obtain ⟨va', vb', hv, l1, l2, hap⟩ := h.dsk
  simp only [Value.agg.injEq, Array.mk.injEq, List.cons.injEq, and_true] at hv
  obtain ⟨rfl, rfl⟩ := hv
  obtain ⟨_, _, e⟩ := l1.1.form
  obtain ⟨_, rfl, _⟩ : _ ∧ n = d.sec.length ∧ _ := by simpa using e
  have hat := List.getElem?_eq_getElem hk
  have hB : w.heap.size ≤ g := (l1.1.own.lt g rfl).1
  have hlt := h.lt
  have nb := h.box.notRow l1.1 (by decide)
  have nr := h.res.notRow l1.1 (by decide)
  have nb' : b ≠ g := fun e => nb (by rw [e]; rfl)
  have nr' : w.heap.size ≠ g := fun e => nr (by rw [e]; rfl)
  have cs : X.cell? ⟨g, k, none⟩ = some (.string d.sec[k]) := by
    have := l1.1.cell rfl k _ hat 0 _ rfl
    rw [show strE.sz = 1 from rfl, Nat.mul_one, Nat.add_zero] at this
    exact this
  have hst := l1.1.stored k _ t hat 0 (by decide) (.string t) rfl
  rw [show strE.sz = 1 from rfl, Nat.mul_one, Nat.add_zero] at hst
  refine ⟨cs, l1.1.loose k, h.cur.new hw hB k _, grownBy_new h.grown hB k _, h.res.other nr' _ _, h.box.other nb' _ _, ?_, hlt, h.pcl⟩
  refine ⟨_, _, rfl, ?_, (l2.grown (stored_grown X g k (.string t)) ?_).wider (by simp) (Nat.le_refl _), hap⟩
  · have := hst.here
    have hl := this.lown
    simpa using hl
  · rcases hap with e | e
    · cases e
    · exact .inr (Ne.symm e)

/-- The list of sectors cut to nothing. -/
theorem LdI.noSec {g n c : Nat} (h : LdI w pc a len cap b (.slice (some ⟨g, 0, none⟩) n c) vb d X) (hw : Cur w pc a len cap) : n ≤ c ∧ LdI w pc a len cap b (.slice (some ⟨g, 0, none⟩) 0 c) vb ⟨[], d.cache⟩ (X.setCell ⟨b, 0, none⟩ (.slice (some ⟨g, 0, none⟩) 0 c)) := by
  obtain ⟨va', vb', hv, l1, l2, hap⟩ := h.dsk
  simp only [Value.agg.injEq, Array.mk.injEq, List.cons.injEq, and_true] at hv
  obtain ⟨rfl, rfl⟩ := hv
  have hlt := h.lt
  rcases l1.1.own.2 with ⟨e, _⟩ | ⟨g', cap', cur, e, hB, hh, hnc, hcp, hcs, htake⟩
  · cases e
  · simp only [Value.slice.injEq, Option.some.injEq, Addr.mk.injEq, and_true] at e
    obtain ⟨rfl, rfl, rfl⟩ := e
    have d2 : DOwn w.heap.size X.heap.size X (.agg #[.slice (some ⟨g, 0, none⟩) 0 c, vb]) ⟨[], d.cache⟩ := by
      refine ⟨_, _, rfl, ⟨⟨⟨by simp [Enc.row], .inr ⟨g, c, cur, rfl, hB, hh, Nat.zero_le _, hcp, hcs, by simp [Enc.row]⟩⟩, Below.refl _ _, l1.1.le⟩, l1.2.1, fun k hk => l1.2.2 k hk⟩, l2, hap⟩
    exact ⟨hnc, h.cur.new hw (by omega) 0 _, grownBy_new h.grown (by omega) 0 _, h.res.other (by omega) _ _, h.box.set 0 _, (d2.boxStore h.box 0 _).top, hlt, h.pcl⟩

/-- How the draw ends: the disk goes into the answer's box. -/
theorem LdI.done (h : LdI w pc a len cap b va vb d X) (hw : Cur w pc a len cap) :
    X.cell? ⟨b, 0, none⟩ = some va ∧ X.cell? ⟨b, 1, none⟩ = some vb ∧ X.cell? ⟨w.heap.size, 0, none⟩ = some (.slice none 0 0) ∧ X.cell? ⟨w.heap.size, 1, none⟩ = some (.slice none 0 0) ∧ X.frozen? ⟨w.heap.size, 0, none⟩ = false ∧ X.frozen? ⟨w.heap.size, 1, none⟩ = false ∧
    ((X.setCell ⟨w.heap.size, 0, none⟩ va).setCell ⟨w.heap.size, 1, none⟩ vb).cell? ⟨w.heap.size, 0, none⟩ = some va ∧ ((X.setCell ⟨w.heap.size, 0, none⟩ va).setCell ⟨w.heap.size, 1, none⟩ vb).cell? ⟨w.heap.size, 1, none⟩ = some vb ∧
    Hid (DOwn w.heap.size ((X.setCell ⟨w.heap.size, 0, none⟩ va).setCell ⟨w.heap.size, 1, none⟩ vb).heap.size ((X.setCell ⟨w.heap.size, 0, none⟩ va).setCell ⟨w.heap.size, 1, none⟩ vb) (.agg #[va, vb]) d ∧ Cur ((X.setCell ⟨w.heap.size, 0, none⟩ va).setCell ⟨w.heap.size, 1, none⟩ vb) pc a len cap ∧ w.grownBy ((X.setCell ⟨w.heap.size, 0, none⟩ va).setCell ⟨w.heap.size, 1, none⟩ vb) (some pc)) := by
  have rX := (h.res.set 0 va).set 1 vb
  exact ⟨h.box.cell 0 _ rfl, h.box.cell 1 _ rfl, h.res.cell 0 _ rfl, h.res.cell 1 _ rfl, h.res.loose 0, h.res.loose 1, rX.cell 0 _ rfl, rX.cell 1 _ rfl, ((h.dsk.boxStore h.res 0 _).boxStore (h.res.set 0 _) 1 _).top, (h.cur.new hw (Nat.le_refl _) 0 _).new hw (Nat.le_refl _) 1 _, grownBy_new (grownBy_new h.grown (Nat.le_refl _) 0 _) (Nat.le_refl _) 1 _⟩
end

theorem long_some (n : Nat) (x : UInt8) (w : World) (hn : n ≤ 100) :
    Calls Try.prog 51 #[.int .i64 (n : Int), .int .u8 (x.toNat : Int)] w fun e w' => ∃ t : ByteArray, t.size ≤ 100 ∧ e = .returned (.string t) ∧ Below w.heap.size w w' :=
  (long_any n x w (by omega)).mono fun _ _ h => ⟨_, by simp [ByteArray.size]; omega, h.1, h.2⟩

/-- How many writes may still be appended. -/
def leftAt (b : Nat) (w : World) : Nat := match w.cell? ⟨b, 1, none⟩ with | some (.slice _ n _) => 100 - n | _ => 0
theorem leftAt_eq {b n c : Nat} {w : World} {s : Option Addr} (h : w.cell? ⟨b, 1, none⟩ = some (.slice s n c)) : leftAt b w = 100 - n := by unfold leftAt; rw [h]

/-- Any drawn disk. -/
def AnyR (w : World) (pc : Nat) (a : Option Addr) (len cap : Nat) (e : Ending) (w' : World) : Prop :=
  ∃ (d : Dk) (v : Value), d.drawn ∧ e = .returned v ∧ DOwn w.heap.size w'.heap.size w' v d ∧ Cur w' pc a len cap ∧ w.grownBy w' (some pc)

set_option maxRecDepth 100000 in
set_option maxHeartbeats 1500000 in
theorem anyDk_any (pc : Nat) (a : Option Addr) (len cap : Nat) (w : World) (hc : Cur w pc a len cap) :
    Calls Try.prog 27 #[.pointer (some ⟨pc, 0, none⟩)] w fun e w' => AnyR w pc a len cap e w' := by
  have hx := Box.new w #[.slice none 0 0, .slice none 0 0] 27
  have hg0 : w.grownBy (w.alloc (.cells #[.slice none 0 0, .slice none 0 0] 27)) (some pc) := World.grownBy_alloc _ _ _
  have hc0 := hc.alloc (.cells #[.slice none 0 0, .slice none 0 0] 27)
  have hpc := hc.lt
  have hz0 : w.heap.size < (w.alloc (.cells #[.slice none 0 0, .slice none 0 0] 27)).heap.size := by simp
  go_enter Try.func27, Try.ntmps27
  go_wp2_with fail
  generalize w.alloc (.cells #[.slice none 0 0, .slice none 0 0] 27) = W at *
  refine (below_any 12 pc a len cap _ hc0 (by omega)).mono ?_
  rintro e w1 ⟨ks, hk1, _, rfl, hc1, hg1⟩
  have hk12 := hk1 (by omega)
  clear hk1
  go_wp2_with fail
  refine (below_any 60 pc a len cap _ hc1 (by omega)).mono ?_
  rintro e w2 ⟨x, hx1, _, rfl, hc2, hg2⟩
  have hx60 := hx1 (by omega)
  clear hx1
  go_wp2_with fail
  refine (disk_any pc a len cap _ hc2).mono ?_
  rintro e w3 ⟨d, v3, hok, h24, rfl, o3, hc3, hg3⟩
  obtain ⟨hsm, hts, htu⟩ := Dk.ok_small hok
  go_wp2_with fail
  refine (specCopy_any d _ _ _ _ o3 hsm).mono ?_
  rintro e w4 ⟨v4, rfl, o4, k4⟩
  obtain ⟨a1, a2, q1, q2, rfl⟩ := o4.form
  have hz1 := hg1.size
  have hz2 := hg2.size
  have hz3 := hg3.size
  have hz4 := k4.size
  have k5 : Below w4.heap.size w4 (w4.alloc (.cells #[.slice a1 d.sec.length q1, .slice a2 d.cache.length q2] 27)) := belAlloc _ _
  have kk := k4.trans (k5.mono k4.size)
  have I5 : LdI w pc a len cap w4.heap.size (.slice a1 d.sec.length q1) (.slice a2 d.cache.length q2) d (w4.alloc (.cells #[.slice a1 d.sec.length q1, .slice a2 d.cache.length q2] 27)) :=
    ⟨hc3.below kk hc3.lt hc3.codeLt, (((hg0.trans hg1).trans hg2).trans hg3).trans (grownBy_below (World.grownBy.refl _ _) kk (Nat.le_refl _)), (((hx.cur hg1 (by omega)).cur hg2 (by omega)).cur hg3 (by omega)).later kk, Box.new w4 _ _, ((o4.later k5).base (by omega)).top, by omega, hpc⟩
  go_upto_region 4 with fail
  generalize w4.alloc (.cells #[.slice a1 d.sec.length q1, .slice a2 d.cache.length q2] 27) = w5 at I5 ⊢
  clear hx hg0 hc0 hg1 hc1 hg2 hc2 hg3 hc3 o3 o4 k4 k5 kk
  have HC := Lib.hid hc
  clear hc
  have hdr := Dk.ok_drawn hok
  have hl1 := hok.1
  have hl100 := hok.2.1
  obtain ⟨n, hn⟩ : ∃ n : Nat, 31 + (x : Int) % 3 = (n : Int) := Int.eq_ofNat_of_zero_le (by omega)
  have hn1 : n ≤ 33 := by omega
  have hwn : IntKind.i64.wrap (31 + (x : Int) % 3) = (n : Int) := by rw [hn]; exact IntWalk.i64_in _ ⟨by omega, by omega⟩
  have ht3 : IntKind.i64.wrap (31 + (x : Int).tmod 3) = (n : Int) := by rw [Int.tmod_eq_emod_of_nonneg (by omega)]; exact hwn
  obtain ⟨g1, rfl⟩ : ∃ g1 : Nat, a1 = some ⟨g1, 0, none⟩ := by
    obtain ⟨va', vb', hv, l1, _, _⟩ := I5.dsk
    simp only [Value.agg.injEq, Array.mk.injEq, List.cons.injEq, and_true] at hv
    obtain ⟨rfl, rfl⟩ := hv
    rcases l1.1.own.2 with ⟨_, e⟩ | ⟨g, cap, cur, e, _⟩
    · omega
    · simp only [Value.slice.injEq] at e; exact ⟨g, e.1⟩
  rcases (show ks = 0 ∨ ks = 1 ∨ ks = 2 ∨ ks = 3 ∨ (ks ≠ 0 ∧ ks ≠ 1 ∧ ks ≠ 2 ∧ ks ≠ 3) by omega) with rfl | rfl | rfl | rfl | ⟨n0, n1, n2, n3⟩
  · go_upto_region 6 with fail
    obtain ⟨k, hk0⟩ : ∃ k : Nat, (x : Int) % (d.sec.length : Int) = (k : Int) := Int.eq_ofNat_of_zero_le (Int.emod_nonneg _ (by omega))
    have hk : k < d.sec.length := by have := Int.emod_lt_of_pos (x : Int) (show (0 : Int) < (d.sec.length : Int) by omega); omega
    have hdn : ¬ (d.sec = []) := fun e => by rw [e] at hl1; simp at hl1
    have htk : (x : Int).tmod (d.sec.length : Int) = (k : Int) := by rw [Int.tmod_eq_emod_of_nonneg (by omega)]; exact hk0
    clear hk0 hn hwn
    have hi0 : (0 : Int) ≤ (k : Int) := by omega
    have hi1 : (k : Int) < (d.sec.length : Int) := by omega
    have I0 := Lib.hid I5.drew
    obtain ⟨m0, m1, f0, f1⟩ := I0.out.cells
    clear I5
    go_region_law (first | (go_simp; go_at_call 51; refine (long_some n 97 _ (by omega)).mono ?_; rintro e w6 ⟨t, ht, rfl, k6⟩; have I6 := Lib.hid (I0.out.later k6); obtain ⟨m0, m1, f0, f1⟩ := I6.out.cells; obtain ⟨cs, fs, I7⟩ := I6.out.setSec HC.out hk t; have I8 := Lib.hid I7; clear I7; dsimp only))
    all_goals
      obtain ⟨y0, y1, x0, x1, h0, h1, u0, u1, HR⟩ := I8.out.done HC.out
      go_wp2
      refine bodyPost_ret (v := .agg #[.slice (some ⟨g1, 0, none⟩) d.sec.length q1, .slice a2 d.cache.length q2]) (by simp [results, Try.results27, go_sem, u0, u1]) rfl ?_
      exact ⟨_, _, Dk.drawn_set hdr k ht, rfl, HR.out⟩
  · go_upto_region 8 with fail
    obtain ⟨z, hz⟩ : ∃ z : Int, (x : Int) % 9 - 1 = z := ⟨_, rfl⟩
    have hwz : IntKind.i64.wrap ((x : Int).tmod 9 - 1) = z := by rw [Int.tmod_eq_emod_of_nonneg (by omega), IntWalk.i64_in _ ⟨by omega, by omega⟩, hz]
    clear hz hn hwn
    have I0 := Lib.hid I5.drew
    obtain ⟨m0, m1, f0, f1⟩ := I0.out.cells
    clear I5
    go_region_law (first
      | (go_simp; go_at_call 51; refine (long_some n 98 _ (by omega)).mono ?_; rintro e w6 ⟨t, ht, rfl, k6⟩; have I6 := Lib.hid (I0.out.later k6); obtain ⟨m0, m1, f0, f1⟩ := I6.out.cells; have I6b := Lib.hid (I6.out.later (belAlloc w6 (.cells #[.int .i64 z, .string t] 55))); obtain ⟨p0, p1, p2, p3⟩ := I6b.out.cells; dsimp only)
      | (refine step_append_rows (by rfl) _ _ wrE (by rfl) w.heap.size _ d.cache (by rfl) (I6.out.rowC _) w6.heap.size _ [⟨z, t⟩] (by rfl) (RBuf.lit1 wrE w6 ⟨z, t⟩) (by simp [wrE]; omega) ?_; intro v7 w7 hr7 hg7 at7 lt7; obtain ⟨a7, q7, hv7⟩ := hr7.form; simp only [List.length_append, List.length_cons, List.length_nil, Nat.zero_add] at hv7; subst hv7; obtain ⟨b7, I7⟩ := I6.out.push HC.out hr7 hg7 at7; have I8 := Lib.hid I7; have z1 := b7.cell 1 _ rfl; have f7 := b7.loose 1; clear I7 b7))
    all_goals
      obtain ⟨y0, y1, x0, x1, h0, h1, u0, u1, HR⟩ := I8.out.done HC.out
      clear hr7 hg7 at7 lt7
      go_wp2
      refine bodyPost_ret (v := .agg #[.slice (some ⟨g1, 0, none⟩) d.sec.length q1, .slice a7 (d.cache.length + 1) q7]) (by simp [results, Try.results27, go_sem, u0, u1]) rfl ?_
      exact ⟨_, _, Dk.drawn_push hdr (by omega) ht, rfl, HR.out⟩
  · obtain ⟨n2, hn2⟩ : ∃ n2 : Nat, 59 + (x : Int) % 3 = (n2 : Int) := Int.eq_ofNat_of_zero_le (by omega)
    have hn61 : n2 ≤ 61 := by omega
    have hwn2 : IntKind.i64.wrap (59 + (x : Int) % 3) = (n2 : Int) := by rw [hn2]; exact IntWalk.i64_in _ ⟨by omega, by omega⟩
    have hwt2 : IntKind.i64.wrap (59 + (x : Int).tmod 3) = (n2 : Int) := by rw [Int.tmod_eq_emod_of_nonneg (by omega)]; exact hwn2
    clear hn hwn ht3
    rw [show ((2 : Nat) : Int) = 2 from rfl]
    go_wp2
    go_loopw [] (fun wr => ∃ (d' : Dk) (s : Option Addr) (c : Nat), d'.drawn ∧ d'.cache.length ≤ 61 ∧ LdI w pc a len cap w4.heap.size (.slice (some ⟨g1, 0, none⟩) d.sec.length q1) (.slice s d'.cache.length c) d' wr) (fun wr => leftAt w4.heap.size wr)
    case atStart => exact ⟨d, a2, q2, hdr, by omega, I5⟩
    case round =>
      obtain ⟨d', s, c, hdr', hl61, I⟩ := hrel
      clear I5 hsm hts htu hdr hl1 hl100 hok h24
      by_cases hlt : (d'.cache.length : Int) < (n2 : Int)
      · obtain ⟨m0, m1, f0, f1⟩ := I.cells
        go_upto_region 11 with fail
        have I0 := Lib.hid I.drew
        clear m0 m1 f0 f1
        obtain ⟨m0, m1, f0, f1⟩ := I0.out.cells
        have M1 := Lib.hid (I.cells.2.1)
        clear I
        go_region_law (first
          | (go_simp; go_at_call 52; refine (zero_any _).mono ?_; rintro e w6 ⟨rfl, k6⟩; have I6 := Lib.hid (I0.out.later k6); obtain ⟨m0, m1, f0, f1⟩ := I6.out.cells; have I6b := Lib.hid (I6.out.later (belAlloc w6 (.cells #[.int .i64 0, .string zero32] 55))); obtain ⟨p0, p1, p2, p3⟩ := I6b.out.cells; dsimp only)
          | (refine step_append_rows (by rfl) _ _ wrE (by rfl) w.heap.size _ d'.cache (by rfl) (I6.out.rowC _) w6.heap.size _ [⟨0, zero32⟩] (by rfl) (RBuf.lit1 wrE w6 ⟨0, zero32⟩) (by simp [wrE]; omega) ?_; intro v7 w7 hr7 hg7 at7 lt7; obtain ⟨a7, q7, hv7⟩ := hr7.form; simp only [List.length_append, List.length_cons, List.length_nil, Nat.zero_add] at hv7; subst hv7; obtain ⟨b7, I7⟩ := I6.out.push HC.out hr7 hg7 at7; have I8 := Lib.hid I7; have z1 := b7.cell 1 _ rfl; have f7 := b7.loose 1; clear I7 b7))
        all_goals
          have hc8 := I8.out.cells.2.1
          have HD := Lib.hid (Dk.drawn_push (x := ⟨0, zero32⟩) hdr' (by omega) (by decide))
          have hl8 : (d'.cache ++ [(⟨0, zero32⟩ : Wr)]).length = d'.cache.length + 1 := by simp
          clear hr7 hg7 at7 lt7
          go_wp2
          go_roundw
          case rel => exact ⟨⟨d'.sec, d'.cache ++ [⟨0, zero32⟩]⟩, a7, q7, HD.out, by rw [hl8]; omega, by rw [hl8]; exact I8.out⟩
          case measure => rw [leftAt_eq hc8, leftAt_eq M1.out]; omega
      · obtain ⟨m0, m1, x0, x1, f0, f1, u0, u1, HR⟩ := I.done HC.out
        clear I
        go_wp2
        refine bodyPost_ret (v := .agg #[.slice (some ⟨g1, 0, none⟩) d.sec.length q1, .slice s d'.cache.length c]) (by simp [results, Try.results27, go_sem, u0, u1]) rfl ?_
        exact ⟨_, _, hdr', rfl, HR.out⟩
  · obtain ⟨hqc, I6⟩ := I5.noSec HC.out
    obtain ⟨m0, m1, f0, f1⟩ := I5.cells
    obtain ⟨y0, y1, x0, x1, h0, h1, u0, u1, HR⟩ := I6.done HC.out
    clear I5 I6
    go_wp2
    refine bodyPost_ret (v := .agg #[.slice (some ⟨g1, 0, none⟩) 0 q1, .slice a2 d.cache.length q2]) (by simp [results, Try.results27, go_sem, u0, u1]) rfl ?_
    exact ⟨_, _, Dk.drawn_none hdr, rfl, HR.out⟩
  · obtain ⟨m0, m1, x0, x1, f0, f1, u0, u1, HR⟩ := I5.done HC.out
    have e0 : ((ks : Int) == 0) = false := beq_eq_false_iff_ne.2 (by omega)
    have e1 : ((ks : Int) == 1) = false := beq_eq_false_iff_ne.2 (by omega)
    have e2 : ((ks : Int) == 2) = false := beq_eq_false_iff_ne.2 (by omega)
    have e3 : ((ks : Int) == 3) = false := beq_eq_false_iff_ne.2 (by omega)
    clear I5
    go_wp2
    refine bodyPost_ret (v := .agg #[.slice (some ⟨g1, 0, none⟩) d.sec.length q1, .slice a2 d.cache.length q2]) (by simp [results, Try.results27, go_sem, u0, u1]) rfl ?_
    exact ⟨_, _, hdr, rfl, HR.out⟩

set_option maxRecDepth 100000 in
theorem drawDiskOk_any (a : Option Addr) (len cap : Nat) (w : World) (hcode : CodeIn w a len) (hs : len ≤ 1048576) :
    Calls Try.prog 6 #[.slice a len cap] w fun e w' => ∃ d : Dk, d.drawn ∧ DiskR1 d w e w' := by
  have hx := Box.new w #[.slice none 0 0, .slice none 0 0] 27
  have b0 : Below w.heap.size w (w.alloc (.cells #[.slice none 0 0, .slice none 0 0] 27)) := belAlloc _ _
  have hc0 := hcode.later b0
  have hz0 : w.heap.size < (w.alloc (.cells #[.slice none 0 0, .slice none 0 0] 27)).heap.size := by simp
  go_enter Try.func6, Try.ntmps6
  go_wp2_with fail
  generalize w.alloc (.cells #[.slice none 0 0, .slice none 0 0] 27) = W at *
  refine (new_any a len cap _ hc0 hs).mono ?_
  rintro e w1 ⟨pc, hp, rfl, hc1, hb1⟩
  go_wp2_with fail
  refine (anyDk_any pc a len cap _ hc1).mono ?_
  rintro e w2 ⟨d, v, hdr, rfl, o2, hc2, hg2⟩
  have x2 := (hx.later hb1).cur hg2 (by omega)
  have b2 : Below w.heap.size w w2 := (b0.trans (hb1.mono b0.size)).grown hg2 (Nat.le_trans b0.size hb1.size) (fun k hk => by have := Option.some.inj hk; omega)
  obtain ⟨s1, s2, c1, c2, rfl⟩ := o2.form
  have d0 := x2.cell 0 (.slice none 0 0) rfl
  have d1 := x2.cell 1 (.slice none 0 0) rfl
  have f0 := x2.loose 0
  have f1 := x2.loose 1
  have rX := (x2.set 0 (.slice s1 d.sec.length c1)).set 1 (.slice s2 d.cache.length c2)
  have q0 := rX.cell 0 (.slice s1 d.sec.length c1) rfl
  have q1 := rX.cell 1 (.slice s2 d.cache.length c2) rfl
  have hz1 := hb1.size
  have HR : Hid (DiskR1 d w (.returned (.agg #[.slice s1 d.sec.length c1, .slice s2 d.cache.length c2])) ((w2.setCell ⟨w.heap.size, 0, none⟩ (.slice s1 d.sec.length c1)).setCell ⟨w.heap.size, 1, none⟩ (.slice s2 d.cache.length c2))) :=
    ⟨_, rfl, (((o2.base (by omega)).boxStore x2 0 _).boxStore (x2.set 0 _) 1 _).top, (b2.setCell (p := ⟨w.heap.size, 0, none⟩) (Nat.le_refl _) _).setCell (p := ⟨w.heap.size, 1, none⟩) (Nat.le_refl _) _⟩
  clear rX x2 o2
  go_wp2
  refine bodyPost_ret (v := .agg #[.slice s1 d.sec.length c1, .slice s2 d.cache.length c2]) (by simp [results, Try.results6, go_sem, q0, q1]) rfl ?_
  exact ⟨d, hdr, HR.out⟩

end Go.Proofs.Ytmlhpjkijpbinab

/- What is drawn for the chapter on segments: any disk, with or without segments, and the number of one. -/
namespace Go.Proofs.Ytmlhpjkijpbinab
open Go.RowKit

theorem bel_drew (x : World) : Below x.heap.size x x.drew := (Below.refl _ _).drew

theorem strRow_map (l : List ByteArray) : strE.row l = l.map Value.string := by
  induction l with
  | nil => rfl
  | cons x l ih => rw [List.map_cons, ← ih]; rfl

section
variable {w : World} {pc : Nat} {a : Option Addr} {len cap b : Nat} {va vb : Value} {d : Dk} {X Y : World}

/-- The list of sectors cut. -/
theorem LdI.cutSec {g n c : Nat} (k : Nat) (hk : k ≤ n) (h : LdI w pc a len cap b (.slice (some ⟨g, 0, none⟩) n c) vb d X) (hw : Cur w pc a len cap) : n ≤ c ∧ LdI w pc a len cap b (.slice (some ⟨g, 0, none⟩) k c) vb ⟨d.sec.take k, d.cache⟩ (X.setCell ⟨b, 0, none⟩ (.slice (some ⟨g, 0, none⟩) k c)) := by
  obtain ⟨va', vb', hv, l1, l2, hap⟩ := h.dsk
  simp only [Value.agg.injEq, Array.mk.injEq, List.cons.injEq, and_true] at hv
  obtain ⟨rfl, rfl⟩ := hv
  have hlt := h.lt
  rcases l1.1.own.2 with ⟨e, _⟩ | ⟨g', cap', cur, e, hB, hh, hnc, hcp, hcs, htake⟩
  · cases e
  · simp only [Value.slice.injEq, Option.some.injEq, Addr.mk.injEq, and_true] at e
    obtain ⟨rfl, rfl, rfl⟩ := e
    have hkl : (d.sec.take k).length = k := by rw [List.length_take]; omega
    have d2 : DOwn w.heap.size X.heap.size X (.agg #[.slice (some ⟨g, 0, none⟩) k c, vb]) ⟨d.sec.take k, d.cache⟩ := by
      refine ⟨_, _, rfl, ⟨⟨⟨?_, .inr ⟨g, c, cur, by rw [hkl], hB, hh, by rw [hkl]; omega, hcp, hcs, ?_⟩⟩, Below.refl _ _, l1.1.le⟩, l1.2.1, fun j hj => l1.2.2 j hj⟩, l2, hap⟩
      · rw [strE.row_length]
      · rw [strRow_map] at htake
        rw [strRow_map, List.map_take, ← htake]
        rw [show strE.sz = 1 from rfl] at htake ⊢
        simp only [hkl, Nat.mul_one, List.take_take, Nat.min_eq_left hk]
    exact ⟨hnc, h.cur.new hw (by omega) 0 _, grownBy_new h.grown (by omega) 0 _, h.res.other (by omega) _ _, h.box.set 0 _, (d2.boxStore h.box 0 _).top, hlt, h.pcl⟩
end

theorem Dk.drawn_take {d : Dk} (h : d.drawn) (k : Nat) : (⟨d.sec.take k, d.cache⟩ : Dk).drawn := by
  refine ⟨?_, h.2.1, fun s hs => h.2.2.1 s (List.mem_of_mem_take hs), h.2.2.2⟩
  show (d.sec.take k).length ≤ 100
  have := h.1
  rw [List.length_take]; omega


set_option maxRecDepth 100000 in
theorem drawSegDisk_any (a : Option Addr) (len cap : Nat) (w : World) (hcode : CodeIn w a len) (hs : len ≤ 1048576) :
    Calls Try.prog 19 #[.slice a len cap] w fun e w' => ∃ d : Dk, d.seg ∧ DiskR1 d w e w' := by
  have hx := Box.new w #[.slice none 0 0, .slice none 0 0] 27
  have b0 : Below w.heap.size w (w.alloc (.cells #[.slice none 0 0, .slice none 0 0] 27)) := belAlloc _ _
  have hc0 := hcode.later b0
  have hz0 : w.heap.size < (w.alloc (.cells #[.slice none 0 0, .slice none 0 0] 27)).heap.size := by simp
  go_enter Try.func19, Try.ntmps19
  go_wp2_with fail
  generalize w.alloc (.cells #[.slice none 0 0, .slice none 0 0] 27) = W at *
  refine (new_any a len cap _ hc0 hs).mono ?_
  rintro e w1 ⟨pc, hp, rfl, hc1, hb1⟩
  go_wp2_with fail
  refine (segDisk_any pc a len cap _ hc1).mono ?_
  rintro e w2 ⟨d, v, hsg, rfl, o2, hc2, hg2⟩
  have HSG := Lib.hid hsg
  clear hsg
  have x2 := (hx.later hb1).cur hg2 (by omega)
  have b2 : Below w.heap.size w w2 := (b0.trans (hb1.mono b0.size)).grown hg2 (Nat.le_trans b0.size hb1.size) (fun k hk => by have := Option.some.inj hk; omega)
  obtain ⟨s1, s2, c1, c2, rfl⟩ := o2.form
  have d0 := x2.cell 0 (.slice none 0 0) rfl
  have d1 := x2.cell 1 (.slice none 0 0) rfl
  have f0 := x2.loose 0
  have f1 := x2.loose 1
  have rX := (x2.set 0 (.slice s1 d.sec.length c1)).set 1 (.slice s2 d.cache.length c2)
  have q0 := rX.cell 0 (.slice s1 d.sec.length c1) rfl
  have q1 := rX.cell 1 (.slice s2 d.cache.length c2) rfl
  have hz1 := hb1.size
  have HR : Hid (DiskR1 d w (.returned (.agg #[.slice s1 d.sec.length c1, .slice s2 d.cache.length c2])) ((w2.setCell ⟨w.heap.size, 0, none⟩ (.slice s1 d.sec.length c1)).setCell ⟨w.heap.size, 1, none⟩ (.slice s2 d.cache.length c2))) :=
    ⟨_, rfl, (((o2.base (by omega)).boxStore x2 0 _).boxStore (x2.set 0 _) 1 _).top, (b2.setCell (p := ⟨w.heap.size, 0, none⟩) (Nat.le_refl _) _).setCell (p := ⟨w.heap.size, 1, none⟩) (Nat.le_refl _) _⟩
  clear rX x2 o2
  go_wp2
  refine bodyPost_ret (v := .agg #[.slice s1 d.sec.length c1, .slice s2 d.cache.length c2]) (by simp [results, Try.results19, go_sem, q0, q1]) rfl ?_
  exact ⟨d, HSG.out, HR.out⟩

/-- A drawn disk, and a number. -/
def SdR (w : World) (e : Ending) (w' : World) : Prop :=
  ∃ (d : Dk) (v : Value) (z : Int), d.drawn ∧ e = .returned (.tuple #[v, .int .i64 z]) ∧ DOwn w.heap.size w'.heap.size w' v d ∧ Below w.heap.size w w'



theorem newD_drawn (n : Int) : (newD n).drawn := by
  unfold newD
  split
  · refine ⟨?_, by simp, ?_, by simp⟩
    · show (List.replicate n.toNat zero32).length ≤ 100
      simp; omega
    · intro s hs
      have : s ∈ List.replicate n.toNat zero32 := hs
      simp only [List.mem_replicate] at this
      rw [this.2]; decide
  · exact ⟨by simp, by simp, by simp, by simp⟩


end Go.Proofs.Ytmlhpjkijpbinab
