/- Copies: slices.Clone, and what copyDisk hands back: a disk of its own. -/
import Derived.Test.YtmmgnpjhlmiafabImplDisk
import Derived.Test.YtmmgnpjhlmiafabSpecDisk2
import Derived.Test.YtmmgnpjhlmiafabClone
import Derived.Lib.SliceRun
import Derived.Deep.DeepCutAuto
namespace Go.Proofs.Ytmmgnpjhlmiafab
open Go.RowKit

/-- A store of what is there already changes nothing. -/
theorem setCell_self {w : World} {g i : Nat} {v : Value} (h : w.cell? ⟨g, i, none⟩ = some v) : w.setCell ⟨g, i, none⟩ v = w := by
  have : w.heap.modify g (fun
      | .cells c elem frozen => .cells (if (none : Option Nat).isSome then c else c.setIfInBounds i v) elem frozen
      | o => o) = w.heap := by
    apply Array.ext_getElem?
    intro k
    rw [Array.getElem?_modify]
    by_cases hk : g = k
    · subst hk
      rw [if_pos rfl]
      unfold World.cell? at h
      cases ho : w.heap[g]? with
      | none => rfl
      | some o =>
        rw [ho] at h
        cases o <;> simp_all
        rename_i c _ _
        apply Array.ext_getElem?
        intro j
        rw [Array.getElem?_setIfInBounds]
        by_cases hj : i = j
        · subst hj; simp_all; exact (Array.getElem?_eq_some_iff.1 h).1
        · simp [hj]
    · rw [if_neg hk]
  show { w with heap := _ } = w
  exact congrArg (fun hp => { w with heap := hp }) this

theorem cloneS_any (l : List _) (v : Value) (B : Nat) (w : World) (h : RBuf strE B w w v l) (hl : l.length ≤ 1073741824) :
    Calls Try.prog 49 #[v] w fun e w' => ∃ v', e = .returned v' ∧ RBuf strE w.heap.size w w' v' l := by
  have q : ∀ (w : World) (a : Option Addr) (n c n' c' : Nat), (binOp .eql 24 (.slice a n c) (.slice none n' c')).run Try.prog w = .ok (.bool a.isNone) w := fun w a n c n' c' => Lib.run_eql_slice_nil w _ _ a n c n' c' Try.underlying24
  rcases h.own.2 with ⟨rfl, h0⟩ | ⟨g, cap, cur, rfl, hr⟩
  · obtain rfl := List.length_eq_zero_iff.1 h0
    go_enter Try.func49, Try.ntmps49
    go_wp2
    go_ret
    exact ⟨_, rfl, RBuf.nil strE w⟩
  · clear hr
    have hb := (RBuf.fresh strE w).here
    have hx := (h.alloc (.cells #[] strE.ty)).here
    go_enter Try.func49, Try.ntmps49
    go_wp2_with (at_builtin; refine wpList_append_rows rfl _ _ strE rfl w.heap.size _ [] rfl hb B _ l rfl hx (by simp [strE]; omega) ?_; intro v1 w1 r1 g1 _; obtain ⟨a1, c1, rfl⟩ := r1.form)
    go_ret
    rw [List.nil_append] at r1
    exact ⟨_, rfl, ⟨r1.own, ((Below.refl w.heap.size w).alloc (Nat.le_refl _) _).grown g1 (by simp) (fun k hk => by have : w.heap.size = k := Option.some.inj hk; omega), r1.le⟩⟩

theorem cloneW_any (l : List _) (v : Value) (B : Nat) (w : World) (h : RBuf wrE B w w v l) (hl : l.length ≤ 1073741824) :
    Calls Try.prog 50 #[v] w fun e w' => ∃ v', e = .returned v' ∧ RBuf wrE w.heap.size w w' v' l := by
  have q : ∀ (w : World) (a : Option Addr) (n c n' c' : Nat), (binOp .eql 25 (.slice a n c) (.slice none n' c')).run Try.prog w = .ok (.bool a.isNone) w := fun w a n c n' c' => Lib.run_eql_slice_nil w _ _ a n c n' c' Try.underlying25
  rcases h.own.2 with ⟨rfl, h0⟩ | ⟨g, cap, cur, rfl, hr⟩
  · obtain rfl := List.length_eq_zero_iff.1 h0
    go_enter Try.func50, Try.ntmps50
    go_wp2
    go_ret
    exact ⟨_, rfl, RBuf.nil wrE w⟩
  · clear hr
    have hb := (RBuf.fresh wrE w).here
    have hx := (h.alloc (.cells #[] wrE.ty)).here
    go_enter Try.func50, Try.ntmps50
    go_wp2_with (at_builtin; refine wpList_append_rows rfl _ _ wrE rfl w.heap.size _ [] rfl hb B _ l rfl hx (by simp [wrE]; omega) ?_; intro v1 w1 r1 g1 _; obtain ⟨a1, c1, rfl⟩ := r1.form)
    go_ret
    rw [List.nil_append] at r1
    exact ⟨_, rfl, ⟨r1.own, ((Below.refl w.heap.size w).alloc (Nat.le_refl _) _).grown g1 (by simp) (fun k hk => by have : w.heap.size = k := Option.some.inj hk; omega), r1.le⟩⟩


section
variable {α β : Type} {E1 : Enc α} {E2 : Enc β}

theorem apart_up {B1 B2 : Nat} {w0 w1 x y : World} {v u : Value} {l : List α} {m : List β} (h1 : RBuf E1 B1 w0 x v l) (h2 : RBuf E2 B2 w1 y u m) (h : x.heap.size ≤ B2) : v.ownBlock = none ∨ v.ownBlock ≠ u.ownBlock := by
  cases hv : v.ownBlock with
  | none => exact .inl rfl
  | some k =>
    refine .inr fun e => ?_
    have a := (h1.own.lt k hv).2
    have b := (h2.own.lt k e.symm).1
    omega
theorem apart_down {B1 B2 : Nat} {w0 w1 x y : World} {v u : Value} {l : List α} {m : List β} (h1 : RBuf E1 B1 w0 x v l) (h2 : RBuf E2 B2 w1 y u m) (h : y.heap.size ≤ B1) : v.ownBlock = none ∨ v.ownBlock ≠ u.ownBlock := by
  cases hv : v.ownBlock with
  | none => exact .inl rfl
  | some k =>
    refine .inr fun e => ?_
    have a := (h1.own.lt k hv).1
    have b := (h2.own.lt k e.symm).2
    omega
theorem RBuf.under {B g : Nat} {w0 x : World} {v : Value} {l : List α} (h : RBuf E1 B w0 x v l) (hg : g < B) : v.ownBlock ≠ some g := fun e => by have := (h.own.lt g e).1; omega
theorem RBuf.above {B g : Nat} {w0 x : World} {v : Value} {l : List α} (h : RBuf E1 B w0 x v l) (hg : x.heap.size ≤ g) : v.ownBlock ≠ some g := fun e => by have := (h.own.lt g e).2; omega
theorem RBuf.at0 {B B0 : Nat} {w0 x : World} {v : Value} {l : List α} (h : RBuf E1 B w0 x v l) (hB : B0 ≤ B) : RBuf E1 B0 x x v l := h.here.lower hB
end

/-- What a region keeps that lays blocks of its own and stores into them: two cells of a box that was there, and all that was there. -/
theorem keep2 {b : Nat} {va vb : Value} {W x y : World} (h : x.cell? ⟨b, 0, none⟩ = some va ∧ x.cell? ⟨b, 1, none⟩ = some vb ∧ Below W.heap.size W x) (hb : Below x.heap.size x y) : y.cell? ⟨b, 0, none⟩ = some va ∧ y.cell? ⟨b, 1, none⟩ = some vb ∧ Below W.heap.size W y :=
  ⟨(hb.cell (p := ⟨b, 0, none⟩) (World.block_lt_of_cell? _ _ h.1)).trans h.1, (hb.cell (p := ⟨b, 1, none⟩) (World.block_lt_of_cell? _ _ h.2.1)).trans h.2.1, h.2.2.trans (hb.mono h.2.2.size)⟩
theorem keep2s {b g : Nat} {va vb y z : Value} {W x : World} (hb : b < W.heap.size) (hg : W.heap.size ≤ g) (h : x.cell? ⟨b, 0, none⟩ = some va ∧ x.cell? ⟨b, 1, none⟩ = some vb ∧ Below W.heap.size W x) :
    ((x.setCell ⟨g, 0, none⟩ y).setCell ⟨g, 1, none⟩ z).cell? ⟨b, 0, none⟩ = some va ∧ ((x.setCell ⟨g, 0, none⟩ y).setCell ⟨g, 1, none⟩ z).cell? ⟨b, 1, none⟩ = some vb ∧ Below W.heap.size W ((x.setCell ⟨g, 0, none⟩ y).setCell ⟨g, 1, none⟩ z) := by
  refine ⟨?_, ?_, (h.2.2.setCell (p := ⟨g, 0, none⟩) hg y).setCell (p := ⟨g, 1, none⟩) hg z⟩
  · rw [World.cell?_setCell_other _ _ _ _ (by simp <;> omega), World.cell?_setCell_other _ _ _ _ (by simp <;> omega)]; exact h.1
  · rw [World.cell?_setCell_other _ _ _ _ (by simp <;> omega), World.cell?_setCell_other _ _ _ _ (by simp <;> omega)]; exact h.2.1
theorem belAlloc (x : World) (o : Obj) : Below x.heap.size x (x.alloc o) := (Below.refl _ _).alloc (Nat.le_refl _) _

/-- A copy of d stands in the box g: two rows of its own beyond W. -/
structure CpyE (d : Dk) (W x : World) (g : Nat) (vS vW : Value) : Prop where
  box : Box x g #[vS, vW] 27
  sec : LOwn strE W.heap.size x.heap.size x vS d.sec
  cache : LOwn wrE W.heap.size x.heap.size x vW d.cache
  ap : vS.ownBlock = none ∨ vS.ownBlock ≠ vW.ownBlock
  n1 : vS.ownBlock ≠ some g
  n2 : vW.ownBlock ≠ some g
  le : W.heap.size ≤ g
  bel : Below W.heap.size W x

theorem cpyA {d : Dk} {W x : World} {vS vW : Value} (h1 : RBuf strE W.heap.size x x vS d.sec) (h2 : RBuf wrE W.heap.size x x vW d.cache) (h3 : vS.ownBlock = none ∨ vS.ownBlock ≠ vW.ownBlock) (hb : Below W.heap.size W x) :
    CpyE d W (x.alloc (.cells #[vS, vW] 27)) x.heap.size vS vW :=
  ⟨Box.new x _ _, (h1.alloc _).lown, (h2.alloc _).lown, h3, h1.above (Nat.le_refl _), h2.above (Nat.le_refl _), hb.size, hb.alloc hb.size _⟩

theorem cpyB {d : Dk} {W x : World} {vS vW : Value} {g : Nat} {z0 z1 : Value} (hx : Box x g #[z0, z1] 27) (h1 : RBuf strE W.heap.size x x vS d.sec) (h2 : RBuf wrE W.heap.size x x vW d.cache) (h3 : vS.ownBlock = none ∨ vS.ownBlock ≠ vW.ownBlock) (hb : Below W.heap.size W x)
    (n1 : vS.ownBlock ≠ some g) (n2 : vW.ownBlock ≠ some g) (hg : W.heap.size ≤ g) : CpyE d W ((x.setCell ⟨g, 0, none⟩ vS).setCell ⟨g, 1, none⟩ vW) g vS vW := by
  have hs : ((x.setCell ⟨g, 0, none⟩ vS).setCell ⟨g, 1, none⟩ vW).heap.size = x.heap.size := by simp
  refine ⟨?_, ?_, ?_, h3, n1, n2, hg, (hb.setCell (p := ⟨g, 0, none⟩) hg _).setCell (p := ⟨g, 1, none⟩) hg _⟩
  · have := (hx.set 0 vS).set 1 vW
    simpa using this
  · rw [hs]; exact (h1.lown.grown (stored_grown _ _ _ _) (.inr n1)).grown (stored_grown _ _ _ _) (.inr n1)
  · rw [hs]; exact (h2.lown.grown (stored_grown _ _ _ _) (.inr n2)).grown (stored_grown _ _ _ _) (.inr n2)

theorem CpyE.later {d : Dk} {W x y : World} {g : Nat} {vS vW : Value} (h : CpyE d W x g vS vW) (hb : Below x.heap.size x y) : CpyE d W y g vS vW :=
  ⟨h.box.later hb, (h.sec.later hb).wider hb.size (Nat.le_refl _), (h.cache.later hb).wider hb.size (Nat.le_refl _), h.ap, h.n1, h.n2, h.le, h.bel.trans (hb.mono h.bel.size)⟩

set_option maxRecDepth 100000 in
set_option maxHeartbeats 4000000 in
theorem copyDisk_any (d : Dk) (v : Value) (B T : Nat) (w : World) (h : DOwn B T w v d) (hs : d.small) (ht : ∀ s ∈ d.sec, s.size ≤ 1099511627776) (hu : ∀ x ∈ d.cache, x.text.size ≤ 1099511627776) :
    Calls Try.prog 43 #[v] w fun e w' => ∃ v', e = .returned v' ∧ DOwn w.heap.size w'.heap.size w' v' d ∧ Below w.heap.size w w' := by
  obtain ⟨va, vb, rfl, h1, h2, h3⟩ := h
  obtain ⟨aa, ca, rfl⟩ := h1.1.form
  obtain ⟨ab, cb, rfl⟩ := h2.1.form
  obtain ⟨s1, s2⟩ := hs
  obtain ⟨hx0, hx1, b0, hsz⟩ := two_boxes w #[.slice aa d.sec.length ca, .slice ab d.cache.length cb] #[.slice none 0 0, .slice none 0 0] 27 27
  go_enter Try.func43, Try.ntmps43
  go_upto_region 1 with fail
  generalize ((w.alloc (.cells #[.slice aa d.sec.length ca, .slice ab d.cache.length cb] 27)).alloc (.cells #[.slice none 0 0, .slice none 0 0] 27)) = W at hx0 hx1 b0 hsz ⊢
  have c0 := hx0.cell 0 (.slice aa d.sec.length ca) rfl
  have c1 := hx0.cell 1 (.slice ab d.cache.length cb) rfl
  go_cut [3] (fun p wx => ∃ (g : Nat) (pS pW : Option Addr) (qS qW : Nat), p = .pointer (some ⟨g, 0, none⟩) ∧ CpyE d W wx g (.slice pS d.sec.length qS) (.slice pW d.cache.length qW))
  case first =>
    have HS : Hid (∀ x : World, (x.cell? ⟨w.heap.size, 0, none⟩ = some (.slice aa d.sec.length ca) ∧ x.cell? ⟨w.heap.size, 1, none⟩ = some (.slice ab d.cache.length cb) ∧ Below W.heap.size W x) → RBuf strE B x x (.slice aa d.sec.length ca) d.sec ∧ RBuf wrE B x x (.slice ab d.cache.length cb) d.cache) :=
      fun x hx => ⟨(h1.later (b0.trans (hx.2.2.mono b0.size))).1, (h2.later (b0.trans (hx.2.2.mono b0.size))).1⟩
    have HK0 : Hid (W.drew.cell? ⟨w.heap.size, 0, none⟩ = some (.slice aa d.sec.length ca) ∧ W.drew.cell? ⟨w.heap.size, 1, none⟩ = some (.slice ab d.cache.length cb) ∧ Below W.heap.size W W.drew) := ⟨c0, c1, (Below.refl _ _).drew⟩
    have hlt : w.heap.size < W.heap.size := hx0.lt
    have HB0 : Hid (Box (W.alloc (.cells #[.slice none 0 0, .slice none 0 0] 27)).drew W.heap.size #[.slice none 0 0, .slice none 0 0] 27) := Box.new W _ _
    clear hx0 hx1 ht hu h1 h2 h3 c0 c1 hsz
    go_region_held3 (fun x => x.cell? ⟨w.heap.size, 0, none⟩ = some (.slice aa d.sec.length ca) ∧ x.cell? ⟨w.heap.size, 1, none⟩ = some (.slice ab d.cache.length cb) ∧ Below W.heap.size W x)
      (first | exact HK0.out | exact keep2 (by assumption) (belAlloc _ _) | exact keep2 (by assumption) kS | exact keep2 (by assumption) kW | exact keep2 hSS.out (belAlloc _ _) | exact keep2 hSW.out (belAlloc _ _) | exact keep2s hlt (Nat.le_refl _) (by assumption) | exact keep2s hlt tS (by assumption) | exact keep2s hlt tW (by assumption))
      (first
        | (go_at_call 49; refine (cloneS_any d.sec _ B _ (HS.out _ (by assumption)).1 s1).mono ?_; rintro e wS ⟨vS, rfl, rS⟩; have kS := rS.bel; have hSS := Lib.hid (keep2 (by assumption) kS); have tS : W.heap.size ≤ wS.heap.size := hSS.out.2.2.size; obtain ⟨pS, qS, rfl⟩ := rS.form; (first | (have bx : Box wS W.heap.size #[.slice none 0 0, .slice none 0 0] 27 := HB0.out.later kS; have z0 := bx.cell 0 _ rfl; have z1 := bx.cell 1 _ rfl; have f0 := bx.loose 0; have f1 := bx.loose 1) | (have bx : Box wS wW.heap.size #[.slice none 0 0, .slice none 0 0] 27 := (Box.new wW _ _).later kS; have z0 := bx.cell 0 _ rfl; have z1 := bx.cell 1 _ rfl; have f0 := bx.loose 0; have f1 := bx.loose 1) | (have bx2 := bx.later kS; have z0 := bx2.cell 0 _ rfl; have z1 := bx2.cell 1 _ rfl; have f0 := bx2.loose 0; have f1 := bx2.loose 1) | skip))
        | (go_at_call 50; refine (cloneW_any d.cache _ B _ (HS.out _ (by assumption)).2 s2).mono ?_; rintro e wW ⟨vW, rfl, rW⟩; have kW := rW.bel; have hSW := Lib.hid (keep2 (by assumption) kW); have tW : W.heap.size ≤ wW.heap.size := hSW.out.2.2.size; obtain ⟨pW, qW, rfl⟩ := rW.form; (first | (have bx : Box wW W.heap.size #[.slice none 0 0, .slice none 0 0] 27 := HB0.out.later kW; have z0 := bx.cell 0 _ rfl; have z1 := bx.cell 1 _ rfl; have f0 := bx.loose 0; have f1 := bx.loose 1) | (have bx : Box wW wS.heap.size #[.slice none 0 0, .slice none 0 0] 27 := (Box.new wS _ _).later kW; have z0 := bx.cell 0 _ rfl; have z1 := bx.cell 1 _ rfl; have f0 := bx.loose 0; have f1 := bx.loose 1) | (have bx2 := bx.later kW; have z0 := bx2.cell 0 _ rfl; have z1 := bx2.cell 1 _ rfl; have f0 := bx2.loose 0; have f1 := bx2.loose 1) | skip)))
    all_goals
      go_wp2_with fail
      go_meet
      first
        | exact ⟨_, _, _, _, _, rfl, cpyA ((rS.later kW).at0 (Nat.le_refl _)) (rW.at0 tS) (apart_up rS rW (Nat.le_refl _)) hSW.out.2.2⟩
        | exact ⟨_, _, _, _, _, rfl, cpyB bx (((rS.alloc _).later kW).at0 (Nat.le_refl _)) (rW.at0 (by simp; omega)) (apart_up rS rW (by simp)) hSW.out.2.2 (rS.above (Nat.le_refl _)) (rW.under (by simp)) tS⟩
        | exact ⟨_, _, _, _, _, rfl, cpyB bx2 ((rS.later kW).at0 (by show W.heap.size ≤ (W.alloc _).heap.size; simp)) (rW.at0 tS) (apart_up rS rW (Nat.le_refl _)) hSW.out.2.2 (rS.under (by show W.heap.size < (W.alloc _).heap.size; simp)) (rW.under (Nat.lt_of_lt_of_le (by show W.heap.size < (W.alloc _).heap.size; simp) kS.size)) (Nat.le_refl _)⟩
  case rest =>
    obtain ⟨g, pS, pW, qS, qW, rfl, hE⟩ := hcut
    have hX1 := Lib.hid hx1
    have HE := Lib.hid hE
    have m0 := hE.box.cell 0 _ rfl
    have m1 := hE.box.cell 1 _ rfl
    clear hx0 hx1 h1 h2 h3 c0 c1 hE
    simp only [List.getElem_toArray, List.getElem_cons_zero, List.getElem_cons_succ] at m0 m1
    go_wp2
    go_loopw [16] (fun iv wr => ∃ i : Nat, i ≤ d.sec.length ∧ iv = .int .i64 (i : Int) ∧ Below wc.heap.size wc wr) (fun iv _ => d.sec.length - (intOf iv).toNat)
    case atStart => exact ⟨0, by omega, rfl, Below.refl _ _⟩
    case round =>
      obtain ⟨i, hi, rfl, hbr⟩ := hrel
      have E1 := HE.out.later hbr
      by_cases hlt : i < d.sec.length
      · have hi0 : (0 : Int) ≤ (i : Int) := by omega
        have hi1 : (i : Int) < (d.sec.length : Int) := by omega
        obtain ⟨g1, rfl⟩ : ∃ g1 : Nat, pS = some ⟨g1, 0, none⟩ := by
          rcases E1.sec.1.own.2 with ⟨_, e⟩ | ⟨g, cap, cur, e, _⟩
          · omega
          · simp only [Value.slice.injEq] at e; exact ⟨g, e.1⟩
        have hat := List.getElem?_eq_getElem hlt
        have cS : wr.cell? ⟨g1, i, none⟩ = some (.string d.sec[i]) := by
          have := E1.sec.1.cell rfl i _ hat 0 _ rfl
          rw [show strE.sz = 1 from rfl, Nat.mul_one, Nat.add_zero] at this
          exact this
        have fS := E1.sec.1.loose i
        have k0 := E1.box.cell 0 (.slice (some ⟨g1, 0, none⟩) d.sec.length qS) rfl
        have htz := ht _ (List.getElem_mem hlt)
        clear hat E1 ht hu
        generalize d.sec[i] = t at *
        have HK0 : Hid (wr.drew.cell? ⟨g, 0, none⟩ = some (.slice (some ⟨g1, 0, none⟩) d.sec.length qS) ∧ wr.drew.cell? ⟨g1, i, none⟩ = some (.string t) ∧ wr.drew.frozen? ⟨g1, i, none⟩ = false ∧ Below wr.heap.size wr wr.drew) := ⟨k0, cS, fS, (Below.refl _ _).drew⟩
        have HK1 : Hid (∀ x y : World, (x.cell? ⟨g, 0, none⟩ = some (.slice (some ⟨g1, 0, none⟩) d.sec.length qS) ∧ x.cell? ⟨g1, i, none⟩ = some (.string t) ∧ x.frozen? ⟨g1, i, none⟩ = false ∧ Below wr.heap.size wr x) → Below x.heap.size x y → (y.cell? ⟨g, 0, none⟩ = some (.slice (some ⟨g1, 0, none⟩) d.sec.length qS) ∧ y.cell? ⟨g1, i, none⟩ = some (.string t) ∧ y.frozen? ⟨g1, i, none⟩ = false ∧ Below wr.heap.size wr y)) :=
          fun x y h hb => ⟨(hb.cell (p := ⟨g, 0, none⟩) (World.block_lt_of_cell? _ _ h.1)).trans h.1, (hb.cell (p := ⟨g1, i, none⟩) (World.block_lt_of_cell? _ _ h.2.1)).trans h.2.1, (hb.frozen (p := ⟨g1, i, none⟩) (World.block_lt_of_cell? _ _ h.2.1)).trans h.2.2.1, h.2.2.2.trans (hb.mono h.2.2.2.size)⟩
        have HK2 : Hid (∀ x : World, (x.cell? ⟨g, 0, none⟩ = some (.slice (some ⟨g1, 0, none⟩) d.sec.length qS) ∧ x.cell? ⟨g1, i, none⟩ = some (.string t) ∧ x.frozen? ⟨g1, i, none⟩ = false ∧ Below wr.heap.size wr x) → ((x.setCell ⟨g1, i, none⟩ (.string t)).cell? ⟨g, 0, none⟩ = some (.slice (some ⟨g1, 0, none⟩) d.sec.length qS) ∧ (x.setCell ⟨g1, i, none⟩ (.string t)).cell? ⟨g1, i, none⟩ = some (.string t) ∧ (x.setCell ⟨g1, i, none⟩ (.string t)).frozen? ⟨g1, i, none⟩ = false ∧ Below wr.heap.size wr (x.setCell ⟨g1, i, none⟩ (.string t)))) :=
          fun x h => by rw [setCell_self h.2.1]; exact h
        go_wp2
        go_region_held3 (fun x => x.cell? ⟨g, 0, none⟩ = some (.slice (some ⟨g1, 0, none⟩) d.sec.length qS) ∧ x.cell? ⟨g1, i, none⟩ = some (.string t) ∧ x.frozen? ⟨g1, i, none⟩ = false ∧ Below wr.heap.size wr x)
          (first | exact HK0.out | exact HK1.out _ _ (by assumption) k1 | exact HK2.out _ (by assumption))
          (first | (go_at_call 22; refine (clone_any _ _ (by omega)).mono ?_; rintro e w1 ⟨rfl, k1⟩))
        all_goals
          rename_i hHeld
          have BH := Lib.hid hHeld.2.2.2
          clear hHeld HK0 HK1 HK2
          go_wp2
          go_roundw
          case rel => exact ⟨i + 1, by omega, by go_num, hbr.trans (BH.out.mono hbr.size)⟩
          case measure => simp [intOf]; omega
      · have HE1 := Lib.hid E1
        have k1 := E1.box.cell 1 (.slice pW d.cache.length qW) rfl
        clear E1 HE m0 m1 ht
        go_wp2
        obtain ⟨wa, hwa⟩ : ∃ wa, wa = wr := ⟨_, rfl⟩
        subst hwa
        go_loopw [33] (fun iv wr => ∃ j : Nat, j ≤ d.cache.length ∧ iv = .int .i64 (j : Int) ∧ Below wa.heap.size wa wr) (fun iv _ => d.cache.length - (intOf iv).toNat)
        case atStart => exact ⟨0, by omega, rfl, Below.refl _ _⟩
        case round =>
          obtain ⟨j, hj, rfl, hbr2⟩ := hrel
          have E1 := HE1.out.later hbr2
          by_cases hlt : j < d.cache.length
          · have hi0 : (0 : Int) ≤ (j : Int) := by omega
            have hi1 : (j : Int) < (d.cache.length : Int) := by omega
            obtain ⟨g2, rfl⟩ : ∃ g2 : Nat, pW = some ⟨g2, 0, none⟩ := by
              rcases E1.cache.1.own.2 with ⟨_, e⟩ | ⟨g, cap, cur, e, _⟩
              · omega
              · simp only [Value.slice.injEq] at e; exact ⟨g, e.1⟩
            have hat := List.getElem?_eq_getElem hlt
            have cS : wr.cell? ⟨g2, j * 2 + 1, none⟩ = some (.string d.cache[j].text) := E1.cache.1.cell rfl j _ hat 1 _ rfl
            have fS := E1.cache.1.loose (j * 2 + 1)
            have k0 := E1.box.cell 1 (.slice (some ⟨g2, 0, none⟩) d.cache.length qW) rfl
            have htz := hu _ (List.getElem_mem hlt)
            clear hat E1 hu k1
            generalize d.cache[j].text = t at *
            have HK0 : Hid (wr.drew.cell? ⟨g, 1, none⟩ = some (.slice (some ⟨g2, 0, none⟩) d.cache.length qW) ∧ wr.drew.cell? ⟨g2, j * 2 + 1, none⟩ = some (.string t) ∧ wr.drew.frozen? ⟨g2, j * 2 + 1, none⟩ = false ∧ Below wr.heap.size wr wr.drew) := ⟨k0, cS, fS, (Below.refl _ _).drew⟩
            have HK1 : Hid (∀ x y : World, (x.cell? ⟨g, 1, none⟩ = some (.slice (some ⟨g2, 0, none⟩) d.cache.length qW) ∧ x.cell? ⟨g2, j * 2 + 1, none⟩ = some (.string t) ∧ x.frozen? ⟨g2, j * 2 + 1, none⟩ = false ∧ Below wr.heap.size wr x) → Below x.heap.size x y → (y.cell? ⟨g, 1, none⟩ = some (.slice (some ⟨g2, 0, none⟩) d.cache.length qW) ∧ y.cell? ⟨g2, j * 2 + 1, none⟩ = some (.string t) ∧ y.frozen? ⟨g2, j * 2 + 1, none⟩ = false ∧ Below wr.heap.size wr y)) :=
              fun x y h hb => ⟨(hb.cell (p := ⟨g, 1, none⟩) (World.block_lt_of_cell? _ _ h.1)).trans h.1, (hb.cell (p := ⟨g2, j * 2 + 1, none⟩) (World.block_lt_of_cell? _ _ h.2.1)).trans h.2.1, (hb.frozen (p := ⟨g2, j * 2 + 1, none⟩) (World.block_lt_of_cell? _ _ h.2.1)).trans h.2.2.1, h.2.2.2.trans (hb.mono h.2.2.2.size)⟩
            have HK2 : Hid (∀ x : World, (x.cell? ⟨g, 1, none⟩ = some (.slice (some ⟨g2, 0, none⟩) d.cache.length qW) ∧ x.cell? ⟨g2, j * 2 + 1, none⟩ = some (.string t) ∧ x.frozen? ⟨g2, j * 2 + 1, none⟩ = false ∧ Below wr.heap.size wr x) → ((x.setCell ⟨g2, j * 2 + 1, none⟩ (.string t)).cell? ⟨g, 1, none⟩ = some (.slice (some ⟨g2, 0, none⟩) d.cache.length qW) ∧ (x.setCell ⟨g2, j * 2 + 1, none⟩ (.string t)).cell? ⟨g2, j * 2 + 1, none⟩ = some (.string t) ∧ (x.setCell ⟨g2, j * 2 + 1, none⟩ (.string t)).frozen? ⟨g2, j * 2 + 1, none⟩ = false ∧ Below wr.heap.size wr (x.setCell ⟨g2, j * 2 + 1, none⟩ (.string t)))) :=
              fun x h => by rw [setCell_self h.2.1]; exact h
            go_wp2
            go_region_held3 (fun x => x.cell? ⟨g, 1, none⟩ = some (.slice (some ⟨g2, 0, none⟩) d.cache.length qW) ∧ x.cell? ⟨g2, j * 2 + 1, none⟩ = some (.string t) ∧ x.frozen? ⟨g2, j * 2 + 1, none⟩ = false ∧ Below wr.heap.size wr x)
              (first | exact HK0.out | exact HK1.out _ _ (by assumption) k1 | exact HK2.out _ (by assumption))
              (first | (go_at_call 22; refine (clone_any _ _ (by omega)).mono ?_; rintro e w1 ⟨rfl, k1⟩))
            all_goals
              rename_i hHeld
              have BH := Lib.hid hHeld.2.2.2
              clear hHeld HK0 HK1 HK2
              go_wp2
              go_roundw
              case rel => exact ⟨j + 1, by omega, by go_num, hbr2.trans (BH.out.mono hbr2.size)⟩
              case measure => simp [intOf]; omega
          · have bW : Below W.heap.size W wr := E1.bel
            have x5 := hX1.out.later bW
            have m0 := E1.box.cell 0 (.slice pS d.sec.length qS) rfl
            have m1 := E1.box.cell 1 (.slice pW d.cache.length qW) rfl
            have r0 := x5.cell 0 (.slice none 0 0) rfl
            have r1 := x5.cell 1 (.slice none 0 0) rfl
            have f0 := x5.loose 0
            have f1 := x5.loose 1
            have EE := Lib.hid E1
            have bF := Lib.hid (b0.trans (bW.mono b0.size))
            have HSZ := Lib.hid hsz
            clear E1 bW k1 hsz x5 hu
            go_wp2
            have hWl : w.heap.size + 1 < W.heap.size := by have := HSZ.out; omega
            have q1 := (EE.out.sec.store (w.heap.size + 1) 0 (.slice pS d.sec.length qS) hWl).store (w.heap.size + 1) 1 (.slice pW d.cache.length qW) hWl
            have q2 := (EE.out.cache.store (w.heap.size + 1) 0 (.slice pS d.sec.length qS) hWl).store (w.heap.size + 1) 1 (.slice pW d.cache.length qW) hWl
            refine bodyPost_ret (v := .agg #[.slice pS d.sec.length qS, .slice pW d.cache.length qW]) (by simp [results, Try.results43, go_sem, r0, r1]) rfl ?_
            exact ⟨_, rfl, ⟨_, _, rfl, (q1.deeper (by omega)).wider (by simp) (Nat.le_refl _), (q2.deeper (by omega)).wider (by simp) (Nat.le_refl _), EE.out.ap⟩, (bF.out.setCell (p := ⟨w.heap.size + 1, 0, none⟩) (by simp) _).setCell (p := ⟨w.heap.size + 1, 1, none⟩) (by simp) _⟩

end Go.Proofs.Ytmmgnpjhlmiafab
