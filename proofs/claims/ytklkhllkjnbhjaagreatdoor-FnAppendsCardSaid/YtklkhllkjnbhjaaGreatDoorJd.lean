/- Texts of our own, joined. -/
import Derived.Test.YtklkhllkjnbhjaaGreatDoorJb
import Derived.Test.YtklkhllkjnbhjaaGreatDoorJc
import Derived.Lib.SliceRun
import Derived.Deep.DeepCutAuto
/- Disks: what the model's functions hand back that make disks. -/
namespace Go.Proofs.YtklkhllkjnbhjaaGreatDoor
open Go.RowKit
set_option maxRecDepth 100000
set_option maxHeartbeats 8000000
theorem emptyRow {α : Type} (E : Enc α) {B g g' : Nat} {w : World} (h : w.heap[g']? = some (.cells #[] E.ty (0, 0))) (hg : g = g') (hB : B ≤ g) (hs : B ≤ w.heap.size) : RBuf E B w w (.slice (some ⟨g, 0, none⟩) 0 0) [] := by
  subst hg; exact ⟨⟨by simp [Enc.row], .inr ⟨g, 0, #[], rfl, hB, h, Nat.le_refl _, by decide, by simp, by simp [Enc.row]⟩⟩, Below.refl _ _, hs⟩
theorem boxG {w w' : World} {r : Option Nat} {g : Nat} {o : Obj} (hg : w.grownBy w' r) (h : w.heap[g]? = some o) (hne : some g ≠ r) : w'.heap[g]? = some o := by
  have hlt : g < w.heap.size := (Array.getElem?_eq_some_iff.1 h).1; rw [hg.block g hlt hne, h]
theorem copy_end {l : List ByteArray} {C gb : Nat} {wA X wB : World} {vA vB : Value} (hA : RBuf strE C wA wA vA l) (hX : RBuf strE C X X vA l) (hs : wA.heap.size ≤ X.heap.size) (gB : X.grownBy wB (some gb)) (hne : vA.ownBlock ≠ some gb)
    (atB : vB.ownBlock = some gb ∨ vB.ownBlock = some X.heap.size) : RBuf strE C wB wB vA l ∧ (vA.ownBlock = none ∨ vA.ownBlock ≠ vB.ownBlock) := by
  refine ⟨hX.shift gB (.inr hne), .inr ?_⟩; rcases atB with e | e
  · rw [e]; exact hne
  · intro h
    rw [e] at h; have := (hA.own.lt _ h).2; omega
theorem copy_end1 {l : List ByteArray} {C : Nat} {wA wB : World} {o : Obj} {vA vB : Value} (hA : RBuf strE C wA wA vA l) (gB : (wA.alloc o).grownBy wB (some wA.heap.size))
    (atB : vB.ownBlock = some wA.heap.size ∨ vB.ownBlock = some (wA.alloc o).heap.size) : RBuf strE C wB wB vA l ∧ (vA.ownBlock = none ∨ vA.ownBlock ≠ vB.ownBlock) :=
  copy_end hA (hA.alloc o).here (by simp) gB (fun h => by have := (hA.own.lt _ h).2; omega) atB
theorem copy_end2 {l : List ByteArray} {C : Nat} {W wA wB : World} {o1 o2 : Obj} {vA vB : Value} (hA : RBuf strE C wA wA vA l) (gB : wA.grownBy wB (some (W.heap.size + 1)))
    (atA : vA.ownBlock = some W.heap.size ∨ vA.ownBlock = some ((W.alloc o1).alloc o2).drew.heap.size) (atB : vB.ownBlock = some (W.heap.size + 1) ∨ vB.ownBlock = some wA.heap.size) : RBuf strE C wB wB vA l ∧ (vA.ownBlock = none ∨ vA.ownBlock ≠ vB.ownBlock) :=
  copy_end hA hA (Nat.le_refl _) gB (fun h => by
    have e : ((W.alloc o1).alloc o2).drew.heap.size = W.heap.size + 2 := by show ((W.alloc o1).alloc o2).heap.size = _; simp
    rcases atA with a | a <;> rw [a] at h <;> have := Option.some.inj h <;> omega) atB
theorem copy_end3 {l : List ByteArray} {C : Nat} {W wA wB : World} {o1 o2 : Obj} {vA vB : Value} (hA : RBuf strE C wA wA vA l) (gB : wA.grownBy wB (some W.heap.size))
    (atA : vA.ownBlock = some (W.heap.size + 1) ∨ vA.ownBlock = some ((W.alloc o1).alloc o2).drew.heap.size) (atB : vB.ownBlock = some W.heap.size ∨ vB.ownBlock = some wA.heap.size) : RBuf strE C wB wB vA l ∧ (vA.ownBlock = none ∨ vA.ownBlock ≠ vB.ownBlock) :=
  copy_end hA hA (Nat.le_refl _) gB (fun h => by
    have e : ((W.alloc o1).alloc o2).drew.heap.size = W.heap.size + 2 := by show ((W.alloc o1).alloc o2).heap.size = _; simp
    rcases atA with a | a <;> rw [a] at h <;> have := Option.some.inj h <;> omega) atB
theorem specCopy_any (d : Dk) (v : Value) (B T : Nat) (w : World) (h : DOwn B T w v d) (hs : d.small) :
    Calls Tryz.prog 75 #[v] w fun e w' => ∃ v', e = .returned v' ∧ DOwn w.heap.size w'.heap.size w' v' d ∧ Below w.heap.size w w' := by
  obtain ⟨va, vb, rfl, h1, h2, h3⟩ := h; obtain ⟨aa, ca, rfl⟩ := h1.1.form; obtain ⟨ab, cb, rfl⟩ := h2.1.form; obtain ⟨s1, s2⟩ := hs; obtain ⟨hx0, hx1, b0, hsz⟩ : Box ((w.alloc (.cells #[.slice aa d.sec.length ca, .slice ab d.cache.length cb] 27)).alloc (.cells #[.slice none 0 0, .slice none 0 0] 27)) w.heap.size #[.slice aa d.sec.length ca, .slice ab d.cache.length cb] 27 ∧
      Box ((w.alloc (.cells #[.slice aa d.sec.length ca, .slice ab d.cache.length cb] 27)).alloc (.cells #[.slice none 0 0, .slice none 0 0] 27)) (w.heap.size + 1) #[.slice none 0 0, .slice none 0 0] 27 ∧
      Below w.heap.size w ((w.alloc (.cells #[.slice aa d.sec.length ca, .slice ab d.cache.length cb] 27)).alloc (.cells #[.slice none 0 0, .slice none 0 0] 27)) ∧
      ((w.alloc (.cells #[.slice aa d.sec.length ca, .slice ab d.cache.length cb] 27)).alloc (.cells #[.slice none 0 0, .slice none 0 0] 27)).heap.size = w.heap.size + 2 := by
    have e1 : (w.alloc (.cells #[.slice aa d.sec.length ca, .slice ab d.cache.length cb] 27)).heap.size = w.heap.size + 1 := by simp
    have q0 := Box.new w #[.slice aa d.sec.length ca, .slice ab d.cache.length cb] 27; have q1 := Box.new (w.alloc (.cells #[.slice aa d.sec.length ca, .slice ab d.cache.length cb] 27)) #[.slice none 0 0, .slice none 0 0] 27; rw [e1] at q1; exact ⟨q0.later ((Below.refl _ _).alloc (Nat.le_refl _) _), q1, ((Below.refl _ _).alloc (Nat.le_refl _) _).alloc (by simp) _, by simp⟩
  go_enter Tryz.func75, Tryz.ntmps75
  go_wp2; generalize ((w.alloc (.cells #[.slice aa d.sec.length ca, .slice ab d.cache.length cb] 27)).alloc (.cells #[.slice none 0 0, .slice none 0 0] 27)) = W at hx0 hx1 b0 hsz ⊢; have c0 := hx0.cell 0 (.slice aa d.sec.length ca) rfl; have c1 := hx0.cell 1 (.slice ab d.cache.length cb) rfl; have hd1 : Below w.heap.size w W.drew := b0.drew; have HK0 : Hid (W.drew.cell? ⟨w.heap.size, 0, none⟩ = some (.slice aa d.sec.length ca) ∧ W.drew.cell? ⟨w.heap.size, 1, none⟩ = some (.slice ab d.cache.length cb) ∧ Below w.heap.size w W.drew ∧ W.heap.size ≤ W.drew.heap.size ∧ ∃ u0 u1, Box W.drew (w.heap.size + 1) #[u0, u1] 27) := ⟨c0, c1, b0.drew, Nat.le_refl _, _, _, hx1⟩; have HK1 : Hid (∀ (x : World) (o : Obj), (x.cell? ⟨w.heap.size, 0, none⟩ = some (.slice aa d.sec.length ca) ∧ x.cell? ⟨w.heap.size, 1, none⟩ = some (.slice ab d.cache.length cb) ∧ Below w.heap.size w x ∧ W.heap.size ≤ x.heap.size ∧ ∃ u0 u1, Box x (w.heap.size + 1) #[u0, u1] 27) → ((x.alloc o).cell? ⟨w.heap.size, 0, none⟩ = some (.slice aa d.sec.length ca) ∧ (x.alloc o).cell? ⟨w.heap.size, 1, none⟩ = some (.slice ab d.cache.length cb) ∧ Below w.heap.size w (x.alloc o) ∧ W.heap.size ≤ (x.alloc o).heap.size ∧ ∃ u0 u1, Box (x.alloc o) (w.heap.size + 1) #[u0, u1] 27)) := by
    intro x o ⟨h1, h2, h3, h4, u0, u1, h5⟩; have hb : Below x.heap.size x (x.alloc o) := (Below.refl _ _).alloc (Nat.le_refl _) _; refine ⟨(hb.cell (p := ⟨w.heap.size, 0, none⟩) (World.block_lt_of_cell? _ _ h1)).trans h1, (hb.cell (p := ⟨w.heap.size, 1, none⟩) (World.block_lt_of_cell? _ _ h2)).trans h2, h3.alloc (by omega) o, Nat.le_trans h4 hb.size, u0, u1, h5.later hb⟩
  have HK2 : Hid (∀ (x y : World) (r : Option Nat), (x.cell? ⟨w.heap.size, 0, none⟩ = some (.slice aa d.sec.length ca) ∧ x.cell? ⟨w.heap.size, 1, none⟩ = some (.slice ab d.cache.length cb) ∧ Below w.heap.size w x ∧ W.heap.size ≤ x.heap.size ∧ ∃ u0 u1, Box x (w.heap.size + 1) #[u0, u1] 27) → x.grownBy y r → (∀ k, r = some k → W.heap.size ≤ k ∧ k < x.heap.size) → (y.cell? ⟨w.heap.size, 0, none⟩ = some (.slice aa d.sec.length ca) ∧ y.cell? ⟨w.heap.size, 1, none⟩ = some (.slice ab d.cache.length cb) ∧ Below w.heap.size w y ∧ W.heap.size ≤ y.heap.size ∧ ∃ u0 u1, Box y (w.heap.size + 1) #[u0, u1] 27)) := by
    intro x y r ⟨h1, h2, h3, h4, u0, u1, h5⟩ hg hr; refine ⟨hg.cell h1 (fun e => by have := hr _ e.symm; simp at this; omega), hg.cell h2 (fun e => by have := hr _ e.symm; simp at this; omega), h3.grown hg (by omega) (fun k hk => by have := hr k hk; omega), Nat.le_trans h4 hg.size, u0, u1, ?_⟩; exact (hg.block _ h5.lt (fun e => by have := hr _ e.symm; omega)).trans h5
  have HK3 : Hid (∀ (x : World) (y z : Value), (x.cell? ⟨w.heap.size, 0, none⟩ = some (.slice aa d.sec.length ca) ∧ x.cell? ⟨w.heap.size, 1, none⟩ = some (.slice ab d.cache.length cb) ∧ Below w.heap.size w x ∧ W.heap.size ≤ x.heap.size ∧ ∃ u0 u1, Box x (w.heap.size + 1) #[u0, u1] 27) → (((x.setCell ⟨w.heap.size + 1, 0, none⟩ y).setCell ⟨w.heap.size + 1, 1, none⟩ z).cell? ⟨w.heap.size, 0, none⟩ = some (.slice aa d.sec.length ca) ∧ ((x.setCell ⟨w.heap.size + 1, 0, none⟩ y).setCell ⟨w.heap.size + 1, 1, none⟩ z).cell? ⟨w.heap.size, 1, none⟩ = some (.slice ab d.cache.length cb) ∧ Below w.heap.size w ((x.setCell ⟨w.heap.size + 1, 0, none⟩ y).setCell ⟨w.heap.size + 1, 1, none⟩ z) ∧ W.heap.size ≤ ((x.setCell ⟨w.heap.size + 1, 0, none⟩ y).setCell ⟨w.heap.size + 1, 1, none⟩ z).heap.size ∧ ∃ u0 u1, Box ((x.setCell ⟨w.heap.size + 1, 0, none⟩ y).setCell ⟨w.heap.size + 1, 1, none⟩ z) (w.heap.size + 1) #[u0, u1] 27)) := by
    intro x y z ⟨h1, h2, h3, h4, u0, u1, h5⟩; refine ⟨?_, ?_, (h3.setCell (p := ⟨w.heap.size + 1, 0, none⟩) (by simp) y).setCell (p := ⟨w.heap.size + 1, 1, none⟩) (by simp) z, by simpa using h4, y, z, ?_⟩
    · rw [World.cell?_setCell_other _ _ _ _ (by simp), World.cell?_setCell_other _ _ _ _ (by simp)]; exact h1
    · rw [World.cell?_setCell_other _ _ _ _ (by simp), World.cell?_setCell_other _ _ _ _ (by simp)]; exact h2
    · have := (h5.set 0 y).set 1 z
      simpa using this
  have HS : Hid (∀ w', (w'.cell? ⟨w.heap.size, 0, none⟩ = some (.slice aa d.sec.length ca) ∧ w'.cell? ⟨w.heap.size, 1, none⟩ = some (.slice ab d.cache.length cb) ∧ Below w.heap.size w w' ∧ W.heap.size ≤ w'.heap.size ∧ ∃ u0 u1, Box w' (w.heap.size + 1) #[u0, u1] 27) → RBuf strE B w' w' (.slice aa d.sec.length ca) d.sec ∧ RBuf wrE B w' w' (.slice ab d.cache.length cb) d.cache) := fun w' hw => ⟨(h1.later hw.2.2.1).1, (h2.later hw.2.2.1).1⟩; have sAB : (W.alloc (.cells #[] 9)).heap.size = W.heap.size + 1 := by simp
  have sBA : (W.alloc (.cells #[] 63)).heap.size = W.heap.size + 1 := by simp
  have HA1 : Hid (RBuf strE W.heap.size (W.alloc (.cells #[] 9)).drew (W.alloc (.cells #[] 9)).drew (.slice (some ⟨W.heap.size, 0, none⟩) 0 0) []) :=
    emptyRow strE (Box.new W #[] 9) rfl (Nat.le_refl _) (by show W.heap.size ≤ (W.alloc _).heap.size; simp)
  have HA2 : Hid (RBuf strE W.heap.size ((W.alloc (.cells #[] 9)).alloc (.cells #[] 63)).drew ((W.alloc (.cells #[] 9)).alloc (.cells #[] 63)).drew (.slice (some ⟨W.heap.size, 0, none⟩) 0 0) []) :=
    emptyRow strE ((Box.new W #[] 9).later (((Below.refl _ _).alloc (Nat.le_refl _) _).drew)) rfl (Nat.le_refl _) (by show W.heap.size ≤ ((W.alloc _).alloc _).heap.size; simp; omega)
  have HA3 : Hid (RBuf strE W.heap.size ((W.alloc (.cells #[] 63)).alloc (.cells #[] 9)).drew ((W.alloc (.cells #[] 63)).alloc (.cells #[] 9)).drew (.slice (some ⟨W.heap.size + 1, 0, none⟩) 0 0) []) :=
    emptyRow strE (Box.new (W.alloc (.cells #[] 63)) #[] 9) sBA.symm (by omega) (by show W.heap.size ≤ ((W.alloc _).alloc _).heap.size; simp; omega)
  have HB1 : Hid (∀ (x : World) (r : Option Nat), (W.alloc (.cells #[] 9)).drew.grownBy x r → RBuf wrE W.heap.size (x.alloc (.cells #[] 63)) (x.alloc (.cells #[] 63)) (.slice (some ⟨x.heap.size, 0, none⟩) 0 0) []) :=
    fun x r hg => by
      have hx : W.heap.size ≤ x.heap.size := Nat.le_trans (by show W.heap.size ≤ (W.alloc _).heap.size; simp) hg.size
      exact emptyRow wrE (Box.new x #[] 63) rfl hx (by simp; omega)
  have HB2 : Hid (∀ (x : World), ((W.alloc (.cells #[] 9)).alloc (.cells #[] 63)).drew.grownBy x (some W.heap.size) → RBuf wrE W.heap.size x x (.slice (some ⟨W.heap.size + 1, 0, none⟩) 0 0) []) := by
    intro x hg; have hbx := Box.new (W.alloc (.cells #[] 9)) #[] 63; rw [sAB] at hbx; exact emptyRow wrE (boxG hg hbx (fun e => by have := Option.some.inj e; omega)) rfl (by omega) (Nat.le_trans (by show W.heap.size ≤ ((W.alloc _).alloc _).heap.size; simp; omega) hg.size)
  have HB3 : Hid (∀ (x : World), ((W.alloc (.cells #[] 63)).alloc (.cells #[] 9)).drew.grownBy x (some (W.heap.size + 1)) → RBuf wrE W.heap.size x x (.slice (some ⟨W.heap.size, 0, none⟩) 0 0) []) := by
    intro x hg; have hbx := (Box.new W #[] 63).later ((Below.refl _ _).alloc (Nat.le_refl _) (.cells #[] 9)); exact emptyRow wrE (boxG hg hbx (fun e => by have := Option.some.inj e; omega)) rfl (Nat.le_refl _) (Nat.le_trans (by show W.heap.size ≤ ((W.alloc _).alloc _).heap.size; simp; omega) hg.size)
  have HSZ := Lib.hid hsz; clear hx0 h1 h2 h3 hsz sAB sBA; go_region_held3 (fun w' => w'.cell? ⟨w.heap.size, 0, none⟩ = some (.slice aa d.sec.length ca) ∧ w'.cell? ⟨w.heap.size, 1, none⟩ = some (.slice ab d.cache.length cb) ∧ Below w.heap.size w w' ∧ W.heap.size ≤ w'.heap.size ∧ ∃ u0 u1, Box w' (w.heap.size + 1) #[u0, u1] 27)
    (first | exact HK0.out | exact HK1.out _ _ (by assumption) | exact HK2.out _ _ _ (by assumption) gA lA | exact HK2.out _ _ _ (by assumption) gB lB | exact HK3.out _ _ _ (by assumption))
    (first
      | (refine step_append_rows (by rfl) _ _ strE (by rfl) W.heap.size _ [] (by rfl) (by first | exact HA1.out | exact HA2.out | exact HA3.out) B _ d.sec (by rfl) (by first | exact (HS.out _ (by assumption)).1) (by simp [strE]; omega) ?_; intro vA wA hA gA atA lA; rw [List.nil_append] at hA; obtain ⟨pA, cA, rfl⟩ := hA.form; obtain ⟨_, _, _, _, u0, u1, hbx⟩ := HK2.out _ _ _ (by assumption) gA lA; have z0 := hbx.cell 0 u0 rfl; have z1 := hbx.cell 1 u1 rfl; have f0 := hbx.loose 0; have f1 := hbx.loose 1; clear hbx)
      | (refine step_append_rows (by rfl) _ _ wrE (by rfl) W.heap.size _ [] (by rfl) (by first | exact HB1.out _ _ gA | exact HB2.out _ gA | exact HB3.out _ gA) B _ d.cache (by rfl) (by first | exact (HS.out _ (by assumption)).2) (by simp [wrE]; omega) ?_; intro vB wB hB gB atB lB; rw [List.nil_append] at hB; obtain ⟨pB, cB, rfl⟩ := hB.form; obtain ⟨_, _, _, _, u0, u1, hbx⟩ := HK2.out _ _ _ (by assumption) gB lB; have z0 := hbx.cell 0 u0 rfl; have z1 := hbx.cell 1 u1 rfl; have f0 := hbx.loose 0; have f1 := hbx.loose 1; clear hbx))
  all_goals
    have hF : (((wB.setCell ⟨w.heap.size + 1, 0, none⟩ (.slice pA d.sec.length cA)).setCell ⟨w.heap.size + 1, 1, none⟩ (.slice pB d.cache.length cB)).cell? ⟨w.heap.size, 0, none⟩ = some (.slice aa d.sec.length ca) ∧ ((wB.setCell ⟨w.heap.size + 1, 0, none⟩ (.slice pA d.sec.length cA)).setCell ⟨w.heap.size + 1, 1, none⟩ (.slice pB d.cache.length cB)).cell? ⟨w.heap.size, 1, none⟩ = some (.slice ab d.cache.length cb) ∧ Below w.heap.size w ((wB.setCell ⟨w.heap.size + 1, 0, none⟩ (.slice pA d.sec.length cA)).setCell ⟨w.heap.size + 1, 1, none⟩ (.slice pB d.cache.length cB)) ∧ W.heap.size ≤ ((wB.setCell ⟨w.heap.size + 1, 0, none⟩ (.slice pA d.sec.length cA)).setCell ⟨w.heap.size + 1, 1, none⟩ (.slice pB d.cache.length cB)).heap.size ∧ ∃ u0 u1, Box ((wB.setCell ⟨w.heap.size + 1, 0, none⟩ (.slice pA d.sec.length cA)).setCell ⟨w.heap.size + 1, 1, none⟩ (.slice pB d.cache.length cB)) (w.heap.size + 1) #[u0, u1] 27) := by assumption
    have hfin : RBuf strE W.heap.size wB wB (.slice pA d.sec.length cA) d.sec ∧ ((Value.slice pA d.sec.length cA).ownBlock = none ∨ (Value.slice pA d.sec.length cA).ownBlock ≠ (Value.slice pB d.cache.length cB).ownBlock) := by
      first
        | exact copy_end1 hA gB atB
        | exact copy_end2 hA gB atA atB
        | exact copy_end3 hA gB atA atB
    have HF := Lib.hid hF; have HFIN := Lib.hid hfin; have HHB := Lib.hid hB; clear hF hfin hB hA gA gB atA atB lA lB hd1; go_wp2; obtain ⟨_, _, bF, _, _⟩ := HF.out; refine bodyPost_ret (v := .agg #[.slice pA d.sec.length cA, .slice pB d.cache.length cB]) (by simp [results, Tryz.results75, go_sem, z0, z1]) rfl ⟨_, rfl, ?_, bF⟩; have hWl : w.heap.size + 1 < W.heap.size := by have := HSZ.out; omega
    have q1 := (HFIN.out.1.lown.store (w.heap.size + 1) 0 (.slice pA d.sec.length cA) hWl).store (w.heap.size + 1) 1 (.slice pB d.cache.length cB) hWl; have q2 := (HHB.out.lown.store (w.heap.size + 1) 0 (.slice pA d.sec.length cA) hWl).store (w.heap.size + 1) 1 (.slice pB d.cache.length cB) hWl; exact ⟨_, _, rfl, (q1.deeper (by omega)).wider (by simp) (Nat.le_refl _), (q2.deeper (by omega)).wider (by simp) (Nat.le_refl _), HFIN.out.2⟩
theorem DOwn.store {B T : Nat} {w : World} {v : Value} {d : Dk} (h : DOwn B T w v d) (g i : Nat) (u : Value) (hg : g < B) : DOwn B T (w.setCell ⟨g, i, none⟩ u) v d := by
  obtain ⟨va, vb, hv, h1, h2, h3⟩ := h; exact ⟨va, vb, hv, h1.store g i u hg, h2.store g i u hg, h3⟩
theorem DOwn.widen {B T B' T' : Nat} {w : World} {v : Value} {d : Dk} (h : DOwn B T w v d) (hB : B' ≤ B) (hT : T ≤ T') (hs : T' ≤ w.heap.size) : DOwn B' T' w v d := by
  obtain ⟨va, vb, hv, h1, h2, h3⟩ := h; exact ⟨va, vb, hv, (h1.deeper hB).wider hT hs, (h2.deeper hB).wider hT hs, h3⟩
def wrOk (d : Dk) (a : Int) (t : ByteArray) : Prop := d.ok ∧ (0 ≤ a ∧ a < d.sec.length) ∧ t.size = 32 ∧ d.cache.length < 60
instance (d : Dk) (a : Int) (t : ByteArray) : Decidable (wrOk d a t) := by unfold wrOk; infer_instance
def wrD (d : Dk) (a : Int) (t : ByteArray) : Dk := if wrOk d a t then ⟨d.sec, d.cache ++ [⟨a, t⟩]⟩ else d
def DiskR (d : Dk) (f : Bool) (w : World) (e : Ending) (w' : World) : Prop := ∃ v', e = .returned (.tuple #[v', .bool f]) ∧ DOwn w.heap.size w'.heap.size w' v' d ∧ Below w.heap.size w w'
theorem specWriteSector_any (d : Dk) (v : Value) (a : Int) (t : ByteArray) (B T : Nat) (w : World) (h : DOwn B T w v d) (hs : d.small) (ht : ∀ s ∈ d.sec, s.size ≤ 1099511627776) (hu : ∀ x ∈ d.cache, x.text.size ≤ 1099511627776) (_htz : t.size ≤ 1099511627776) :
    Calls Tryz.prog 70 #[v, .int .i64 a, .string t] w fun e w' => DiskR (wrD d a t) (decide (wrOk d a t)) w e w' := by
  obtain ⟨aa, ab, ca, cb, rfl⟩ := h.form; obtain ⟨hx0, hx1, b0, hsz⟩ : Box ((w.alloc (.cells #[.slice aa d.sec.length ca, .slice ab d.cache.length cb] 27)).alloc (.cells #[.slice none 0 0, .slice none 0 0] 27)) w.heap.size #[.slice aa d.sec.length ca, .slice ab d.cache.length cb] 27 ∧
      Box ((w.alloc (.cells #[.slice aa d.sec.length ca, .slice ab d.cache.length cb] 27)).alloc (.cells #[.slice none 0 0, .slice none 0 0] 27)) (w.heap.size + 1) #[.slice none 0 0, .slice none 0 0] 27 ∧
      Below w.heap.size w ((w.alloc (.cells #[.slice aa d.sec.length ca, .slice ab d.cache.length cb] 27)).alloc (.cells #[.slice none 0 0, .slice none 0 0] 27)) ∧
      ((w.alloc (.cells #[.slice aa d.sec.length ca, .slice ab d.cache.length cb] 27)).alloc (.cells #[.slice none 0 0, .slice none 0 0] 27)).heap.size = w.heap.size + 2 := by
    have e1 : (w.alloc (.cells #[.slice aa d.sec.length ca, .slice ab d.cache.length cb] 27)).heap.size = w.heap.size + 1 := by simp
    have q0 := Box.new w #[.slice aa d.sec.length ca, .slice ab d.cache.length cb] 27; have q1 := Box.new (w.alloc (.cells #[.slice aa d.sec.length ca, .slice ab d.cache.length cb] 27)) #[.slice none 0 0, .slice none 0 0] 27; rw [e1] at q1; exact ⟨q0.later ((Below.refl _ _).alloc (Nat.le_refl _) _), q1, ((Below.refl _ _).alloc (Nat.le_refl _) _).alloc (by simp) _, by simp⟩
  have h' := h.later b0; go_enter Tryz.func70, Tryz.ntmps70
  go_wp2_with fail
  generalize ((w.alloc (.cells #[.slice aa d.sec.length ca, .slice ab d.cache.length cb] 27)).alloc (.cells #[.slice none 0 0, .slice none 0 0] 27)) = W at hx0 hx1 b0 hsz h' ⊢; refine (specCopy_any d _ B T _ h' hs).mono ?_; rintro e w2 ⟨v2, rfl, o2, k2⟩; obtain ⟨a1, a2, q1, q2, rfl⟩ := o2.form; have k3 : Below w2.heap.size w2 (w2.alloc (.cells #[.slice a1 d.sec.length q1, .slice a2 d.cache.length q2] 27)) := (Below.refl _ _).alloc (Nat.le_refl _) _; have y3 := Box.new w2 #[.slice a1 d.sec.length q1, .slice a2 d.cache.length q2] 27; have j3 := k2.trans (k3.mono k2.size); have o3 := o2.later k3; have c0 := (hx0.later j3).cell 0 (.slice aa d.sec.length ca) rfl; have c1 := (hx0.later j3).cell 1 (.slice ab d.cache.length cb) rfl; have h3 := h'.later j3; have s2 := k2.size; clear h h' o2; go_wp2_with fail
  clear c0 c1; generalize hw3 : w2.alloc (.cells #[.slice a1 d.sec.length q1, .slice a2 d.cache.length q2] 27) = w3 at *; have s3 : w3.heap.size = w2.heap.size + 1 := by rw [← hw3]; simp
  refine (specDiskOk_any d _ _ h3.rd hs ht hu).mono ?_; rintro e w4 ⟨rfl, k4⟩; have j4 := j3.trans (k4.mono j3.size); have c0 := (hx0.later j4).cell 0 (.slice aa d.sec.length ca) rfl; have c1 := (hx0.later j4).cell 1 (.slice ab d.cache.length cb) rfl; have r0 := (hx1.later j4).cell 0 (.slice none 0 0) rfl; have r1 := (hx1.later j4).cell 1 (.slice none 0 0) rfl; have g0 := (hx1.later j4).loose 0; have g1 := (hx1.later j4).loose 1; have y4 := y3.later k4; have m0 := y4.cell 0 (.slice a1 d.sec.length q1) rfl; have m1 := y4.cell 1 (.slice a2 d.cache.length q2) rfl; have n1 := y4.loose 1; have o4 := Lib.hid (o3.later k4); have bF : Below w.heap.size w w4 := b0.trans (j4.mono b0.size); have s4 := k4.size; have hD1 := hs.1; have hD2 := hs.2; have YO := Lib.hid y4; have YR := Lib.hid (hx1.later j4); clear hx0 hx1 y3 y4 h3 o3 ht hu hs; by_cases hok : d.ok
  · rw [decide_eq_true hok]
    by_cases hin : 0 ≤ a ∧ a < d.sec.length
    · by_cases h32 : t.size = 32
      · by_cases hc : d.cache.length < 60
        · have HYES := Lib.hid (show wrD d a t = ⟨d.sec, d.cache ++ [⟨a, t⟩]⟩ ∧ decide (wrOk d a t) = true from ⟨if_pos ⟨hok, hin, h32, hc⟩, decide_eq_true ⟨hok, hin, h32, hc⟩⟩)
          have hcc : (d.cache.length : Int) < 60 := (by omega); obtain ⟨va, vb, hv, l1, l2, hap⟩ := o4.out; simp only [Value.agg.injEq, Array.mk.injEq, List.cons.injEq, and_true] at hv; obtain ⟨rfl, rfl⟩ := hv; have L1 := Lib.hid l1; have L2 := Lib.hid l2; have HB2 : Hid (RBuf wrE W.heap.size (w4.alloc (.cells #[.int .i64 a, .string t] 63)) (w4.alloc (.cells #[.int .i64 a, .string t] 63)) (.slice a2 d.cache.length q2) d.cache) := (l2.1.alloc _).here; have HX2 : Hid (RBuf wrE w4.heap.size (w4.alloc (.cells #[.int .i64 a, .string t] 63)) (w4.alloc (.cells #[.int .i64 a, .string t] 63)) (.slice (some ⟨w4.heap.size, 0, none⟩) 1 1) [⟨a, t⟩]) := RBuf.lit1 wrE w4 ⟨a, t⟩; have hin2 : ∀ k, (Value.slice a2 d.cache.length q2).ownBlock = some k → W.heap.size ≤ k ∧ k < w2.heap.size := fun k hk => ⟨(l2.1.own.lt k hk).1, l2.2.2 k hk⟩; have hin1 : ∀ k, (Value.slice a1 d.sec.length q1).ownBlock = some k → W.heap.size ≤ k ∧ k < w2.heap.size := fun k hk => ⟨(l1.1.own.lt k hk).1, l1.2.2 k hk⟩; have kX : Below w4.heap.size w4 (w4.alloc (.cells #[.int .i64 a, .string t] 63)) := (Below.refl _ _).alloc (Nat.le_refl _) _; have HC6 : Hid (∀ x, (w4.alloc (.cells #[.int .i64 a, .string t] 63)).grownBy x (Value.slice a2 d.cache.length q2).ownBlock → x.cell? ⟨w2.heap.size, 0, none⟩ = some (.slice a1 d.sec.length q1) ∧ x.cell? ⟨w2.heap.size, 1, none⟩ = some (.slice a2 d.cache.length q2) ∧ x.frozen? ⟨w2.heap.size, 1, none⟩ = false ∧
              x.cell? ⟨w.heap.size + 1, 0, none⟩ = some (.slice none 0 0) ∧ x.cell? ⟨w.heap.size + 1, 1, none⟩ = some (.slice none 0 0) ∧ x.frozen? ⟨w.heap.size + 1, 0, none⟩ = false ∧ x.frozen? ⟨w.heap.size + 1, 1, none⟩ = false ∧ Below w.heap.size w x ∧ LOwn strE W.heap.size w2.heap.size x (.slice a1 d.sec.length q1) d.sec ∧ w4.heap.size + 1 ≤ x.heap.size) := by
            intro x hg; have sx : (w4.alloc (.cells #[.int .i64 a, .string t] 63)).heap.size = w4.heap.size + 1 := (by simp); have bo := (YO.out.later kX); have br := (YR.out.later kX); have bo2 : Box x w2.heap.size #[.slice a1 d.sec.length q1, .slice a2 d.cache.length q2] 27 := (hg.block _ bo.lt (fun e => by have := hin2 _ e.symm; omega)).trans bo; have br2 : Box x (w.heap.size + 1) #[.slice none 0 0, .slice none 0 0] 27 := (hg.block _ br.lt (fun e => by have := hin2 _ e.symm; omega)).trans br; have bb := (bF.alloc bF.size (.cells #[.int .i64 a, .string t] 63)).grown hg (by simp; omega) (fun k hk => by have := hin2 k hk; omega); refine ⟨bo2.cell 0 _ rfl, bo2.cell 1 _ rfl, bo2.loose 1, br2.cell 0 _ rfl, br2.cell 1 _ rfl, br2.loose 0, br2.loose 1, bb, (l1.later kX).grown hg hap, by have := hg.size; omega⟩
          have HAP := Lib.hid hap; have HIN := Lib.hid (And.intro hin1 hin2); clear l1 l2 hap hin1 hin2; go_wp2_with (first | (go_at_call 52; refine (in_yes _ _ _ _ (by omega) (by omega)).mono ?_; rintro e w5 ⟨rfl, rfl⟩) | (at_builtin; refine wpList_append_rows rfl _ _ wrE rfl W.heap.size _ d.cache rfl HB2.out w4.heap.size _ [⟨a, t⟩] rfl HX2.out (by simp [wrE]; omega) ?_; intro v6 w6 hr6 hg6 at6; obtain ⟨a6, q6, rfl⟩ := hr6.form; obtain ⟨z0, z1, z2, z3, z4, z5, z6, z7, z8, z9⟩ := HC6.out w6 hg6))
          have e6 : (d.cache ++ [(⟨a, t⟩ : Wr)]).length = d.cache.length + 1 := (by simp); rw [e6] at hr6 at6; have at7 : (Value.slice a6 (d.cache.length + 1) q6).ownBlock = (Value.slice a2 d.cache.length q2).ownBlock ∨ (Value.slice a6 (d.cache.length + 1) q6).ownBlock = some (w4.heap.size + 1) := by
            have sx : (w4.alloc (.cells #[.int .i64 a, .string t] 63)).heap.size = w4.heap.size + 1 := (by simp); rw [← sx]; exact at6
          have nO : (Value.slice a6 (d.cache.length + 1) q6).ownBlock ≠ some w2.heap.size := by
            rcases at7 with e | e
            · rw [e]; intro h; have := HIN.out.2 _ h; omega
            · rw [e]; intro h; have := Option.some.inj h; omega
          have f1 := ((z8.storeHi w2.heap.size 1 (.slice a6 (d.cache.length + 1) q6) (Nat.le_refl _)).store (w.heap.size + 1) 0 (.slice a1 d.sec.length q1) (by omega)).store (w.heap.size + 1) 1 (.slice a6 (d.cache.length + 1) q6) (by omega); have f2 := ((hr6.lown.grown (stored_grown w6 w2.heap.size 1 (.slice a6 (d.cache.length + 1) q6)) (.inr nO)).store (w.heap.size + 1) 0 (.slice a1 d.sec.length q1) (by omega)).store (w.heap.size + 1) 1 (.slice a6 (d.cache.length + 1) q6) (by omega); have bE := ((z7.setCell (p := ⟨w2.heap.size, 1, none⟩) (by simp; omega) (.slice a6 (d.cache.length + 1) q6)).setCell (p := ⟨w.heap.size + 1, 0, none⟩) (by simp) (.slice a1 d.sec.length q1)).setCell (p := ⟨w.heap.size + 1, 1, none⟩) (by simp) (.slice a6 (d.cache.length + 1) q6); refine bodyPost_ret (v := .tuple #[.agg #[.slice a1 d.sec.length q1, .slice a6 (d.cache.length + 1) q6], .bool true]) (by simp [results, Tryz.results70, go_sem, z3, z4]) rfl ?_; rw [HYES.out.1, HYES.out.2]; refine ⟨_, rfl, ⟨_, _, rfl, (f1.deeper (by omega)).wider (by simp; omega) (Nat.le_refl _), (f2.deeper (by omega)).wider (by simp) (Nat.le_refl _), ?_⟩, bE⟩; rcases at7 with e | e
          · rw [e]; exact HAP.out
          · rw [e]
            refine .inr fun h => ?_; have := HIN.out.1 _ h; omega
        · have HNO := Lib.hid (show wrD d a t = d ∧ decide (wrOk d a t) = false from ⟨if_neg (fun h => hc h.2.2.2), decide_eq_false (fun h => hc h.2.2.2)⟩)
          have hcc : ¬ (d.cache.length : Int) < 60 := (by omega); go_wp2_with (go_at_call 52; refine (in_yes _ _ _ _ (by omega) (by omega)).mono ?_; rintro e w5 ⟨rfl, rfl⟩)
          refine bodyPost_ret (v := .tuple #[.agg #[.slice a1 d.sec.length q1, .slice a2 d.cache.length q2], .bool false]) (by simp [results, Tryz.results70, go_sem, r0, r1]) rfl ?_; rw [HNO.out.1, HNO.out.2]; exact ⟨_, rfl, ((o4.out.store (w.heap.size + 1) 0 (.slice a1 d.sec.length q1) (by omega)).store (w.heap.size + 1) 1 (.slice a2 d.cache.length q2) (by omega)).widen (by omega) (by simp; omega) (Nat.le_refl _), (bF.setCell (p := ⟨w.heap.size + 1, 0, none⟩) (by simp) _).setCell (p := ⟨w.heap.size + 1, 1, none⟩) (by simp) _⟩
      · have HNO := Lib.hid (show wrD d a t = d ∧ decide (wrOk d a t) = false from ⟨if_neg (fun h => h32 h.2.2.1), decide_eq_false (fun h => h32 h.2.2.1)⟩)
        have h33 : ¬ (t.size : Int) = 32 := (by omega); go_wp2_with (go_at_call 52; refine (in_yes _ _ _ _ (by omega) (by omega)).mono ?_; rintro e w5 ⟨rfl, rfl⟩)
        refine bodyPost_ret (v := .tuple #[.agg #[.slice a1 d.sec.length q1, .slice a2 d.cache.length q2], .bool false]) (by simp [results, Tryz.results70, go_sem, r0, r1]) rfl ?_; rw [HNO.out.1, HNO.out.2]; exact ⟨_, rfl, ((o4.out.store (w.heap.size + 1) 0 (.slice a1 d.sec.length q1) (by omega)).store (w.heap.size + 1) 1 (.slice a2 d.cache.length q2) (by omega)).widen (by omega) (by simp; omega) (Nat.le_refl _), (bF.setCell (p := ⟨w.heap.size + 1, 0, none⟩) (by simp) _).setCell (p := ⟨w.heap.size + 1, 1, none⟩) (by simp) _⟩
    · have HNO := Lib.hid (show wrD d a t = d ∧ decide (wrOk d a t) = false from ⟨if_neg (fun h => hin h.2.1), decide_eq_false (fun h => hin h.2.1)⟩)
      go_wp2_with (go_at_call 52; refine (in_no _ _ _ _ (by omega)).mono ?_; rintro e w5 ⟨rfl, rfl⟩)
      refine bodyPost_ret (v := .tuple #[.agg #[.slice a1 d.sec.length q1, .slice a2 d.cache.length q2], .bool false]) (by simp [results, Tryz.results70, go_sem, r0, r1]) rfl ?_; rw [HNO.out.1, HNO.out.2]; exact ⟨_, rfl, ((o4.out.store (w.heap.size + 1) 0 (.slice a1 d.sec.length q1) (by omega)).store (w.heap.size + 1) 1 (.slice a2 d.cache.length q2) (by omega)).widen (by omega) (by simp; omega) (Nat.le_refl _), (bF.setCell (p := ⟨w.heap.size + 1, 0, none⟩) (by simp) _).setCell (p := ⟨w.heap.size + 1, 1, none⟩) (by simp) _⟩
  · rw [decide_eq_false hok]
    have HNO := Lib.hid (show wrD d a t = d ∧ decide (wrOk d a t) = false from ⟨if_neg (fun h => hok h.1), decide_eq_false (fun h => hok h.1)⟩); go_wp2; refine bodyPost_ret (v := .tuple #[.agg #[.slice a1 d.sec.length q1, .slice a2 d.cache.length q2], .bool false]) (by simp [results, Tryz.results70, go_sem, r0, r1]) rfl ?_; rw [HNO.out.1, HNO.out.2]; exact ⟨_, rfl, ((o4.out.store (w.heap.size + 1) 0 (.slice a1 d.sec.length q1) (by omega)).store (w.heap.size + 1) 1 (.slice a2 d.cache.length q2) (by omega)).widen (by omega) (by simp; omega) (Nat.le_refl _), (bF.setCell (p := ⟨w.heap.size + 1, 0, none⟩) (by simp) _).setCell (p := ⟨w.heap.size + 1, 1, none⟩) (by simp) _⟩

/- Copies: slices.Clone, and what copyDisk hands back: a disk of its own. -/
theorem setCell_self {w : World} {g i : Nat} {v : Value} (h : w.cell? ⟨g, i, none⟩ = some v) : w.setCell ⟨g, i, none⟩ v = w := by
  have : w.heap.modify g (fun
      | .cells c elem frozen => .cells (if (none : Option Nat).isSome then c else c.setIfInBounds i v) elem frozen
      | o => o) = w.heap := by
    apply Array.ext_getElem?; intro k; rw [Array.getElem?_modify]; by_cases hk : g = k
    · subst hk
      rw [if_pos rfl]; unfold World.cell? at h; cases ho : w.heap[g]? with
      | none => rfl
      | some o =>
        rw [ho] at h; cases o <;> simp_all
        rename_i c _ _; apply Array.ext_getElem?; intro j; rw [Array.getElem?_setIfInBounds]; by_cases hj : i = j
        · subst hj; simp_all; exact (Array.getElem?_eq_some_iff.1 h).1
        · simp [hj]
    · rw [if_neg hk]
  show { w with heap := _ } = w
  exact congrArg (fun hp => { w with heap := hp }) this
theorem cloneS_any (l : List _) (v : Value) (B : Nat) (w : World) (h : RBuf strE B w w v l) (hl : l.length ≤ 1073741824) :
    Calls Tryz.prog 98 #[v] w fun e w' => ∃ v', e = .returned v' ∧ RBuf strE w.heap.size w w' v' l := by
  have q : ∀ (w : World) (a : Option Addr) (n c n' c' : Nat), (binOp .eql 24 (.slice a n c) (.slice none n' c')).run Tryz.prog w = .ok (.bool a.isNone) w := fun w a n c n' c' => Lib.run_eql_slice_nil w _ _ a n c n' c' Tryz.underlying24; rcases h.own.2 with ⟨rfl, h0⟩ | ⟨g, cap, cur, rfl, hr⟩
  · obtain rfl := List.length_eq_zero_iff.1 h0
    go_enter Tryz.func98, Tryz.ntmps98
    go_wp2; go_ret; exact ⟨_, rfl, RBuf.nil strE w⟩
  · clear hr
    have hb := (RBuf.fresh strE w).here; have hx := (h.alloc (.cells #[] strE.ty)).here; go_enter Tryz.func98, Tryz.ntmps98
    go_wp2_with (at_builtin; refine wpList_append_rows rfl _ _ strE rfl w.heap.size _ [] rfl hb B _ l rfl hx (by simp [strE]; omega) ?_; intro v1 w1 r1 g1 _; obtain ⟨a1, c1, rfl⟩ := r1.form)
    go_ret; rw [List.nil_append] at r1; exact ⟨_, rfl, ⟨r1.own, ((Below.refl w.heap.size w).alloc (Nat.le_refl _) _).grown g1 (by simp) (fun k hk => by have : w.heap.size = k := Option.some.inj hk; omega), r1.le⟩⟩
theorem cloneW_any (l : List _) (v : Value) (B : Nat) (w : World) (h : RBuf wrE B w w v l) (hl : l.length ≤ 1073741824) :
    Calls Tryz.prog 99 #[v] w fun e w' => ∃ v', e = .returned v' ∧ RBuf wrE w.heap.size w w' v' l := by
  have q : ∀ (w : World) (a : Option Addr) (n c n' c' : Nat), (binOp .eql 25 (.slice a n c) (.slice none n' c')).run Tryz.prog w = .ok (.bool a.isNone) w := fun w a n c n' c' => Lib.run_eql_slice_nil w _ _ a n c n' c' Tryz.underlying25; rcases h.own.2 with ⟨rfl, h0⟩ | ⟨g, cap, cur, rfl, hr⟩
  · obtain rfl := List.length_eq_zero_iff.1 h0
    go_enter Tryz.func99, Tryz.ntmps99
    go_wp2; go_ret; exact ⟨_, rfl, RBuf.nil wrE w⟩
  · clear hr
    have hb := (RBuf.fresh wrE w).here; have hx := (h.alloc (.cells #[] wrE.ty)).here; go_enter Tryz.func99, Tryz.ntmps99
    go_wp2_with (at_builtin; refine wpList_append_rows rfl _ _ wrE rfl w.heap.size _ [] rfl hb B _ l rfl hx (by simp [wrE]; omega) ?_; intro v1 w1 r1 g1 _; obtain ⟨a1, c1, rfl⟩ := r1.form)
    go_ret; rw [List.nil_append] at r1; exact ⟨_, rfl, ⟨r1.own, ((Below.refl w.heap.size w).alloc (Nat.le_refl _) _).grown g1 (by simp) (fun k hk => by have : w.heap.size = k := Option.some.inj hk; omega), r1.le⟩⟩
section
variable {α β : Type} {E1 : Enc α} {E2 : Enc β}
theorem apart_up {B1 B2 : Nat} {w0 w1 x y : World} {v u : Value} {l : List α} {m : List β} (h1 : RBuf E1 B1 w0 x v l) (h2 : RBuf E2 B2 w1 y u m) (h : x.heap.size ≤ B2) : v.ownBlock = none ∨ v.ownBlock ≠ u.ownBlock := by
  cases hv : v.ownBlock with
  | none => exact .inl rfl
  | some k =>
    refine .inr fun e => ?_; have a := (h1.own.lt k hv).2; have b := (h2.own.lt k e.symm).1; omega
theorem RBuf.under {B g : Nat} {w0 x : World} {v : Value} {l : List α} (h : RBuf E1 B w0 x v l) (hg : g < B) : v.ownBlock ≠ some g := fun e => by have := (h.own.lt g e).1; omega
theorem RBuf.above {B g : Nat} {w0 x : World} {v : Value} {l : List α} (h : RBuf E1 B w0 x v l) (hg : x.heap.size ≤ g) : v.ownBlock ≠ some g := fun e => by have := (h.own.lt g e).2; omega
theorem RBuf.at0 {B B0 : Nat} {w0 x : World} {v : Value} {l : List α} (h : RBuf E1 B w0 x v l) (hB : B0 ≤ B) : RBuf E1 B0 x x v l := h.here.lower hB
end
theorem keep2 {b : Nat} {va vb : Value} {W x y : World} (h : x.cell? ⟨b, 0, none⟩ = some va ∧ x.cell? ⟨b, 1, none⟩ = some vb ∧ Below W.heap.size W x) (hb : Below x.heap.size x y) : y.cell? ⟨b, 0, none⟩ = some va ∧ y.cell? ⟨b, 1, none⟩ = some vb ∧ Below W.heap.size W y :=
  ⟨(hb.cell (p := ⟨b, 0, none⟩) (World.block_lt_of_cell? _ _ h.1)).trans h.1, (hb.cell (p := ⟨b, 1, none⟩) (World.block_lt_of_cell? _ _ h.2.1)).trans h.2.1, h.2.2.trans (hb.mono h.2.2.size)⟩
theorem keep2s {b g : Nat} {va vb y z : Value} {W x : World} (hb : b < W.heap.size) (hg : W.heap.size ≤ g) (h : x.cell? ⟨b, 0, none⟩ = some va ∧ x.cell? ⟨b, 1, none⟩ = some vb ∧ Below W.heap.size W x) :
    ((x.setCell ⟨g, 0, none⟩ y).setCell ⟨g, 1, none⟩ z).cell? ⟨b, 0, none⟩ = some va ∧ ((x.setCell ⟨g, 0, none⟩ y).setCell ⟨g, 1, none⟩ z).cell? ⟨b, 1, none⟩ = some vb ∧ Below W.heap.size W ((x.setCell ⟨g, 0, none⟩ y).setCell ⟨g, 1, none⟩ z) := by
  refine ⟨?_, ?_, (h.2.2.setCell (p := ⟨g, 0, none⟩) hg y).setCell (p := ⟨g, 1, none⟩) hg z⟩
  · rw [World.cell?_setCell_other _ _ _ _ (by simp <;> omega), World.cell?_setCell_other _ _ _ _ (by simp <;> omega)]; exact h.1
  · rw [World.cell?_setCell_other _ _ _ _ (by simp <;> omega), World.cell?_setCell_other _ _ _ _ (by simp <;> omega)]; exact h.2.1
theorem belAlloc (x : World) (o : Obj) : Below x.heap.size x (x.alloc o) := (Below.refl _ _).alloc (Nat.le_refl _) _
structure CpyE (d : Dk) (W x : World) (g : Nat) (vS vW : Value) : Prop where
  box : Box x g #[vS, vW] 27
  sec : LOwn strE W.heap.size x.heap.size x vS d.sec
  cache : LOwn wrE W.heap.size x.heap.size x vW d.cache
  ap : vS.ownBlock = none ∨ vS.ownBlock ≠ vW.ownBlock
  n1 : vS.ownBlock ≠ some g
  n2 : vW.ownBlock ≠ some g
  le : W.heap.size ≤ g
  bel : Below W.heap.size W x
theorem cpyA {d : Dk} {W x : World} {vS vW : Value} (h1 : RBuf strE W.heap.size x x vS d.sec) (h2 : RBuf wrE W.heap.size x x vW d.cache) (h3 : vS.ownBlock = none ∨ vS.ownBlock ≠ vW.ownBlock) (hb : Below W.heap.size W x) :
    CpyE d W (x.alloc (.cells #[vS, vW] 27)) x.heap.size vS vW :=
  ⟨Box.new x _ _, (h1.alloc _).lown, (h2.alloc _).lown, h3, h1.above (Nat.le_refl _), h2.above (Nat.le_refl _), hb.size, hb.alloc hb.size _⟩
theorem cpyB {d : Dk} {W x : World} {vS vW : Value} {g : Nat} {z0 z1 : Value} (hx : Box x g #[z0, z1] 27) (h1 : RBuf strE W.heap.size x x vS d.sec) (h2 : RBuf wrE W.heap.size x x vW d.cache) (h3 : vS.ownBlock = none ∨ vS.ownBlock ≠ vW.ownBlock) (hb : Below W.heap.size W x)
    (n1 : vS.ownBlock ≠ some g) (n2 : vW.ownBlock ≠ some g) (hg : W.heap.size ≤ g) : CpyE d W ((x.setCell ⟨g, 0, none⟩ vS).setCell ⟨g, 1, none⟩ vW) g vS vW := by
  have hs : ((x.setCell ⟨g, 0, none⟩ vS).setCell ⟨g, 1, none⟩ vW).heap.size = x.heap.size := by simp
  refine ⟨?_, ?_, ?_, h3, n1, n2, hg, (hb.setCell (p := ⟨g, 0, none⟩) hg _).setCell (p := ⟨g, 1, none⟩) hg _⟩
  · have := (hx.set 0 vS).set 1 vW
    simpa using this
  · rw [hs]; exact (h1.lown.grown (stored_grown _ _ _ _) (.inr n1)).grown (stored_grown _ _ _ _) (.inr n1)
  · rw [hs]; exact (h2.lown.grown (stored_grown _ _ _ _) (.inr n2)).grown (stored_grown _ _ _ _) (.inr n2)
theorem CpyE.later {d : Dk} {W x y : World} {g : Nat} {vS vW : Value} (h : CpyE d W x g vS vW) (hb : Below x.heap.size x y) : CpyE d W y g vS vW :=
  ⟨h.box.later hb, (h.sec.later hb).wider hb.size (Nat.le_refl _), (h.cache.later hb).wider hb.size (Nat.le_refl _), h.ap, h.n1, h.n2, h.le, h.bel.trans (hb.mono h.bel.size)⟩
theorem copyDisk_any (d : Dk) (v : Value) (B T : Nat) (w : World) (h : DOwn B T w v d) (hs : d.small) (ht : ∀ s ∈ d.sec, s.size ≤ 1099511627776) (hu : ∀ x ∈ d.cache, x.text.size ≤ 1099511627776) :
    Calls Tryz.prog 71 #[v] w fun e w' => ∃ v', e = .returned v' ∧ DOwn w.heap.size w'.heap.size w' v' d ∧ Below w.heap.size w w' := by
  obtain ⟨va, vb, rfl, h1, h2, h3⟩ := h; obtain ⟨aa, ca, rfl⟩ := h1.1.form; obtain ⟨ab, cb, rfl⟩ := h2.1.form; obtain ⟨s1, s2⟩ := hs; obtain ⟨hx0, hx1, b0, hsz⟩ := two_boxes w #[.slice aa d.sec.length ca, .slice ab d.cache.length cb] #[.slice none 0 0, .slice none 0 0] 27 27; go_enter Tryz.func71, Tryz.ntmps71
  go_upto_region 1 with fail
  generalize ((w.alloc (.cells #[.slice aa d.sec.length ca, .slice ab d.cache.length cb] 27)).alloc (.cells #[.slice none 0 0, .slice none 0 0] 27)) = W at hx0 hx1 b0 hsz ⊢; have c0 := hx0.cell 0 (.slice aa d.sec.length ca) rfl; have c1 := hx0.cell 1 (.slice ab d.cache.length cb) rfl; go_cut [3] (fun p wx => ∃ (g : Nat) (pS pW : Option Addr) (qS qW : Nat), p = .pointer (some ⟨g, 0, none⟩) ∧ CpyE d W wx g (.slice pS d.sec.length qS) (.slice pW d.cache.length qW))
  case first =>
    have HS : Hid (∀ x : World, (x.cell? ⟨w.heap.size, 0, none⟩ = some (.slice aa d.sec.length ca) ∧ x.cell? ⟨w.heap.size, 1, none⟩ = some (.slice ab d.cache.length cb) ∧ Below W.heap.size W x) → RBuf strE B x x (.slice aa d.sec.length ca) d.sec ∧ RBuf wrE B x x (.slice ab d.cache.length cb) d.cache) :=
      fun x hx => ⟨(h1.later (b0.trans (hx.2.2.mono b0.size))).1, (h2.later (b0.trans (hx.2.2.mono b0.size))).1⟩
    have HK0 : Hid (W.drew.cell? ⟨w.heap.size, 0, none⟩ = some (.slice aa d.sec.length ca) ∧ W.drew.cell? ⟨w.heap.size, 1, none⟩ = some (.slice ab d.cache.length cb) ∧ Below W.heap.size W W.drew) := ⟨c0, c1, (Below.refl _ _).drew⟩; have hlt : w.heap.size < W.heap.size := hx0.lt; have HB0 : Hid (Box (W.alloc (.cells #[.slice none 0 0, .slice none 0 0] 27)).drew W.heap.size #[.slice none 0 0, .slice none 0 0] 27) := Box.new W _ _; clear hx0 hx1 ht hu h1 h2 h3 c0 c1 hsz; go_region_held3 (fun x => x.cell? ⟨w.heap.size, 0, none⟩ = some (.slice aa d.sec.length ca) ∧ x.cell? ⟨w.heap.size, 1, none⟩ = some (.slice ab d.cache.length cb) ∧ Below W.heap.size W x)
      (first | exact HK0.out | exact keep2 (by assumption) (belAlloc _ _) | exact keep2 (by assumption) kS | exact keep2 (by assumption) kW | exact keep2 hSS.out (belAlloc _ _) | exact keep2 hSW.out (belAlloc _ _) | exact keep2s hlt (Nat.le_refl _) (by assumption) | exact keep2s hlt tS (by assumption) | exact keep2s hlt tW (by assumption))
      (first
        | (go_at_call 98; refine (cloneS_any d.sec _ B _ (HS.out _ (by assumption)).1 s1).mono ?_; rintro e wS ⟨vS, rfl, rS⟩; have kS := rS.bel; have hSS := Lib.hid (keep2 (by assumption) kS); have tS : W.heap.size ≤ wS.heap.size := hSS.out.2.2.size; obtain ⟨pS, qS, rfl⟩ := rS.form; (first | (have bx : Box wS W.heap.size #[.slice none 0 0, .slice none 0 0] 27 := HB0.out.later kS; have z0 := bx.cell 0 _ rfl; have z1 := bx.cell 1 _ rfl; have f0 := bx.loose 0; have f1 := bx.loose 1) | (have bx : Box wS wW.heap.size #[.slice none 0 0, .slice none 0 0] 27 := (Box.new wW _ _).later kS; have z0 := bx.cell 0 _ rfl; have z1 := bx.cell 1 _ rfl; have f0 := bx.loose 0; have f1 := bx.loose 1) | (have bx2 := bx.later kS; have z0 := bx2.cell 0 _ rfl; have z1 := bx2.cell 1 _ rfl; have f0 := bx2.loose 0; have f1 := bx2.loose 1) | skip))
        | (go_at_call 99; refine (cloneW_any d.cache _ B _ (HS.out _ (by assumption)).2 s2).mono ?_; rintro e wW ⟨vW, rfl, rW⟩; have kW := rW.bel; have hSW := Lib.hid (keep2 (by assumption) kW); have tW : W.heap.size ≤ wW.heap.size := hSW.out.2.2.size; obtain ⟨pW, qW, rfl⟩ := rW.form; (first | (have bx : Box wW W.heap.size #[.slice none 0 0, .slice none 0 0] 27 := HB0.out.later kW; have z0 := bx.cell 0 _ rfl; have z1 := bx.cell 1 _ rfl; have f0 := bx.loose 0; have f1 := bx.loose 1) | (have bx : Box wW wS.heap.size #[.slice none 0 0, .slice none 0 0] 27 := (Box.new wS _ _).later kW; have z0 := bx.cell 0 _ rfl; have z1 := bx.cell 1 _ rfl; have f0 := bx.loose 0; have f1 := bx.loose 1) | (have bx2 := bx.later kW; have z0 := bx2.cell 0 _ rfl; have z1 := bx2.cell 1 _ rfl; have f0 := bx2.loose 0; have f1 := bx2.loose 1) | skip)))
    all_goals
      go_wp2_with fail
      go_meet
      first
        | exact ⟨_, _, _, _, _, rfl, cpyA ((rS.later kW).at0 (Nat.le_refl _)) (rW.at0 tS) (apart_up rS rW (Nat.le_refl _)) hSW.out.2.2⟩
        | exact ⟨_, _, _, _, _, rfl, cpyB bx (((rS.alloc _).later kW).at0 (Nat.le_refl _)) (rW.at0 (by simp; omega)) (apart_up rS rW (by simp)) hSW.out.2.2 (rS.above (Nat.le_refl _)) (rW.under (by simp)) tS⟩
        | exact ⟨_, _, _, _, _, rfl, cpyB bx2 ((rS.later kW).at0 (by show W.heap.size ≤ (W.alloc _).heap.size; simp)) (rW.at0 tS) (apart_up rS rW (Nat.le_refl _)) hSW.out.2.2 (rS.under (by show W.heap.size < (W.alloc _).heap.size; simp)) (rW.under (Nat.lt_of_lt_of_le (by show W.heap.size < (W.alloc _).heap.size; simp) kS.size)) (Nat.le_refl _)⟩
  case rest =>
    obtain ⟨g, pS, pW, qS, qW, rfl, hE⟩ := hcut; have hX1 := Lib.hid hx1; have HE := Lib.hid hE; have m0 := hE.box.cell 0 _ rfl; have m1 := hE.box.cell 1 _ rfl; clear hx0 hx1 h1 h2 h3 c0 c1 hE; simp only [List.getElem_toArray, List.getElem_cons_zero, List.getElem_cons_succ] at m0 m1; go_wp2; go_loopw [16] (fun iv wr => ∃ i : Nat, i ≤ d.sec.length ∧ iv = .int .i64 (i : Int) ∧ Below wc.heap.size wc wr) (fun iv _ => d.sec.length - (intOf iv).toNat)
    case atStart => exact ⟨0, by omega, rfl, Below.refl _ _⟩
    case round =>
      obtain ⟨i, hi, rfl, hbr⟩ := hrel; have E1 := HE.out.later hbr; by_cases hlt : i < d.sec.length
      · have hi0 : (0 : Int) ≤ (i : Int) := by omega
        have hi1 : (i : Int) < (d.sec.length : Int) := (by omega); obtain ⟨g1, rfl⟩ : ∃ g1 : Nat, pS = some ⟨g1, 0, none⟩ := by
          rcases E1.sec.1.own.2 with ⟨_, e⟩ | ⟨g, cap, cur, e, _⟩
          · omega
          · simp only [Value.slice.injEq] at e; exact ⟨g, e.1⟩
        have hat := List.getElem?_eq_getElem hlt; have cS : wr.cell? ⟨g1, i, none⟩ = some (.string d.sec[i]) := by
          have := E1.sec.1.cell rfl i _ hat 0 _ rfl; rw [show strE.sz = 1 from rfl, Nat.mul_one, Nat.add_zero] at this; exact this
        have fS := E1.sec.1.loose i; have k0 := E1.box.cell 0 (.slice (some ⟨g1, 0, none⟩) d.sec.length qS) rfl; have htz := ht _ (List.getElem_mem hlt); clear hat E1 ht hu; generalize d.sec[i] = t at *; have HK0 : Hid (wr.drew.cell? ⟨g, 0, none⟩ = some (.slice (some ⟨g1, 0, none⟩) d.sec.length qS) ∧ wr.drew.cell? ⟨g1, i, none⟩ = some (.string t) ∧ wr.drew.frozen? ⟨g1, i, none⟩ = false ∧ Below wr.heap.size wr wr.drew) := ⟨k0, cS, fS, (Below.refl _ _).drew⟩; have HK1 : Hid (∀ x y : World, (x.cell? ⟨g, 0, none⟩ = some (.slice (some ⟨g1, 0, none⟩) d.sec.length qS) ∧ x.cell? ⟨g1, i, none⟩ = some (.string t) ∧ x.frozen? ⟨g1, i, none⟩ = false ∧ Below wr.heap.size wr x) → Below x.heap.size x y → (y.cell? ⟨g, 0, none⟩ = some (.slice (some ⟨g1, 0, none⟩) d.sec.length qS) ∧ y.cell? ⟨g1, i, none⟩ = some (.string t) ∧ y.frozen? ⟨g1, i, none⟩ = false ∧ Below wr.heap.size wr y)) :=
          fun x y h hb => ⟨(hb.cell (p := ⟨g, 0, none⟩) (World.block_lt_of_cell? _ _ h.1)).trans h.1, (hb.cell (p := ⟨g1, i, none⟩) (World.block_lt_of_cell? _ _ h.2.1)).trans h.2.1, (hb.frozen (p := ⟨g1, i, none⟩) (World.block_lt_of_cell? _ _ h.2.1)).trans h.2.2.1, h.2.2.2.trans (hb.mono h.2.2.2.size)⟩
        have HK2 : Hid (∀ x : World, (x.cell? ⟨g, 0, none⟩ = some (.slice (some ⟨g1, 0, none⟩) d.sec.length qS) ∧ x.cell? ⟨g1, i, none⟩ = some (.string t) ∧ x.frozen? ⟨g1, i, none⟩ = false ∧ Below wr.heap.size wr x) → ((x.setCell ⟨g1, i, none⟩ (.string t)).cell? ⟨g, 0, none⟩ = some (.slice (some ⟨g1, 0, none⟩) d.sec.length qS) ∧ (x.setCell ⟨g1, i, none⟩ (.string t)).cell? ⟨g1, i, none⟩ = some (.string t) ∧ (x.setCell ⟨g1, i, none⟩ (.string t)).frozen? ⟨g1, i, none⟩ = false ∧ Below wr.heap.size wr (x.setCell ⟨g1, i, none⟩ (.string t)))) :=
          fun x h => by rw [setCell_self h.2.1]; exact h
        go_wp2; go_region_held3 (fun x => x.cell? ⟨g, 0, none⟩ = some (.slice (some ⟨g1, 0, none⟩) d.sec.length qS) ∧ x.cell? ⟨g1, i, none⟩ = some (.string t) ∧ x.frozen? ⟨g1, i, none⟩ = false ∧ Below wr.heap.size wr x)
          (first | exact HK0.out | exact HK1.out _ _ (by assumption) k1 | exact HK2.out _ (by assumption))
          (first | (go_at_call 97; refine (clone_any _ _ (by omega)).mono ?_; rintro e w1 ⟨rfl, k1⟩))
        all_goals
          rename_i hHeld
          have BH := Lib.hid hHeld.2.2.2
          clear hHeld HK0 HK1 HK2
          go_wp2
          go_roundw
          case rel => exact ⟨i + 1, by omega, by go_num, hbr.trans (BH.out.mono hbr.size)⟩
          case measure => simp [intOf]; omega
      · have HE1 := Lib.hid E1
        have k1 := E1.box.cell 1 (.slice pW d.cache.length qW) rfl; clear E1 HE m0 m1 ht; go_wp2; obtain ⟨wa, hwa⟩ : ∃ wa, wa = wr := ⟨_, rfl⟩; subst hwa; go_loopw [33] (fun iv wr => ∃ j : Nat, j ≤ d.cache.length ∧ iv = .int .i64 (j : Int) ∧ Below wa.heap.size wa wr) (fun iv _ => d.cache.length - (intOf iv).toNat)
        case atStart => exact ⟨0, by omega, rfl, Below.refl _ _⟩
        case round =>
          obtain ⟨j, hj, rfl, hbr2⟩ := hrel; have E1 := HE1.out.later hbr2; by_cases hlt : j < d.cache.length
          · have hi0 : (0 : Int) ≤ (j : Int) := by omega
            have hi1 : (j : Int) < (d.cache.length : Int) := (by omega); obtain ⟨g2, rfl⟩ : ∃ g2 : Nat, pW = some ⟨g2, 0, none⟩ := by
              rcases E1.cache.1.own.2 with ⟨_, e⟩ | ⟨g, cap, cur, e, _⟩
              · omega
              · simp only [Value.slice.injEq] at e; exact ⟨g, e.1⟩
            have hat := List.getElem?_eq_getElem hlt; have cS : wr.cell? ⟨g2, j * 2 + 1, none⟩ = some (.string d.cache[j].text) := E1.cache.1.cell rfl j _ hat 1 _ rfl; have fS := E1.cache.1.loose (j * 2 + 1); have k0 := E1.box.cell 1 (.slice (some ⟨g2, 0, none⟩) d.cache.length qW) rfl; have htz := hu _ (List.getElem_mem hlt); clear hat E1 hu k1; generalize d.cache[j].text = t at *; have HK0 : Hid (wr.drew.cell? ⟨g, 1, none⟩ = some (.slice (some ⟨g2, 0, none⟩) d.cache.length qW) ∧ wr.drew.cell? ⟨g2, j * 2 + 1, none⟩ = some (.string t) ∧ wr.drew.frozen? ⟨g2, j * 2 + 1, none⟩ = false ∧ Below wr.heap.size wr wr.drew) := ⟨k0, cS, fS, (Below.refl _ _).drew⟩; have HK1 : Hid (∀ x y : World, (x.cell? ⟨g, 1, none⟩ = some (.slice (some ⟨g2, 0, none⟩) d.cache.length qW) ∧ x.cell? ⟨g2, j * 2 + 1, none⟩ = some (.string t) ∧ x.frozen? ⟨g2, j * 2 + 1, none⟩ = false ∧ Below wr.heap.size wr x) → Below x.heap.size x y → (y.cell? ⟨g, 1, none⟩ = some (.slice (some ⟨g2, 0, none⟩) d.cache.length qW) ∧ y.cell? ⟨g2, j * 2 + 1, none⟩ = some (.string t) ∧ y.frozen? ⟨g2, j * 2 + 1, none⟩ = false ∧ Below wr.heap.size wr y)) :=
              fun x y h hb => ⟨(hb.cell (p := ⟨g, 1, none⟩) (World.block_lt_of_cell? _ _ h.1)).trans h.1, (hb.cell (p := ⟨g2, j * 2 + 1, none⟩) (World.block_lt_of_cell? _ _ h.2.1)).trans h.2.1, (hb.frozen (p := ⟨g2, j * 2 + 1, none⟩) (World.block_lt_of_cell? _ _ h.2.1)).trans h.2.2.1, h.2.2.2.trans (hb.mono h.2.2.2.size)⟩
            have HK2 : Hid (∀ x : World, (x.cell? ⟨g, 1, none⟩ = some (.slice (some ⟨g2, 0, none⟩) d.cache.length qW) ∧ x.cell? ⟨g2, j * 2 + 1, none⟩ = some (.string t) ∧ x.frozen? ⟨g2, j * 2 + 1, none⟩ = false ∧ Below wr.heap.size wr x) → ((x.setCell ⟨g2, j * 2 + 1, none⟩ (.string t)).cell? ⟨g, 1, none⟩ = some (.slice (some ⟨g2, 0, none⟩) d.cache.length qW) ∧ (x.setCell ⟨g2, j * 2 + 1, none⟩ (.string t)).cell? ⟨g2, j * 2 + 1, none⟩ = some (.string t) ∧ (x.setCell ⟨g2, j * 2 + 1, none⟩ (.string t)).frozen? ⟨g2, j * 2 + 1, none⟩ = false ∧ Below wr.heap.size wr (x.setCell ⟨g2, j * 2 + 1, none⟩ (.string t)))) :=
              fun x h => by rw [setCell_self h.2.1]; exact h
            go_wp2; go_region_held3 (fun x => x.cell? ⟨g, 1, none⟩ = some (.slice (some ⟨g2, 0, none⟩) d.cache.length qW) ∧ x.cell? ⟨g2, j * 2 + 1, none⟩ = some (.string t) ∧ x.frozen? ⟨g2, j * 2 + 1, none⟩ = false ∧ Below wr.heap.size wr x)
              (first | exact HK0.out | exact HK1.out _ _ (by assumption) k1 | exact HK2.out _ (by assumption))
              (first | (go_at_call 97; refine (clone_any _ _ (by omega)).mono ?_; rintro e w1 ⟨rfl, k1⟩))
            all_goals
              rename_i hHeld
              have BH := Lib.hid hHeld.2.2.2
              clear hHeld HK0 HK1 HK2
              go_wp2
              go_roundw
              case rel => exact ⟨j + 1, by omega, by go_num, hbr2.trans (BH.out.mono hbr2.size)⟩
              case measure => simp [intOf]; omega
          · have bW : Below W.heap.size W wr := E1.bel
            have x5 := hX1.out.later bW; have m0 := E1.box.cell 0 (.slice pS d.sec.length qS) rfl; have m1 := E1.box.cell 1 (.slice pW d.cache.length qW) rfl; have r0 := x5.cell 0 (.slice none 0 0) rfl; have r1 := x5.cell 1 (.slice none 0 0) rfl; have f0 := x5.loose 0; have f1 := x5.loose 1; have EE := Lib.hid E1; have bF := Lib.hid (b0.trans (bW.mono b0.size)); have HSZ := Lib.hid hsz; clear E1 bW k1 hsz x5 hu; go_wp2; have hWl : w.heap.size + 1 < W.heap.size := (by have := HSZ.out; omega); have q1 := (EE.out.sec.store (w.heap.size + 1) 0 (.slice pS d.sec.length qS) hWl).store (w.heap.size + 1) 1 (.slice pW d.cache.length qW) hWl; have q2 := (EE.out.cache.store (w.heap.size + 1) 0 (.slice pS d.sec.length qS) hWl).store (w.heap.size + 1) 1 (.slice pW d.cache.length qW) hWl; refine bodyPost_ret (v := .agg #[.slice pS d.sec.length qS, .slice pW d.cache.length qW]) (by simp [results, Tryz.results71, go_sem, r0, r1]) rfl ?_; exact ⟨_, rfl, ⟨_, _, rfl, (q1.deeper (by omega)).wider (by simp) (Nat.le_refl _), (q2.deeper (by omega)).wider (by simp) (Nat.le_refl _), EE.out.ap⟩, (bF.out.setCell (p := ⟨w.heap.size + 1, 0, none⟩) (by simp) _).setCell (p := ⟨w.heap.size + 1, 1, none⟩) (by simp) _⟩
end Go.Proofs.YtklkhllkjnbhjaaGreatDoor
