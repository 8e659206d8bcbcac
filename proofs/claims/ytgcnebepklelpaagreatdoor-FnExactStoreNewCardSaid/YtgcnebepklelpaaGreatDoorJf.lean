/- Texts of our own, joined. -/
import Derived.Test.YtgcnebepklelpaaGreatDoorJe
import Derived.Test.YtgcnebepklelpaaGreatDoorJb
/- Disks: what the model's functions hand back that make disks. -/
namespace Go.Proofs.YtgcnebepklelpaaGreatDoor
open Go.RowKit

theorem emptyRow {α : Type} (E : Enc α) {B g g' : Nat} {w : World} (h : w.heap[g']? = some (.cells #[] E.ty (0, 0))) (hg : g = g') (hB : B ≤ g) (hs : B ≤ w.heap.size) : RBuf E B w w (.slice (some ⟨g, 0, none⟩) 0 0) [] := by
  subst hg
  exact ⟨⟨by simp [Enc.row], .inr ⟨g, 0, #[], rfl, hB, h, Nat.le_refl _, by decide, by simp, by simp [Enc.row]⟩⟩, Below.refl _ _, hs⟩

theorem boxG {w w' : World} {r : Option Nat} {g : Nat} {o : Obj} (hg : w.grownBy w' r) (h : w.heap[g]? = some o) (hne : some g ≠ r) : w'.heap[g]? = some o := by
  have hlt : g < w.heap.size := (Array.getElem?_eq_some_iff.1 h).1
  rw [hg.block g hlt hne, h]

theorem copy_end {l : List ByteArray} {C gb : Nat} {wA X wB : World} {vA vB : Value} (hA : RBuf strE C wA wA vA l) (hX : RBuf strE C X X vA l) (hs : wA.heap.size ≤ X.heap.size) (gB : X.grownBy wB (some gb)) (hne : vA.ownBlock ≠ some gb)
    (atB : vB.ownBlock = some gb ∨ vB.ownBlock = some X.heap.size) : RBuf strE C wB wB vA l ∧ (vA.ownBlock = none ∨ vA.ownBlock ≠ vB.ownBlock) := by
  refine ⟨hX.shift gB (.inr hne), .inr ?_⟩
  rcases atB with e | e
  · rw [e]; exact hne
  · intro h
    rw [e] at h
    have := (hA.own.lt _ h).2
    omega

theorem copy_end1 {l : List ByteArray} {C : Nat} {wA wB : World} {o : Obj} {vA vB : Value} (hA : RBuf strE C wA wA vA l) (gB : (wA.alloc o).grownBy wB (some wA.heap.size))
    (atB : vB.ownBlock = some wA.heap.size ∨ vB.ownBlock = some (wA.alloc o).heap.size) : RBuf strE C wB wB vA l ∧ (vA.ownBlock = none ∨ vA.ownBlock ≠ vB.ownBlock) :=
  copy_end hA (hA.alloc o).here (by simp) gB (fun h => by have := (hA.own.lt _ h).2; omega) atB

theorem copy_end2 {l : List ByteArray} {C : Nat} {W wA wB : World} {o1 o2 : Obj} {vA vB : Value} (hA : RBuf strE C wA wA vA l) (gB : wA.grownBy wB (some (W.heap.size + 1)))
    (atA : vA.ownBlock = some W.heap.size ∨ vA.ownBlock = some ((W.alloc o1).alloc o2).drew.heap.size) (atB : vB.ownBlock = some (W.heap.size + 1) ∨ vB.ownBlock = some wA.heap.size) : RBuf strE C wB wB vA l ∧ (vA.ownBlock = none ∨ vA.ownBlock ≠ vB.ownBlock) :=
  copy_end hA hA (Nat.le_refl _) gB (fun h => by
    have e : ((W.alloc o1).alloc o2).drew.heap.size = W.heap.size + 2 := by show ((W.alloc o1).alloc o2).heap.size = _; simp
    rcases atA with a | a <;> rw [a] at h <;> have := Option.some.inj h <;> omega) atB

theorem copy_end3 {l : List ByteArray} {C : Nat} {W wA wB : World} {o1 o2 : Obj} {vA vB : Value} (hA : RBuf strE C wA wA vA l) (gB : wA.grownBy wB (some W.heap.size))
    (atA : vA.ownBlock = some (W.heap.size + 1) ∨ vA.ownBlock = some ((W.alloc o1).alloc o2).drew.heap.size) (atB : vB.ownBlock = some W.heap.size ∨ vB.ownBlock = some wA.heap.size) : RBuf strE C wB wB vA l ∧ (vA.ownBlock = none ∨ vA.ownBlock ≠ vB.ownBlock) :=
  copy_end hA hA (Nat.le_refl _) gB (fun h => by
    have e : ((W.alloc o1).alloc o2).drew.heap.size = W.heap.size + 2 := by show ((W.alloc o1).alloc o2).heap.size = _; simp
    rcases atA with a | a <;> rw [a] at h <;> have := Option.some.inj h <;> omega) atB

set_option maxRecDepth 100000 in
set_option maxHeartbeats 4000000 in
theorem specCopy_any (d : Dk) (v : Value) (B T : Nat) (w : World) (h : DOwn B T w v d) (hs : d.small) :
    Calls Tryz.prog 41 #[v] w fun e w' => ∃ v', e = .returned v' ∧ DOwn w.heap.size w'.heap.size w' v' d ∧ Below w.heap.size w w' := by
  obtain ⟨va, vb, rfl, h1, h2, h3⟩ := h
  obtain ⟨aa, ca, rfl⟩ := h1.1.form
  obtain ⟨ab, cb, rfl⟩ := h2.1.form
  obtain ⟨s1, s2⟩ := hs
  obtain ⟨hx0, hx1, b0, hsz⟩ : Box ((w.alloc (.cells #[.slice aa d.sec.length ca, .slice ab d.cache.length cb] 25)).alloc (.cells #[.slice none 0 0, .slice none 0 0] 25)) w.heap.size #[.slice aa d.sec.length ca, .slice ab d.cache.length cb] 25 ∧
      Box ((w.alloc (.cells #[.slice aa d.sec.length ca, .slice ab d.cache.length cb] 25)).alloc (.cells #[.slice none 0 0, .slice none 0 0] 25)) (w.heap.size + 1) #[.slice none 0 0, .slice none 0 0] 25 ∧
      Below w.heap.size w ((w.alloc (.cells #[.slice aa d.sec.length ca, .slice ab d.cache.length cb] 25)).alloc (.cells #[.slice none 0 0, .slice none 0 0] 25)) ∧
      ((w.alloc (.cells #[.slice aa d.sec.length ca, .slice ab d.cache.length cb] 25)).alloc (.cells #[.slice none 0 0, .slice none 0 0] 25)).heap.size = w.heap.size + 2 := by
    have e1 : (w.alloc (.cells #[.slice aa d.sec.length ca, .slice ab d.cache.length cb] 25)).heap.size = w.heap.size + 1 := by simp
    have q0 := Box.new w #[.slice aa d.sec.length ca, .slice ab d.cache.length cb] 25
    have q1 := Box.new (w.alloc (.cells #[.slice aa d.sec.length ca, .slice ab d.cache.length cb] 25)) #[.slice none 0 0, .slice none 0 0] 25
    rw [e1] at q1
    exact ⟨q0.later ((Below.refl _ _).alloc (Nat.le_refl _) _), q1, ((Below.refl _ _).alloc (Nat.le_refl _) _).alloc (by simp) _, by simp⟩
  go_enter Tryz.func41, Tryz.ntmps41
  go_wp2
  generalize ((w.alloc (.cells #[.slice aa d.sec.length ca, .slice ab d.cache.length cb] 25)).alloc (.cells #[.slice none 0 0, .slice none 0 0] 25)) = W at hx0 hx1 b0 hsz ⊢
  have c0 := hx0.cell 0 (.slice aa d.sec.length ca) rfl
  have c1 := hx0.cell 1 (.slice ab d.cache.length cb) rfl
  have hd1 : Below w.heap.size w W.drew := b0.drew
  have HK0 : Hid (W.drew.cell? ⟨w.heap.size, 0, none⟩ = some (.slice aa d.sec.length ca) ∧ W.drew.cell? ⟨w.heap.size, 1, none⟩ = some (.slice ab d.cache.length cb) ∧ Below w.heap.size w W.drew ∧ W.heap.size ≤ W.drew.heap.size ∧ ∃ u0 u1, Box W.drew (w.heap.size + 1) #[u0, u1] 25) := ⟨c0, c1, b0.drew, Nat.le_refl _, _, _, hx1⟩
  have HK1 : Hid (∀ (x : World) (o : Obj), (x.cell? ⟨w.heap.size, 0, none⟩ = some (.slice aa d.sec.length ca) ∧ x.cell? ⟨w.heap.size, 1, none⟩ = some (.slice ab d.cache.length cb) ∧ Below w.heap.size w x ∧ W.heap.size ≤ x.heap.size ∧ ∃ u0 u1, Box x (w.heap.size + 1) #[u0, u1] 25) → ((x.alloc o).cell? ⟨w.heap.size, 0, none⟩ = some (.slice aa d.sec.length ca) ∧ (x.alloc o).cell? ⟨w.heap.size, 1, none⟩ = some (.slice ab d.cache.length cb) ∧ Below w.heap.size w (x.alloc o) ∧ W.heap.size ≤ (x.alloc o).heap.size ∧ ∃ u0 u1, Box (x.alloc o) (w.heap.size + 1) #[u0, u1] 25)) := by
    intro x o ⟨h1, h2, h3, h4, u0, u1, h5⟩
    have hb : Below x.heap.size x (x.alloc o) := (Below.refl _ _).alloc (Nat.le_refl _) _
    refine ⟨(hb.cell (p := ⟨w.heap.size, 0, none⟩) (World.block_lt_of_cell? _ _ h1)).trans h1, (hb.cell (p := ⟨w.heap.size, 1, none⟩) (World.block_lt_of_cell? _ _ h2)).trans h2, h3.alloc (by omega) o, Nat.le_trans h4 hb.size, u0, u1, h5.later hb⟩
  have HK2 : Hid (∀ (x y : World) (r : Option Nat), (x.cell? ⟨w.heap.size, 0, none⟩ = some (.slice aa d.sec.length ca) ∧ x.cell? ⟨w.heap.size, 1, none⟩ = some (.slice ab d.cache.length cb) ∧ Below w.heap.size w x ∧ W.heap.size ≤ x.heap.size ∧ ∃ u0 u1, Box x (w.heap.size + 1) #[u0, u1] 25) → x.grownBy y r → (∀ k, r = some k → W.heap.size ≤ k ∧ k < x.heap.size) → (y.cell? ⟨w.heap.size, 0, none⟩ = some (.slice aa d.sec.length ca) ∧ y.cell? ⟨w.heap.size, 1, none⟩ = some (.slice ab d.cache.length cb) ∧ Below w.heap.size w y ∧ W.heap.size ≤ y.heap.size ∧ ∃ u0 u1, Box y (w.heap.size + 1) #[u0, u1] 25)) := by
    intro x y r ⟨h1, h2, h3, h4, u0, u1, h5⟩ hg hr
    refine ⟨hg.cell h1 (fun e => by have := hr _ e.symm; simp at this; omega), hg.cell h2 (fun e => by have := hr _ e.symm; simp at this; omega), h3.grown hg (by omega) (fun k hk => by have := hr k hk; omega), Nat.le_trans h4 hg.size, u0, u1, ?_⟩
    exact (hg.block _ h5.lt (fun e => by have := hr _ e.symm; omega)).trans h5
  have HK3 : Hid (∀ (x : World) (y z : Value), (x.cell? ⟨w.heap.size, 0, none⟩ = some (.slice aa d.sec.length ca) ∧ x.cell? ⟨w.heap.size, 1, none⟩ = some (.slice ab d.cache.length cb) ∧ Below w.heap.size w x ∧ W.heap.size ≤ x.heap.size ∧ ∃ u0 u1, Box x (w.heap.size + 1) #[u0, u1] 25) → (((x.setCell ⟨w.heap.size + 1, 0, none⟩ y).setCell ⟨w.heap.size + 1, 1, none⟩ z).cell? ⟨w.heap.size, 0, none⟩ = some (.slice aa d.sec.length ca) ∧ ((x.setCell ⟨w.heap.size + 1, 0, none⟩ y).setCell ⟨w.heap.size + 1, 1, none⟩ z).cell? ⟨w.heap.size, 1, none⟩ = some (.slice ab d.cache.length cb) ∧ Below w.heap.size w ((x.setCell ⟨w.heap.size + 1, 0, none⟩ y).setCell ⟨w.heap.size + 1, 1, none⟩ z) ∧ W.heap.size ≤ ((x.setCell ⟨w.heap.size + 1, 0, none⟩ y).setCell ⟨w.heap.size + 1, 1, none⟩ z).heap.size ∧ ∃ u0 u1, Box ((x.setCell ⟨w.heap.size + 1, 0, none⟩ y).setCell ⟨w.heap.size + 1, 1, none⟩ z) (w.heap.size + 1) #[u0, u1] 25)) := by
    intro x y z ⟨h1, h2, h3, h4, u0, u1, h5⟩
    refine ⟨?_, ?_, (h3.setCell (p := ⟨w.heap.size + 1, 0, none⟩) (by simp) y).setCell (p := ⟨w.heap.size + 1, 1, none⟩) (by simp) z, by simpa using h4, y, z, ?_⟩
    · rw [World.cell?_setCell_other _ _ _ _ (by simp), World.cell?_setCell_other _ _ _ _ (by simp)]; exact h1
    · rw [World.cell?_setCell_other _ _ _ _ (by simp), World.cell?_setCell_other _ _ _ _ (by simp)]; exact h2
    · have := (h5.set 0 y).set 1 z
      simpa using this
  have HS : Hid (∀ w', (w'.cell? ⟨w.heap.size, 0, none⟩ = some (.slice aa d.sec.length ca) ∧ w'.cell? ⟨w.heap.size, 1, none⟩ = some (.slice ab d.cache.length cb) ∧ Below w.heap.size w w' ∧ W.heap.size ≤ w'.heap.size ∧ ∃ u0 u1, Box w' (w.heap.size + 1) #[u0, u1] 25) → RBuf strE B w' w' (.slice aa d.sec.length ca) d.sec ∧ RBuf wrE B w' w' (.slice ab d.cache.length cb) d.cache) := fun w' hw => ⟨(h1.later hw.2.2.1).1, (h2.later hw.2.2.1).1⟩
  have sAB : (W.alloc (.cells #[] 9)).heap.size = W.heap.size + 1 := by simp
  have sBA : (W.alloc (.cells #[] 104)).heap.size = W.heap.size + 1 := by simp
  have HA1 : Hid (RBuf strE W.heap.size (W.alloc (.cells #[] 9)).drew (W.alloc (.cells #[] 9)).drew (.slice (some ⟨W.heap.size, 0, none⟩) 0 0) []) :=
    emptyRow strE (Box.new W #[] 9) rfl (Nat.le_refl _) (by show W.heap.size ≤ (W.alloc _).heap.size; simp)
  have HA2 : Hid (RBuf strE W.heap.size ((W.alloc (.cells #[] 9)).alloc (.cells #[] 104)).drew ((W.alloc (.cells #[] 9)).alloc (.cells #[] 104)).drew (.slice (some ⟨W.heap.size, 0, none⟩) 0 0) []) :=
    emptyRow strE ((Box.new W #[] 9).later (((Below.refl _ _).alloc (Nat.le_refl _) _).drew)) rfl (Nat.le_refl _) (by show W.heap.size ≤ ((W.alloc _).alloc _).heap.size; simp; omega)
  have HA3 : Hid (RBuf strE W.heap.size ((W.alloc (.cells #[] 104)).alloc (.cells #[] 9)).drew ((W.alloc (.cells #[] 104)).alloc (.cells #[] 9)).drew (.slice (some ⟨W.heap.size + 1, 0, none⟩) 0 0) []) :=
    emptyRow strE (Box.new (W.alloc (.cells #[] 104)) #[] 9) sBA.symm (by omega) (by show W.heap.size ≤ ((W.alloc _).alloc _).heap.size; simp; omega)
  have HB1 : Hid (∀ (x : World) (r : Option Nat), (W.alloc (.cells #[] 9)).drew.grownBy x r → RBuf wrE W.heap.size (x.alloc (.cells #[] 104)) (x.alloc (.cells #[] 104)) (.slice (some ⟨x.heap.size, 0, none⟩) 0 0) []) :=
    fun x r hg => by
      have hx : W.heap.size ≤ x.heap.size := Nat.le_trans (by show W.heap.size ≤ (W.alloc _).heap.size; simp) hg.size
      exact emptyRow wrE (Box.new x #[] 104) rfl hx (by simp; omega)
  have HB2 : Hid (∀ (x : World), ((W.alloc (.cells #[] 9)).alloc (.cells #[] 104)).drew.grownBy x (some W.heap.size) → RBuf wrE W.heap.size x x (.slice (some ⟨W.heap.size + 1, 0, none⟩) 0 0) []) := by
    intro x hg
    have hbx := Box.new (W.alloc (.cells #[] 9)) #[] 104
    rw [sAB] at hbx
    exact emptyRow wrE (boxG hg hbx (fun e => by have := Option.some.inj e; omega)) rfl (by omega) (Nat.le_trans (by show W.heap.size ≤ ((W.alloc _).alloc _).heap.size; simp; omega) hg.size)
  have HB3 : Hid (∀ (x : World), ((W.alloc (.cells #[] 104)).alloc (.cells #[] 9)).drew.grownBy x (some (W.heap.size + 1)) → RBuf wrE W.heap.size x x (.slice (some ⟨W.heap.size, 0, none⟩) 0 0) []) := by
    intro x hg
    have hbx := (Box.new W #[] 104).later ((Below.refl _ _).alloc (Nat.le_refl _) (.cells #[] 9))
    exact emptyRow wrE (boxG hg hbx (fun e => by have := Option.some.inj e; omega)) rfl (Nat.le_refl _) (Nat.le_trans (by show W.heap.size ≤ ((W.alloc _).alloc _).heap.size; simp; omega) hg.size)
  have HSZ := Lib.hid hsz
  clear hx0 h1 h2 h3 hsz sAB sBA
  go_region_held3 (fun w' => w'.cell? ⟨w.heap.size, 0, none⟩ = some (.slice aa d.sec.length ca) ∧ w'.cell? ⟨w.heap.size, 1, none⟩ = some (.slice ab d.cache.length cb) ∧ Below w.heap.size w w' ∧ W.heap.size ≤ w'.heap.size ∧ ∃ u0 u1, Box w' (w.heap.size + 1) #[u0, u1] 25)
    (first | exact HK0.out | exact HK1.out _ _ (by assumption) | exact HK2.out _ _ _ (by assumption) gA lA | exact HK2.out _ _ _ (by assumption) gB lB | exact HK3.out _ _ _ (by assumption))
    (first
      | (refine step_append_rows (by rfl) _ _ strE (by rfl) W.heap.size _ [] (by rfl) (by first | exact HA1.out | exact HA2.out | exact HA3.out) B _ d.sec (by rfl) (by first | exact (HS.out _ (by assumption)).1) (by simp [strE]; omega) ?_; intro vA wA hA gA atA lA; rw [List.nil_append] at hA; obtain ⟨pA, cA, rfl⟩ := hA.form; obtain ⟨_, _, _, _, u0, u1, hbx⟩ := HK2.out _ _ _ (by assumption) gA lA; have z0 := hbx.cell 0 u0 rfl; have z1 := hbx.cell 1 u1 rfl; have f0 := hbx.loose 0; have f1 := hbx.loose 1; clear hbx)
      | (refine step_append_rows (by rfl) _ _ wrE (by rfl) W.heap.size _ [] (by rfl) (by first | exact HB1.out _ _ gA | exact HB2.out _ gA | exact HB3.out _ gA) B _ d.cache (by rfl) (by first | exact (HS.out _ (by assumption)).2) (by simp [wrE]; omega) ?_; intro vB wB hB gB atB lB; rw [List.nil_append] at hB; obtain ⟨pB, cB, rfl⟩ := hB.form; obtain ⟨_, _, _, _, u0, u1, hbx⟩ := HK2.out _ _ _ (by assumption) gB lB; have z0 := hbx.cell 0 u0 rfl; have z1 := hbx.cell 1 u1 rfl; have f0 := hbx.loose 0; have f1 := hbx.loose 1; clear hbx))
  all_goals
    have hF : (((wB.setCell ⟨w.heap.size + 1, 0, none⟩ (.slice pA d.sec.length cA)).setCell ⟨w.heap.size + 1, 1, none⟩ (.slice pB d.cache.length cB)).cell? ⟨w.heap.size, 0, none⟩ = some (.slice aa d.sec.length ca) ∧ ((wB.setCell ⟨w.heap.size + 1, 0, none⟩ (.slice pA d.sec.length cA)).setCell ⟨w.heap.size + 1, 1, none⟩ (.slice pB d.cache.length cB)).cell? ⟨w.heap.size, 1, none⟩ = some (.slice ab d.cache.length cb) ∧ Below w.heap.size w ((wB.setCell ⟨w.heap.size + 1, 0, none⟩ (.slice pA d.sec.length cA)).setCell ⟨w.heap.size + 1, 1, none⟩ (.slice pB d.cache.length cB)) ∧ W.heap.size ≤ ((wB.setCell ⟨w.heap.size + 1, 0, none⟩ (.slice pA d.sec.length cA)).setCell ⟨w.heap.size + 1, 1, none⟩ (.slice pB d.cache.length cB)).heap.size ∧ ∃ u0 u1, Box ((wB.setCell ⟨w.heap.size + 1, 0, none⟩ (.slice pA d.sec.length cA)).setCell ⟨w.heap.size + 1, 1, none⟩ (.slice pB d.cache.length cB)) (w.heap.size + 1) #[u0, u1] 25) := by assumption
    have hfin : RBuf strE W.heap.size wB wB (.slice pA d.sec.length cA) d.sec ∧ ((Value.slice pA d.sec.length cA).ownBlock = none ∨ (Value.slice pA d.sec.length cA).ownBlock ≠ (Value.slice pB d.cache.length cB).ownBlock) := by
      first
        | exact copy_end1 hA gB atB
        | exact copy_end2 hA gB atA atB
        | exact copy_end3 hA gB atA atB
    have HF := Lib.hid hF
    have HFIN := Lib.hid hfin
    have HHB := Lib.hid hB
    clear hF hfin hB hA gA gB atA atB lA lB hd1
    go_wp2
    obtain ⟨_, _, bF, _, _⟩ := HF.out
    refine bodyPost_ret (v := .agg #[.slice pA d.sec.length cA, .slice pB d.cache.length cB]) (by simp [results, Tryz.results41, go_sem, z0, z1]) rfl ⟨_, rfl, ?_, bF⟩
    have hWl : w.heap.size + 1 < W.heap.size := by have := HSZ.out; omega
    have q1 := (HFIN.out.1.lown.store (w.heap.size + 1) 0 (.slice pA d.sec.length cA) hWl).store (w.heap.size + 1) 1 (.slice pB d.cache.length cB) hWl
    have q2 := (HHB.out.lown.store (w.heap.size + 1) 0 (.slice pA d.sec.length cA) hWl).store (w.heap.size + 1) 1 (.slice pB d.cache.length cB) hWl
    exact ⟨_, _, rfl, (q1.deeper (by omega)).wider (by simp) (Nat.le_refl _), (q2.deeper (by omega)).wider (by simp) (Nat.le_refl _), HFIN.out.2⟩

theorem DOwn.store {B T : Nat} {w : World} {v : Value} {d : Dk} (h : DOwn B T w v d) (g i : Nat) (u : Value) (hg : g < B) : DOwn B T (w.setCell ⟨g, i, none⟩ u) v d := by
  obtain ⟨va, vb, hv, h1, h2, h3⟩ := h
  exact ⟨va, vb, hv, h1.store g i u hg, h2.store g i u hg, h3⟩
theorem DOwn.widen {B T B' T' : Nat} {w : World} {v : Value} {d : Dk} (h : DOwn B T w v d) (hB : B' ≤ B) (hT : T ≤ T') (hs : T' ≤ w.heap.size) : DOwn B' T' w v d := by
  obtain ⟨va, vb, hv, h1, h2, h3⟩ := h
  exact ⟨va, vb, hv, (h1.deeper hB).wider hT hs, (h2.deeper hB).wider hT hs, h3⟩

def wrOk (d : Dk) (a : Int) (t : ByteArray) : Prop := d.ok ∧ (0 ≤ a ∧ a < d.sec.length) ∧ t.size = 32 ∧ d.cache.length < 60
instance (d : Dk) (a : Int) (t : ByteArray) : Decidable (wrOk d a t) := by unfold wrOk; infer_instance
def wrD (d : Dk) (a : Int) (t : ByteArray) : Dk := if wrOk d a t then ⟨d.sec, d.cache ++ [⟨a, t⟩]⟩ else d

def DiskR (d : Dk) (f : Bool) (w : World) (e : Ending) (w' : World) : Prop := ∃ v', e = .returned (.tuple #[v', .bool f]) ∧ DOwn w.heap.size w'.heap.size w' v' d ∧ Below w.heap.size w w'

set_option maxRecDepth 100000 in
set_option maxHeartbeats 4000000 in
theorem specWriteSector_any (d : Dk) (v : Value) (a : Int) (t : ByteArray) (B T : Nat) (w : World) (h : DOwn B T w v d) (hs : d.small) (ht : ∀ s ∈ d.sec, s.size ≤ 1099511627776) (hu : ∀ x ∈ d.cache, x.text.size ≤ 1099511627776) (_htz : t.size ≤ 1099511627776) :
    Calls Tryz.prog 67 #[v, .int .i64 a, .string t] w fun e w' => DiskR (wrD d a t) (decide (wrOk d a t)) w e w' := by
  obtain ⟨aa, ab, ca, cb, rfl⟩ := h.form
  obtain ⟨hx0, hx1, b0, hsz⟩ : Box ((w.alloc (.cells #[.slice aa d.sec.length ca, .slice ab d.cache.length cb] 25)).alloc (.cells #[.slice none 0 0, .slice none 0 0] 25)) w.heap.size #[.slice aa d.sec.length ca, .slice ab d.cache.length cb] 25 ∧
      Box ((w.alloc (.cells #[.slice aa d.sec.length ca, .slice ab d.cache.length cb] 25)).alloc (.cells #[.slice none 0 0, .slice none 0 0] 25)) (w.heap.size + 1) #[.slice none 0 0, .slice none 0 0] 25 ∧
      Below w.heap.size w ((w.alloc (.cells #[.slice aa d.sec.length ca, .slice ab d.cache.length cb] 25)).alloc (.cells #[.slice none 0 0, .slice none 0 0] 25)) ∧
      ((w.alloc (.cells #[.slice aa d.sec.length ca, .slice ab d.cache.length cb] 25)).alloc (.cells #[.slice none 0 0, .slice none 0 0] 25)).heap.size = w.heap.size + 2 := by
    have e1 : (w.alloc (.cells #[.slice aa d.sec.length ca, .slice ab d.cache.length cb] 25)).heap.size = w.heap.size + 1 := by simp
    have q0 := Box.new w #[.slice aa d.sec.length ca, .slice ab d.cache.length cb] 25
    have q1 := Box.new (w.alloc (.cells #[.slice aa d.sec.length ca, .slice ab d.cache.length cb] 25)) #[.slice none 0 0, .slice none 0 0] 25
    rw [e1] at q1
    exact ⟨q0.later ((Below.refl _ _).alloc (Nat.le_refl _) _), q1, ((Below.refl _ _).alloc (Nat.le_refl _) _).alloc (by simp) _, by simp⟩
  have h' := h.later b0
  go_enter Tryz.func67, Tryz.ntmps67
  go_wp2_with fail
  generalize ((w.alloc (.cells #[.slice aa d.sec.length ca, .slice ab d.cache.length cb] 25)).alloc (.cells #[.slice none 0 0, .slice none 0 0] 25)) = W at hx0 hx1 b0 hsz h' ⊢
  refine (specCopy_any d _ B T _ h' hs).mono ?_
  rintro e w2 ⟨v2, rfl, o2, k2⟩
  obtain ⟨a1, a2, q1, q2, rfl⟩ := o2.form
  have k3 : Below w2.heap.size w2 (w2.alloc (.cells #[.slice a1 d.sec.length q1, .slice a2 d.cache.length q2] 25)) := (Below.refl _ _).alloc (Nat.le_refl _) _
  have y3 := Box.new w2 #[.slice a1 d.sec.length q1, .slice a2 d.cache.length q2] 25
  have j3 := k2.trans (k3.mono k2.size)
  have o3 := o2.later k3
  have c0 := (hx0.later j3).cell 0 (.slice aa d.sec.length ca) rfl
  have c1 := (hx0.later j3).cell 1 (.slice ab d.cache.length cb) rfl
  have h3 := h'.later j3
  have s2 := k2.size
  clear h h' o2
  go_wp2_with fail
  clear c0 c1
  generalize hw3 : w2.alloc (.cells #[.slice a1 d.sec.length q1, .slice a2 d.cache.length q2] 25) = w3 at *
  have s3 : w3.heap.size = w2.heap.size + 1 := by rw [← hw3]; simp
  refine (specDiskOk_any d _ _ h3.rd hs ht hu).mono ?_
  rintro e w4 ⟨rfl, k4⟩
  have j4 := j3.trans (k4.mono j3.size)
  have c0 := (hx0.later j4).cell 0 (.slice aa d.sec.length ca) rfl
  have c1 := (hx0.later j4).cell 1 (.slice ab d.cache.length cb) rfl
  have r0 := (hx1.later j4).cell 0 (.slice none 0 0) rfl
  have r1 := (hx1.later j4).cell 1 (.slice none 0 0) rfl
  have g0 := (hx1.later j4).loose 0
  have g1 := (hx1.later j4).loose 1
  have y4 := y3.later k4
  have m0 := y4.cell 0 (.slice a1 d.sec.length q1) rfl
  have m1 := y4.cell 1 (.slice a2 d.cache.length q2) rfl
  have n1 := y4.loose 1
  have o4 := Lib.hid (o3.later k4)
  have bF : Below w.heap.size w w4 := b0.trans (j4.mono b0.size)
  have s4 := k4.size
  have hD1 := hs.1
  have hD2 := hs.2
  have YO := Lib.hid y4
  have YR := Lib.hid (hx1.later j4)
  clear hx0 hx1 y3 y4 h3 o3 ht hu hs
  by_cases hok : d.ok
  · rw [decide_eq_true hok]
    by_cases hin : 0 ≤ a ∧ a < d.sec.length
    · by_cases h32 : t.size = 32
      · by_cases hc : d.cache.length < 60
        · have HYES := Lib.hid (show wrD d a t = ⟨d.sec, d.cache ++ [⟨a, t⟩]⟩ ∧ decide (wrOk d a t) = true from ⟨if_pos ⟨hok, hin, h32, hc⟩, decide_eq_true ⟨hok, hin, h32, hc⟩⟩)
          have hcc : (d.cache.length : Int) < 60 := by omega
          obtain ⟨va, vb, hv, l1, l2, hap⟩ := o4.out
          simp only [Value.agg.injEq, Array.mk.injEq, List.cons.injEq, and_true] at hv
          obtain ⟨rfl, rfl⟩ := hv
          have L1 := Lib.hid l1
          have L2 := Lib.hid l2
          have HB2 : Hid (RBuf wrE W.heap.size (w4.alloc (.cells #[.int .i64 a, .string t] 104)) (w4.alloc (.cells #[.int .i64 a, .string t] 104)) (.slice a2 d.cache.length q2) d.cache) := (l2.1.alloc _).here
          have HX2 : Hid (RBuf wrE w4.heap.size (w4.alloc (.cells #[.int .i64 a, .string t] 104)) (w4.alloc (.cells #[.int .i64 a, .string t] 104)) (.slice (some ⟨w4.heap.size, 0, none⟩) 1 1) [⟨a, t⟩]) := RBuf.lit1 wrE w4 ⟨a, t⟩
          have hin2 : ∀ k, (Value.slice a2 d.cache.length q2).ownBlock = some k → W.heap.size ≤ k ∧ k < w2.heap.size := fun k hk => ⟨(l2.1.own.lt k hk).1, l2.2.2 k hk⟩
          have hin1 : ∀ k, (Value.slice a1 d.sec.length q1).ownBlock = some k → W.heap.size ≤ k ∧ k < w2.heap.size := fun k hk => ⟨(l1.1.own.lt k hk).1, l1.2.2 k hk⟩
          have kX : Below w4.heap.size w4 (w4.alloc (.cells #[.int .i64 a, .string t] 104)) := (Below.refl _ _).alloc (Nat.le_refl _) _
          have HC6 : Hid (∀ x, (w4.alloc (.cells #[.int .i64 a, .string t] 104)).grownBy x (Value.slice a2 d.cache.length q2).ownBlock → x.cell? ⟨w2.heap.size, 0, none⟩ = some (.slice a1 d.sec.length q1) ∧ x.cell? ⟨w2.heap.size, 1, none⟩ = some (.slice a2 d.cache.length q2) ∧ x.frozen? ⟨w2.heap.size, 1, none⟩ = false ∧
              x.cell? ⟨w.heap.size + 1, 0, none⟩ = some (.slice none 0 0) ∧ x.cell? ⟨w.heap.size + 1, 1, none⟩ = some (.slice none 0 0) ∧ x.frozen? ⟨w.heap.size + 1, 0, none⟩ = false ∧ x.frozen? ⟨w.heap.size + 1, 1, none⟩ = false ∧ Below w.heap.size w x ∧ LOwn strE W.heap.size w2.heap.size x (.slice a1 d.sec.length q1) d.sec ∧ w4.heap.size + 1 ≤ x.heap.size) := by
            intro x hg
            have sx : (w4.alloc (.cells #[.int .i64 a, .string t] 104)).heap.size = w4.heap.size + 1 := by simp
            have bo := (YO.out.later kX)
            have br := (YR.out.later kX)
            have bo2 : Box x w2.heap.size #[.slice a1 d.sec.length q1, .slice a2 d.cache.length q2] 25 := (hg.block _ bo.lt (fun e => by have := hin2 _ e.symm; omega)).trans bo
            have br2 : Box x (w.heap.size + 1) #[.slice none 0 0, .slice none 0 0] 25 := (hg.block _ br.lt (fun e => by have := hin2 _ e.symm; omega)).trans br
            have bb := (bF.alloc bF.size (.cells #[.int .i64 a, .string t] 104)).grown hg (by simp; omega) (fun k hk => by have := hin2 k hk; omega)
            refine ⟨bo2.cell 0 _ rfl, bo2.cell 1 _ rfl, bo2.loose 1, br2.cell 0 _ rfl, br2.cell 1 _ rfl, br2.loose 0, br2.loose 1, bb, (l1.later kX).grown hg hap, by have := hg.size; omega⟩
          have HAP := Lib.hid hap
          have HIN := Lib.hid (And.intro hin1 hin2)
          clear l1 l2 hap hin1 hin2
          go_wp2_with (first | (go_at_call 17; refine (in_yes _ _ _ _ (by omega) (by omega)).mono ?_; rintro e w5 ⟨rfl, rfl⟩) | (at_builtin; refine wpList_append_rows rfl _ _ wrE rfl W.heap.size _ d.cache rfl HB2.out w4.heap.size _ [⟨a, t⟩] rfl HX2.out (by simp [wrE]; omega) ?_; intro v6 w6 hr6 hg6 at6; obtain ⟨a6, q6, rfl⟩ := hr6.form; obtain ⟨z0, z1, z2, z3, z4, z5, z6, z7, z8, z9⟩ := HC6.out w6 hg6))
          have e6 : (d.cache ++ [(⟨a, t⟩ : Wr)]).length = d.cache.length + 1 := by simp
          rw [e6] at hr6 at6
          have at7 : (Value.slice a6 (d.cache.length + 1) q6).ownBlock = (Value.slice a2 d.cache.length q2).ownBlock ∨ (Value.slice a6 (d.cache.length + 1) q6).ownBlock = some (w4.heap.size + 1) := by
            have sx : (w4.alloc (.cells #[.int .i64 a, .string t] 104)).heap.size = w4.heap.size + 1 := by simp
            rw [← sx]; exact at6
          have nO : (Value.slice a6 (d.cache.length + 1) q6).ownBlock ≠ some w2.heap.size := by
            rcases at7 with e | e
            · rw [e]; intro h; have := HIN.out.2 _ h; omega
            · rw [e]; intro h; have := Option.some.inj h; omega
          have f1 := ((z8.storeHi w2.heap.size 1 (.slice a6 (d.cache.length + 1) q6) (Nat.le_refl _)).store (w.heap.size + 1) 0 (.slice a1 d.sec.length q1) (by omega)).store (w.heap.size + 1) 1 (.slice a6 (d.cache.length + 1) q6) (by omega)
          have f2 := ((hr6.lown.grown (stored_grown w6 w2.heap.size 1 (.slice a6 (d.cache.length + 1) q6)) (.inr nO)).store (w.heap.size + 1) 0 (.slice a1 d.sec.length q1) (by omega)).store (w.heap.size + 1) 1 (.slice a6 (d.cache.length + 1) q6) (by omega)
          have bE := ((z7.setCell (p := ⟨w2.heap.size, 1, none⟩) (by simp; omega) (.slice a6 (d.cache.length + 1) q6)).setCell (p := ⟨w.heap.size + 1, 0, none⟩) (by simp) (.slice a1 d.sec.length q1)).setCell (p := ⟨w.heap.size + 1, 1, none⟩) (by simp) (.slice a6 (d.cache.length + 1) q6)
          refine bodyPost_ret (v := .tuple #[.agg #[.slice a1 d.sec.length q1, .slice a6 (d.cache.length + 1) q6], .bool true]) (by simp [results, Tryz.results67, go_sem, z3, z4]) rfl ?_
          rw [HYES.out.1, HYES.out.2]
          refine ⟨_, rfl, ⟨_, _, rfl, (f1.deeper (by omega)).wider (by simp; omega) (Nat.le_refl _), (f2.deeper (by omega)).wider (by simp) (Nat.le_refl _), ?_⟩, bE⟩
          rcases at7 with e | e
          · rw [e]; exact HAP.out
          · rw [e]
            refine .inr fun h => ?_
            have := HIN.out.1 _ h
            omega
        · have HNO := Lib.hid (show wrD d a t = d ∧ decide (wrOk d a t) = false from ⟨if_neg (fun h => hc h.2.2.2), decide_eq_false (fun h => hc h.2.2.2)⟩)
          have hcc : ¬ (d.cache.length : Int) < 60 := by omega
          go_wp2_with (go_at_call 17; refine (in_yes _ _ _ _ (by omega) (by omega)).mono ?_; rintro e w5 ⟨rfl, rfl⟩)
          refine bodyPost_ret (v := .tuple #[.agg #[.slice a1 d.sec.length q1, .slice a2 d.cache.length q2], .bool false]) (by simp [results, Tryz.results67, go_sem, r0, r1]) rfl ?_
          rw [HNO.out.1, HNO.out.2]
          exact ⟨_, rfl, ((o4.out.store (w.heap.size + 1) 0 (.slice a1 d.sec.length q1) (by omega)).store (w.heap.size + 1) 1 (.slice a2 d.cache.length q2) (by omega)).widen (by omega) (by simp; omega) (Nat.le_refl _), (bF.setCell (p := ⟨w.heap.size + 1, 0, none⟩) (by simp) _).setCell (p := ⟨w.heap.size + 1, 1, none⟩) (by simp) _⟩
      · have HNO := Lib.hid (show wrD d a t = d ∧ decide (wrOk d a t) = false from ⟨if_neg (fun h => h32 h.2.2.1), decide_eq_false (fun h => h32 h.2.2.1)⟩)
        have h33 : ¬ (t.size : Int) = 32 := by omega
        go_wp2_with (go_at_call 17; refine (in_yes _ _ _ _ (by omega) (by omega)).mono ?_; rintro e w5 ⟨rfl, rfl⟩)
        refine bodyPost_ret (v := .tuple #[.agg #[.slice a1 d.sec.length q1, .slice a2 d.cache.length q2], .bool false]) (by simp [results, Tryz.results67, go_sem, r0, r1]) rfl ?_
        rw [HNO.out.1, HNO.out.2]
        exact ⟨_, rfl, ((o4.out.store (w.heap.size + 1) 0 (.slice a1 d.sec.length q1) (by omega)).store (w.heap.size + 1) 1 (.slice a2 d.cache.length q2) (by omega)).widen (by omega) (by simp; omega) (Nat.le_refl _), (bF.setCell (p := ⟨w.heap.size + 1, 0, none⟩) (by simp) _).setCell (p := ⟨w.heap.size + 1, 1, none⟩) (by simp) _⟩
    · have HNO := Lib.hid (show wrD d a t = d ∧ decide (wrOk d a t) = false from ⟨if_neg (fun h => hin h.2.1), decide_eq_false (fun h => hin h.2.1)⟩)
      go_wp2_with (go_at_call 17; refine (in_no _ _ _ _ (by omega)).mono ?_; rintro e w5 ⟨rfl, rfl⟩)
      refine bodyPost_ret (v := .tuple #[.agg #[.slice a1 d.sec.length q1, .slice a2 d.cache.length q2], .bool false]) (by simp [results, Tryz.results67, go_sem, r0, r1]) rfl ?_
      rw [HNO.out.1, HNO.out.2]
      exact ⟨_, rfl, ((o4.out.store (w.heap.size + 1) 0 (.slice a1 d.sec.length q1) (by omega)).store (w.heap.size + 1) 1 (.slice a2 d.cache.length q2) (by omega)).widen (by omega) (by simp; omega) (Nat.le_refl _), (bF.setCell (p := ⟨w.heap.size + 1, 0, none⟩) (by simp) _).setCell (p := ⟨w.heap.size + 1, 1, none⟩) (by simp) _⟩
  · rw [decide_eq_false hok]
    have HNO := Lib.hid (show wrD d a t = d ∧ decide (wrOk d a t) = false from ⟨if_neg (fun h => hok h.1), decide_eq_false (fun h => hok h.1)⟩)
    go_wp2
    refine bodyPost_ret (v := .tuple #[.agg #[.slice a1 d.sec.length q1, .slice a2 d.cache.length q2], .bool false]) (by simp [results, Tryz.results67, go_sem, r0, r1]) rfl ?_
    rw [HNO.out.1, HNO.out.2]
    exact ⟨_, rfl, ((o4.out.store (w.heap.size + 1) 0 (.slice a1 d.sec.length q1) (by omega)).store (w.heap.size + 1) 1 (.slice a2 d.cache.length q2) (by omega)).widen (by omega) (by simp; omega) (Nat.le_refl _), (bF.setCell (p := ⟨w.heap.size + 1, 0, none⟩) (by simp) _).setCell (p := ⟨w.heap.size + 1, 1, none⟩) (by simp) _⟩

end Go.Proofs.YtgcnebepklelpaaGreatDoor

/- Disks: what the model's FlushDisk hands back. -/
namespace Go.Proofs.YtgcnebepklelpaaGreatDoor
open Go.RowKit

def flush (sec : List ByteArray) (c : List Wr) : List ByteArray := c.foldl (fun s x => s.set x.at_.toNat x.text) sec
theorem flush_length (sec : List ByteArray) (c : List Wr) : (flush sec c).length = sec.length := by
  induction c generalizing sec with
  | nil => rfl
  | cons x c ih =>
    have : flush sec (x :: c) = flush (sec.set x.at_.toNat x.text) c := rfl
    rw [this, ih]; simp
theorem flush_take {sec : List ByteArray} {c : List Wr} {i : Nat} (h : i < c.length) : flush sec (c.take (i + 1)) = (flush sec (c.take i)).set c[i].at_.toNat c[i].text := by
  rw [List.take_succ_eq_append_getElem h, flush, flush, List.foldl_append]; rfl
theorem flush_all {sec : List ByteArray} {c : List Wr} {i : Nat} (h : c.length ≤ i) : flush sec (c.take i) = flush sec c := by rw [List.take_of_length_le h]
def flD (d : Dk) : Dk := if d.ok then ⟨flush d.sec d.cache, []⟩ else d

def DiskR1 (d : Dk) (w : World) (e : Ending) (w' : World) : Prop := ∃ v', e = .returned v' ∧ DOwn w.heap.size w'.heap.size w' v' d ∧ Below w.heap.size w w'

theorem RBuf.drew' {α : Type} {E : Enc α} {B : Nat} {w : World} {v : Value} {l : List α} (h : RBuf E B w w v l) : RBuf E B w.drew w.drew v l := ⟨h.own.drew, Below.refl _ _, h.le⟩

theorem Box.kept {b B T : Nat} {w w' : World} {cs : Array Value} {t : TypeId} (h : Box w b cs t) (hk : Kept B T w w') (hb : b < B ∨ T ≤ b) : Box w' b cs t := (hk.block b h.lt hb).trans h

set_option maxRecDepth 100000 in
set_option maxHeartbeats 4000000 in
theorem specFlushDisk_any (d : Dk) (v : Value) (B T : Nat) (w : World) (h : DOwn B T w v d) (hs : d.small) (ht : ∀ s ∈ d.sec, s.size ≤ 1099511627776) (hu : ∀ x ∈ d.cache, x.text.size ≤ 1099511627776) :
    Calls Tryz.prog 38 #[v] w fun e w' => DiskR1 (flD d) w e w' := by
  obtain ⟨aa, ab, ca, cb, rfl⟩ := h.form
  obtain ⟨hx0, hx1, b0, hsz⟩ : Box ((w.alloc (.cells #[.slice aa d.sec.length ca, .slice ab d.cache.length cb] 25)).alloc (.cells #[.slice none 0 0, .slice none 0 0] 25)) w.heap.size #[.slice aa d.sec.length ca, .slice ab d.cache.length cb] 25 ∧
      Box ((w.alloc (.cells #[.slice aa d.sec.length ca, .slice ab d.cache.length cb] 25)).alloc (.cells #[.slice none 0 0, .slice none 0 0] 25)) (w.heap.size + 1) #[.slice none 0 0, .slice none 0 0] 25 ∧
      Below w.heap.size w ((w.alloc (.cells #[.slice aa d.sec.length ca, .slice ab d.cache.length cb] 25)).alloc (.cells #[.slice none 0 0, .slice none 0 0] 25)) ∧
      ((w.alloc (.cells #[.slice aa d.sec.length ca, .slice ab d.cache.length cb] 25)).alloc (.cells #[.slice none 0 0, .slice none 0 0] 25)).heap.size = w.heap.size + 2 := by
    have e1 : (w.alloc (.cells #[.slice aa d.sec.length ca, .slice ab d.cache.length cb] 25)).heap.size = w.heap.size + 1 := by simp
    have q0 := Box.new w #[.slice aa d.sec.length ca, .slice ab d.cache.length cb] 25
    have q1 := Box.new (w.alloc (.cells #[.slice aa d.sec.length ca, .slice ab d.cache.length cb] 25)) #[.slice none 0 0, .slice none 0 0] 25
    rw [e1] at q1
    exact ⟨q0.later ((Below.refl _ _).alloc (Nat.le_refl _) _), q1, ((Below.refl _ _).alloc (Nat.le_refl _) _).alloc (by simp) _, by simp⟩
  have h' := h.later b0
  have hTw : T ≤ w.heap.size := by obtain ⟨_, _, _, l1, _⟩ := h; exact l1.2.1
  go_enter Tryz.func38, Tryz.ntmps38
  go_wp2_with fail
  generalize ((w.alloc (.cells #[.slice aa d.sec.length ca, .slice ab d.cache.length cb] 25)).alloc (.cells #[.slice none 0 0, .slice none 0 0] 25)) = W at hx0 hx1 b0 hsz h' ⊢
  refine (specCopy_any d _ B T _ h' hs).mono ?_
  rintro e w2 ⟨v2, rfl, o2, k2⟩
  obtain ⟨a1, a2, q1, q2, rfl⟩ := o2.form
  have k3 : Below w2.heap.size w2 (w2.alloc (.cells #[.slice a1 d.sec.length q1, .slice a2 d.cache.length q2] 25)) := (Below.refl _ _).alloc (Nat.le_refl _) _
  have y3 := Box.new w2 #[.slice a1 d.sec.length q1, .slice a2 d.cache.length q2] 25
  have j3 := k2.trans (k3.mono k2.size)
  have o3 := o2.later k3
  have c0 := (hx0.later j3).cell 0 (.slice aa d.sec.length ca) rfl
  have c1 := (hx0.later j3).cell 1 (.slice ab d.cache.length cb) rfl
  have h3 := h'.later j3
  have s2 := k2.size
  clear h h' o2
  go_wp2_with fail
  clear c0 c1
  generalize hw3 : w2.alloc (.cells #[.slice a1 d.sec.length q1, .slice a2 d.cache.length q2] 25) = w3 at *
  have s3 : w3.heap.size = w2.heap.size + 1 := by rw [← hw3]; simp
  refine (specDiskOk_any d _ _ h3.rd hs ht hu).mono ?_
  rintro e w4 ⟨rfl, k4⟩
  have j4 := j3.trans (k4.mono j3.size)
  have x4 := hx0.later j4
  have r4 := hx1.later j4
  have y4 := y3.later k4
  have o4 := o3.later k4
  have h4 := h3.later k4
  have bF : Below w.heap.size w w4 := b0.trans (j4.mono b0.size)
  have s4 := k4.size
  have hD1 := hs.1
  have hD2 := hs.2
  clear hx0 hx1 y3 h3 o3 ht hu hs
  by_cases hok : d.ok
  · rw [decide_eq_true hok]
    have HYES := Lib.hid (show flD d = ⟨flush d.sec d.cache, []⟩ from if_pos hok)
    obtain ⟨va, vb, hv, l1, l2, hap⟩ := o4
    simp only [Value.agg.injEq, Array.mk.injEq, List.cons.injEq, and_true] at hv
    obtain ⟨rfl, rfl⟩ := hv
    obtain ⟨g1, rfl⟩ : ∃ g1 : Nat, a1 = some ⟨g1, 0, none⟩ := by
      rcases l1.1.own.2 with ⟨_, e⟩ | ⟨g, cap, cur, e, _⟩
      · have := hok.1; omega
      · simp only [Value.slice.injEq] at e; exact ⟨g, e.1⟩
    have hg1 : W.heap.size ≤ g1 ∧ g1 < w2.heap.size := ⟨(l1.1.own.lt g1 rfl).1, l1.2.2 g1 rfl⟩
    have hcells : ∀ x ∈ d.cache, 0 ≤ x.at_ ∧ x.at_ < d.sec.length := fun x hx => ⟨(hok.2.2.2.2 x hx).1, (hok.2.2.2.2 x hx).2.1⟩
    have H4 := Lib.hid h4
    have X4 := Lib.hid x4
    have R4 := Lib.hid r4
    have Y4 := Lib.hid y4
    have HC := Lib.hid hcells
    clear h4 x4 r4 y4 hcells l2 hap
    go_wp2
    go_loopw [4] (fun iv wr => ∃ i : Nat, i ≤ d.cache.length ∧ iv = .int .i64 (i : Int) ∧ RBuf strE W.heap.size wr wr (.slice (some ⟨g1, 0, none⟩) d.sec.length q1) (flush d.sec (d.cache.take i)) ∧ Kept W.heap.size w2.heap.size w4 wr) (fun iv _ => d.cache.length - (intOf iv).toNat)
    case atStart => exact ⟨0, by omega, rfl, l1.1, Kept.of_below (Below.refl _ _) _ _⟩
    case round =>
      obtain ⟨i, hi, rfl, hbr, hkp⟩ := hrel
      have x5 := X4.out.kept hkp (.inl (by omega))
      have r5 := R4.out.kept hkp (.inl (by omega))
      have y5 := Y4.out.kept hkp (.inr (Nat.le_refl _))
      by_cases hlt : i < d.cache.length
      · have h5 := H4.out.kept hkp (.inl (by omega))
        obtain ⟨_, _, hv5, _, l5, _⟩ := h5
        simp only [Value.agg.injEq, Array.mk.injEq, List.cons.injEq, and_true] at hv5
        obtain ⟨rfl, rfl⟩ := hv5
        obtain ⟨g, off, rfl, hcl⟩ := l5.rows.at i hlt
        have d0 : wr.cell? ⟨g, off + i * 2, none⟩ = some (.int .i64 d.cache[i].at_) := hcl wr (Below.refl _ _) 0 _ rfl
        have d1 : wr.cell? ⟨g, off + i * 2 + 1, none⟩ = some (.string d.cache[i].text) := hcl wr (Below.refl _ _) 1 _ rfl
        obtain ⟨hx1, hx2⟩ := HC.out _ (List.getElem_mem hlt)
        have hft := Lib.hid (flush_take (sec := d.sec) hlt)
        have hfl := flush_length d.sec (d.cache.take i)
        clear hcl l5
        generalize d.cache[i] = x at *
        obtain ⟨n, t⟩ := x
        simp only at d0 d1 hx1 hx2 hft
        obtain ⟨k, rfl⟩ := Int.eq_ofNat_of_zero_le hx1
        rw [Int.toNat_natCast] at hft
        have hk : k < (flush d.sec (d.cache.take i)).length := by omega
        have hat := List.getElem?_eq_getElem hk
        rw [← hfl] at hbr
        have cs : wr.cell? ⟨g1, k, none⟩ = some (.string (flush d.sec (d.cache.take i))[k]) := by
          have := hbr.cell rfl k _ hat 0 _ rfl
          rw [show strE.sz = 1 from rfl, Nat.mul_one, Nat.add_zero] at this
          exact this
        have fs := hbr.loose k
        have hst := hbr.stored k _ t hat 0 (by decide) (.string t) rfl
        rw [show strE.sz = 1 from rfl, Nat.mul_one, Nat.add_zero, ← hft.out, hfl] at hst
        have hk2 : Kept W.heap.size w2.heap.size w4 (wr.setCell ⟨g1, k, none⟩ (.string t)) := hkp.trans (Kept.of_grown (stored_grown wr g1 k (.string t)) (fun j hj => by have := Option.some.inj hj; omega))
        have m1 := x5.cell 1 (.slice (some ⟨g, off, none⟩) d.cache.length cb) rfl
        have n0 := y5.cell 0 (.slice (some ⟨g1, 0, none⟩) d.sec.length q1) rfl
        have hi0 : (0 : Int) ≤ (i : Int) := by omega
        have hi1 : (i : Int) < (d.cache.length : Int) := by omega
        have hk0 : (0 : Int) ≤ (k : Int) := by omega
        generalize (flush d.sec (d.cache.take i))[k] = old at cs
        have HST := Lib.hid hst
        have HK2 := Lib.hid hk2
        clear hbr hkp hat x5 r5 y5 hst hk2 hk hfl
        go_wp2
        go_region
        all_goals
          go_wp2
          go_roundw
          case rel => exact ⟨i + 1, by omega, by go_num, HST.out.here.drew', HK2.out.trans (Kept.of_below ((Below.refl _ _).drew) _ _)⟩
          case measure => simp [intOf]; omega
      · rw [flush_all (by omega)] at hbr
        have x1 := x5.cell 1 (.slice ab d.cache.length cb) rfl
        have kA : Below wr.heap.size wr (wr.alloc (.cells #[] 104)) := (Below.refl _ _).alloc (Nat.le_refl _) _
        have y6 := y5.later kA
        have r6 := r5.later kA
        have m0 := y6.cell 0 (.slice (some ⟨g1, 0, none⟩) d.sec.length q1) rfl
        have m1 := y6.cell 1 (.slice a2 d.cache.length q2) rfl
        have n1 := y6.loose 1
        have r0 := r6.cell 0 (.slice none 0 0) rfl
        have r1 := r6.cell 1 (.slice none 0 0) rfl
        have f0 := r6.loose 0
        have f1 := r6.loose 1
        have sA : (wr.alloc (.cells #[] 104)).heap.size = wr.heap.size + 1 := by simp
        have hfl := flush_length d.sec d.cache
        have hwr : w4.heap.size ≤ wr.heap.size := hkp.size
        have LS := Lib.hid (show LOwn strE W.heap.size w2.heap.size (wr.alloc (.cells #[] 104)) (.slice (some ⟨g1, 0, none⟩) d.sec.length q1) (flush d.sec d.cache) from LOwn.later ⟨hbr, by omega, fun j hj => by have : g1 = j := Option.some.inj hj; omega⟩ kA)
        have LC := Lib.hid (show LOwn wrE wr.heap.size (wr.alloc (.cells #[] 104)).heap.size (wr.alloc (.cells #[] 104)) (.slice (some ⟨wr.heap.size, 0, none⟩) 0 0) [] from (RBuf.fresh wrE wr).lown)
        have BA := Lib.hid ((hkp.below bF (by omega) bF.size).alloc (Nat.le_trans bF.size hkp.size) (.cells #[] 104))
        clear x5 r5 y5 y6 r6 hbr hkp kA
        go_wp2
        have q1' := ((LS.out.storeHi w2.heap.size 1 (.slice (some ⟨wr.heap.size, 0, none⟩) 0 0) (Nat.le_refl _)).store (w.heap.size + 1) 0 (.slice (some ⟨g1, 0, none⟩) d.sec.length q1) (by omega)).store (w.heap.size + 1) 1 (.slice (some ⟨wr.heap.size, 0, none⟩) 0 0) (by omega)
        have q2' := ((LC.out.store w2.heap.size 1 (.slice (some ⟨wr.heap.size, 0, none⟩) 0 0) (by omega)).store (w.heap.size + 1) 0 (.slice (some ⟨g1, 0, none⟩) d.sec.length q1) (by omega)).store (w.heap.size + 1) 1 (.slice (some ⟨wr.heap.size, 0, none⟩) 0 0) (by omega)
        have bE := ((BA.out.setCell (p := ⟨w2.heap.size, 1, none⟩) (by simp; omega) (.slice (some ⟨wr.heap.size, 0, none⟩) 0 0)).setCell (p := ⟨w.heap.size + 1, 0, none⟩) (by simp) (.slice (some ⟨g1, 0, none⟩) d.sec.length q1)).setCell (p := ⟨w.heap.size + 1, 1, none⟩) (by simp) (.slice (some ⟨wr.heap.size, 0, none⟩) 0 0)
        refine bodyPost_ret (v := .agg #[.slice (some ⟨g1, 0, none⟩) d.sec.length q1, .slice (some ⟨wr.heap.size, 0, none⟩) 0 0]) (by simp [results, Tryz.results38, go_sem, r0, r1]) rfl ?_
        rw [HYES.out]
        refine ⟨_, rfl, ⟨_, _, rfl, (q1'.deeper (by omega)).wider (by simp; omega) (Nat.le_refl _), (q2'.deeper (by omega)).wider (by simp) (Nat.le_refl _), .inr fun e => ?_⟩, bE⟩
        have : g1 = wr.heap.size := Option.some.inj e
        omega
  · rw [decide_eq_false hok]
    have HNO := Lib.hid (show flD d = d from if_neg hok)
    have r0 := r4.cell 0 (.slice none 0 0) rfl
    have r1 := r4.cell 1 (.slice none 0 0) rfl
    have f0 := r4.loose 0
    have f1 := r4.loose 1
    have m0 := y4.cell 0 (.slice a1 d.sec.length q1) rfl
    have m1 := y4.cell 1 (.slice a2 d.cache.length q2) rfl
    clear x4 r4 y4 h4
    go_wp2
    refine bodyPost_ret (v := .agg #[.slice a1 d.sec.length q1, .slice a2 d.cache.length q2]) (by simp [results, Tryz.results38, go_sem, r0, r1]) rfl ?_
    rw [HNO.out]
    exact ⟨_, rfl, ((o4.store (w.heap.size + 1) 0 (.slice a1 d.sec.length q1) (by omega)).store (w.heap.size + 1) 1 (.slice a2 d.cache.length q2) (by omega)).widen (by omega) (by simp; omega) (Nat.le_refl _), (bF.setCell (p := ⟨w.heap.size + 1, 0, none⟩) (by simp) _).setCell (p := ⟨w.heap.size + 1, 1, none⟩) (by simp) _⟩

end Go.Proofs.YtgcnebepklelpaaGreatDoor
