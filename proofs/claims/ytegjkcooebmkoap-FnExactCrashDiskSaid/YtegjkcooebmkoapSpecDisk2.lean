/- Disks: what the model's functions hand back that make disks. -/
import Derived.Test.YtegjkcooebmkoapSpecDisk
import Derived.Test.YtegjkcooebmkoapKitR2
namespace Go.Proofs.Ytegjkcooebmkoap
open Go.RowKit

/-- An empty row that stands in its block. -/
theorem emptyRow {α : Type} (E : Enc α) {B g g' : Nat} {w : World} (h : w.heap[g']? = some (.cells #[] E.ty (0, 0))) (hg : g = g') (hB : B ≤ g) (hs : B ≤ w.heap.size) : RBuf E B w w (.slice (some ⟨g, 0, none⟩) 0 0) [] := by
  subst hg
  exact ⟨⟨by simp [Enc.row], .inr ⟨g, 0, #[], rfl, hB, h, Nat.le_refl _, by decide, by simp, by simp [Enc.row]⟩⟩, Below.refl _ _, hs⟩

theorem boxG {w w' : World} {r : Option Nat} {g : Nat} {o : Obj} (hg : w.grownBy w' r) (h : w.heap[g]? = some o) (hne : some g ≠ r) : w'.heap[g]? = some o := by
  have hlt : g < w.heap.size := (Array.getElem?_eq_some_iff.1 h).1
  rw [hg.block g hlt hne, h]

theorem copy_end {l : List ByteArray} {C gb : Nat} {wA X wB : World} {vA vB : Value} (hA : RBuf strE C wA wA vA l) (hX : RBuf strE C X X vA l) (hs : wA.heap.size ≤ X.heap.size) (gB : X.grownBy wB (some gb)) (hne : vA.ownBlock ≠ some gb)
    (atB : vB.ownBlock = some gb ∨ vB.ownBlock = some X.heap.size) : RBuf strE C wB wB vA l ∧ (vA.ownBlock = none ∨ vA.ownBlock ≠ vB.ownBlock) := by
  refine ⟨hX.shift gB (.inr hne), .inr ?_⟩
  rcases atB with e | e
  · rw [e]; exact hne
  · intro h
    rw [e] at h
    have := (hA.own.lt _ h).2
    omega

theorem copy_end1 {l : List ByteArray} {C : Nat} {wA wB : World} {o : Obj} {vA vB : Value} (hA : RBuf strE C wA wA vA l) (gB : (wA.alloc o).grownBy wB (some wA.heap.size))
    (atB : vB.ownBlock = some wA.heap.size ∨ vB.ownBlock = some (wA.alloc o).heap.size) : RBuf strE C wB wB vA l ∧ (vA.ownBlock = none ∨ vA.ownBlock ≠ vB.ownBlock) :=
  copy_end hA (hA.alloc o).here (by simp) gB (fun h => by have := (hA.own.lt _ h).2; omega) atB

theorem copy_end2 {l : List ByteArray} {C : Nat} {W wA wB : World} {o1 o2 : Obj} {vA vB : Value} (hA : RBuf strE C wA wA vA l) (gB : wA.grownBy wB (some (W.heap.size + 1)))
    (atA : vA.ownBlock = some W.heap.size ∨ vA.ownBlock = some ((W.alloc o1).alloc o2).drew.heap.size) (atB : vB.ownBlock = some (W.heap.size + 1) ∨ vB.ownBlock = some wA.heap.size) : RBuf strE C wB wB vA l ∧ (vA.ownBlock = none ∨ vA.ownBlock ≠ vB.ownBlock) :=
  copy_end hA hA (Nat.le_refl _) gB (fun h => by
    have e : ((W.alloc o1).alloc o2).drew.heap.size = W.heap.size + 2 := by show ((W.alloc o1).alloc o2).heap.size = _; simp
    rcases atA with a | a <;> rw [a] at h <;> have := Option.some.inj h <;> omega) atB

theorem copy_end3 {l : List ByteArray} {C : Nat} {W wA wB : World} {o1 o2 : Obj} {vA vB : Value} (hA : RBuf strE C wA wA vA l) (gB : wA.grownBy wB (some W.heap.size))
    (atA : vA.ownBlock = some (W.heap.size + 1) ∨ vA.ownBlock = some ((W.alloc o1).alloc o2).drew.heap.size) (atB : vB.ownBlock = some W.heap.size ∨ vB.ownBlock = some wA.heap.size) : RBuf strE C wB wB vA l ∧ (vA.ownBlock = none ∨ vA.ownBlock ≠ vB.ownBlock) :=
  copy_end hA hA (Nat.le_refl _) gB (fun h => by
    have e : ((W.alloc o1).alloc o2).drew.heap.size = W.heap.size + 2 := by show ((W.alloc o1).alloc o2).heap.size = _; simp
    rcases atA with a | a <;> rw [a] at h <;> have := Option.some.inj h <;> omega) atB

set_option maxRecDepth 100000 in
set_option maxHeartbeats 4000000 in
theorem specCopy_any (d : Dk) (v : Value) (B T : Nat) (w : World) (h : DOwn B T w v d) (hs : d.small) :
    Calls Try.prog 23 #[v] w fun e w' => ∃ v', e = .returned v' ∧ DOwn w.heap.size w'.heap.size w' v' d ∧ Below w.heap.size w w' := by
  obtain ⟨va, vb, rfl, h1, h2, h3⟩ := h
  obtain ⟨aa, ca, rfl⟩ := h1.1.form
  obtain ⟨ab, cb, rfl⟩ := h2.1.form
  obtain ⟨s1, s2⟩ := hs
  obtain ⟨hx0, hx1, b0, hsz⟩ : Box ((w.alloc (.cells #[.slice aa d.sec.length ca, .slice ab d.cache.length cb] 30)).alloc (.cells #[.slice none 0 0, .slice none 0 0] 30)) w.heap.size #[.slice aa d.sec.length ca, .slice ab d.cache.length cb] 30 ∧
      Box ((w.alloc (.cells #[.slice aa d.sec.length ca, .slice ab d.cache.length cb] 30)).alloc (.cells #[.slice none 0 0, .slice none 0 0] 30)) (w.heap.size + 1) #[.slice none 0 0, .slice none 0 0] 30 ∧
      Below w.heap.size w ((w.alloc (.cells #[.slice aa d.sec.length ca, .slice ab d.cache.length cb] 30)).alloc (.cells #[.slice none 0 0, .slice none 0 0] 30)) ∧
      ((w.alloc (.cells #[.slice aa d.sec.length ca, .slice ab d.cache.length cb] 30)).alloc (.cells #[.slice none 0 0, .slice none 0 0] 30)).heap.size = w.heap.size + 2 := by
    have e1 : (w.alloc (.cells #[.slice aa d.sec.length ca, .slice ab d.cache.length cb] 30)).heap.size = w.heap.size + 1 := by simp
    have q0 := Box.new w #[.slice aa d.sec.length ca, .slice ab d.cache.length cb] 30
    have q1 := Box.new (w.alloc (.cells #[.slice aa d.sec.length ca, .slice ab d.cache.length cb] 30)) #[.slice none 0 0, .slice none 0 0] 30
    rw [e1] at q1
    exact ⟨q0.later ((Below.refl _ _).alloc (Nat.le_refl _) _), q1, ((Below.refl _ _).alloc (Nat.le_refl _) _).alloc (by simp) _, by simp⟩
  go_enter Try.func23, Try.ntmps23
  go_wp2
  generalize ((w.alloc (.cells #[.slice aa d.sec.length ca, .slice ab d.cache.length cb] 30)).alloc (.cells #[.slice none 0 0, .slice none 0 0] 30)) = W at hx0 hx1 b0 hsz ⊢
  have c0 := hx0.cell 0 (.slice aa d.sec.length ca) rfl
  have c1 := hx0.cell 1 (.slice ab d.cache.length cb) rfl
  have hd1 : Below w.heap.size w W.drew := b0.drew
  have HK0 : Hid (W.drew.cell? ⟨w.heap.size, 0, none⟩ = some (.slice aa d.sec.length ca) ∧ W.drew.cell? ⟨w.heap.size, 1, none⟩ = some (.slice ab d.cache.length cb) ∧ Below w.heap.size w W.drew ∧ W.heap.size ≤ W.drew.heap.size ∧ ∃ u0 u1, Box W.drew (w.heap.size + 1) #[u0, u1] 30) := ⟨c0, c1, b0.drew, Nat.le_refl _, _, _, hx1⟩
  have HK1 : Hid (∀ (x : World) (o : Obj), (x.cell? ⟨w.heap.size, 0, none⟩ = some (.slice aa d.sec.length ca) ∧ x.cell? ⟨w.heap.size, 1, none⟩ = some (.slice ab d.cache.length cb) ∧ Below w.heap.size w x ∧ W.heap.size ≤ x.heap.size ∧ ∃ u0 u1, Box x (w.heap.size + 1) #[u0, u1] 30) → ((x.alloc o).cell? ⟨w.heap.size, 0, none⟩ = some (.slice aa d.sec.length ca) ∧ (x.alloc o).cell? ⟨w.heap.size, 1, none⟩ = some (.slice ab d.cache.length cb) ∧ Below w.heap.size w (x.alloc o) ∧ W.heap.size ≤ (x.alloc o).heap.size ∧ ∃ u0 u1, Box (x.alloc o) (w.heap.size + 1) #[u0, u1] 30)) := by
    intro x o ⟨h1, h2, h3, h4, u0, u1, h5⟩
    have hb : Below x.heap.size x (x.alloc o) := (Below.refl _ _).alloc (Nat.le_refl _) _
    refine ⟨(hb.cell (p := ⟨w.heap.size, 0, none⟩) (World.block_lt_of_cell? _ _ h1)).trans h1, (hb.cell (p := ⟨w.heap.size, 1, none⟩) (World.block_lt_of_cell? _ _ h2)).trans h2, h3.alloc (by omega) o, Nat.le_trans h4 hb.size, u0, u1, h5.later hb⟩
  have HK2 : Hid (∀ (x y : World) (r : Option Nat), (x.cell? ⟨w.heap.size, 0, none⟩ = some (.slice aa d.sec.length ca) ∧ x.cell? ⟨w.heap.size, 1, none⟩ = some (.slice ab d.cache.length cb) ∧ Below w.heap.size w x ∧ W.heap.size ≤ x.heap.size ∧ ∃ u0 u1, Box x (w.heap.size + 1) #[u0, u1] 30) → x.grownBy y r → (∀ k, r = some k → W.heap.size ≤ k ∧ k < x.heap.size) → (y.cell? ⟨w.heap.size, 0, none⟩ = some (.slice aa d.sec.length ca) ∧ y.cell? ⟨w.heap.size, 1, none⟩ = some (.slice ab d.cache.length cb) ∧ Below w.heap.size w y ∧ W.heap.size ≤ y.heap.size ∧ ∃ u0 u1, Box y (w.heap.size + 1) #[u0, u1] 30)) := by
    intro x y r ⟨h1, h2, h3, h4, u0, u1, h5⟩ hg hr
    refine ⟨hg.cell h1 (fun e => by have := hr _ e.symm; simp at this; omega), hg.cell h2 (fun e => by have := hr _ e.symm; simp at this; omega), h3.grown hg (by omega) (fun k hk => by have := hr k hk; omega), Nat.le_trans h4 hg.size, u0, u1, ?_⟩
    exact (hg.block _ h5.lt (fun e => by have := hr _ e.symm; omega)).trans h5
  have HK3 : Hid (∀ (x : World) (y z : Value), (x.cell? ⟨w.heap.size, 0, none⟩ = some (.slice aa d.sec.length ca) ∧ x.cell? ⟨w.heap.size, 1, none⟩ = some (.slice ab d.cache.length cb) ∧ Below w.heap.size w x ∧ W.heap.size ≤ x.heap.size ∧ ∃ u0 u1, Box x (w.heap.size + 1) #[u0, u1] 30) → (((x.setCell ⟨w.heap.size + 1, 0, none⟩ y).setCell ⟨w.heap.size + 1, 1, none⟩ z).cell? ⟨w.heap.size, 0, none⟩ = some (.slice aa d.sec.length ca) ∧ ((x.setCell ⟨w.heap.size + 1, 0, none⟩ y).setCell ⟨w.heap.size + 1, 1, none⟩ z).cell? ⟨w.heap.size, 1, none⟩ = some (.slice ab d.cache.length cb) ∧ Below w.heap.size w ((x.setCell ⟨w.heap.size + 1, 0, none⟩ y).setCell ⟨w.heap.size + 1, 1, none⟩ z) ∧ W.heap.size ≤ ((x.setCell ⟨w.heap.size + 1, 0, none⟩ y).setCell ⟨w.heap.size + 1, 1, none⟩ z).heap.size ∧ ∃ u0 u1, Box ((x.setCell ⟨w.heap.size + 1, 0, none⟩ y).setCell ⟨w.heap.size + 1, 1, none⟩ z) (w.heap.size + 1) #[u0, u1] 30)) := by
    intro x y z ⟨h1, h2, h3, h4, u0, u1, h5⟩
    refine ⟨?_, ?_, (h3.setCell (p := ⟨w.heap.size + 1, 0, none⟩) (by simp) y).setCell (p := ⟨w.heap.size + 1, 1, none⟩) (by simp) z, by simpa using h4, y, z, ?_⟩
    · rw [World.cell?_setCell_other _ _ _ _ (by simp), World.cell?_setCell_other _ _ _ _ (by simp)]; exact h1
    · rw [World.cell?_setCell_other _ _ _ _ (by simp), World.cell?_setCell_other _ _ _ _ (by simp)]; exact h2
    · have := (h5.set 0 y).set 1 z
      simpa using this
  have HS : Hid (∀ w', (w'.cell? ⟨w.heap.size, 0, none⟩ = some (.slice aa d.sec.length ca) ∧ w'.cell? ⟨w.heap.size, 1, none⟩ = some (.slice ab d.cache.length cb) ∧ Below w.heap.size w w' ∧ W.heap.size ≤ w'.heap.size ∧ ∃ u0 u1, Box w' (w.heap.size + 1) #[u0, u1] 30) → RBuf strE B w' w' (.slice aa d.sec.length ca) d.sec ∧ RBuf wrE B w' w' (.slice ab d.cache.length cb) d.cache) := fun w' hw => ⟨(h1.later hw.2.2.1).1, (h2.later hw.2.2.1).1⟩
  have sAB : (W.alloc (.cells #[] 9)).heap.size = W.heap.size + 1 := by simp
  have sBA : (W.alloc (.cells #[] 53)).heap.size = W.heap.size + 1 := by simp
  have HA1 : Hid (RBuf strE W.heap.size (W.alloc (.cells #[] 9)).drew (W.alloc (.cells #[] 9)).drew (.slice (some ⟨W.heap.size, 0, none⟩) 0 0) []) :=
    emptyRow strE (Box.new W #[] 9) rfl (Nat.le_refl _) (by show W.heap.size ≤ (W.alloc _).heap.size; simp)
  have HA2 : Hid (RBuf strE W.heap.size ((W.alloc (.cells #[] 9)).alloc (.cells #[] 53)).drew ((W.alloc (.cells #[] 9)).alloc (.cells #[] 53)).drew (.slice (some ⟨W.heap.size, 0, none⟩) 0 0) []) :=
    emptyRow strE ((Box.new W #[] 9).later (((Below.refl _ _).alloc (Nat.le_refl _) _).drew)) rfl (Nat.le_refl _) (by show W.heap.size ≤ ((W.alloc _).alloc _).heap.size; simp; omega)
  have HA3 : Hid (RBuf strE W.heap.size ((W.alloc (.cells #[] 53)).alloc (.cells #[] 9)).drew ((W.alloc (.cells #[] 53)).alloc (.cells #[] 9)).drew (.slice (some ⟨W.heap.size + 1, 0, none⟩) 0 0) []) :=
    emptyRow strE (Box.new (W.alloc (.cells #[] 53)) #[] 9) sBA.symm (by omega) (by show W.heap.size ≤ ((W.alloc _).alloc _).heap.size; simp; omega)
  have HB1 : Hid (∀ (x : World) (r : Option Nat), (W.alloc (.cells #[] 9)).drew.grownBy x r → RBuf wrE W.heap.size (x.alloc (.cells #[] 53)) (x.alloc (.cells #[] 53)) (.slice (some ⟨x.heap.size, 0, none⟩) 0 0) []) :=
    fun x r hg => by
      have hx : W.heap.size ≤ x.heap.size := Nat.le_trans (by show W.heap.size ≤ (W.alloc _).heap.size; simp) hg.size
      exact emptyRow wrE (Box.new x #[] 53) rfl hx (by simp; omega)
  have HB2 : Hid (∀ (x : World), ((W.alloc (.cells #[] 9)).alloc (.cells #[] 53)).drew.grownBy x (some W.heap.size) → RBuf wrE W.heap.size x x (.slice (some ⟨W.heap.size + 1, 0, none⟩) 0 0) []) := by
    intro x hg
    have hbx := Box.new (W.alloc (.cells #[] 9)) #[] 53
    rw [sAB] at hbx
    exact emptyRow wrE (boxG hg hbx (fun e => by have := Option.some.inj e; omega)) rfl (by omega) (Nat.le_trans (by show W.heap.size ≤ ((W.alloc _).alloc _).heap.size; simp; omega) hg.size)
  have HB3 : Hid (∀ (x : World), ((W.alloc (.cells #[] 53)).alloc (.cells #[] 9)).drew.grownBy x (some (W.heap.size + 1)) → RBuf wrE W.heap.size x x (.slice (some ⟨W.heap.size, 0, none⟩) 0 0) []) := by
    intro x hg
    have hbx := (Box.new W #[] 53).later ((Below.refl _ _).alloc (Nat.le_refl _) (.cells #[] 9))
    exact emptyRow wrE (boxG hg hbx (fun e => by have := Option.some.inj e; omega)) rfl (Nat.le_refl _) (Nat.le_trans (by show W.heap.size ≤ ((W.alloc _).alloc _).heap.size; simp; omega) hg.size)
  have HSZ := Lib.hid hsz
  clear hx0 h1 h2 h3 hsz sAB sBA
  go_region_held3 (fun w' => w'.cell? ⟨w.heap.size, 0, none⟩ = some (.slice aa d.sec.length ca) ∧ w'.cell? ⟨w.heap.size, 1, none⟩ = some (.slice ab d.cache.length cb) ∧ Below w.heap.size w w' ∧ W.heap.size ≤ w'.heap.size ∧ ∃ u0 u1, Box w' (w.heap.size + 1) #[u0, u1] 30)
    (first | exact HK0.out | exact HK1.out _ _ (by assumption) | exact HK2.out _ _ _ (by assumption) gA lA | exact HK2.out _ _ _ (by assumption) gB lB | exact HK3.out _ _ _ (by assumption))
    (first
      | (refine step_append_rows (by rfl) _ _ strE (by rfl) W.heap.size _ [] (by rfl) (by first | exact HA1.out | exact HA2.out | exact HA3.out) B _ d.sec (by rfl) (by first | exact (HS.out _ (by assumption)).1) (by simp [strE]; omega) ?_; intro vA wA hA gA atA lA; rw [List.nil_append] at hA; obtain ⟨pA, cA, rfl⟩ := hA.form; obtain ⟨_, _, _, _, u0, u1, hbx⟩ := HK2.out _ _ _ (by assumption) gA lA; have z0 := hbx.cell 0 u0 rfl; have z1 := hbx.cell 1 u1 rfl; have f0 := hbx.loose 0; have f1 := hbx.loose 1; clear hbx)
      | (refine step_append_rows (by rfl) _ _ wrE (by rfl) W.heap.size _ [] (by rfl) (by first | exact HB1.out _ _ gA | exact HB2.out _ gA | exact HB3.out _ gA) B _ d.cache (by rfl) (by first | exact (HS.out _ (by assumption)).2) (by simp [wrE]; omega) ?_; intro vB wB hB gB atB lB; rw [List.nil_append] at hB; obtain ⟨pB, cB, rfl⟩ := hB.form; obtain ⟨_, _, _, _, u0, u1, hbx⟩ := HK2.out _ _ _ (by assumption) gB lB; have z0 := hbx.cell 0 u0 rfl; have z1 := hbx.cell 1 u1 rfl; have f0 := hbx.loose 0; have f1 := hbx.loose 1; clear hbx))
  all_goals
    have hF : (((wB.setCell ⟨w.heap.size + 1, 0, none⟩ (.slice pA d.sec.length cA)).setCell ⟨w.heap.size + 1, 1, none⟩ (.slice pB d.cache.length cB)).cell? ⟨w.heap.size, 0, none⟩ = some (.slice aa d.sec.length ca) ∧ ((wB.setCell ⟨w.heap.size + 1, 0, none⟩ (.slice pA d.sec.length cA)).setCell ⟨w.heap.size + 1, 1, none⟩ (.slice pB d.cache.length cB)).cell? ⟨w.heap.size, 1, none⟩ = some (.slice ab d.cache.length cb) ∧ Below w.heap.size w ((wB.setCell ⟨w.heap.size + 1, 0, none⟩ (.slice pA d.sec.length cA)).setCell ⟨w.heap.size + 1, 1, none⟩ (.slice pB d.cache.length cB)) ∧ W.heap.size ≤ ((wB.setCell ⟨w.heap.size + 1, 0, none⟩ (.slice pA d.sec.length cA)).setCell ⟨w.heap.size + 1, 1, none⟩ (.slice pB d.cache.length cB)).heap.size ∧ ∃ u0 u1, Box ((wB.setCell ⟨w.heap.size + 1, 0, none⟩ (.slice pA d.sec.length cA)).setCell ⟨w.heap.size + 1, 1, none⟩ (.slice pB d.cache.length cB)) (w.heap.size + 1) #[u0, u1] 30) := by assumption
    have hfin : RBuf strE W.heap.size wB wB (.slice pA d.sec.length cA) d.sec ∧ ((Value.slice pA d.sec.length cA).ownBlock = none ∨ (Value.slice pA d.sec.length cA).ownBlock ≠ (Value.slice pB d.cache.length cB).ownBlock) := by
      first
        | exact copy_end1 hA gB atB
        | exact copy_end2 hA gB atA atB
        | exact copy_end3 hA gB atA atB
    have HF := Lib.hid hF
    have HFIN := Lib.hid hfin
    have HHB := Lib.hid hB
    clear hF hfin hB hA gA gB atA atB lA lB hd1
    go_wp2
    obtain ⟨_, _, bF, _, _⟩ := HF.out
    refine bodyPost_ret (v := .agg #[.slice pA d.sec.length cA, .slice pB d.cache.length cB]) (by simp [results, Try.results23, go_sem, z0, z1]) rfl ⟨_, rfl, ?_, bF⟩
    have hWl : w.heap.size + 1 < W.heap.size := by have := HSZ.out; omega
    have q1 := (HFIN.out.1.lown.store (w.heap.size + 1) 0 (.slice pA d.sec.length cA) hWl).store (w.heap.size + 1) 1 (.slice pB d.cache.length cB) hWl
    have q2 := (HHB.out.lown.store (w.heap.size + 1) 0 (.slice pA d.sec.length cA) hWl).store (w.heap.size + 1) 1 (.slice pB d.cache.length cB) hWl
    exact ⟨_, _, rfl, (q1.deeper (by omega)).wider (by simp) (Nat.le_refl _), (q2.deeper (by omega)).wider (by simp) (Nat.le_refl _), HFIN.out.2⟩

theorem DOwn.store {B T : Nat} {w : World} {v : Value} {d : Dk} (h : DOwn B T w v d) (g i : Nat) (u : Value) (hg : g < B) : DOwn B T (w.setCell ⟨g, i, none⟩ u) v d := by
  obtain ⟨va, vb, hv, h1, h2, h3⟩ := h
  exact ⟨va, vb, hv, h1.store g i u hg, h2.store g i u hg, h3⟩
theorem DOwn.widen {B T B' T' : Nat} {w : World} {v : Value} {d : Dk} (h : DOwn B T w v d) (hB : B' ≤ B) (hT : T ≤ T') (hs : T' ≤ w.heap.size) : DOwn B' T' w v d := by
  obtain ⟨va, vb, hv, h1, h2, h3⟩ := h
  exact ⟨va, vb, hv, (h1.deeper hB).wider hT hs, (h2.deeper hB).wider hT hs, h3⟩

/-- When a write is taken. -/
def wrOk (d : Dk) (a : Int) (t : ByteArray) : Prop := d.ok ∧ (0 ≤ a ∧ a < d.sec.length) ∧ t.size = 32 ∧ d.cache.length < 60
instance (d : Dk) (a : Int) (t : ByteArray) : Decidable (wrOk d a t) := by unfold wrOk; infer_instance
/-- The disk behind a write. -/
def wrD (d : Dk) (a : Int) (t : ByteArray) : Dk := if wrOk d a t then ⟨d.sec, d.cache ++ [⟨a, t⟩]⟩ else d

/-- What a function hands back that makes a disk, and tells whether. -/
def DiskR (d : Dk) (f : Bool) (w : World) (e : Ending) (w' : World) : Prop := ∃ v', e = .returned (.tuple #[v', .bool f]) ∧ DOwn w.heap.size w'.heap.size w' v' d ∧ Below w.heap.size w w'


end Go.Proofs.Ytegjkcooebmkoap
