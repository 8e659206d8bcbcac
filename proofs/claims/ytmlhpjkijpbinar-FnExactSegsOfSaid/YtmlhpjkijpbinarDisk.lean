/- Disks: what they are in memory, and the helpers of the exact laws over them. -/
import Derived.Test.YtmlhpjkijpbinarToS
namespace Go.Proofs.Ytmlhpjkijpbinar
open Go.RowKit

/-- A disk: its sectors, and what waits. -/
structure Dk where
  sec : List ByteArray
  cache : List Wr

/-- The value v is the disk d, in memory of its own: two rows in the blocks B .. T-1, and not the same one. -/
def DOwn (B T : Nat) (w : World) (v : Value) (d : Dk) : Prop :=
  ∃ va vb, v = .agg #[va, vb] ∧ LOwn strE B T w va d.sec ∧ LOwn wrE B T w vb d.cache ∧ (va.ownBlock = none ∨ va.ownBlock ≠ vb.ownBlock)

theorem DOwn.kept {B T B' T' : Nat} {w w' : World} {v : Value} {d : Dk} (h : DOwn B T w v d) (hk : Kept B' T' w w') (hd : T ≤ B' ∨ T' ≤ B) : DOwn B T w' v d := by
  obtain ⟨va, vb, hv, h1, h2, h3⟩ := h
  exact ⟨va, vb, hv, h1.kept hk hd, h2.kept hk hd, h3⟩

theorem DOwn.later {B T : Nat} {w w' : World} {v : Value} {d : Dk} (h : DOwn B T w v d) (hb : Below w.heap.size w w') : DOwn B T w' v d :=
  h.kept (Kept.of_below hb T T) (.inl (Nat.le_refl _))

theorem DOwn.form {B T : Nat} {w : World} {v : Value} {d : Dk} (h : DOwn B T w v d) : ∃ (a b : Option Addr) (c e : Nat), v = .agg #[.slice a d.sec.length c, .slice b d.cache.length e] := by
  obtain ⟨va, vb, rfl, h1, h2, _⟩ := h
  obtain ⟨a, c, rfl⟩ := h1.1.form
  obtain ⟨b, e, rfl⟩ := h2.1.form
  exact ⟨a, b, c, e, rfl⟩

/-- A disk whose rows can be read. -/
def DRd (w : World) (v : Value) (d : Dk) : Prop := ∃ va vb, v = .agg #[va, vb] ∧ Strs w va d.sec ∧ Rows' wrE w vb d.cache

theorem DOwn.rd {B T : Nat} {w : World} {v : Value} {d : Dk} (h : DOwn B T w v d) : DRd w v d := by
  obtain ⟨va, vb, hv, h1, h2, _⟩ := h
  exact ⟨va, vb, hv, h1.1.toS.strs, h2.rows⟩

theorem DRd.later {w w' : World} {v : Value} {d : Dk} (h : DRd w v d) (hb : Below w.heap.size w w') : DRd w' v d := by
  obtain ⟨va, vb, hv, h1, h2⟩ := h
  exact ⟨va, vb, hv, h1.later hb, h2.later hb⟩

def Dk.small (d : Dk) : Prop := d.sec.length ≤ 1073741824 ∧ d.cache.length ≤ 1073741824

/-- Two boxes laid one behind the other can be read, whatever is laid behind them. -/
theorem box_cells (w : World) (c : Array Value) (t : TypeId) {w' : World} (hb : Below (w.alloc (.cells c t)).heap.size (w.alloc (.cells c t)) w') (j : Nat) (u : Value) (hu : c[j]? = some u) : w'.cell? ⟨w.heap.size, j, none⟩ = some u := by
  have h1 : (w.alloc (.cells c t)).cell? ⟨w.heap.size, j, none⟩ = some u := by
    rw [cell_of_row _ _ _ c t (0, 0) (heap_alloc_new w _), hu]
  exact (hb.cell (p := ⟨w.heap.size, j, none⟩) (by simp)).trans h1

theorem eqDisk_same (d : Dk) (v1 v2 : Value) (w : World) (h1 : DRd w v1 d) (h2 : DRd w v2 d) (hs : d.small) :
    Calls Try.prog 11 #[v1, v2] w fun e w' => e = .returned (.bool true) ∧ Below w.heap.size w w' := by
  obtain ⟨va, vb, rfl, ha, hb⟩ := h1
  obtain ⟨vc, vd, rfl, hc, hd⟩ := h2
  obtain ⟨s1, s2⟩ := hs
  have b0 : Below w.heap.size w ((w.alloc (.cells #[va, vb] 30)).alloc (.cells #[vc, vd] 30)) := ((Below.refl _ _).alloc (Nat.le_refl _) _).alloc (by simp) _
  have ha' := ha.later b0
  have hc' := hc.later b0
  have HB : Hid (∀ w', Below ((w.alloc (.cells #[va, vb] 30)).alloc (.cells #[vc, vd] 30)).heap.size ((w.alloc (.cells #[va, vb] 30)).alloc (.cells #[vc, vd] 30)) w' →
      Below w.heap.size w w' ∧ Rows' wrE w' vb d.cache ∧ Rows' wrE w' vd d.cache ∧ w'.cell? ⟨w.heap.size, 1, none⟩ = some vb ∧ w'.cell? ⟨w.heap.size + 1, 1, none⟩ = some vd) := by
    intro w' h
    have h' : Below w.heap.size w w' := b0.trans (h.mono b0.size)
    refine ⟨h', hb.later h', hd.later h', ?_, ?_⟩
    · exact box_cells w #[va, vb] 30 (((Below.refl _ _).alloc (Nat.le_refl _) _).trans (h.mono (by simp))) 1 vb rfl
    · have := box_cells (w.alloc (.cells #[va, vb] 30)) #[vc, vd] 30 h 1 vd rfl
      simpa using this
  clear hb hd ha hc
  go_enter Try.func11, Try.ntmps11
  go_wp2_with fail
  refine (eqStringS_same d.sec va vc _ ha' hc' (by omega)).mono ?_
  rintro e w1 ⟨rfl, hb1⟩
  obtain ⟨hb1', r1, r2, c1, c2⟩ := HB.out w1 hb1
  go_wp2_with fail
  refine (eqWriteS_same d.cache vb vd _ r1 r2 (by omega)).mono ?_
  rintro e w2 ⟨rfl, hb2⟩
  go_wp2
  go_ret
  exact ⟨rfl, hb1'.trans (hb2.mono hb1'.size)⟩

/-- A disk all marked. -/
def marksD (k : Nat) (d : Dk) : Dk := ⟨marksOf k d.sec.length, marksW (k + d.sec.length) d.cache.length⟩
def Dk.count (d : Dk) : Nat := d.sec.length + 2 * d.cache.length
theorem marksD_count (k : Nat) (d : Dk) : (marksD k d).count = d.count := by simp [marksD, Dk.count, marksOf_length, marksW_length]



/-- A disk that comes in: its rows can be read. -/
def DIn (w : World) (v : Value) (d : Dk) : Prop := ∃ va vb, v = .agg #[va, vb] ∧ Rows' strE w va d.sec ∧ Rows' lwrE w vb d.cache ∧ d.sec.length ≤ 9223372036854775807 ∧ d.cache.length ≤ 9223372036854775807 ∧ (∀ s ∈ d.sec, s.size ≤ 9223372036854775807) ∧ ∀ x ∈ d.cache, x.text.size ≤ 9223372036854775807

theorem DIn.later {w w' : World} {v : Value} {d : Dk} (h : DIn w v d) (hb : Below w.heap.size w w') : DIn w' v d := by
  obtain ⟨va, vb, hv, h1, h2, h3⟩ := h
  exact ⟨va, vb, hv, h1.later hb, h2.later hb, h3⟩

/-- What szDisk leaves over. -/
def Dk.lean (d : Dk) (left : Int) : Prop := (d.sec.length : Int) ≤ left ∧ (d.cache.length : Int) ≤ left ∧ (∀ s ∈ d.sec, (s.size : Int) ≤ left) ∧ ∀ x ∈ d.cache, (x.text.size : Int) ≤ left

def SzD (left : Int) (d : Dk) (w : World) (e : Ending) (w' : World) : Prop :=
  ∃ r : Int, e = .returned (.int .i64 r) ∧ Below w.heap.size w w' ∧ r ≤ left ∧ -1 ≤ r ∧ (0 ≤ r → d.lean left)

set_option maxHeartbeats 400000 in
theorem szDisk_any (d : Dk) (v : Value) (left : Int) (w : World) (h : DIn w v d) (h0 : 0 ≤ left) (h1 : left ≤ 1048576) :
    Calls Try.prog 7 #[v, .int .i64 left] w fun e w' => SzD left d w e w' := by
  obtain ⟨va, vb, rfl, ha, hb, l1, l2, l3, l4⟩ := h
  have b0 : Below w.heap.size w (w.alloc (.cells #[va, vb] 25)) := (Below.refl _ _).alloc (Nat.le_refl _) _
  have ha' := ha.later b0
  have HB : Hid (∀ w', Below (w.alloc (.cells #[va, vb] 25)).heap.size (w.alloc (.cells #[va, vb] 25)) w' →
      Below w.heap.size w w' ∧ Rows' lwrE w' vb d.cache ∧ w'.cell? ⟨w.heap.size, 1, none⟩ = some vb) := by
    intro w' h
    have h' : Below w.heap.size w w' := b0.trans (h.mono b0.size)
    exact ⟨h', hb.later h', box_cells w #[va, vb] 25 h 1 vb rfl⟩
  clear hb ha
  go_enter Try.func7, Try.ntmps7
  go_wp2_with fail
  refine (szStringS_any d.sec va left _ ha' h0 h1 l1 l3).mono ?_
  rintro e w1 ⟨r, rfl, hb1, hr1, hr2, hr3⟩
  obtain ⟨hb1', r1, c1⟩ := HB.out w1 hb1
  by_cases hneg : r < 0
  · have HR := Lib.hid hr3
    clear hr3 l3 l4
    go_wp2
    go_ret
    exact ⟨-1, rfl, hb1', by omega, by omega, fun h => by omega⟩
  · have HR := Lib.hid (hr3 (by omega))
    clear hr3
    go_wp2_with fail
    refine (szWriteS_any d.cache vb r _ r1 (by omega) (by omega) l2 l4).mono ?_
    rintro e w2 ⟨q, rfl, hb2, hq1, hq2, hq3⟩
    have b2 := hb1'.trans (hb2.mono hb1'.size)
    have HQ := Lib.hid hq3
    clear hq3 l3 l4
    by_cases hneg2 : q < 0
    · go_wp2
      go_ret
      exact ⟨-1, rfl, b2, by omega, by omega, fun h => by omega⟩
    · go_wp2
      go_ret
      obtain ⟨q1, q2⟩ := HQ.out (by omega)
      exact ⟨q, rfl, b2, by omega, by omega, fun _ => ⟨HR.out.1, by omega, HR.out.2, fun x hx => by have := q2 x hx; omega⟩⟩

set_option maxHeartbeats 400000 in
theorem toDisk_any (d : Dk) (v : Value) (w : World) (h : DIn w v d) (hs : d.sec.length ≤ 1048576) (hc : d.cache.length ≤ 1048576) :
    Calls Try.prog 9 #[v] w fun e w' => ∃ v', e = .returned v' ∧ DOwn w.heap.size w'.heap.size w' v' d ∧ Below w.heap.size w w' := by
  obtain ⟨va, vb, rfl, ha, hb, _, _, _, _⟩ := h
  obtain ⟨hx0, hx1, hx2, bel3, hsz⟩ : Box (((w.alloc (.cells #[va, vb] 25)).alloc (.cells #[.slice none 0 0, .slice none 0 0] 30)).alloc (.cells #[.slice none 0 0, .slice none 0 0] 30)) w.heap.size #[va, vb] 25 ∧
      Box (((w.alloc (.cells #[va, vb] 25)).alloc (.cells #[.slice none 0 0, .slice none 0 0] 30)).alloc (.cells #[.slice none 0 0, .slice none 0 0] 30)) (w.heap.size + 1) #[.slice none 0 0, .slice none 0 0] 30 ∧
      Box (((w.alloc (.cells #[va, vb] 25)).alloc (.cells #[.slice none 0 0, .slice none 0 0] 30)).alloc (.cells #[.slice none 0 0, .slice none 0 0] 30)) (w.heap.size + 1 + 1) #[.slice none 0 0, .slice none 0 0] 30 ∧
      Below w.heap.size w (((w.alloc (.cells #[va, vb] 25)).alloc (.cells #[.slice none 0 0, .slice none 0 0] 30)).alloc (.cells #[.slice none 0 0, .slice none 0 0] 30)) ∧
      (((w.alloc (.cells #[va, vb] 25)).alloc (.cells #[.slice none 0 0, .slice none 0 0] 30)).alloc (.cells #[.slice none 0 0, .slice none 0 0] 30)).heap.size = w.heap.size + 3 := by
    have e1 : (w.alloc (.cells #[va, vb] 25)).heap.size = w.heap.size + 1 := by simp
    have e2 : ((w.alloc (.cells #[va, vb] 25)).alloc (.cells #[.slice none 0 0, .slice none 0 0] 30)).heap.size = w.heap.size + 1 + 1 := by simp
    have q0 := Box.new w #[va, vb] 25
    have q1 := Box.new (w.alloc (.cells #[va, vb] 25)) #[.slice none 0 0, .slice none 0 0] 30
    have q2 := Box.new ((w.alloc (.cells #[va, vb] 25)).alloc (.cells #[.slice none 0 0, .slice none 0 0] 30)) #[.slice none 0 0, .slice none 0 0] 30
    rw [e1] at q1
    rw [e2] at q2
    refine ⟨(q0.later ((Below.refl _ _).alloc (Nat.le_refl _) _)).later ((Below.refl _ _).alloc (Nat.le_refl _) _), q1.later ((Below.refl _ _).alloc (Nat.le_refl _) _), q2, (((Below.refl _ _).alloc (Nat.le_refl _) _).alloc (by simp) _).alloc (by simp; omega) _, by simp⟩
  go_enter Try.func9, Try.ntmps9
  go_wp2_with fail
  generalize (((w.alloc (.cells #[va, vb] 25)).alloc (.cells #[.slice none 0 0, .slice none 0 0] 30)).alloc (.cells #[.slice none 0 0, .slice none 0 0] 30)) = w3 at hx0 hx1 hx2 bel3 hsz ⊢
  refine (toStringS_any d.sec va _ (ha.later bel3) hs).mono ?_
  rintro e w4 ⟨v1, rfl, r1⟩
  obtain ⟨a1, p1, rfl⟩ := r1.form
  have k4 := r1.bel
  have c0 := (hx0.later k4).cell 1 vb rfl
  have c2 := (hx2.later k4).cell 0 (.slice none 0 0) rfl
  have f2 := (hx2.later k4).loose 0
  have bel4 : Below w.heap.size w w4 := bel3.trans (k4.mono bel3.size)
  have x0 := (hx0.later k4).other (g := w.heap.size + 1 + 1) (by omega) 0 (.slice a1 d.sec.length p1)
  have x1 := (hx1.later k4).other (g := w.heap.size + 1 + 1) (by omega) 0 (.slice a1 d.sec.length p1)
  have x2 := (hx2.later k4).set 0 (.slice a1 d.sec.length p1)
  have l1 := r1.lown.store (w.heap.size + 1 + 1) 0 (.slice a1 d.sec.length p1) (by omega)
  have b5 : Below w.heap.size w (w4.setCell ⟨w.heap.size + 1 + 1, 0, none⟩ (.slice a1 d.sec.length p1)) := bel4.setCell (p := ⟨w.heap.size + 1 + 1, 0, none⟩) (by simp; omega) _
  have hb5 := hb.later b5
  have s5 : (w4.setCell ⟨w.heap.size + 1 + 1, 0, none⟩ (.slice a1 d.sec.length p1)).heap.size = w4.heap.size := by simp
  have L1 := Lib.hid l1
  clear ha hb hx0 hx1 hx2 r1 l1
  go_wp2_with fail
  clear c0 c2 f2
  generalize w4.setCell ⟨w.heap.size + 1 + 1, 0, none⟩ (.slice a1 d.sec.length p1) = w5 at x0 x1 x2 L1 b5 hb5 s5 ⊢
  refine (toWriteS_any d.cache vb _ hb5 hc).mono ?_
  rintro e w6 ⟨v2, rfl, r2⟩
  obtain ⟨a2, p2, rfl⟩ := r2.form
  have k6 := r2.bel
  have b6 : Below w.heap.size w w6 := b5.trans (k6.mono b5.size)
  have s6 : w5.heap.size ≤ w6.heap.size := k6.size
  have s4 : w3.heap.size ≤ w4.heap.size := k4.size
  have y1 := x1.later k6
  have y2 := x2.later k6
  have c10 := y1.cell 0 (.slice none 0 0) rfl
  have c11 := y1.cell 1 (.slice none 0 0) rfl
  have c20 := y2.cell 0 (.slice a1 d.sec.length p1) rfl
  have c21 := y2.cell 1 (.slice none 0 0) rfl
  have f10 := y1.loose 0
  have f11 := y1.loose 1
  have f21 := y2.loose 1
  have L6 := Lib.hid (L1.out.later k6)
  have R2 := Lib.hid r2.lown
  clear x0 x1 x2 y1 y2 r2 hb5 L1
  go_wp2
  have q1 := (L6.out.store (w.heap.size + 1 + 1) 1 (.slice a2 d.cache.length p2) (by omega)).store (w.heap.size + 1) 0 (.slice a1 d.sec.length p1) (by omega) |>.store (w.heap.size + 1) 1 (.slice a2 d.cache.length p2) (by omega)
  have q2 := (R2.out.store (w.heap.size + 1 + 1) 1 (.slice a2 d.cache.length p2) (by omega)).store (w.heap.size + 1) 0 (.slice a1 d.sec.length p1) (by omega) |>.store (w.heap.size + 1) 1 (.slice a2 d.cache.length p2) (by omega)
  have b7 := ((b6.setCell (p := ⟨w.heap.size + 1 + 1, 1, none⟩) (by simp; omega) (.slice a2 d.cache.length p2)).setCell (p := ⟨w.heap.size + 1, 0, none⟩) (by simp) (.slice a1 d.sec.length p1)).setCell (p := ⟨w.heap.size + 1, 1, none⟩) (by simp) (.slice a2 d.cache.length p2)
  refine bodyPost_ret (v := .agg #[.slice a1 d.sec.length p1, .slice a2 d.cache.length p2]) ?_ rfl ⟨_, rfl, ?_, b7⟩
  · simp [results, Try.results9, go_sem, c10, c11]
  · have e7 := b7.size
    refine ⟨_, _, rfl, (q1.deeper (by omega)).wider (by simp; omega) (Nat.le_refl _), (q2.deeper (by omega)).wider (by simp) (Nat.le_refl _), ?_⟩
    cases ha1 : (Value.slice a1 d.sec.length p1).ownBlock with
    | none => exact .inl rfl
    | some j =>
      refine .inr fun e => ?_
      have j1 := q1.2.2 j ha1
      have j2 := (q2.1.own.lt j e.symm).1
      omega

end Go.Proofs.Ytmlhpjkijpbinar
