/- Texts of our own, joined. -/
import Derived.Test.YtlifgcgoehkinaaGreatDoorJa
import Derived.Laws.OwnMore
import Derived.WalkKit
import Derived.Laws.BitsAllLaws
import Derived.Laws.Bits128
import Derived.Laws.Concat
import Derived.Lib.Hide
import Derived.Lib.ConvBytes
import Derived.Deep.RegionHeld3
import Derived.Deep.RegionLaw
import Derived.Deep.QuietTactic
import Derived.BigQuiet
/- Disks: what they are in memory, and the helpers of the exact laws over them. -/
namespace Go.Proofs.YtlifgcgoehkinaaGreatDoor
open Go.RowKit

structure Dk where
  sec : List ByteArray
  cache : List Wr

def DOwn (B T : Nat) (w : World) (v : Value) (d : Dk) : Prop :=
  ∃ va vb, v = .agg #[va, vb] ∧ LOwn strE B T w va d.sec ∧ LOwn wrE B T w vb d.cache ∧ (va.ownBlock = none ∨ va.ownBlock ≠ vb.ownBlock)

theorem DOwn.kept {B T B' T' : Nat} {w w' : World} {v : Value} {d : Dk} (h : DOwn B T w v d) (hk : Kept B' T' w w') (hd : T ≤ B' ∨ T' ≤ B) : DOwn B T w' v d := by
  obtain ⟨va, vb, hv, h1, h2, h3⟩ := h
  exact ⟨va, vb, hv, h1.kept hk hd, h2.kept hk hd, h3⟩

theorem DOwn.later {B T : Nat} {w w' : World} {v : Value} {d : Dk} (h : DOwn B T w v d) (hb : Below w.heap.size w w') : DOwn B T w' v d :=
  h.kept (Kept.of_below hb T T) (.inl (Nat.le_refl _))

theorem DOwn.form {B T : Nat} {w : World} {v : Value} {d : Dk} (h : DOwn B T w v d) : ∃ (a b : Option Addr) (c e : Nat), v = .agg #[.slice a d.sec.length c, .slice b d.cache.length e] := by
  obtain ⟨va, vb, rfl, h1, h2, _⟩ := h
  obtain ⟨a, c, rfl⟩ := h1.1.form
  obtain ⟨b, e, rfl⟩ := h2.1.form
  exact ⟨a, b, c, e, rfl⟩

def DRd (w : World) (v : Value) (d : Dk) : Prop := ∃ va vb, v = .agg #[va, vb] ∧ Strs w va d.sec ∧ Rows' wrE w vb d.cache

theorem DOwn.rd {B T : Nat} {w : World} {v : Value} {d : Dk} (h : DOwn B T w v d) : DRd w v d := by
  obtain ⟨va, vb, hv, h1, h2, _⟩ := h
  exact ⟨va, vb, hv, h1.1.toS.strs, h2.rows⟩

theorem DRd.later {w w' : World} {v : Value} {d : Dk} (h : DRd w v d) (hb : Below w.heap.size w w') : DRd w' v d := by
  obtain ⟨va, vb, hv, h1, h2⟩ := h
  exact ⟨va, vb, hv, h1.later hb, h2.later hb⟩

def Dk.small (d : Dk) : Prop := d.sec.length ≤ 1073741824 ∧ d.cache.length ≤ 1073741824

theorem box_cells (w : World) (c : Array Value) (t : TypeId) {w' : World} (hb : Below (w.alloc (.cells c t)).heap.size (w.alloc (.cells c t)) w') (j : Nat) (u : Value) (hu : c[j]? = some u) : w'.cell? ⟨w.heap.size, j, none⟩ = some u := by
  have h1 : (w.alloc (.cells c t)).cell? ⟨w.heap.size, j, none⟩ = some u := by
    rw [cell_of_row _ _ _ c t (0, 0) (heap_alloc_new w _), hu]
  exact (hb.cell (p := ⟨w.heap.size, j, none⟩) (by simp)).trans h1

theorem eqDisk_same (d : Dk) (v1 v2 : Value) (w : World) (h1 : DRd w v1 d) (h2 : DRd w v2 d) (hs : d.small) :
    Calls Tryz.prog 29 #[v1, v2] w fun e w' => e = .returned (.bool true) ∧ Below w.heap.size w w' := by
  obtain ⟨va, vb, rfl, ha, hb⟩ := h1
  obtain ⟨vc, vd, rfl, hc, hd⟩ := h2
  obtain ⟨s1, s2⟩ := hs
  have b0 : Below w.heap.size w ((w.alloc (.cells #[va, vb] 36)).alloc (.cells #[vc, vd] 36)) := ((Below.refl _ _).alloc (Nat.le_refl _) _).alloc (by simp) _
  have ha' := ha.later b0
  have hc' := hc.later b0
  have HB : Hid (∀ w', Below ((w.alloc (.cells #[va, vb] 36)).alloc (.cells #[vc, vd] 36)).heap.size ((w.alloc (.cells #[va, vb] 36)).alloc (.cells #[vc, vd] 36)) w' →
      Below w.heap.size w w' ∧ Rows' wrE w' vb d.cache ∧ Rows' wrE w' vd d.cache ∧ w'.cell? ⟨w.heap.size, 1, none⟩ = some vb ∧ w'.cell? ⟨w.heap.size + 1, 1, none⟩ = some vd) := by
    intro w' h
    have h' : Below w.heap.size w w' := b0.trans (h.mono b0.size)
    refine ⟨h', hb.later h', hd.later h', ?_, ?_⟩
    · exact box_cells w #[va, vb] 36 (((Below.refl _ _).alloc (Nat.le_refl _) _).trans (h.mono (by simp))) 1 vb rfl
    · have := box_cells (w.alloc (.cells #[va, vb] 36)) #[vc, vd] 36 h 1 vd rfl
      simpa using this
  clear hb hd ha hc
  go_enter Tryz.func29, Tryz.ntmps29
  go_wp2_with fail
  refine (eqStringS_same d.sec va vc _ ha' hc' (by omega)).mono ?_
  rintro e w1 ⟨rfl, hb1⟩
  obtain ⟨hb1', r1, r2, c1, c2⟩ := HB.out w1 hb1
  go_wp2_with fail
  refine (eqWriteS_same d.cache vb vd _ r1 r2 (by omega)).mono ?_
  rintro e w2 ⟨rfl, hb2⟩
  go_wp2
  go_ret
  exact ⟨rfl, hb1'.trans (hb2.mono hb1'.size)⟩

def Dk.count (d : Dk) : Nat := d.sec.length + 2 * d.cache.length
def DIn (w : World) (v : Value) (d : Dk) : Prop := ∃ va vb, v = .agg #[va, vb] ∧ Rows' strE w va d.sec ∧ Rows' lwrE w vb d.cache ∧ d.sec.length ≤ 9223372036854775807 ∧ d.cache.length ≤ 9223372036854775807 ∧ (∀ s ∈ d.sec, s.size ≤ 9223372036854775807) ∧ ∀ x ∈ d.cache, x.text.size ≤ 9223372036854775807

theorem DIn.later {w w' : World} {v : Value} {d : Dk} (h : DIn w v d) (hb : Below w.heap.size w w') : DIn w' v d := by
  obtain ⟨va, vb, hv, h1, h2, h3⟩ := h
  exact ⟨va, vb, hv, h1.later hb, h2.later hb, h3⟩

def Dk.lean (d : Dk) (left : Int) : Prop := (d.sec.length : Int) ≤ left ∧ (d.cache.length : Int) ≤ left ∧ (∀ s ∈ d.sec, (s.size : Int) ≤ left) ∧ ∀ x ∈ d.cache, (x.text.size : Int) ≤ left

def SzD (left : Int) (d : Dk) (w : World) (e : Ending) (w' : World) : Prop :=
  ∃ r : Int, e = .returned (.int .i64 r) ∧ Below w.heap.size w w' ∧ r ≤ left ∧ -1 ≤ r ∧ (0 ≤ r → d.lean left)

set_option maxHeartbeats 400000 in
theorem szDisk_any (d : Dk) (v : Value) (left : Int) (w : World) (h : DIn w v d) (h0 : 0 ≤ left) (h1 : left ≤ 1048576) :
    Calls Tryz.prog 17 #[v, .int .i64 left] w fun e w' => SzD left d w e w' := by
  obtain ⟨va, vb, rfl, ha, hb, l1, l2, l3, l4⟩ := h
  have b0 : Below w.heap.size w (w.alloc (.cells #[va, vb] 25)) := (Below.refl _ _).alloc (Nat.le_refl _) _
  have ha' := ha.later b0
  have HB : Hid (∀ w', Below (w.alloc (.cells #[va, vb] 25)).heap.size (w.alloc (.cells #[va, vb] 25)) w' →
      Below w.heap.size w w' ∧ Rows' lwrE w' vb d.cache ∧ w'.cell? ⟨w.heap.size, 1, none⟩ = some vb) := by
    intro w' h
    have h' : Below w.heap.size w w' := b0.trans (h.mono b0.size)
    exact ⟨h', hb.later h', box_cells w #[va, vb] 25 h 1 vb rfl⟩
  clear hb ha
  go_enter Tryz.func17, Tryz.ntmps17
  go_wp2_with fail
  refine (szStringS_any d.sec va left _ ha' h0 h1 l1 l3).mono ?_
  rintro e w1 ⟨r, rfl, hb1, hr1, hr2, hr3⟩
  obtain ⟨hb1', r1, c1⟩ := HB.out w1 hb1
  by_cases hneg : r < 0
  · have HR := Lib.hid hr3
    clear hr3 l3 l4
    go_wp2
    go_ret
    exact ⟨-1, rfl, hb1', by omega, by omega, fun h => by omega⟩
  · have HR := Lib.hid (hr3 (by omega))
    clear hr3
    go_wp2_with fail
    refine (szWriteS_any d.cache vb r _ r1 (by omega) (by omega) l2 l4).mono ?_
    rintro e w2 ⟨q, rfl, hb2, hq1, hq2, hq3⟩
    have b2 := hb1'.trans (hb2.mono hb1'.size)
    have HQ := Lib.hid hq3
    clear hq3 l3 l4
    by_cases hneg2 : q < 0
    · go_wp2
      go_ret
      exact ⟨-1, rfl, b2, by omega, by omega, fun h => by omega⟩
    · go_wp2
      go_ret
      obtain ⟨q1, q2⟩ := HQ.out (by omega)
      exact ⟨q, rfl, b2, by omega, by omega, fun _ => ⟨HR.out.1, by omega, HR.out.2, fun x hx => by have := q2 x hx; omega⟩⟩

set_option maxHeartbeats 400000 in
theorem toDisk_any (d : Dk) (v : Value) (w : World) (h : DIn w v d) (hs : d.sec.length ≤ 1048576) (hc : d.cache.length ≤ 1048576) :
    Calls Tryz.prog 24 #[v] w fun e w' => ∃ v', e = .returned v' ∧ DOwn w.heap.size w'.heap.size w' v' d ∧ Below w.heap.size w w' := by
  obtain ⟨va, vb, rfl, ha, hb, _, _, _, _⟩ := h
  obtain ⟨hx0, hx1, hx2, bel3, hsz⟩ : Box (((w.alloc (.cells #[va, vb] 25)).alloc (.cells #[.slice none 0 0, .slice none 0 0] 36)).alloc (.cells #[.slice none 0 0, .slice none 0 0] 36)) w.heap.size #[va, vb] 25 ∧
      Box (((w.alloc (.cells #[va, vb] 25)).alloc (.cells #[.slice none 0 0, .slice none 0 0] 36)).alloc (.cells #[.slice none 0 0, .slice none 0 0] 36)) (w.heap.size + 1) #[.slice none 0 0, .slice none 0 0] 36 ∧
      Box (((w.alloc (.cells #[va, vb] 25)).alloc (.cells #[.slice none 0 0, .slice none 0 0] 36)).alloc (.cells #[.slice none 0 0, .slice none 0 0] 36)) (w.heap.size + 1 + 1) #[.slice none 0 0, .slice none 0 0] 36 ∧
      Below w.heap.size w (((w.alloc (.cells #[va, vb] 25)).alloc (.cells #[.slice none 0 0, .slice none 0 0] 36)).alloc (.cells #[.slice none 0 0, .slice none 0 0] 36)) ∧
      (((w.alloc (.cells #[va, vb] 25)).alloc (.cells #[.slice none 0 0, .slice none 0 0] 36)).alloc (.cells #[.slice none 0 0, .slice none 0 0] 36)).heap.size = w.heap.size + 3 := by
    have e1 : (w.alloc (.cells #[va, vb] 25)).heap.size = w.heap.size + 1 := by simp
    have e2 : ((w.alloc (.cells #[va, vb] 25)).alloc (.cells #[.slice none 0 0, .slice none 0 0] 36)).heap.size = w.heap.size + 1 + 1 := by simp
    have q0 := Box.new w #[va, vb] 25
    have q1 := Box.new (w.alloc (.cells #[va, vb] 25)) #[.slice none 0 0, .slice none 0 0] 36
    have q2 := Box.new ((w.alloc (.cells #[va, vb] 25)).alloc (.cells #[.slice none 0 0, .slice none 0 0] 36)) #[.slice none 0 0, .slice none 0 0] 36
    rw [e1] at q1
    rw [e2] at q2
    refine ⟨(q0.later ((Below.refl _ _).alloc (Nat.le_refl _) _)).later ((Below.refl _ _).alloc (Nat.le_refl _) _), q1.later ((Below.refl _ _).alloc (Nat.le_refl _) _), q2, (((Below.refl _ _).alloc (Nat.le_refl _) _).alloc (by simp) _).alloc (by simp; omega) _, by simp⟩
  go_enter Tryz.func24, Tryz.ntmps24
  go_wp2_with fail
  generalize (((w.alloc (.cells #[va, vb] 25)).alloc (.cells #[.slice none 0 0, .slice none 0 0] 36)).alloc (.cells #[.slice none 0 0, .slice none 0 0] 36)) = w3 at hx0 hx1 hx2 bel3 hsz ⊢
  refine (toStringS_any d.sec va _ (ha.later bel3) hs).mono ?_
  rintro e w4 ⟨v1, rfl, r1⟩
  obtain ⟨a1, p1, rfl⟩ := r1.form
  have k4 := r1.bel
  have c0 := (hx0.later k4).cell 1 vb rfl
  have c2 := (hx2.later k4).cell 0 (.slice none 0 0) rfl
  have f2 := (hx2.later k4).loose 0
  have bel4 : Below w.heap.size w w4 := bel3.trans (k4.mono bel3.size)
  have x0 := (hx0.later k4).other (g := w.heap.size + 1 + 1) (by omega) 0 (.slice a1 d.sec.length p1)
  have x1 := (hx1.later k4).other (g := w.heap.size + 1 + 1) (by omega) 0 (.slice a1 d.sec.length p1)
  have x2 := (hx2.later k4).set 0 (.slice a1 d.sec.length p1)
  have l1 := r1.lown.store (w.heap.size + 1 + 1) 0 (.slice a1 d.sec.length p1) (by omega)
  have b5 : Below w.heap.size w (w4.setCell ⟨w.heap.size + 1 + 1, 0, none⟩ (.slice a1 d.sec.length p1)) := bel4.setCell (p := ⟨w.heap.size + 1 + 1, 0, none⟩) (by simp; omega) _
  have hb5 := hb.later b5
  have s5 : (w4.setCell ⟨w.heap.size + 1 + 1, 0, none⟩ (.slice a1 d.sec.length p1)).heap.size = w4.heap.size := by simp
  have L1 := Lib.hid l1
  clear ha hb hx0 hx1 hx2 r1 l1
  go_wp2_with fail
  clear c0 c2 f2
  generalize w4.setCell ⟨w.heap.size + 1 + 1, 0, none⟩ (.slice a1 d.sec.length p1) = w5 at x0 x1 x2 L1 b5 hb5 s5 ⊢
  refine (toWriteS_any d.cache vb _ hb5 hc).mono ?_
  rintro e w6 ⟨v2, rfl, r2⟩
  obtain ⟨a2, p2, rfl⟩ := r2.form
  have k6 := r2.bel
  have b6 : Below w.heap.size w w6 := b5.trans (k6.mono b5.size)
  have s6 : w5.heap.size ≤ w6.heap.size := k6.size
  have s4 : w3.heap.size ≤ w4.heap.size := k4.size
  have y1 := x1.later k6
  have y2 := x2.later k6
  have c10 := y1.cell 0 (.slice none 0 0) rfl
  have c11 := y1.cell 1 (.slice none 0 0) rfl
  have c20 := y2.cell 0 (.slice a1 d.sec.length p1) rfl
  have c21 := y2.cell 1 (.slice none 0 0) rfl
  have f10 := y1.loose 0
  have f11 := y1.loose 1
  have f21 := y2.loose 1
  have L6 := Lib.hid (L1.out.later k6)
  have R2 := Lib.hid r2.lown
  clear x0 x1 x2 y1 y2 r2 hb5 L1
  go_wp2
  have q1 := (L6.out.store (w.heap.size + 1 + 1) 1 (.slice a2 d.cache.length p2) (by omega)).store (w.heap.size + 1) 0 (.slice a1 d.sec.length p1) (by omega) |>.store (w.heap.size + 1) 1 (.slice a2 d.cache.length p2) (by omega)
  have q2 := (R2.out.store (w.heap.size + 1 + 1) 1 (.slice a2 d.cache.length p2) (by omega)).store (w.heap.size + 1) 0 (.slice a1 d.sec.length p1) (by omega) |>.store (w.heap.size + 1) 1 (.slice a2 d.cache.length p2) (by omega)
  have b7 := ((b6.setCell (p := ⟨w.heap.size + 1 + 1, 1, none⟩) (by simp; omega) (.slice a2 d.cache.length p2)).setCell (p := ⟨w.heap.size + 1, 0, none⟩) (by simp) (.slice a1 d.sec.length p1)).setCell (p := ⟨w.heap.size + 1, 1, none⟩) (by simp) (.slice a2 d.cache.length p2)
  refine bodyPost_ret (v := .agg #[.slice a1 d.sec.length p1, .slice a2 d.cache.length p2]) ?_ rfl ⟨_, rfl, ?_, b7⟩
  · simp [results, Tryz.results24, go_sem, c10, c11]
  · have e7 := b7.size
    refine ⟨_, _, rfl, (q1.deeper (by omega)).wider (by simp; omega) (Nat.le_refl _), (q2.deeper (by omega)).wider (by simp) (Nat.le_refl _), ?_⟩
    cases ha1 : (Value.slice a1 d.sec.length p1).ownBlock with
    | none => exact .inl rfl
    | some j =>
      refine .inr fun e => ?_
      have j1 := q1.2.2 j ha1
      have j2 := (q2.1.own.lt j e.symm).1
      omega

end Go.Proofs.YtlifgcgoehkinaaGreatDoor

/- Appends of one list of the call's own to another, at an operation, in a list of operations and in a region that draws its order. -/
namespace Go.Proofs.YtlifgcgoehkinaaGreatDoor
open Go.RowKit

variable {α : Type} {E : Enc α}

theorem RBuf.shift {B : Nat} {w w' : World} {v : Value} {l : List α} {r : Option Nat} (h : RBuf E B w w v l) (hg : w.grownBy w' r) (hne : v.ownBlock = none ∨ v.ownBlock ≠ r) : RBuf E B w' w' v l :=
  ⟨h.own.kept hg hne, Below.refl _ _, Nat.le_trans h.le hg.size⟩

theorem RBuf.lower {B B0 : Nat} {w : World} {v : Value} {l : List α} (h : RBuf E B w w v l) (hB : B0 ≤ B) : RBuf E B0 w w v l := h.down (Below.refl _ _) hB

theorem run_append_rows {w : World} (ty : TypeId) (B : Nat) (v : Value) (l : List α) (hb : RBuf E B w w v l) (Bx : Nat) (vx : Value) (m : List α) (hx : RBuf E Bx w w vx m)
    (hlen : (l.length + m.length) * (E.bytes + 1) ≤ 140737488355328) :
    ∃ v' w', (Builtin.append_ #[E.sty, E.sty] ty #[v, vx]).run Tryz.prog w = .ok v' w' ∧ RBuf E B w' w' v' (l ++ m) ∧ w.grownBy w' v.ownBlock ∧ (v'.ownBlock = v.ownBlock ∨ v'.ownBlock = some w.heap.size) := by
  obtain ⟨i0, hi, hz0, hz1, hz2⟩ := info_parts E.info
  have e0 : (l.length + m.length) * (E.bytes + 1) = (l.length + m.length) * E.bytes + (l.length + m.length) := Nat.mul_succ _ _
  rcases hx.own.2 with ⟨rfl, h0⟩ | ⟨g, cap, cur, rfl, hg, hh, hnc, hcp, hcs, htake⟩
  · obtain rfl := List.length_eq_zero_iff.1 h0
    refine ⟨v, w, run_append_owned_none (P := Tryz.prog) w B E.sty ty E.ty i0 E.sz E.und hi v l.length (E.row l) hb.own, by simpa using hb, World.grownBy.refl _ _, .inl rfl⟩
  · obtain ⟨v', w', h1, h2, h3, _, h5⟩ := run_append_own_at (P := Tryz.prog) w B E.sty ty E.ty i0 E.zero E.sz E.bytes E.und hi hz0 hz1 hz2 E.zc E.pos v l.length (E.row l) hb.own ⟨g, 0, none⟩ m.length cap (E.row m) (E.row_length m)
      (fun j u hu => by
        have hjl : j < m.length * E.sz := by have := (List.getElem?_eq_some_iff.1 hu).1; rwa [E.row_length] at this
        rw [Addr.add_lit, Nat.zero_add, hx.own.cellAt j hjl]; exact hu) (E.row_one' m) (by unfold maxLen; omega) (by omega) hb.le
    refine ⟨v', w', h1, ⟨?_, Below.refl _ _, Nat.le_trans hb.le h3.size⟩, h3, h5⟩
    rw [List.length_append, E.row_append]
    exact h2

theorem wp_append_rows {w : World} {o : Oper} {a : Act} {K : Act → World → Prop} {Q : Exit → Act → World → Prop} (s x : Operand) (E : Enc α)
    (ho : o.op = .call { callee := .builtin .append, args := #[s, x], argTypes := #[E.sty, E.sty] })
    (B : Nat) (v : Value) (l : List α) (hs : a.eval s = v) (hb : RBuf E B w w v l) (Bx : Nat) (vx : Value) (m : List α) (hxv : a.eval x = vx) (hx : RBuf E Bx w w vx m)
    (hlen : (l.length + m.length) * (E.bytes + 1) ≤ 140737488355328)
    (h : ∀ v' w', RBuf E B w' w' v' (l ++ m) → w.grownBy w' v.ownBlock → (v'.ownBlock = v.ownBlock ∨ v'.ownBlock = some w.heap.size) → K (a.put o.dst v') w') : o.wp Tryz.prog a w K Q := by
  obtain ⟨v', w', hr, h2, h3, h4⟩ := run_append_rows o.type B v l hb Bx vx m hx hlen
  unfold Oper.wp execOp
  simp only [ho, resolve, invoke, builtin, Sem.run_bind, Sem.run_pure, Result.andThen_ok, List.map_toArray, List.map_cons, List.map_nil, hs, hxv, hr]
  exact h v' w' h2 h3 h4

theorem wpList_append_rows {w : World} {ops : Array Oper} {rest : List Oper} {o : Oper} {a : Act} {Q : Exit → Act → World → Prop} (hgd : o.guard = none) (s x : Operand) (E : Enc α)
    (ho : o.op = .call { callee := .builtin .append, args := #[s, x], argTypes := #[E.sty, E.sty] })
    (B : Nat) (v : Value) (l : List α) (hs : a.eval s = v) (hb : RBuf E B w w v l) (Bx : Nat) (vx : Value) (m : List α) (hxv : a.eval x = vx) (hx : RBuf E Bx w w vx m)
    (hlen : (l.length + m.length) * (E.bytes + 1) ≤ 140737488355328)
    (h : ∀ v' w', RBuf E B w' w' v' (l ++ m) → w.grownBy w' v.ownBlock → (v'.ownBlock = v.ownBlock ∨ v'.ownBlock = some w.heap.size) → wpList Tryz.prog ops Q rest (a.put o.dst v') w') : wpList Tryz.prog ops Q (o :: rest) a w :=
  wpList_plain hgd fun _ hK => wp_append_rows s x E ho B v l hs hb Bx vx m hxv hx hlen fun v' w' h2 h3 h4 => hK _ _ (h v' w' h2 h3 h4)

theorem step_append_rows {w : World} {ops : Array Oper} {o : Oper} {a : Act} {K : Act → World → Prop} {Q : Exit → Act → World → Prop} {X : Prop} (hgd : o.guard = none) (s x : Operand) (E : Enc α)
    (ho : o.op = .call { callee := .builtin .append, args := #[s, x], argTypes := #[E.sty, E.sty] })
    (B : Nat) (v : Value) (l : List α) (hs : a.eval s = v) (hb : RBuf E B w w v l) (Bx : Nat) (vx : Value) (m : List α) (hxv : a.eval x = vx) (hx : RBuf E Bx w w vx m)
    (hlen : (l.length + m.length) * (E.bytes + 1) ≤ 140737488355328)
    (h : ∀ v' w', RBuf E B w' w' v' (l ++ m) → w.grownBy w' v.ownBlock → (v'.ownBlock = v.ownBlock ∨ v'.ownBlock = some w.heap.size) → (∀ k, v.ownBlock = some k → B ≤ k ∧ k < w.heap.size) → K (a.put o.dst v') w') :
    if Region.wanted o (yielded ops a.tmps) = true then Oper.wp Tryz.prog o a w K Q else X := by
  have hw : Region.wanted o (yielded ops a.tmps) = true := by simp [Region.wanted, hgd]
  rw [if_pos hw]
  exact wp_append_rows s x E ho B v l hs hb Bx vx m hxv hx hlen fun v' w' h2 h3 h4 => h v' w' h2 h3 h4 (fun k hk => hb.own.lt k hk)

theorem RBuf.lit1 (E : Enc α) (w : World) (x : α) : RBuf E w.heap.size (w.alloc (.cells (E.f x).toArray E.ty)) (w.alloc (.cells (E.f x).toArray E.ty)) (.slice (some ⟨w.heap.size, 0, none⟩) 1 1) [x] := by
  refine ⟨?_, Below.refl _ _, by simp⟩
  have := World.ownsRow_lit (base := w.heap.size) (e := E.ty) (size := E.sz) w (E.f x).toArray 1 (Nat.le_refl _) (by decide) (by simp [E.len])
  simpa [E.row_one] using this

end Go.Proofs.YtlifgcgoehkinaaGreatDoor

/- Plain facts on the bytes of a number, with no program in them: the groups of seven bits of a number, the lowest first. -/
namespace Go.Proofs.YtlifgcgoehkinaaGreatDoor

def hiByte (m : Nat) : UInt8 := UInt8.ofNat (m % 128 + 128)
def loByte (m : Nat) : UInt8 := UInt8.ofNat m

theorem hiByte_toNat (m : Nat) : (hiByte m).toNat = m % 128 + 128 := by
  rw [hiByte, UInt8.toNat_ofNat']
  omega

theorem loByte_toNat {m : Nat} (h : m < 256) : (loByte m).toNat = m := by
  rw [loByte, UInt8.toNat_ofNat']
  omega

def vtF : Nat → Nat → List UInt8
  | 0, n => [loByte n]
  | f + 1, n => if 127 < n then hiByte n :: vtF f (n / 128) else [loByte n]

def vt (n : Nat) : List UInt8 := vtF n n

theorem vtF_more : ∀ (f g n : Nat), n ≤ f → n ≤ g → vtF f n = vtF g n := by
  intro f
  induction f with
  | zero =>
    intro g n hf hg
    obtain rfl : n = 0 := by omega
    cases g <;> simp [vtF]
  | succ f ih =>
    intro g n hf hg
    cases g with
    | zero => obtain rfl : n = 0 := by omega
              simp [vtF]
    | succ g =>
      simp only [vtF]
      split
      · rw [ih g (n / 128) (by omega) (by omega)]
      · rfl

theorem vt_big {n : Nat} (h : 127 < n) : vt n = hiByte n :: vt (n / 128) := by
  unfold vt
  cases n with
  | zero => omega
  | succ n =>
    rw [vtF, if_pos h, vtF_more n ((n + 1) / 128) ((n + 1) / 128) (by omega) (Nat.le_refl _)]

theorem vt_small {n : Nat} (h : n ≤ 127) : vt n = [loByte n] := by
  unfold vt
  cases n with
  | zero => rfl
  | succ n => rw [vtF, if_neg (by omega)]

theorem vtF_len : ∀ (f n : Nat), (vtF f n).length ≤ f + 1 := by
  intro f
  induction f with
  | zero => intro n; simp [vtF]
  | succ f ih =>
    intro n
    simp only [vtF]
    split
    · simp; exact ih _
    · simp

theorem vt_len (n : Nat) : (vt n).length ≤ n + 1 := vtF_len n n

theorem vt_step {acc : List UInt8} {m n : Nat} (h : acc ++ vt m = vt n) (hm : 127 < m) : (acc ++ [hiByte m]) ++ vt (m / 128) = vt n := by
  rw [vt_big hm] at h
  simpa using h

theorem vt_end {acc : List UInt8} {m n : Nat} (h : acc ++ vt m = vt n) (hm : m ≤ 127) : acc ++ [loByte m] = vt n := by
  rw [vt_small hm] at h
  exact h

theorem vt_acc {acc : List UInt8} {m n : Nat} (h : acc ++ vt m = vt n) : acc.length ≤ n + 1 := by
  have h1 := congrArg List.length h
  have h2 := vt_len n
  simp at h1
  omega

end Go.Proofs.YtlifgcgoehkinaaGreatDoor

/- Plain facts on reading a number in groups of seven bits, with no program in them. -/
namespace Go.Proofs.YtlifgcgoehkinaaGreatDoor

def rg : Nat → List UInt8 → Nat → Nat → Option (Nat × Nat)
  | 0, _, _, _ => none
  | _ + 1, [], _, _ => none
  | f + 1, c :: cs, i, n => if c.toNat < 128 then some (n + c.toNat % 128 * 128 ^ i, i + 1) else rg f cs (i + 1) (n + c.toNat % 128 * 128 ^ i)

def rv (l : List UInt8) (k : Nat) : Option (Nat × Nat) :=
  match rg 5 (l.drop k) 0 0 with
  | some (n, c) => if n ≤ 1000000000 ∧ vt n = (l.drop k).take c then some (n, k + c) else none
  | none => none

end Go.Proofs.YtlifgcgoehkinaaGreatDoor

/- Plain facts on rows of bytes. -/
namespace Go.Proofs.YtlifgcgoehkinaaGreatDoor

end Go.Proofs.YtlifgcgoehkinaaGreatDoor

/- Plain facts, with no program in them: frames, their texts, and what is read of a text. -/
namespace Go.Proofs.YtlifgcgoehkinaaGreatDoor

theorem vt_short : ∀ (k n : Nat), n < 128 ^ (k + 1) → (vt n).length ≤ k + 1 := by
  intro k
  induction k with
  | zero =>
    intro n h
    rw [vt_small (by simpa using Nat.le_of_lt_succ h)]
    simp
  | succ k ih =>
    intro n h
    by_cases hn : n ≤ 127
    · rw [vt_small hn]; simp
    · rw [vt_big (by omega)]
      have := ih (n / 128) (by rw [Nat.pow_succ] at h; omega)
      simpa using this

theorem vt_five {n : Nat} (h : n ≤ 1000000000) : (vt n).length ≤ 5 := vt_short 4 n (by omega)
theorem vt_two {n : Nat} (h : n ≤ 180) : (vt n).length ≤ 2 := vt_short 1 n (by omega)

def vtB (n : Nat) : ByteArray := ⟨(vt n).toArray⟩
theorem vtB_size (n : Nat) : (vtB n).size = (vt n).length := by simp [vtB, ByteArray.size]
theorem vtB_list (n : Nat) : (vtB n).data.toList = vt n := by simp [vtB]

structure Fr where
  gen : Int
  seq : Int
  body : ByteArray

def Fr.ok (f : Fr) : Prop := (1 ≤ f.gen ∧ f.gen ≤ 1000000000) ∧ (1 ≤ f.seq ∧ f.seq ≤ 1000000000) ∧ 1 ≤ f.body.size ∧ f.body.size ≤ 180
instance decFrOk (f : Fr) : Decidable f.ok := by unfold Fr.ok; infer_instance

def Fr.raw (f : Fr) : ByteArray := vtB f.gen.toNat ++ vtB f.seq.toNat ++ (vtB f.body.size ++ f.body)
def Fr.text (f : Fr) (four : ByteArray → ByteArray) : ByteArray := f.raw ++ four f.raw

theorem Fr.raw_size {f : Fr} (h : f.ok) : f.raw.size ≤ 192 := by
  obtain ⟨h1, h2, h3, h4⟩ := h
  have a := vt_five (n := f.gen.toNat) (by omega)
  have b := vt_five (n := f.seq.toNat) (by omega)
  have c := vt_two h4
  simp only [Fr.raw, ByteArray.size_append, vtB_size]
  omega

def ru (s : ByteArray) (k : Nat) : Option (Fr × Nat) :=
  match rv s.data.toList k with
  | none => none
  | some (g, a) =>
    match rv s.data.toList a with
    | none => none
    | some (q, b) =>
      match rv s.data.toList b with
      | none => none
      | some (n, c) => if n ≤ 20000 ∧ n + c ≤ s.size then some (⟨g, q, s.extract c (c + n)⟩, c + n) else none

def rf (four : ByteArray → ByteArray) (s : ByteArray) (k : Nat) : Option (Fr × Nat) :=
  match ru s k with
  | some (f, e) => if f.ok ∧ e + 4 ≤ s.size ∧ f.text four = s.extract k (e + 4) then some (f, e + 4) else none
  | none => none

variable {four : ByteArray → ByteArray}

def sqF (four : ByteArray → ByteArray) : Nat → ByteArray → Int → Nat → List (Fr × Nat)
  | 0, _, _, _ => []
  | n + 1, s, g, k =>
    match rf four s k with
    | some (f, e) => if f.gen = g then (f, e) :: sqF four n s g e else []
    | none => []
def sq (four : ByteArray → ByteArray) (s : ByteArray) (g : Int) (k : Nat) : List (Fr × Nat) := sqF four (s.size + 1 - k) s g k

def behind : Nat → List (Fr × Nat) → Nat
  | k, [] => k
  | _, x :: l => behind x.2 l

end Go.Proofs.YtlifgcgoehkinaaGreatDoor

/- Plain facts on the values of figures, with no program in them. -/
namespace Go.Proofs.YtlifgcgoehkinaaGreatDoor

end Go.Proofs.YtlifgcgoehkinaaGreatDoor

/- Plain facts, with no program in them: what is written is read back. -/
namespace Go.Proofs.YtlifgcgoehkinaaGreatDoor

end Go.Proofs.YtlifgcgoehkinaaGreatDoor

/- Plain facts on records: what is right, their texts, and that they come back from them. -/
namespace Go.Proofs.YtlifgcgoehkinaaGreatDoor

structure Rc where
  kind : Int
  valid : Int
  uid : Int
  next : Int
  flags : Int
  user : ByteArray
  name : ByteArray
  text : ByteArray

def wdOk (s : ByteArray) : Prop := (1 ≤ s.size ∧ s.size ≤ 8) ∧ ∀ b ∈ s.data.toList, 97 ≤ b.toNat ∧ b.toNat ≤ 122
instance decWdOk (s : ByteArray) : Decidable (wdOk s) := by unfold wdOk; infer_instance

def emp : ByteArray := ⟨#[]⟩

def Rc.ok (r : Rc) : Prop := (1 ≤ r.kind ∧ r.kind ≤ 5) ∧ (1 ≤ r.valid ∧ r.valid ≤ 9999) ∧
  (if r.kind = 1 then wdOk r.user ∧ wdOk r.name ∧ 1 ≤ r.next ∧ r.next ≤ 10000 else r.user = emp ∧ r.name = emp ∧ r.next = 0) ∧
  (if 3 ≤ r.kind then 1 ≤ r.uid ∧ r.uid ≤ 9999 else r.uid = 0) ∧
  (if r.kind = 3 ∨ r.kind = 4 then 0 ≤ r.flags ∧ r.flags ≤ 7 else r.flags = 0) ∧
  (if r.kind = 3 then r.text.size ≤ 100 else r.text = emp)
instance decRcOk (r : Rc) : Decidable r.ok := by unfold Rc.ok; infer_instance

def Rc.tl (r : Rc) : List UInt8 := UInt8.ofNat r.kind.toNat :: (vt r.valid.toNat ++ (vt r.uid.toNat ++ (vt r.next.toNat ++ (vt r.flags.toNat ++ ((vt r.user.size ++ r.user.data.toList) ++ ((vt r.name.size ++ r.name.data.toList) ++ (vt r.text.size ++ r.text.data.toList)))))))
def Rc.tx (r : Rc) : ByteArray := ⟨r.tl.toArray⟩
theorem Rc.tx_list (r : Rc) : r.tx.data.toList = r.tl := by simp [Rc.tx]

theorem Rc.ok_small {r : Rc} (h : r.ok) : (1 ≤ r.kind ∧ r.kind ≤ 5) ∧ (0 ≤ r.valid ∧ r.valid ≤ 9999) ∧ (0 ≤ r.uid ∧ r.uid ≤ 9999) ∧ (0 ≤ r.next ∧ r.next ≤ 10000) ∧ (0 ≤ r.flags ∧ r.flags ≤ 7) ∧ r.user.size ≤ 8 ∧ r.name.size ≤ 8 ∧ r.text.size ≤ 100 := by
  obtain ⟨h1, h2, h3, h4, h5, h6⟩ := h
  have he : emp.size = 0 := rfl
  have a3 : (0 ≤ r.next ∧ r.next ≤ 10000) ∧ r.user.size ≤ 8 ∧ r.name.size ≤ 8 := by
    split at h3
    · exact ⟨by omega, h3.1.1.2, h3.2.1.1.2⟩
    · rw [h3.1, h3.2.1, he]; omega
  have a4 : 0 ≤ r.uid ∧ r.uid ≤ 9999 := by split at h4 <;> omega
  have a5 : 0 ≤ r.flags ∧ r.flags ≤ 7 := by split at h5 <;> omega
  have a6 : r.text.size ≤ 100 := by
    split at h6
    · exact h6
    · rw [h6, he]; omega
  exact ⟨h1, by omega, a4, a3.1, a5, a3.2.1, a3.2.2, a6⟩

theorem tl_len (s : ByteArray) : s.data.toList.length = s.size := by rw [Array.length_toList]; rfl

theorem vt_two' {n : Nat} (h : n ≤ 10000) : (vt n).length ≤ 2 := vt_short 1 n (by omega)
theorem Rc.tl_le {r : Rc} (h : r.ok) : r.tl.length ≤ 131 ∧ 1 ≤ r.tl.length := by
  obtain ⟨_, h2, h3, h4, h5, h6, h7, h8⟩ := r.ok_small h
  have a1 := vt_two' (n := r.valid.toNat) (by omega)
  have a2 := vt_two' (n := r.uid.toNat) (by omega)
  have a3 := vt_two' (n := r.next.toNat) (by omega)
  have a4 := vt_two' (n := r.flags.toNat) (by omega)
  have a5 := vt_two' (n := r.user.size) (by omega)
  have a6 := vt_two' (n := r.name.size) (by omega)
  have a7 := vt_two' (n := r.text.size) (by omega)
  unfold Rc.tl
  simp only [List.length_cons, List.length_append, tl_len]
  omega
theorem Rc.tx_le {r : Rc} (h : r.ok) : r.tx.size ≤ 131 ∧ 1 ≤ r.tx.size := by
  have := r.tl_le h
  have e : r.tx.size = r.tl.length := by rw [← tl_len, r.tx_list]
  rw [e]; exact this

end Go.Proofs.YtlifgcgoehkinaaGreatDoor

/- The bytes of a number: what spec.l01Var, spec.VarText and impl.VarText hand back. -/
namespace Go.Proofs.YtlifgcgoehkinaaGreatDoor
open Go.RowKit

set_option maxHeartbeats 400000 in
theorem l01Var_any (n : Nat) (w : World) (hn : n ≤ 1000000000) :
    Calls Tryz.prog 60 #[.int .i64 n] w fun e w' => e = .returned (.string ⟨(vt n).toArray⟩) ∧ Below w.heap.size w w' := by
  have hst := Buf.fresh w #[] 0 rfl (by decide)
  go_enter Tryz.func60, Tryz.ntmps60
  go_wp2
  go_loopw [0, 3] (fun nv v wr => ∃ (m : Nat) (acc : List UInt8), m ≤ n ∧ nv = .int .i64 m ∧ acc ++ vt m = vt n ∧ Buf w.heap.size w wr v acc) (fun nv _ _ => (intOf nv).toNat)
  case atStart => exact ⟨n, [], Nat.le_refl _, rfl, rfl, hst⟩
  case round =>
    obtain ⟨m, acc, hm, rfl, hv0, hb⟩ := hrel
    have hv : Hid (acc ++ vt m = vt n) := hv0
    have hacc := vt_acc hv0
    clear hv0
    by_cases hlt : 127 < m
    · go_wp2_with (at_builtin; refine wpList_append_bytes rfl _ _ rfl _ _ acc rfl (hb.alloc _) ⟨wr.heap.size, 0, none⟩ [hiByte m] 1 rfl ?c1 ?c2 ?_)
      case c1 => exact one_new _ _ _ (by rw [hiByte_toNat]; omega)
      case c2 => simp; omega
      intro v' w1 hb'
      go_wp2
      go_roundw
      case rel => exact ⟨m / 128, acc ++ [hiByte m], by omega, by go_num, vt_step hv.out hlt, hb'⟩
      case measure => simp [intOf]; omega
    · go_wp2_with (at_builtin; refine wpList_append_bytes rfl _ _ rfl _ _ acc rfl (hb.alloc _) ⟨wr.heap.size, 0, none⟩ [loByte m] 1 rfl ?d1 ?d2 ?_)
      case d1 => exact one_new _ _ _ (by rw [loByte_toNat (by omega)])
      case d2 => simp; omega
      intro v' w1 hb'
      have hcv := hb'.toString
      go_wp2
      go_ret
      exact ⟨by rw [vt_end hv.out (by omega)]; rfl, hb'.bel⟩

theorem l01In_any (x a b : Int) (w : World) :
    Calls Tryz.prog 54 #[.int .i64 x, .int .i64 a, .int .i64 b] w fun e w' => e = .returned (.bool (decide (a ≤ x) && decide (x ≤ b))) ∧ w' = w := by
  by_cases h1 : a ≤ x
  · by_cases h2 : x ≤ b
    all_goals
      go_enter Tryz.func54, Tryz.ntmps54
      go_wp2
      go_ret
      exact ⟨by simp [h1, h2], rfl⟩
  · have h3 : decide (a ≤ x) = false := decide_eq_false h1
    go_enter Tryz.func54, Tryz.ntmps54
    go_wp2
    go_ret
    exact ⟨by simp, rfl⟩

def varT (n : Int) : Value := if 0 ≤ n ∧ n ≤ 1000000000 then .tuple #[.string ⟨(vt n.toNat).toArray⟩, .bool true] else .tuple #[.string ⟨#[]⟩, .bool false]

theorem varT_yes {n : Int} (h : 0 ≤ n ∧ n ≤ 1000000000) : varT n = .tuple #[.string ⟨(vt n.toNat).toArray⟩, .bool true] := by rw [varT, if_pos h]
set_option maxHeartbeats 400000 in
theorem implVarText_any (n : Int) (w : World) :
    Calls Tryz.prog 72 #[.int .i64 n] w fun e w' => e = .returned (varT n) ∧ Below w.heap.size w w' := by
  by_cases h : 0 ≤ n ∧ n ≤ 1000000000
  · obtain ⟨k, rfl⟩ := Int.eq_ofNat_of_zero_le h.1
    have hk : k ≤ 1000000000 := by omega
    have hmk : ∀ w, (Instr.makeSlice 106 (.int .i64 0) (.int .i64 5)).run Tryz.prog w = .ok (.slice (some ⟨w.heap.size, 0, none⟩) 0 5) (w.alloc (.cells #[.int .u8 0, .int .u8 0, .int .u8 0, .int .u8 0, .int .u8 0] 5)) := fun _ => by kernel_rfl
    have hst := Buf.fresh w #[.int .u8 0, .int .u8 0, .int .u8 0, .int .u8 0, .int .u8 0] 5 rfl (by decide)
    go_enter Tryz.func72, Tryz.ntmps72
    go_wp2
    go_loopw [0, 4] (fun nv v wr => ∃ (m : Nat) (acc : List UInt8), m ≤ k ∧ nv = .int .i64 m ∧ acc ++ vt m = vt k ∧ Buf w.heap.size w wr v acc) (fun nv _ _ => (intOf nv).toNat)
    case atStart => exact ⟨k, [], Nat.le_refl _, rfl, rfl, hst⟩
    case round =>
      obtain ⟨m, acc, hm, rfl, hv0, hb⟩ := hrel
      have hv : Hid (acc ++ vt m = vt k) := hv0
      have hacc := vt_acc hv0
      clear hv0 hmk
      by_cases hlt : 127 < m
      · go_wp2_with (at_builtin; refine wpList_append_bytes rfl _ _ rfl _ _ acc rfl (hb.alloc _) ⟨wr.heap.size, 0, none⟩ [hiByte m] 1 rfl ?c1 ?c2 ?_)
        case c1 => exact one_new _ _ _ (by rw [u8_or128_right _ (by omega) (by omega), hiByte_toNat]; omega)
        case c2 => simp; omega
        intro v' w1 hb'
        go_wp2
        go_roundw
        case rel => exact ⟨m / 128, acc ++ [hiByte m], by omega, by go_num, vt_step hv.out hlt, hb'⟩
        case measure => simp [intOf]; omega
      · go_wp2_with (at_builtin; refine wpList_append_bytes rfl _ _ rfl _ _ acc rfl (hb.alloc _) ⟨wr.heap.size, 0, none⟩ [loByte m] 1 rfl ?d1 ?d2 ?_)
        case d1 => exact one_new _ _ _ (by rw [loByte_toNat (by omega)])
        case d2 => simp; omega
        intro v' w1 hb'
        have hcv := hb'.toString
        go_wp2
        go_ret2
        exact ⟨by simp [varT, h, vt_end hv.out (show m ≤ 127 by omega)], hb'.bel⟩
  · have h0 : (decide (n < 0) || decide (1000000000 < n)) = true := by
      simp only [Bool.or_eq_true, decide_eq_true_eq]
      omega
    by_cases h1 : n < 0
    all_goals
      go_enter Tryz.func72, Tryz.ntmps72
      go_wp2
      go_ret2
      exact ⟨by simp [varT, h], Below.refl _ _⟩

end Go.Proofs.YtlifgcgoehkinaaGreatDoor

/- Records: what the model's WordOk, RecOk, RecText hand back. -/
namespace Go.Proofs.YtlifgcgoehkinaaGreatDoor
open Go.RowKit

def Rc.v (r : Rc) : Value := .agg #[.int .i64 r.kind, .int .i64 r.valid, .int .i64 r.uid, .int .i64 r.next, .int .i64 r.flags, .string r.user, .string r.name, .string r.text]
def Rc.cs (r : Rc) : Array Value := #[.int .i64 r.kind, .int .i64 r.valid, .int .i64 r.uid, .int .i64 r.next, .int .i64 r.flags, .string r.user, .string r.name, .string r.text]

theorem Box.rec {w : World} {b : Nat} {r : Rc} {t : TypeId} (h : Box w b r.cs t) : w.cell? ⟨b, 0, none⟩ = some (.int .i64 r.kind) ∧ w.cell? ⟨b, 1, none⟩ = some (.int .i64 r.valid) ∧ w.cell? ⟨b, 2, none⟩ = some (.int .i64 r.uid) ∧ w.cell? ⟨b, 3, none⟩ = some (.int .i64 r.next) ∧ w.cell? ⟨b, 4, none⟩ = some (.int .i64 r.flags) ∧ w.cell? ⟨b, 5, none⟩ = some (.string r.user) ∧ w.cell? ⟨b, 6, none⟩ = some (.string r.name) ∧ w.cell? ⟨b, 7, none⟩ = some (.string r.text) :=
  ⟨h.cell 0 _ rfl, h.cell 1 _ rfl, h.cell 2 _ rfl, h.cell 3 _ rfl, h.cell 4 _ rfl, h.cell 5 _ rfl, h.cell 6 _ rfl, h.cell 7 _ rfl⟩

theorem index_atW (s : ByteArray) (k : Nat) (h : k < s.size) (wx : World) :
    (Instr.index 9 (.string s) (.int .i64 (k : Int))).run Tryz.prog wx = .ok (.int .u8 (s[k].toNat : Int)) wx := by
  have hu := Tryz.underlying9
  simp [Instr.index, run_underlying hu, go_sem, h]

theorem l01In_yes (n lo hi : Int) (w : World) (h1 : lo ≤ n) (h2 : n ≤ hi) :
    Calls Tryz.prog 54 #[.int .i64 n, .int .i64 lo, .int .i64 hi] w fun e w' => e = .returned (.bool true) ∧ w = w' :=
  (l01In_any n lo hi w).mono fun _ _ h => ⟨by rw [h.1]; simp [h1, h2], h.2.symm⟩
theorem l01In_no (n lo hi : Int) (w : World) (h : ¬ (lo ≤ n ∧ n ≤ hi)) :
    Calls Tryz.prog 54 #[.int .i64 n, .int .i64 lo, .int .i64 hi] w fun e w' => e = .returned (.bool false) ∧ w = w' :=
  (l01In_any n lo hi w).mono fun _ _ h' => ⟨by rw [h'.1]; simp; omega, h'.2.symm⟩

set_option maxRecDepth 100000 in
theorem specWordOk_any (s : ByteArray) (w : World) (hs : s.size ≤ 1099511627776) :
    Calls Tryz.prog 79 #[.string s] w fun e w' => e = .returned (.bool (decide (wdOk s))) ∧ w = w' := by
  go_enter Tryz.func79, Tryz.ntmps79
  go_wp2
  go_loop [3] (fun iv => ∃ i : Nat, i ≤ s.size ∧ iv = .int .i64 (i : Int) ∧ ∀ j (hj : j < s.size), j < i → 97 ≤ s[j].toNat ∧ s[j].toNat ≤ 122) (fun iv => s.size - (intOf iv).toNat)
  case atStart => exact ⟨0, by omega, rfl, fun j _ hj => by omega⟩
  case round =>
    obtain ⟨i, hi, rfl, hall⟩ := hrel
    have HA := Lib.hid hall
    clear hall
    by_cases hlt : i < s.size
    · have hlt' : (i : Int) < (s.size : Int) := by omega
      have hix := index_atW s i hlt
      have HB : Hid (¬ (97 ≤ s[i].toNat ∧ s[i].toNat ≤ 122) → decide (wdOk s) = false) := fun h => decide_eq_false (fun hw => h (hw.2 _ (by
        show s.data[i] ∈ s.data.toList
        exact Array.getElem_mem_toList _)))
      have HN : Hid (97 ≤ s[i].toNat ∧ s[i].toNat ≤ 122 → ∀ j (hj : j < s.size), j < i + 1 → 97 ≤ s[j].toNat ∧ s[j].toNat ≤ 122) := by
        intro h j hj hji
        by_cases e : j = i
        · subst e; exact h
        · exact HA.out j hj (by omega)
      generalize s[i].toNat = c at hix HB HN
      by_cases h1 : c < 97
      · have h1' : (c : Int) < 97 := by omega
        go_wp2
        go_ret
        exact ⟨by rw [HB.out (by omega)]; rfl, rfl⟩
      · have h1' : ¬ (c : Int) < 97 := by omega
        by_cases h2 : 122 < c
        · have h2' : (122 : Int) < (c : Int) := by omega
          go_wp2
          go_ret
          exact ⟨by rw [HB.out (by omega)]; rfl, rfl⟩
        · have h2' : ¬ (122 : Int) < (c : Int) := by omega
          go_wp2
          go_round
          case rel => exact ⟨i + 1, by omega, by go_num, HN.out ⟨by omega, by omega⟩⟩
          case measure => simp [intOf]; omega
    · have hge : ¬ (i : Int) < (s.size : Int) := by omega
      have HE : Hid (decide (wdOk s) = decide (1 ≤ s.size ∧ s.size ≤ 8)) := show _ = _ from decide_eq_decide.2 ⟨fun h => h.1, fun h => ⟨h, fun b hb => by
        obtain ⟨j, hj, rfl⟩ := List.getElem_of_mem hb
        have hj2 : j < s.size := by rw [← tl_len]; exact hj
        exact HA.out j hj2 (by omega)⟩⟩
      by_cases hin : 1 ≤ s.size ∧ s.size ≤ 8
      · go_wp2_with (go_at_call 54; refine (l01In_yes _ _ _ _ (by omega) (by omega)).mono ?_; rintro e w5 ⟨rfl, rfl⟩)
        go_ret
        exact ⟨by rw [HE.out, decide_eq_true hin]; rfl, rfl⟩
      · go_wp2_with (go_at_call 54; refine (l01In_no _ _ _ _ (by omega)).mono ?_; rintro e w5 ⟨rfl, rfl⟩)
        go_ret
        exact ⟨by rw [HE.out, decide_eq_false hin]; rfl, rfl⟩

theorem emp_beq (s : ByteArray) : (s.toList == []) = decide (s = emp) := by
  rw [Go.ByteArray.toList_eq]
  by_cases h : s = emp
  · rw [decide_eq_true h, h]; rfl
  · rw [decide_eq_false h]
    refine beq_eq_false_iff_ne.2 fun e => h ?_
    obtain ⟨⟨l⟩⟩ := s
    simp at e
    rw [e]; rfl

set_option maxRecDepth 100000 in
set_option maxHeartbeats 4000000 in
theorem specRecOk_any (r : Rc) (w : World) (h1 : r.user.size ≤ 1099511627776) (h2 : r.name.size ≤ 1099511627776) (h3 : r.text.size ≤ 1099511627776) :
    Calls Tryz.prog 55 #[r.v] w fun e w' => e = .returned (.bool (decide r.ok)) ∧ Below w.heap.size w w' := by
  have b0 : Below w.heap.size w (w.alloc (.cells r.cs 66)) := (Below.refl _ _).alloc (Nat.le_refl _) _
  have hx := Box.new w r.cs 66
  obtain ⟨c0, c1, c2, c3, c4, c5, c6, c7⟩ := hx.rec
  obtain ⟨kind, valid, uid, next, flags, user, name, text⟩ := r
  unfold Rc.v
  unfold Rc.cs at c0 c1 c2 c3 c4 c5 c6 c7 b0
  simp only at c0 c1 c2 c3 c4 c5 c6 c7 b0 h1 h2 h3 ⊢
  clear hx
  obtain ⟨bu, hbu⟩ : ∃ bu, decide (wdOk user) = bu := ⟨_, rfl⟩
  obtain ⟨bn, hbn⟩ : ∃ bn, decide (wdOk name) = bn := ⟨_, rfl⟩
  obtain ⟨eu, heu⟩ : ∃ eu, decide (user = emp) = eu := ⟨_, rfl⟩
  obtain ⟨en, hen⟩ : ∃ en, decide (name = emp) = en := ⟨_, rfl⟩
  obtain ⟨et, het⟩ : ∃ et, decide (text = emp) = et := ⟨_, rfl⟩
  have qu : (user.toList == []) = eu := by rw [emp_beq, heu]
  have qn : (name.toList == []) = en := by rw [emp_beq, hen]
  have qt : (text.toList == []) = et := by rw [emp_beq, het]
  have HE : Hid (decide (Rc.ok ⟨kind, valid, uid, next, flags, user, name, text⟩) = decide ((1 ≤ kind ∧ kind ≤ 5) ∧ (1 ≤ valid ∧ valid ≤ 9999) ∧ (if kind = 1 then bu = true ∧ bn = true ∧ 1 ≤ next ∧ next ≤ 10000 else eu = true ∧ en = true ∧ next = 0) ∧ (if 3 ≤ kind then 1 ≤ uid ∧ uid ≤ 9999 else uid = 0) ∧ (if kind = 3 ∨ kind = 4 then 0 ≤ flags ∧ flags ≤ 7 else flags = 0) ∧ (if kind = 3 then text.size ≤ 100 else et = true))) := by
    rw [← hbu, ← hbn, ← heu, ← hen, ← het]
    simp only [decide_eq_true_eq]
    exact decide_eq_decide.2 Iff.rfl
  have HU := Lib.hid hbu
  have HN := Lib.hid hbn
  clear hbu hbn heu hen het
  go_enter Tryz.func55, Tryz.ntmps55
  by_cases hk : 1 ≤ kind ∧ kind ≤ 5
  · by_cases hv : 1 ≤ valid ∧ valid ≤ 9999
    · rcases (show kind = 1 ∨ kind = 2 ∨ kind = 3 ∨ kind = 4 ∨ kind = 5 by omega) with rfl | rfl | rfl | rfl | rfl
      · skip
        cases bu
        case false =>
          go_wp2_with (first | (go_at_call 54; first | (refine (l01In_yes _ _ _ _ (by omega) (by omega)).mono ?_; rintro e w5 ⟨rfl, rfl⟩) | (refine (l01In_no _ _ _ _ (by omega)).mono ?_; rintro e w5 ⟨rfl, rfl⟩)) | (go_at_call 79; refine (specWordOk_any _ _ (by first | exact h1 | exact h2)).mono ?_; rintro e w5 ⟨rfl, rfl⟩; first | rw [HU.out] | rw [HN.out]))
          go_ret
          exact ⟨by rw [HE.out, decide_eq_false (by simp)]; rfl, b0⟩
        cases bn
        case false =>
          go_wp2_with (first | (go_at_call 54; first | (refine (l01In_yes _ _ _ _ (by omega) (by omega)).mono ?_; rintro e w5 ⟨rfl, rfl⟩) | (refine (l01In_no _ _ _ _ (by omega)).mono ?_; rintro e w5 ⟨rfl, rfl⟩)) | (go_at_call 79; refine (specWordOk_any _ _ (by first | exact h1 | exact h2)).mono ?_; rintro e w5 ⟨rfl, rfl⟩; first | rw [HU.out] | rw [HN.out]))
          go_ret
          exact ⟨by rw [HE.out, decide_eq_false (by simp)]; rfl, b0⟩
        by_cases hnext : 1 ≤ next ∧ next ≤ 10000
        rotate_left
        · skip
          go_wp2_with (first | (go_at_call 54; first | (refine (l01In_yes _ _ _ _ (by omega) (by omega)).mono ?_; rintro e w5 ⟨rfl, rfl⟩) | (refine (l01In_no _ _ _ _ (by omega)).mono ?_; rintro e w5 ⟨rfl, rfl⟩)) | (go_at_call 79; refine (specWordOk_any _ _ (by first | exact h1 | exact h2)).mono ?_; rintro e w5 ⟨rfl, rfl⟩; first | rw [HU.out] | rw [HN.out]))
          go_ret
          exact ⟨by rw [HE.out, decide_eq_false (by simp; omega)]; rfl, b0⟩
        by_cases huid : uid = 0
        rotate_left
        · have huid' : (uid == 0) = false := beq_eq_false_iff_ne.2 huid
          go_wp2_with (first | (go_at_call 54; first | (refine (l01In_yes _ _ _ _ (by omega) (by omega)).mono ?_; rintro e w5 ⟨rfl, rfl⟩) | (refine (l01In_no _ _ _ _ (by omega)).mono ?_; rintro e w5 ⟨rfl, rfl⟩)) | (go_at_call 79; refine (specWordOk_any _ _ (by first | exact h1 | exact h2)).mono ?_; rintro e w5 ⟨rfl, rfl⟩; first | rw [HU.out] | rw [HN.out]))
          go_ret
          exact ⟨by rw [HE.out, decide_eq_false (by simp [huid])]; rfl, b0⟩
        subst huid
        by_cases hflags : flags = 0
        rotate_left
        · have hflags' : (flags == 0) = false := beq_eq_false_iff_ne.2 hflags
          go_wp2_with (first | (go_at_call 54; first | (refine (l01In_yes _ _ _ _ (by omega) (by omega)).mono ?_; rintro e w5 ⟨rfl, rfl⟩) | (refine (l01In_no _ _ _ _ (by omega)).mono ?_; rintro e w5 ⟨rfl, rfl⟩)) | (go_at_call 79; refine (specWordOk_any _ _ (by first | exact h1 | exact h2)).mono ?_; rintro e w5 ⟨rfl, rfl⟩; first | rw [HU.out] | rw [HN.out]))
          go_ret
          exact ⟨by rw [HE.out, decide_eq_false (by simp [hflags])]; rfl, b0⟩
        subst hflags
        go_wp2_with (first | (go_at_call 54; first | (refine (l01In_yes _ _ _ _ (by omega) (by omega)).mono ?_; rintro e w5 ⟨rfl, rfl⟩) | (refine (l01In_no _ _ _ _ (by omega)).mono ?_; rintro e w5 ⟨rfl, rfl⟩)) | (go_at_call 79; refine (specWordOk_any _ _ (by first | exact h1 | exact h2)).mono ?_; rintro e w5 ⟨rfl, rfl⟩; first | rw [HU.out] | rw [HN.out]))
        go_ret
        exact ⟨by rw [HE.out]; (cases et <;> simp [hv, hnext]), b0⟩
      · skip
        cases eu
        case false =>
          go_wp2_with (first | (go_at_call 54; first | (refine (l01In_yes _ _ _ _ (by omega) (by omega)).mono ?_; rintro e w5 ⟨rfl, rfl⟩) | (refine (l01In_no _ _ _ _ (by omega)).mono ?_; rintro e w5 ⟨rfl, rfl⟩)) | (go_at_call 79; refine (specWordOk_any _ _ (by first | exact h1 | exact h2)).mono ?_; rintro e w5 ⟨rfl, rfl⟩; first | rw [HU.out] | rw [HN.out]))
          go_ret
          exact ⟨by rw [HE.out, decide_eq_false (by simp)]; rfl, b0⟩
        cases en
        case false =>
          go_wp2_with (first | (go_at_call 54; first | (refine (l01In_yes _ _ _ _ (by omega) (by omega)).mono ?_; rintro e w5 ⟨rfl, rfl⟩) | (refine (l01In_no _ _ _ _ (by omega)).mono ?_; rintro e w5 ⟨rfl, rfl⟩)) | (go_at_call 79; refine (specWordOk_any _ _ (by first | exact h1 | exact h2)).mono ?_; rintro e w5 ⟨rfl, rfl⟩; first | rw [HU.out] | rw [HN.out]))
          go_ret
          exact ⟨by rw [HE.out, decide_eq_false (by simp)]; rfl, b0⟩
        by_cases hnext : next = 0
        rotate_left
        · have hnext' : (next == 0) = false := beq_eq_false_iff_ne.2 hnext
          go_wp2_with (first | (go_at_call 54; first | (refine (l01In_yes _ _ _ _ (by omega) (by omega)).mono ?_; rintro e w5 ⟨rfl, rfl⟩) | (refine (l01In_no _ _ _ _ (by omega)).mono ?_; rintro e w5 ⟨rfl, rfl⟩)) | (go_at_call 79; refine (specWordOk_any _ _ (by first | exact h1 | exact h2)).mono ?_; rintro e w5 ⟨rfl, rfl⟩; first | rw [HU.out] | rw [HN.out]))
          go_ret
          exact ⟨by rw [HE.out, decide_eq_false (by simp [hnext])]; rfl, b0⟩
        subst hnext
        by_cases huid : uid = 0
        rotate_left
        · have huid' : (uid == 0) = false := beq_eq_false_iff_ne.2 huid
          go_wp2_with (first | (go_at_call 54; first | (refine (l01In_yes _ _ _ _ (by omega) (by omega)).mono ?_; rintro e w5 ⟨rfl, rfl⟩) | (refine (l01In_no _ _ _ _ (by omega)).mono ?_; rintro e w5 ⟨rfl, rfl⟩)) | (go_at_call 79; refine (specWordOk_any _ _ (by first | exact h1 | exact h2)).mono ?_; rintro e w5 ⟨rfl, rfl⟩; first | rw [HU.out] | rw [HN.out]))
          go_ret
          exact ⟨by rw [HE.out, decide_eq_false (by simp [huid])]; rfl, b0⟩
        subst huid
        by_cases hflags : flags = 0
        rotate_left
        · have hflags' : (flags == 0) = false := beq_eq_false_iff_ne.2 hflags
          go_wp2_with (first | (go_at_call 54; first | (refine (l01In_yes _ _ _ _ (by omega) (by omega)).mono ?_; rintro e w5 ⟨rfl, rfl⟩) | (refine (l01In_no _ _ _ _ (by omega)).mono ?_; rintro e w5 ⟨rfl, rfl⟩)) | (go_at_call 79; refine (specWordOk_any _ _ (by first | exact h1 | exact h2)).mono ?_; rintro e w5 ⟨rfl, rfl⟩; first | rw [HU.out] | rw [HN.out]))
          go_ret
          exact ⟨by rw [HE.out, decide_eq_false (by simp [hflags])]; rfl, b0⟩
        subst hflags
        go_wp2_with (first | (go_at_call 54; first | (refine (l01In_yes _ _ _ _ (by omega) (by omega)).mono ?_; rintro e w5 ⟨rfl, rfl⟩) | (refine (l01In_no _ _ _ _ (by omega)).mono ?_; rintro e w5 ⟨rfl, rfl⟩)) | (go_at_call 79; refine (specWordOk_any _ _ (by first | exact h1 | exact h2)).mono ?_; rintro e w5 ⟨rfl, rfl⟩; first | rw [HU.out] | rw [HN.out]))
        go_ret
        exact ⟨by rw [HE.out]; (cases et <;> simp [hv]), b0⟩
      · skip
        cases eu
        case false =>
          go_wp2_with (first | (go_at_call 54; first | (refine (l01In_yes _ _ _ _ (by omega) (by omega)).mono ?_; rintro e w5 ⟨rfl, rfl⟩) | (refine (l01In_no _ _ _ _ (by omega)).mono ?_; rintro e w5 ⟨rfl, rfl⟩)) | (go_at_call 79; refine (specWordOk_any _ _ (by first | exact h1 | exact h2)).mono ?_; rintro e w5 ⟨rfl, rfl⟩; first | rw [HU.out] | rw [HN.out]))
          go_ret
          exact ⟨by rw [HE.out, decide_eq_false (by simp)]; rfl, b0⟩
        cases en
        case false =>
          go_wp2_with (first | (go_at_call 54; first | (refine (l01In_yes _ _ _ _ (by omega) (by omega)).mono ?_; rintro e w5 ⟨rfl, rfl⟩) | (refine (l01In_no _ _ _ _ (by omega)).mono ?_; rintro e w5 ⟨rfl, rfl⟩)) | (go_at_call 79; refine (specWordOk_any _ _ (by first | exact h1 | exact h2)).mono ?_; rintro e w5 ⟨rfl, rfl⟩; first | rw [HU.out] | rw [HN.out]))
          go_ret
          exact ⟨by rw [HE.out, decide_eq_false (by simp)]; rfl, b0⟩
        by_cases hnext : next = 0
        rotate_left
        · have hnext' : (next == 0) = false := beq_eq_false_iff_ne.2 hnext
          go_wp2_with (first | (go_at_call 54; first | (refine (l01In_yes _ _ _ _ (by omega) (by omega)).mono ?_; rintro e w5 ⟨rfl, rfl⟩) | (refine (l01In_no _ _ _ _ (by omega)).mono ?_; rintro e w5 ⟨rfl, rfl⟩)) | (go_at_call 79; refine (specWordOk_any _ _ (by first | exact h1 | exact h2)).mono ?_; rintro e w5 ⟨rfl, rfl⟩; first | rw [HU.out] | rw [HN.out]))
          go_ret
          exact ⟨by rw [HE.out, decide_eq_false (by simp [hnext])]; rfl, b0⟩
        subst hnext
        by_cases huid : 1 ≤ uid ∧ uid ≤ 9999
        rotate_left
        · skip
          go_wp2_with (first | (go_at_call 54; first | (refine (l01In_yes _ _ _ _ (by omega) (by omega)).mono ?_; rintro e w5 ⟨rfl, rfl⟩) | (refine (l01In_no _ _ _ _ (by omega)).mono ?_; rintro e w5 ⟨rfl, rfl⟩)) | (go_at_call 79; refine (specWordOk_any _ _ (by first | exact h1 | exact h2)).mono ?_; rintro e w5 ⟨rfl, rfl⟩; first | rw [HU.out] | rw [HN.out]))
          go_ret
          exact ⟨by rw [HE.out, decide_eq_false (by simp; omega)]; rfl, b0⟩
        by_cases hflags : 0 ≤ flags ∧ flags ≤ 7
        rotate_left
        · skip
          go_wp2_with (first | (go_at_call 54; first | (refine (l01In_yes _ _ _ _ (by omega) (by omega)).mono ?_; rintro e w5 ⟨rfl, rfl⟩) | (refine (l01In_no _ _ _ _ (by omega)).mono ?_; rintro e w5 ⟨rfl, rfl⟩)) | (go_at_call 79; refine (specWordOk_any _ _ (by first | exact h1 | exact h2)).mono ?_; rintro e w5 ⟨rfl, rfl⟩; first | rw [HU.out] | rw [HN.out]))
          go_ret
          exact ⟨by rw [HE.out, decide_eq_false (by simp; omega)]; rfl, b0⟩
        go_wp2_with (first | (go_at_call 54; first | (refine (l01In_yes _ _ _ _ (by omega) (by omega)).mono ?_; rintro e w5 ⟨rfl, rfl⟩) | (refine (l01In_no _ _ _ _ (by omega)).mono ?_; rintro e w5 ⟨rfl, rfl⟩)) | (go_at_call 79; refine (specWordOk_any _ _ (by first | exact h1 | exact h2)).mono ?_; rintro e w5 ⟨rfl, rfl⟩; first | rw [HU.out] | rw [HN.out]))
        go_ret
        exact ⟨by rw [HE.out]; (simp [hv, huid, hflags]; omega), b0⟩
      · skip
        cases eu
        case false =>
          go_wp2_with (first | (go_at_call 54; first | (refine (l01In_yes _ _ _ _ (by omega) (by omega)).mono ?_; rintro e w5 ⟨rfl, rfl⟩) | (refine (l01In_no _ _ _ _ (by omega)).mono ?_; rintro e w5 ⟨rfl, rfl⟩)) | (go_at_call 79; refine (specWordOk_any _ _ (by first | exact h1 | exact h2)).mono ?_; rintro e w5 ⟨rfl, rfl⟩; first | rw [HU.out] | rw [HN.out]))
          go_ret
          exact ⟨by rw [HE.out, decide_eq_false (by simp)]; rfl, b0⟩
        cases en
        case false =>
          go_wp2_with (first | (go_at_call 54; first | (refine (l01In_yes _ _ _ _ (by omega) (by omega)).mono ?_; rintro e w5 ⟨rfl, rfl⟩) | (refine (l01In_no _ _ _ _ (by omega)).mono ?_; rintro e w5 ⟨rfl, rfl⟩)) | (go_at_call 79; refine (specWordOk_any _ _ (by first | exact h1 | exact h2)).mono ?_; rintro e w5 ⟨rfl, rfl⟩; first | rw [HU.out] | rw [HN.out]))
          go_ret
          exact ⟨by rw [HE.out, decide_eq_false (by simp)]; rfl, b0⟩
        by_cases hnext : next = 0
        rotate_left
        · have hnext' : (next == 0) = false := beq_eq_false_iff_ne.2 hnext
          go_wp2_with (first | (go_at_call 54; first | (refine (l01In_yes _ _ _ _ (by omega) (by omega)).mono ?_; rintro e w5 ⟨rfl, rfl⟩) | (refine (l01In_no _ _ _ _ (by omega)).mono ?_; rintro e w5 ⟨rfl, rfl⟩)) | (go_at_call 79; refine (specWordOk_any _ _ (by first | exact h1 | exact h2)).mono ?_; rintro e w5 ⟨rfl, rfl⟩; first | rw [HU.out] | rw [HN.out]))
          go_ret
          exact ⟨by rw [HE.out, decide_eq_false (by simp [hnext])]; rfl, b0⟩
        subst hnext
        by_cases huid : 1 ≤ uid ∧ uid ≤ 9999
        rotate_left
        · skip
          go_wp2_with (first | (go_at_call 54; first | (refine (l01In_yes _ _ _ _ (by omega) (by omega)).mono ?_; rintro e w5 ⟨rfl, rfl⟩) | (refine (l01In_no _ _ _ _ (by omega)).mono ?_; rintro e w5 ⟨rfl, rfl⟩)) | (go_at_call 79; refine (specWordOk_any _ _ (by first | exact h1 | exact h2)).mono ?_; rintro e w5 ⟨rfl, rfl⟩; first | rw [HU.out] | rw [HN.out]))
          go_ret
          exact ⟨by rw [HE.out, decide_eq_false (by simp; omega)]; rfl, b0⟩
        by_cases hflags : 0 ≤ flags ∧ flags ≤ 7
        rotate_left
        · skip
          go_wp2_with (first | (go_at_call 54; first | (refine (l01In_yes _ _ _ _ (by omega) (by omega)).mono ?_; rintro e w5 ⟨rfl, rfl⟩) | (refine (l01In_no _ _ _ _ (by omega)).mono ?_; rintro e w5 ⟨rfl, rfl⟩)) | (go_at_call 79; refine (specWordOk_any _ _ (by first | exact h1 | exact h2)).mono ?_; rintro e w5 ⟨rfl, rfl⟩; first | rw [HU.out] | rw [HN.out]))
          go_ret
          exact ⟨by rw [HE.out, decide_eq_false (by simp; omega)]; rfl, b0⟩
        go_wp2_with (first | (go_at_call 54; first | (refine (l01In_yes _ _ _ _ (by omega) (by omega)).mono ?_; rintro e w5 ⟨rfl, rfl⟩) | (refine (l01In_no _ _ _ _ (by omega)).mono ?_; rintro e w5 ⟨rfl, rfl⟩)) | (go_at_call 79; refine (specWordOk_any _ _ (by first | exact h1 | exact h2)).mono ?_; rintro e w5 ⟨rfl, rfl⟩; first | rw [HU.out] | rw [HN.out]))
        go_ret
        exact ⟨by rw [HE.out]; (cases et <;> simp [hv, huid, hflags]), b0⟩
      · skip
        cases eu
        case false =>
          go_wp2_with (first | (go_at_call 54; first | (refine (l01In_yes _ _ _ _ (by omega) (by omega)).mono ?_; rintro e w5 ⟨rfl, rfl⟩) | (refine (l01In_no _ _ _ _ (by omega)).mono ?_; rintro e w5 ⟨rfl, rfl⟩)) | (go_at_call 79; refine (specWordOk_any _ _ (by first | exact h1 | exact h2)).mono ?_; rintro e w5 ⟨rfl, rfl⟩; first | rw [HU.out] | rw [HN.out]))
          go_ret
          exact ⟨by rw [HE.out, decide_eq_false (by simp)]; rfl, b0⟩
        cases en
        case false =>
          go_wp2_with (first | (go_at_call 54; first | (refine (l01In_yes _ _ _ _ (by omega) (by omega)).mono ?_; rintro e w5 ⟨rfl, rfl⟩) | (refine (l01In_no _ _ _ _ (by omega)).mono ?_; rintro e w5 ⟨rfl, rfl⟩)) | (go_at_call 79; refine (specWordOk_any _ _ (by first | exact h1 | exact h2)).mono ?_; rintro e w5 ⟨rfl, rfl⟩; first | rw [HU.out] | rw [HN.out]))
          go_ret
          exact ⟨by rw [HE.out, decide_eq_false (by simp)]; rfl, b0⟩
        by_cases hnext : next = 0
        rotate_left
        · have hnext' : (next == 0) = false := beq_eq_false_iff_ne.2 hnext
          go_wp2_with (first | (go_at_call 54; first | (refine (l01In_yes _ _ _ _ (by omega) (by omega)).mono ?_; rintro e w5 ⟨rfl, rfl⟩) | (refine (l01In_no _ _ _ _ (by omega)).mono ?_; rintro e w5 ⟨rfl, rfl⟩)) | (go_at_call 79; refine (specWordOk_any _ _ (by first | exact h1 | exact h2)).mono ?_; rintro e w5 ⟨rfl, rfl⟩; first | rw [HU.out] | rw [HN.out]))
          go_ret
          exact ⟨by rw [HE.out, decide_eq_false (by simp [hnext])]; rfl, b0⟩
        subst hnext
        by_cases huid : 1 ≤ uid ∧ uid ≤ 9999
        rotate_left
        · skip
          go_wp2_with (first | (go_at_call 54; first | (refine (l01In_yes _ _ _ _ (by omega) (by omega)).mono ?_; rintro e w5 ⟨rfl, rfl⟩) | (refine (l01In_no _ _ _ _ (by omega)).mono ?_; rintro e w5 ⟨rfl, rfl⟩)) | (go_at_call 79; refine (specWordOk_any _ _ (by first | exact h1 | exact h2)).mono ?_; rintro e w5 ⟨rfl, rfl⟩; first | rw [HU.out] | rw [HN.out]))
          go_ret
          exact ⟨by rw [HE.out, decide_eq_false (by simp; omega)]; rfl, b0⟩
        by_cases hflags : flags = 0
        rotate_left
        · have hflags' : (flags == 0) = false := beq_eq_false_iff_ne.2 hflags
          go_wp2_with (first | (go_at_call 54; first | (refine (l01In_yes _ _ _ _ (by omega) (by omega)).mono ?_; rintro e w5 ⟨rfl, rfl⟩) | (refine (l01In_no _ _ _ _ (by omega)).mono ?_; rintro e w5 ⟨rfl, rfl⟩)) | (go_at_call 79; refine (specWordOk_any _ _ (by first | exact h1 | exact h2)).mono ?_; rintro e w5 ⟨rfl, rfl⟩; first | rw [HU.out] | rw [HN.out]))
          go_ret
          exact ⟨by rw [HE.out, decide_eq_false (by simp [hflags])]; rfl, b0⟩
        subst hflags
        go_wp2_with (first | (go_at_call 54; first | (refine (l01In_yes _ _ _ _ (by omega) (by omega)).mono ?_; rintro e w5 ⟨rfl, rfl⟩) | (refine (l01In_no _ _ _ _ (by omega)).mono ?_; rintro e w5 ⟨rfl, rfl⟩)) | (go_at_call 79; refine (specWordOk_any _ _ (by first | exact h1 | exact h2)).mono ?_; rintro e w5 ⟨rfl, rfl⟩; first | rw [HU.out] | rw [HN.out]))
        go_ret
        exact ⟨by rw [HE.out]; (cases et <;> simp [hv, huid]), b0⟩
    · go_wp2_with (go_at_call 54; first | (refine (l01In_yes _ _ _ _ (by omega) (by omega)).mono ?_; rintro e w5 ⟨rfl, rfl⟩) | (refine (l01In_no _ _ _ _ (by omega)).mono ?_; rintro e w5 ⟨rfl, rfl⟩))
      go_ret
      exact ⟨by rw [HE.out, decide_eq_false (fun h => hv h.2.1)]; rfl, b0⟩
  · go_wp2_with (go_at_call 54; refine (l01In_no _ _ _ _ (by omega)).mono ?_; rintro e w5 ⟨rfl, rfl⟩)
    go_ret
    exact ⟨by rw [HE.out, decide_eq_false (fun h => hk h.1)]; rfl, b0⟩

end Go.Proofs.YtlifgcgoehkinaaGreatDoor
