/- Texts of our own, joined. -/
import Derived.Test.YtieenkloiicnkaaGreatDoorJi
import Derived.Test.YtieenkloiicnkaaGreatDoorJo
import Derived.Test.YtieenkloiicnkaaGreatDoorJm
import Derived.Test.YtieenkloiicnkaaGreatDoorJs
import Derived.Test.YtieenkloiicnkaaGreatDoorJb
/- What is fixed on a disk, plainly: the disk behind WriteCheck. -/
namespace Go.Proofs.YtieenkloiicnkaaGreatDoor
open Go.RowKit

theorem wbL_ok (n : Nat) : ∀ (t : List UInt8), t.length ≤ n → ∀ (d d' : Dk) (k fr : Nat), fr < 32 → d.ok → wbL d k fr t = some d' → d'.ok ∧ d'.sec.length = d.sec.length := by
  induction n with
  | zero =>
    intro t ht d d' k fr hf hok h
    have : t = [] := List.length_eq_zero_iff.1 (by omega)
    subst this
    rw [wbL_nil] at h
    cases h
    exact ⟨hok, rfl⟩
  | succ n ih =>
    intro t ht d d' k fr hf hok h
    by_cases h0 : t = []
    · subst h0
      rw [wbL_nil] at h
      cases h
      exact ⟨hok, rfl⟩
    · by_cases hw : wrOk d (k : Int) (wbS d k fr t)
      · rw [wbL_go h0 hf hw] at h
        have hp : 0 < t.length := List.length_pos_iff.2 h0
        obtain ⟨w1, w2⟩ := wrD_ok hok (k : Int) (wbS d k fr t)
        obtain ⟨r1, r2⟩ := ih (t.drop (32 - fr)) (by rw [List.length_drop]; omega) _ d' (k + 1) 0 (by omega) w1 h
        exact ⟨r1, r2.trans w2⟩
      · rw [wbL_stop h0 hw] at h; cases h
theorem wbL_not {d : Dk} {k fr : Nat} {t : List UInt8} (h0 : t ≠ []) (h : ¬ d.ok) : wbL d k fr t = none := wbL_stop h0 (fun hw => h hw.1)

def regN (c : Ck) : Nat := 4 * (c.st % 2).toNat
theorem ckTx_ne (c : Ck) : (ckTx c).data.toList ≠ [] := by
  intro e
  have h : (ckTx c).size = 0 := by
    have h1 : (ckTx c).data.toList.length = 0 := by rw [e]; rfl
    rw [Array.length_toList] at h1; exact h1
  unfold ckTx ckSe at h
  rw [ByteArray.size_append, ByteArray.size_append, fourOf_size] at h
  omega
noncomputable def wcO (d : Dk) (c : Ck) : Option Dk := if ckB c = true then (if regN c < d.sec.length then (wbL d (regN c) 0 (ckTx c).data.toList).map flD else none) else none
theorem wcO_bad {d : Dk} {c : Ck} (h : ckB c = false) : wcO d c = none := by unfold wcO; rw [h]; rfl
theorem wcO_far {d : Dk} {c : Ck} (h : ¬ regN c < d.sec.length) : wcO d c = none := by unfold wcO; rw [if_neg h]; exact ite_self _
theorem wcO_none {d : Dk} {c : Ck} (h : wbL d (regN c) 0 (ckTx c).data.toList = none) : wcO d c = none := by unfold wcO; rw [h]; simp
theorem wcO_some {d d' : Dk} {c : Ck} (h1 : ckB c = true) (h2 : regN c < d.sec.length) (h : wbL d (regN c) 0 (ckTx c).data.toList = some d') : wcO d c = some (flD d') := by unfold wcO; rw [if_pos h1, if_pos h2, h]; rfl
theorem wcO_not {d : Dk} {c : Ck} (h : ¬ d.ok) : wcO d c = none := wcO_none (wbL_not (ckTx_ne c) h)
theorem wcO_ok {d D : Dk} {c : Ck} (h : wcO d c = some D) : D.ok ∧ D.sec.length = d.sec.length ∧ D.cache = [] ∧ d.ok := by
  unfold wcO at h
  by_cases h1 : ckB c = true
  · rw [if_pos h1] at h
    by_cases h2 : regN c < d.sec.length
    · rw [if_pos h2] at h
      by_cases hok : d.ok
      · cases hw : wbL d (regN c) 0 (ckTx c).data.toList with
        | none => rw [hw] at h; cases h
        | some d' =>
          rw [hw] at h
          cases h
          obtain ⟨r1, r2⟩ := wbL_ok _ _ (Nat.le_refl _) d d' _ _ (by omega) hok hw
          obtain ⟨f1, f2, f3⟩ := flD_ok r1
          exact ⟨f1, f2.trans r2, f3, hok⟩
      · rw [wbL_not (ckTx_ne c) hok] at h; cases h
    · rw [if_neg h2] at h; cases h
  · rw [if_neg h1] at h; cases h

theorem three_boxes (w : World) (c0 c1 c2 : Array Value) (t0 t1 t2 : TypeId) :
    Box (((w.alloc (.cells c0 t0)).alloc (.cells c1 t1)).alloc (.cells c2 t2)) w.heap.size c0 t0 ∧ Box (((w.alloc (.cells c0 t0)).alloc (.cells c1 t1)).alloc (.cells c2 t2)) (w.heap.size + 1) c1 t1 ∧ Box (((w.alloc (.cells c0 t0)).alloc (.cells c1 t1)).alloc (.cells c2 t2)) (w.heap.size + 2) c2 t2 ∧
      Below w.heap.size w (((w.alloc (.cells c0 t0)).alloc (.cells c1 t1)).alloc (.cells c2 t2)) ∧ (((w.alloc (.cells c0 t0)).alloc (.cells c1 t1)).alloc (.cells c2 t2)).heap.size = w.heap.size + 3 := by
  have z1 : (w.alloc (.cells c0 t0)).heap.size = w.heap.size + 1 := by simp
  have z2 : ((w.alloc (.cells c0 t0)).alloc (.cells c1 t1)).heap.size = w.heap.size + 2 := by simp
  have X0 := ((Box.new w c0 t0).later (belNew _ (.cells c1 t1))).later (belNew _ (.cells c2 t2))
  have X1 := (Box.new (w.alloc (.cells c0 t0)) c1 t1).later (belNew _ (.cells c2 t2))
  have X2 := Box.new ((w.alloc (.cells c0 t0)).alloc (.cells c1 t1)) c2 t2
  rw [z1] at X1
  rw [z2] at X2
  exact ⟨X0, X1, X2, (((Below.refl _ _).alloc (Nat.le_refl _) _).alloc (by omega) _).alloc (by omega) _, by simp⟩

theorem Box.fiveW {w : World} {b : Nat} {u0 u1 u2 u3 u4 : Value} {t : TypeId} (h : Box w b #[u0, u1, u2, u3, u4] t) : w.cell? ⟨b, 0, none⟩ = some u0 ∧ w.cell? ⟨b, 1, none⟩ = some u1 ∧ w.cell? ⟨b, 2, none⟩ = some u2 ∧ w.cell? ⟨b, 3, none⟩ = some u3 ∧ w.cell? ⟨b, 4, none⟩ = some u4 :=
  ⟨h.cell 0 _ rfl, h.cell 1 _ rfl, h.cell 2 _ rfl, h.cell 3 _ rfl, h.cell 4 _ rfl⟩
theorem keep3 {b b' : Nat} {va vb vc : Value} {W x y : World} (h : x.cell? ⟨b, 0, none⟩ = some va ∧ x.cell? ⟨b, 1, none⟩ = some vb ∧ x.cell? ⟨b', 0, none⟩ = some vc ∧ Below W.heap.size W x) (hb : Below x.heap.size x y) : y.cell? ⟨b, 0, none⟩ = some va ∧ y.cell? ⟨b, 1, none⟩ = some vb ∧ y.cell? ⟨b', 0, none⟩ = some vc ∧ Below W.heap.size W y :=
  ⟨(hb.cell (p := ⟨b, 0, none⟩) (World.block_lt_of_cell? _ _ h.1)).trans h.1, (hb.cell (p := ⟨b, 1, none⟩) (World.block_lt_of_cell? _ _ h.2.1)).trans h.2.1, (hb.cell (p := ⟨b', 0, none⟩) (World.block_lt_of_cell? _ _ h.2.2.1)).trans h.2.2.1, h.2.2.2.trans (hb.mono h.2.2.2.size)⟩
theorem keep3s {b b' g : Nat} {va vb vc y z : Value} {W x : World} (hb : b < W.heap.size) (hb' : b' < W.heap.size) (hg : W.heap.size ≤ g) (h : x.cell? ⟨b, 0, none⟩ = some va ∧ x.cell? ⟨b, 1, none⟩ = some vb ∧ x.cell? ⟨b', 0, none⟩ = some vc ∧ Below W.heap.size W x) :
    ((x.setCell ⟨g, 0, none⟩ y).setCell ⟨g, 1, none⟩ z).cell? ⟨b, 0, none⟩ = some va ∧ ((x.setCell ⟨g, 0, none⟩ y).setCell ⟨g, 1, none⟩ z).cell? ⟨b, 1, none⟩ = some vb ∧ ((x.setCell ⟨g, 0, none⟩ y).setCell ⟨g, 1, none⟩ z).cell? ⟨b', 0, none⟩ = some vc ∧ Below W.heap.size W ((x.setCell ⟨g, 0, none⟩ y).setCell ⟨g, 1, none⟩ z) := by
  refine ⟨?_, ?_, ?_, (h.2.2.2.setCell (p := ⟨g, 0, none⟩) hg y).setCell (p := ⟨g, 1, none⟩) hg z⟩
  · rw [World.cell?_setCell_other _ _ _ _ (by simp <;> omega), World.cell?_setCell_other _ _ _ _ (by simp <;> omega)]; exact h.1
  · rw [World.cell?_setCell_other _ _ _ _ (by simp <;> omega), World.cell?_setCell_other _ _ _ _ (by simp <;> omega)]; exact h.2.1
  · rw [World.cell?_setCell_other _ _ _ _ (by simp <;> omega), World.cell?_setCell_other _ _ _ _ (by simp <;> omega)]; exact h.2.2.1

def WcR (d : Dk) (c : Ck) (tF : TypeId) (w : World) (e : Ending) (w' : World) : Prop :=
  (∃ D, wcO d c = some D ∧ ∃ v', e = .returned (.tuple #[v', .nilIface]) ∧ DOwn w.heap.size w'.heap.size w' v' D ∧ Below w.heap.size w w') ∨
  (wcO d c = none ∧ ∃ k : Int, k ≠ 0 ∧ e = .returned (.tuple #[.agg #[.slice none 0 0, .slice none 0 0], .iface tF (.agg #[.int .i64 k])]) ∧ Below w.heap.size w w')

end Go.Proofs.YtieenkloiicnkaaGreatDoor

/- Frames: their texts. -/
namespace Go.Proofs.YtieenkloiicnkaaGreatDoor
open Go.RowKit

def Fr.tx (f : Fr) : ByteArray := f.text fourOf
theorem Fr.tx_size (f : Fr) : f.tx.size = f.raw.size + 4 := by simp [Fr.tx, Fr.text, ByteArray.size_append, fourOf_size]
theorem Fr.tx_le {f : Fr} (h : f.ok) : f.tx.size ≤ 196 := by have := f.tx_size; have := Fr.raw_size h; omega

def ftT (f : Fr) : Value := if f.ok then .tuple #[.string f.tx, .bool true] else .tuple #[.string ⟨#[]⟩, .bool false]
theorem ftT_yes {f : Fr} (h : f.ok) : ftT f = .tuple #[.string f.tx, .bool true] := by rw [ftT, if_pos h]
theorem ftT_no {f : Fr} (h : ¬ f.ok) : ftT f = .tuple #[.string ⟨#[]⟩, .bool false] := by rw [ftT, if_neg h]
theorem ftT_form (f : Fr) : ∃ (t : ByteArray) (b : Bool), ftT f = .tuple #[.string t, .bool b] ∧ t.size ≤ 196 := by
  unfold ftT
  split
  · rename_i h; exact ⟨_, _, rfl, Fr.tx_le h⟩
  · exact ⟨_, _, rfl, by decide⟩

end Go.Proofs.YtieenkloiicnkaaGreatDoor
