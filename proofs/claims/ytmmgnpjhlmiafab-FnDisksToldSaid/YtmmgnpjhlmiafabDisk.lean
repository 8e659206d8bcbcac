/- Disks: what they are in memory, and the helpers of the exact laws over them. -/
import Derived.Test.YtmmgnpjhlmiafabToS
namespace Go.Proofs.Ytmmgnpjhlmiafab
open Go.RowKit

/-- A disk: its sectors, and what waits. -/
structure Dk where
  sec : List ByteArray
  cache : List Wr

/-- The value v is the disk d, in memory of its own: two rows in the blocks B .. T-1, and not the same one. -/
def DOwn (B T : Nat) (w : World) (v : Value) (d : Dk) : Prop :=
  ∃ va vb, v = .agg #[va, vb] ∧ LOwn strE B T w va d.sec ∧ LOwn wrE B T w vb d.cache ∧ (va.ownBlock = none ∨ va.ownBlock ≠ vb.ownBlock)

theorem DOwn.kept {B T B' T' : Nat} {w w' : World} {v : Value} {d : Dk} (h : DOwn B T w v d) (hk : Kept B' T' w w') (hd : T ≤ B' ∨ T' ≤ B) : DOwn B T w' v d := by
  obtain ⟨va, vb, hv, h1, h2, h3⟩ := h
  exact ⟨va, vb, hv, h1.kept hk hd, h2.kept hk hd, h3⟩

theorem DOwn.later {B T : Nat} {w w' : World} {v : Value} {d : Dk} (h : DOwn B T w v d) (hb : Below w.heap.size w w') : DOwn B T w' v d :=
  h.kept (Kept.of_below hb T T) (.inl (Nat.le_refl _))

theorem DOwn.form {B T : Nat} {w : World} {v : Value} {d : Dk} (h : DOwn B T w v d) : ∃ (a b : Option Addr) (c e : Nat), v = .agg #[.slice a d.sec.length c, .slice b d.cache.length e] := by
  obtain ⟨va, vb, rfl, h1, h2, _⟩ := h
  obtain ⟨a, c, rfl⟩ := h1.1.form
  obtain ⟨b, e, rfl⟩ := h2.1.form
  exact ⟨a, b, c, e, rfl⟩

/-- A disk whose rows can be read. -/
def DRd (w : World) (v : Value) (d : Dk) : Prop := ∃ va vb, v = .agg #[va, vb] ∧ Strs w va d.sec ∧ Rows' wrE w vb d.cache

theorem DOwn.rd {B T : Nat} {w : World} {v : Value} {d : Dk} (h : DOwn B T w v d) : DRd w v d := by
  obtain ⟨va, vb, hv, h1, h2, _⟩ := h
  exact ⟨va, vb, hv, h1.1.toS.strs, h2.rows⟩

theorem DRd.later {w w' : World} {v : Value} {d : Dk} (h : DRd w v d) (hb : Below w.heap.size w w') : DRd w' v d := by
  obtain ⟨va, vb, hv, h1, h2⟩ := h
  exact ⟨va, vb, hv, h1.later hb, h2.later hb⟩

def Dk.small (d : Dk) : Prop := d.sec.length ≤ 1073741824 ∧ d.cache.length ≤ 1073741824

/-- Two boxes laid one behind the other can be read, whatever is laid behind them. -/
theorem box_cells (w : World) (c : Array Value) (t : TypeId) {w' : World} (hb : Below (w.alloc (.cells c t)).heap.size (w.alloc (.cells c t)) w') (j : Nat) (u : Value) (hu : c[j]? = some u) : w'.cell? ⟨w.heap.size, j, none⟩ = some u := by
  have h1 : (w.alloc (.cells c t)).cell? ⟨w.heap.size, j, none⟩ = some u := by
    rw [cell_of_row _ _ _ c t (0, 0) (heap_alloc_new w _), hu]
  exact (hb.cell (p := ⟨w.heap.size, j, none⟩) (by simp)).trans h1


/-- A disk all marked. -/
def marksD (k : Nat) (d : Dk) : Dk := ⟨marksOf k d.sec.length, marksW (k + d.sec.length) d.cache.length⟩
def Dk.count (d : Dk) : Nat := d.sec.length + 2 * d.cache.length
theorem marksD_count (k : Nat) (d : Dk) : (marksD k d).count = d.count := by simp [marksD, Dk.count, marksOf_length, marksW_length]




/-- What szDisk leaves over. -/
def Dk.lean (d : Dk) (left : Int) : Prop := (d.sec.length : Int) ≤ left ∧ (d.cache.length : Int) ≤ left ∧ (∀ s ∈ d.sec, (s.size : Int) ≤ left) ∧ ∀ x ∈ d.cache, (x.text.size : Int) ≤ left

def SzD (left : Int) (d : Dk) (w : World) (e : Ending) (w' : World) : Prop :=
  ∃ r : Int, e = .returned (.int .i64 r) ∧ Below w.heap.size w w' ∧ r ≤ left ∧ -1 ≤ r ∧ (0 ≤ r → d.lean left)



end Go.Proofs.Ytmmgnpjhlmiafab
