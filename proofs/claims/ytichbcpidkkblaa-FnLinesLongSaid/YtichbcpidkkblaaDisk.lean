/- Disks: what they are in memory, and the helpers of the exact laws over them. -/
import Derived.Test.YtichbcpidkkblaaToS
namespace Go.Proofs.Ytichbcpidkkblaa
open Go.RowKit

/-- A disk: its sectors, and what waits. -/
structure Dk where
  sec : List ByteArray
  cache : List Wr

def Dk.small (d : Dk) : Prop := d.sec.length ≤ 1073741824 ∧ d.cache.length ≤ 1073741824

/-- Two boxes laid one behind the other can be read, whatever is laid behind them. -/
theorem box_cells (w : World) (c : Array Value) (t : TypeId) {w' : World} (hb : Below (w.alloc (.cells c t)).heap.size (w.alloc (.cells c t)) w') (j : Nat) (u : Value) (hu : c[j]? = some u) : w'.cell? ⟨w.heap.size, j, none⟩ = some u := by
  have h1 : (w.alloc (.cells c t)).cell? ⟨w.heap.size, j, none⟩ = some u := by
    rw [cell_of_row _ _ _ c t (0, 0) (heap_alloc_new w _), hu]
  exact (hb.cell (p := ⟨w.heap.size, j, none⟩) (by simp)).trans h1


/-- A disk all marked. -/
def marksD (k : Nat) (d : Dk) : Dk := ⟨marksOf k d.sec.length, marksW (k + d.sec.length) d.cache.length⟩
def Dk.count (d : Dk) : Nat := d.sec.length + 2 * d.cache.length
theorem marksD_count (k : Nat) (d : Dk) : (marksD k d).count = d.count := by simp [marksD, Dk.count, marksOf_length, marksW_length]




/-- What szDisk leaves over. -/
def Dk.lean (d : Dk) (left : Int) : Prop := (d.sec.length : Int) ≤ left ∧ (d.cache.length : Int) ≤ left ∧ (∀ s ∈ d.sec, (s.size : Int) ≤ left) ∧ ∀ x ∈ d.cache, (x.text.size : Int) ≤ left

def SzD (left : Int) (d : Dk) (w : World) (e : Ending) (w' : World) : Prop :=
  ∃ r : Int, e = .returned (.int .i64 r) ∧ Below w.heap.size w w' ∧ r ≤ left ∧ -1 ≤ r ∧ (0 ≤ r → d.lean left)



end Go.Proofs.Ytichbcpidkkblaa
