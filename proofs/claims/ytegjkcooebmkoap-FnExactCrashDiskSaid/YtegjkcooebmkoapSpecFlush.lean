/- Disks: what the model's FlushDisk hands back. -/
import Derived.Test.YtegjkcooebmkoapSpecDisk2
namespace Go.Proofs.Ytegjkcooebmkoap
open Go.RowKit

/-- The sectors with these writes in them, in order. -/
def flush (sec : List ByteArray) (c : List Wr) : List ByteArray := c.foldl (fun s x => s.set x.at_.toNat x.text) sec
theorem flush_length (sec : List ByteArray) (c : List Wr) : (flush sec c).length = sec.length := by
  induction c generalizing sec with
  | nil => rfl
  | cons x c ih =>
    have : flush sec (x :: c) = flush (sec.set x.at_.toNat x.text) c := rfl
    rw [this, ih]; simp
theorem flush_take {sec : List ByteArray} {c : List Wr} {i : Nat} (h : i < c.length) : flush sec (c.take (i + 1)) = (flush sec (c.take i)).set c[i].at_.toNat c[i].text := by
  rw [List.take_succ_eq_append_getElem h, flush, flush, List.foldl_append]; rfl
theorem flush_all {sec : List ByteArray} {c : List Wr} {i : Nat} (h : c.length ≤ i) : flush sec (c.take i) = flush sec c := by rw [List.take_of_length_le h]
def flD (d : Dk) : Dk := if d.ok then ⟨flush d.sec d.cache, []⟩ else d

/-- What a function hands back that makes a disk. -/
def DiskR1 (d : Dk) (w : World) (e : Ending) (w' : World) : Prop := ∃ v', e = .returned v' ∧ DOwn w.heap.size w'.heap.size w' v' d ∧ Below w.heap.size w w'

theorem RBuf.drew' {α : Type} {E : Enc α} {B : Nat} {w : World} {v : Value} {l : List α} (h : RBuf E B w w v l) : RBuf E B w.drew w.drew v l := ⟨h.own.drew, Below.refl _ _, h.le⟩

theorem Box.kept {b B T : Nat} {w w' : World} {cs : Array Value} {t : TypeId} (h : Box w b cs t) (hk : Kept B T w w') (hb : b < B ∨ T ≤ b) : Box w' b cs t := (hk.block b h.lt hb).trans h


end Go.Proofs.Ytegjkcooebmkoap
