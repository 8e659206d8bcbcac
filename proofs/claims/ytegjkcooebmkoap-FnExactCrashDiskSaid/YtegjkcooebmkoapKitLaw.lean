/- What the exact laws on disks carry from call to call: a disk of its own that stands in a box. -/
import Derived.Test.YtegjkcooebmkoapOpenDisk
import Derived.Test.YtegjkcooebmkoapSpecFlush
namespace Go.Proofs.Ytegjkcooebmkoap
open Go.RowKit

/-- The box b holds the disk d, whose rows lie in the blocks B .. T-1. -/
def DB (x : World) (b B T : Nat) (s1 s2 : Value) (d : Dk) : Prop := Box x b #[s1, s2] 30 ∧ DOwn B T x (.agg #[s1, s2]) d

theorem DB.new {x : World} {B T : Nat} {s1 s2 : Value} {d : Dk} (h : DOwn B T x (.agg #[s1, s2]) d) : DB (x.alloc (.cells #[s1, s2] 30)) x.heap.size B T s1 s2 d :=
  ⟨Box.new x _ _, h.later ((Below.refl _ _).alloc (Nat.le_refl _) _)⟩
theorem DB.later {x y : World} {b B T : Nat} {s1 s2 : Value} {d : Dk} (h : DB x b B T s1 s2 d) (hb : Below x.heap.size x y) : DB y b B T s1 s2 d := ⟨h.1.later hb, h.2.later hb⟩
theorem DB.kept {x y : World} {b B T B' T' : Nat} {s1 s2 : Value} {d : Dk} (h : DB x b B T s1 s2 d) (hk : Kept B' T' x y) (hd : T ≤ B' ∨ T' ≤ B) (hb : b < B' ∨ T' ≤ b) : DB y b B T s1 s2 d := ⟨h.1.kept hk hb, h.2.kept hk hd⟩
theorem DB.marked {x y : World} {b B T : Nat} {s1 s2 : Value} {d d' : Dk} (h : DB x b B T s1 s2 d) (hk : Kept B T x y) (ho : DOwn B T y (.agg #[s1, s2]) d') (hb : b < B ∨ T ≤ b) : DB y b B T s1 s2 d' := ⟨h.1.kept hk hb, ho⟩
theorem DB.c0 {x : World} {b B T : Nat} {s1 s2 : Value} {d : Dk} (h : DB x b B T s1 s2 d) : x.cell? ⟨b, 0, none⟩ = some s1 := h.1.cell 0 s1 rfl
theorem DB.c1 {x : World} {b B T : Nat} {s1 s2 : Value} {d : Dk} (h : DB x b B T s1 s2 d) : x.cell? ⟨b, 1, none⟩ = some s2 := h.1.cell 1 s2 rfl

theorem drewBel (x : World) : Below x.heap.size x x.drew := (Below.refl _ _).drew

theorem Kept.belowW {B T : Nat} {W x y : World} (h : Kept B T x y) (hb : Below W.heap.size W x) (h0 : W.heap.size ≤ B) : Below W.heap.size W y := h.below hb h0 hb.size

end Go.Proofs.Ytegjkcooebmkoap
