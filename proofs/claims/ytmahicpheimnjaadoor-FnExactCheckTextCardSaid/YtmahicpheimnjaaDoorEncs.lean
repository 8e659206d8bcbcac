/- How numbers, texts and writes lie in memory. -/
import Derived.Test.YtmahicpheimnjaaDoorKitR
namespace Go.Proofs.YtmahicpheimnjaaDoor
open Go.RowKit


def intE : Enc Int where
  ty := 3
  sty := 67
  sz := 1
  bytes := 8
  zero := .int .i64 0
  f := fun n => [.int .i64 n]
  len := fun _ => rfl
  pos := by decide
  one := fun _ u hu => by simp at hu; subst hu; rfl
  und := Tryd.underlying67
  info := by kernel_rfl
  zc := rfl
  z0 := 0
  zf := rfl

/-- A write: where, and what. -/
structure Wr where
  at_ : Int
  text : ByteArray



end Go.Proofs.YtmahicpheimnjaaDoor
