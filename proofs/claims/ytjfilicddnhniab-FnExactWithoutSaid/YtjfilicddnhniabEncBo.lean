/- How bools lie in memory. -/
import Derived.Test.YtjfilicddnhniabKitR
namespace Go.Proofs.Ytjfilicddnhniab
open Go.RowKit

def boE : Enc Bool where
  ty := 4
  sty := 41
  sz := 1
  bytes := 1
  zero := .bool false
  f := fun n => [.bool n]
  len := fun _ => rfl
  pos := by decide
  one := fun _ u hu => by simp at hu; subst hu; rfl
  und := Try.underlying41
  info := by kernel_rfl
  zc := rfl
  z0 := false
  zf := rfl

end Go.Proofs.Ytjfilicddnhniab
