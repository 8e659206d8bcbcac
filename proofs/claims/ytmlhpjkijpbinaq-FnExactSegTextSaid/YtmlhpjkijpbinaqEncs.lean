/- How numbers, texts and writes lie in memory. -/
import Derived.Test.YtmlhpjkijpbinaqKitR
namespace Go.Proofs.Ytmlhpjkijpbinaq
open Go.RowKit

def strE : Enc ByteArray where
  ty := 9
  sty := 24
  sz := 1
  bytes := 16
  zero := .string ⟨#[]⟩
  f := fun s => [.string s]
  len := fun _ => rfl
  pos := by decide
  one := fun _ u hu => by simp at hu; subst hu; rfl
  und := Try.underlying24
  info := by kernel_rfl
  zc := rfl
  z0 := ⟨#[]⟩
  zf := rfl


/-- A write: where, and what. -/
structure Wr where
  at_ : Int
  text : ByteArray

def wrE : Enc Wr where
  ty := 49
  sty := 30
  sz := 2
  bytes := 24
  zero := .agg #[.int .i64 0, .string ⟨#[]⟩]
  f := fun x => [.int .i64 x.at_, .string x.text]
  len := fun _ => rfl
  pos := by decide
  one := fun _ u hu => by simp at hu; rcases hu with rfl | rfl <;> rfl
  und := Try.underlying30
  info := by kernel_rfl
  zc := rfl
  z0 := ⟨0, ⟨#[]⟩⟩
  zf := rfl

def lwrE : Enc Wr where
  ty := 47
  sty := 25
  sz := 2
  bytes := 24
  zero := .agg #[.int .i64 0, .string ⟨#[]⟩]
  f := fun x => [.int .i64 x.at_, .string x.text]
  len := fun _ => rfl
  pos := by decide
  one := fun _ u hu => by simp at hu; rcases hu with rfl | rfl <;> rfl
  und := Try.underlying25
  info := by kernel_rfl
  zc := rfl
  z0 := ⟨0, ⟨#[]⟩⟩
  zf := rfl

end Go.Proofs.Ytmlhpjkijpbinaq
