/- How numbers, texts and writes lie in memory. -/
import Derived.Test.YtmlhpjkijpbinarKitR
namespace Go.Proofs.Ytmlhpjkijpbinar
open Go.RowKit

def strE : Enc ByteArray where
  ty := 9
  sty := 22
  sz := 1
  bytes := 16
  zero := .string ⟨#[]⟩
  f := fun s => [.string s]
  len := fun _ => rfl
  pos := by decide
  one := fun _ u hu => by simp at hu; subst hu; rfl
  und := Try.underlying22
  info := by kernel_rfl
  zc := rfl
  z0 := ⟨#[]⟩
  zf := rfl


/-- A write: where, and what. -/
structure Wr where
  at_ : Int
  text : ByteArray

def wrE : Enc Wr where
  ty := 65
  sty := 28
  sz := 2
  bytes := 24
  zero := .agg #[.int .i64 0, .string ⟨#[]⟩]
  f := fun x => [.int .i64 x.at_, .string x.text]
  len := fun _ => rfl
  pos := by decide
  one := fun _ u hu => by simp at hu; rcases hu with rfl | rfl <;> rfl
  und := Try.underlying28
  info := by kernel_rfl
  zc := rfl
  z0 := ⟨0, ⟨#[]⟩⟩
  zf := rfl

def lwrE : Enc Wr where
  ty := 64
  sty := 23
  sz := 2
  bytes := 24
  zero := .agg #[.int .i64 0, .string ⟨#[]⟩]
  f := fun x => [.int .i64 x.at_, .string x.text]
  len := fun _ => rfl
  pos := by decide
  one := fun _ u hu => by simp at hu; rcases hu with rfl | rfl <;> rfl
  und := Try.underlying23
  info := by kernel_rfl
  zc := rfl
  z0 := ⟨0, ⟨#[]⟩⟩
  zf := rfl

end Go.Proofs.Ytmlhpjkijpbinar
