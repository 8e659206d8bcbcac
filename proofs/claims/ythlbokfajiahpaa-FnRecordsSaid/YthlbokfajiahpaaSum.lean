/- Check sums: what SumMore, SumOf and the four bytes of a sum are. -/
import Derived.Test.YthlbokfajiahpaaKit2
import Derived.Test.YthlbokfajiahpaaPlainSum
import Derived.Lib.ItoaMem
import Derived.Lib.LaidTab
import Derived.Lib.AppendIntMem
import Derived.WalkSpells
import Derived.WalkSmall
namespace Go.Proofs.Ythlbokfajiahpaa
open Go.RowKit

/-- What the table holds. -/
def sumTabI : List Int := sumTab.map fun n : Nat => (n : Int)
/-- The table of sixteen words stands in its variable. -/
def SumTab (w : World) : Prop := Lib.TabIs Try.prog w "loop.example/g00287/impl.sumTable" .u32 sumTabI

theorem u32_xor_in (a b : Nat) (ha : a < 4294967296) (hb : b < 4294967296) : bits .xor .u32 (a : Int) (b : Int) = ((a ^^^ b : Nat) : Int) := u32_xor_nat a b ha hb

theorem index_atS (s : ByteArray) (k : Nat) (h : k < s.size) (wx : World) :
    (Instr.index 9 (.string s) (.int .i64 (k : Int))).run Try.prog wx = .ok (.int .u8 (s[k].toNat : Int)) wx := by
  have hu := Try.underlying9
  simp [Instr.index, run_underlying hu, go_sem, h]

theorem sumL_all {s : Nat} {t : ByteArray} {k : Nat} (h : ¬ k < t.size) : sumL s (t.data.toList.take k) = sumL s t.data.toList := by
  rw [List.take_of_length_le (by simp; omega)]

theorem SumTab.later {w w' : World} (h : SumTab w) (hb : Below w.heap.size w w') : SumTab w' := Lib.tabBelow_of_tabIs h w' hb





theorem four_conv (n : Nat) (w : World) (hn : n < 4294967296) :
    (convert 22 9 (.slice (some ⟨w.heap.size, 0, none⟩) 4 4)).run Try.prog (w.alloc (.cells #[.int .u8 ((n : Int) / 16777216), .int .u8 ((n : Int) / 65536 % 256), .int .u8 ((n : Int) / 256 % 256), .int .u8 ((n : Int) % 256)] 5))
      = .ok (.string ⟨(four n).toArray⟩) (w.alloc (.cells #[.int .u8 ((n : Int) / 16777216), .int .u8 ((n : Int) / 65536 % 256), .int .u8 ((n : Int) / 256 % 256), .int .u8 ((n : Int) % 256)] 5)) := by
  refine run_convert_bytes_back (P := Try.prog) _ 22 9 5 ⟨w.heap.size, 0, none⟩ 4 (four n) Try.underlying22 Try.underlying5 Try.underlying9 fun j hj => ?_
  rw [four_length] at hj
  match j, hj with
  | 0, _ => simp [four, Addr.add, UInt8.toNat_ofNat']; omega
  | 1, _ => simp [four, Addr.add, UInt8.toNat_ofNat']
  | 2, _ => simp [four, Addr.add, UInt8.toNat_ofNat']
  | 3, _ => simp [four, Addr.add, UInt8.toNat_ofNat']



end Go.Proofs.Ythlbokfajiahpaa
