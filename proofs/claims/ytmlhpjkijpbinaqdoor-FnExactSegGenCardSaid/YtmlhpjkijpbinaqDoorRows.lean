/-
  NARROWER THAN 'FOR EVERY INPUT', by the rows' own cells (each row's printed sentence says how): FnExactScanFrames: laid · FnExactFrameSize: laid · FnExactSegGen: laid · FnExactSegFrames: laid.
  DERIVED. THE GIVEN ROWS OF THIS SEAT. 4 by the template 'for every input the law returns true; each argument reads behind the call as it read before'; 0 by the template 'total and deterministic' (their statements: YtmlhpjkijpbinaqDoorTotals.lean).
  GIVEN WITH THE SEED: the statements are not yours to turn. If you find one false, say at which input.
  Laid BY PROGRAM, IN A SANDBOX (cutbox-rows.mjs): the forced cells as the released guide's own fill.sh prints them over the translation a51f92b7042f3f09… (all of the seat's roots in one cut). By AI agents, Wed Nov 11 2026. No macro, syntax, notation, axiom, sorry.
-/
import Derived.Test.YtmlhpjkijpbinaqDoorChecked
import GoSem.Claim
import GoSem.ClaimJoined
import GoSem.ClaimMapViews
import Derived.JoinedTies
import Derived.KernelRfl
namespace Go.Proofs.YtmlhpjkijpbinaqDoor
/- THE CELL 'sum', in the pinned program and in every row, IS THE sha256 OF THE DUMP (.gsa) THAT YtmlhpjkijpbinaqDoorProg.lean LOADS. Nothing in Lean hashes anything: it is a label: what it is worth is what the hold of that sum in a sandbox is worth. -/
noncomputable def Tryd.pinned : Pinned := { name := "ytmlhpjkijpbinaqdoor", sum := "a51f92b7042f3f09bc5d2fb9b5cf72ae793f8c81a5758e95835b2c4d98d604b6", checked := Tryd.checked }
namespace Rows
def none {H : Type} : Left H := { results := [], args := [] }

/- WHAT THE LISTED PACKAGE-LEVEL VARIABLES READ AS WHEN THE CALL BEGINS. Each datum BY PROGRAM (the guide's laid-datum.mjs) off the statement by which the dump's own 'gosem.cut.vars' lays the variable. In a bare row this is a premise. The card (YtmlhpjkijpbinaqDoorCards.lean) ties it to the program's text. -/
def laid_loop_example_g00287_impl_sumTable {H : Type} : DataW H := .agg [.lit (.int .u32 0), .lit (.int .u32 1166650509), .lit (.int .u32 2333301018), .lit (.int .u32 3466261911), .lit (.int .u32 3189058079), .lit (.int .u32 4221339282), .lit (.int .u32 889615109), .lit (.int .u32 1888477064), .lit (.int .u32 3558460437), .lit (.int .u32 2442158232), .lit (.int .u32 1594529039), .lit (.int .u32 444807554), .lit (.int .u32 1779230218), .lit (.int .u32 797264519), .lit (.int .u32 3776954128), .lit (.int .u32 2761298845)]

/-- 'laws.FnExactScanFrames': WHATEVER THE INPUT: true; the input reads as it did. -/
def fnExactScanFramesSpec : ChangeSpec := { name := "fnExactScanFrames", vars := ["loop.example/g00287/impl.sumTable"], fn := fun _ => fun
  | [d1, d2, g1] => { results := [.lit (.bool true)], args := [d1, d2], vars := [g1] }
  | _ => none }
def fnExactScanFramesRow : OpenClaim := { program := "ytmlhpjkijpbinaqdoor", sum := "a51f92b7042f3f09bc5d2fb9b5cf72ae793f8c81a5758e95835b2c4d98d604b6", func := "loop.example/g00287/laws.FnExactScanFrames", spec := "fnExactScanFrames", unfollowed := true, recurses := true, named := ["loop.example/g00287/impl.sumTable"], apart := false, laid := [("loop.example/g00287/impl.sumTable", laid_loop_example_g00287_impl_sumTable)] }
def FnExactScanFramesSaid : Prop := fnExactScanFramesRow.holds Tryd.pinned (OpenSpec.ofChange fnExactScanFramesSpec)

/-- ITS FALSE NEIGHBOUR: 'it returns false'. Refute it at one input. -/
def fnExactScanFramesWrong : ChangeSpec := { name := "fnExactScanFrames", vars := ["loop.example/g00287/impl.sumTable"], fn := fun _ => fun
  | [d1, d2, g1] => { results := [.lit (.bool false)], args := [d1, d2], vars := [g1] }
  | _ => none }
def FnExactScanFramesWrongFalsely : Prop := fnExactScanFramesRow.holds Tryd.pinned (OpenSpec.ofChange fnExactScanFramesWrong)

/-- 'laws.FnExactFrameSize': WHATEVER THE INPUT: true; the input reads as it did. -/
def fnExactFrameSizeSpec : ChangeSpec := { name := "fnExactFrameSize", vars := ["loop.example/g00287/impl.sumTable"], fn := fun _ => fun
  | [d, g1] => { results := [.lit (.bool true)], args := [d], vars := [g1] }
  | _ => none }
def fnExactFrameSizeRow : OpenClaim := { program := "ytmlhpjkijpbinaqdoor", sum := "a51f92b7042f3f09bc5d2fb9b5cf72ae793f8c81a5758e95835b2c4d98d604b6", func := "loop.example/g00287/laws.FnExactFrameSize", spec := "fnExactFrameSize", named := ["loop.example/g00287/impl.sumTable"], apart := false, laid := [("loop.example/g00287/impl.sumTable", laid_loop_example_g00287_impl_sumTable)] }
def FnExactFrameSizeSaid : Prop := fnExactFrameSizeRow.holds Tryd.pinned (OpenSpec.ofChange fnExactFrameSizeSpec)

/-- ITS FALSE NEIGHBOUR: 'it returns false'. Refute it at one input. -/
def fnExactFrameSizeWrong : ChangeSpec := { name := "fnExactFrameSize", vars := ["loop.example/g00287/impl.sumTable"], fn := fun _ => fun
  | [d, g1] => { results := [.lit (.bool false)], args := [d], vars := [g1] }
  | _ => none }
def FnExactFrameSizeWrongFalsely : Prop := fnExactFrameSizeRow.holds Tryd.pinned (OpenSpec.ofChange fnExactFrameSizeWrong)

/-- 'laws.FnExactSegGen': WHATEVER THE INPUT: true; the input reads as it did. -/
def fnExactSegGenSpec : ChangeSpec := { name := "fnExactSegGen", vars := ["loop.example/g00287/impl.sumTable"], fn := fun _ => fun
  | [d1, d2, g1] => { results := [.lit (.bool true)], args := [d1, d2], vars := [g1] }
  | _ => none }
def fnExactSegGenRow : OpenClaim := { program := "ytmlhpjkijpbinaqdoor", sum := "a51f92b7042f3f09bc5d2fb9b5cf72ae793f8c81a5758e95835b2c4d98d604b6", func := "loop.example/g00287/laws.FnExactSegGen", spec := "fnExactSegGen", inPlace := ["internal/abi.NoEscape"], unfollowed := true, recurses := true, named := ["loop.example/g00287/impl.sumTable"], apart := false, laid := [("loop.example/g00287/impl.sumTable", laid_loop_example_g00287_impl_sumTable)] }
def FnExactSegGenSaid : Prop := fnExactSegGenRow.holds Tryd.pinned (OpenSpec.ofChange fnExactSegGenSpec)

/-- ITS FALSE NEIGHBOUR: 'it returns false'. Refute it at one input. -/
def fnExactSegGenWrong : ChangeSpec := { name := "fnExactSegGen", vars := ["loop.example/g00287/impl.sumTable"], fn := fun _ => fun
  | [d1, d2, g1] => { results := [.lit (.bool false)], args := [d1, d2], vars := [g1] }
  | _ => none }
def FnExactSegGenWrongFalsely : Prop := fnExactSegGenRow.holds Tryd.pinned (OpenSpec.ofChange fnExactSegGenWrong)

/-- 'laws.FnExactSegFrames': WHATEVER THE INPUT: true; the input reads as it did. -/
def fnExactSegFramesSpec : ChangeSpec := { name := "fnExactSegFrames", vars := ["loop.example/g00287/impl.sumTable"], fn := fun _ => fun
  | [d1, d2, g1] => { results := [.lit (.bool true)], args := [d1, d2], vars := [g1] }
  | _ => none }
def fnExactSegFramesRow : OpenClaim := { program := "ytmlhpjkijpbinaqdoor", sum := "a51f92b7042f3f09bc5d2fb9b5cf72ae793f8c81a5758e95835b2c4d98d604b6", func := "loop.example/g00287/laws.FnExactSegFrames", spec := "fnExactSegFrames", inPlace := ["internal/abi.NoEscape"], unfollowed := true, recurses := true, named := ["loop.example/g00287/impl.sumTable"], apart := false, laid := [("loop.example/g00287/impl.sumTable", laid_loop_example_g00287_impl_sumTable)] }
def FnExactSegFramesSaid : Prop := fnExactSegFramesRow.holds Tryd.pinned (OpenSpec.ofChange fnExactSegFramesSpec)

/-- ITS FALSE NEIGHBOUR: 'it returns false'. Refute it at one input. -/
def fnExactSegFramesWrong : ChangeSpec := { name := "fnExactSegFrames", vars := ["loop.example/g00287/impl.sumTable"], fn := fun _ => fun
  | [d1, d2, g1] => { results := [.lit (.bool false)], args := [d1, d2], vars := [g1] }
  | _ => none }
def FnExactSegFramesWrongFalsely : Prop := fnExactSegFramesRow.holds Tryd.pinned (OpenSpec.ofChange fnExactSegFramesWrong)

/- THE SECOND FORM. 'bulk': how many values and letters a reading holds, each counted each time it is reached (what is shared counts as often as it is met; a slice's spare places count too). A statement '..UptoSaid' is the law's where the arguments, and the package variables that the reading takes, are together of bulk at most 1048576: NARROWER than '..Said'. Prove '..Said' where nothing that the law and all that it calls make is longer than what came in: it says more and counts as full. Else prove '..UptoSaid'. A law counts once. -/
mutual
def uptoBulk {H : Type} : DataW H → Nat
  | .lit (.string bytes) => bytes.length + 1
  | .lit _ => 1
  | .nil => 1
  | .ptr d => uptoBulk d + 1
  | .slice elems spare => uptoBulkAll elems + uptoBulkAll spare + 1
  | .agg parts => uptoBulkAll parts + 1
  | .iface _ d => uptoBulk d + 1
  | .map entries => uptoBulkEntries entries + 1
  | .held _ => 1
def uptoBulkAll {H : Type} : List (DataW H) → Nat
  | [] => 0
  | d :: r => uptoBulk d + uptoBulkAll r
def uptoBulkEntries {H : Type} : List (Lit × DataW H) → Nat
  | [] => 0
  | x :: r => uptoBulkEntry x + uptoBulkEntries r
def uptoBulkEntry {H : Type} : Lit × DataW H → Nat
  | (.string bytes, d) => bytes.length + uptoBulk d + 1
  | (_, d) => uptoBulk d + 1
 end
def uptoSmall : (H : Type) → List (DataW H) → Bool := fun _ ds => decide (uptoBulkAll ds ≤ 1048576)
def OpenSpec.upto (s : _root_.Go.ChangeSpec) : _root_.Go.OpenSpec := { _root_.Go.OpenSpec.ofChange s with cond := some uptoSmall }

/-- 'laws.FnExactScanFrames', WHERE WHAT IT READS IS OF BULK AT MOST 1048576: true; the input reads as it did. -/
def fnExactScanFramesUptoRow : OpenClaim := { program := "ytmlhpjkijpbinaqdoor", sum := "a51f92b7042f3f09bc5d2fb9b5cf72ae793f8c81a5758e95835b2c4d98d604b6", func := "loop.example/g00287/laws.FnExactScanFrames", spec := "fnExactScanFrames", unfollowed := true, recurses := true, named := ["loop.example/g00287/impl.sumTable"], apart := false, laid := [("loop.example/g00287/impl.sumTable", laid_loop_example_g00287_impl_sumTable)], narrowed := true }
def FnExactScanFramesUptoSaid : Prop := fnExactScanFramesUptoRow.holds Tryd.pinned (OpenSpec.upto fnExactScanFramesSpec)

/-- 'laws.FnExactFrameSize', WHERE WHAT IT READS IS OF BULK AT MOST 1048576: true; the input reads as it did. -/
def fnExactFrameSizeUptoRow : OpenClaim := { program := "ytmlhpjkijpbinaqdoor", sum := "a51f92b7042f3f09bc5d2fb9b5cf72ae793f8c81a5758e95835b2c4d98d604b6", func := "loop.example/g00287/laws.FnExactFrameSize", spec := "fnExactFrameSize", named := ["loop.example/g00287/impl.sumTable"], apart := false, laid := [("loop.example/g00287/impl.sumTable", laid_loop_example_g00287_impl_sumTable)], narrowed := true }
def FnExactFrameSizeUptoSaid : Prop := fnExactFrameSizeUptoRow.holds Tryd.pinned (OpenSpec.upto fnExactFrameSizeSpec)

/-- 'laws.FnExactSegGen', WHERE WHAT IT READS IS OF BULK AT MOST 1048576: true; the input reads as it did. -/
def fnExactSegGenUptoRow : OpenClaim := { program := "ytmlhpjkijpbinaqdoor", sum := "a51f92b7042f3f09bc5d2fb9b5cf72ae793f8c81a5758e95835b2c4d98d604b6", func := "loop.example/g00287/laws.FnExactSegGen", spec := "fnExactSegGen", inPlace := ["internal/abi.NoEscape"], unfollowed := true, recurses := true, named := ["loop.example/g00287/impl.sumTable"], apart := false, laid := [("loop.example/g00287/impl.sumTable", laid_loop_example_g00287_impl_sumTable)], narrowed := true }
def FnExactSegGenUptoSaid : Prop := fnExactSegGenUptoRow.holds Tryd.pinned (OpenSpec.upto fnExactSegGenSpec)

/-- 'laws.FnExactSegFrames', WHERE WHAT IT READS IS OF BULK AT MOST 1048576: true; the input reads as it did. -/
def fnExactSegFramesUptoRow : OpenClaim := { program := "ytmlhpjkijpbinaqdoor", sum := "a51f92b7042f3f09bc5d2fb9b5cf72ae793f8c81a5758e95835b2c4d98d604b6", func := "loop.example/g00287/laws.FnExactSegFrames", spec := "fnExactSegFrames", inPlace := ["internal/abi.NoEscape"], unfollowed := true, recurses := true, named := ["loop.example/g00287/impl.sumTable"], apart := false, laid := [("loop.example/g00287/impl.sumTable", laid_loop_example_g00287_impl_sumTable)], narrowed := true }
def FnExactSegFramesUptoSaid : Prop := fnExactSegFramesUptoRow.holds Tryd.pinned (OpenSpec.upto fnExactSegFramesSpec)

end Rows
end Go.Proofs.YtmlhpjkijpbinaqDoor
