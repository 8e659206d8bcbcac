/-
  No cell of these rows narrows 'for every input' (looked for: loops, veiled, ifaces, maps, wideKeys, modest, calm, conditions, laid).
  DERIVED. THE GIVEN ROWS OF THIS SEAT. 6 by the template 'for every input the law returns true; each argument reads behind the call as it read before'; 0 by the template 'total and deterministic' (their statements: YthlbokfajiahpabTotals.lean).
  GIVEN WITH THE SEED: the statements are not yours to turn. If you find one false, say at which input.
  Laid BY PROGRAM, IN A SANDBOX (cutbox-rows.mjs): the forced cells as the released guide's own fill.sh prints them over the translation b7104327ce5b3bb5… (all of the seat's roots in one cut). By AI agents, Wed Nov 11 2026. No macro, syntax, notation, axiom, sorry.
-/
import Derived.Test.YthlbokfajiahpabChecked
import GoSem.Claim
import GoSem.ClaimJoined
import GoSem.ClaimMapViews
import Derived.JoinedTies
import Derived.KernelRfl
namespace Go.Proofs.Ythlbokfajiahpab
/- THE CELL 'sum', in the pinned program and in every row, IS THE sha256 OF THE DUMP (.gsa) THAT YthlbokfajiahpabProg.lean LOADS. Nothing in Lean hashes anything: it is a label: what it is worth is what the hold of that sum in a sandbox is worth. -/
noncomputable def Try.pinned : Pinned := { name := "ythlbokfajiahpab", sum := "b7104327ce5b3bb5a9292408baf9ef634b40bc8f82c35b16b2e4f2384529d9a2", checked := Try.checked }
namespace Rows
def none {H : Type} : Left H := { results := [], args := [] }

/-- 'laws.FnExactRecText': WHATEVER THE INPUT: true; the input reads as it did. -/
def fnExactRecTextSpec : ChangeSpec := { name := "fnExactRecText", fn := fun _ => fun
  | [d] => { results := [.lit (.bool true)], args := [d] }
  | _ => none }
def fnExactRecTextRow : OpenClaim := { program := "ythlbokfajiahpab", sum := "b7104327ce5b3bb5a9292408baf9ef634b40bc8f82c35b16b2e4f2384529d9a2", func := "loop.example/g00287/laws.FnExactRecText", spec := "fnExactRecText", unfollowed := true, recurses := true, apart := false }
def FnExactRecTextSaid : Prop := fnExactRecTextRow.holds Try.pinned (OpenSpec.ofChange fnExactRecTextSpec)

/-- ITS FALSE NEIGHBOUR: 'it returns false'. Refute it at one input. -/
def fnExactRecTextWrong : ChangeSpec := { name := "fnExactRecText", fn := fun _ => fun
  | [d] => { results := [.lit (.bool false)], args := [d] }
  | _ => none }
def FnExactRecTextWrongFalsely : Prop := fnExactRecTextRow.holds Try.pinned (OpenSpec.ofChange fnExactRecTextWrong)

/-- 'laws.FnExactReadRec': WHATEVER THE INPUT: true; the input reads as it did. -/
def fnExactReadRecSpec : ChangeSpec := { name := "fnExactReadRec", fn := fun _ => fun
  | [d] => { results := [.lit (.bool true)], args := [d] }
  | _ => none }
def fnExactReadRecRow : OpenClaim := { program := "ythlbokfajiahpab", sum := "b7104327ce5b3bb5a9292408baf9ef634b40bc8f82c35b16b2e4f2384529d9a2", func := "loop.example/g00287/laws.FnExactReadRec", spec := "fnExactReadRec", unfollowed := true, recurses := true, apart := false }
def FnExactReadRecSaid : Prop := fnExactReadRecRow.holds Try.pinned (OpenSpec.ofChange fnExactReadRecSpec)

/-- ITS FALSE NEIGHBOUR: 'it returns false'. Refute it at one input. -/
def fnExactReadRecWrong : ChangeSpec := { name := "fnExactReadRec", fn := fun _ => fun
  | [d] => { results := [.lit (.bool false)], args := [d] }
  | _ => none }
def FnExactReadRecWrongFalsely : Prop := fnExactReadRecRow.holds Try.pinned (OpenSpec.ofChange fnExactReadRecWrong)

/-- 'laws.FnExactItemFrame': WHATEVER THE INPUT: true; the input reads as it did. -/
def fnExactItemFrameSpec : ChangeSpec := { name := "fnExactItemFrame", fn := fun _ => fun
  | [d1, d2] => { results := [.lit (.bool true)], args := [d1, d2] }
  | _ => none }
def fnExactItemFrameRow : OpenClaim := { program := "ythlbokfajiahpab", sum := "b7104327ce5b3bb5a9292408baf9ef634b40bc8f82c35b16b2e4f2384529d9a2", func := "loop.example/g00287/laws.FnExactItemFrame", spec := "fnExactItemFrame", unfollowed := true, recurses := true, apart := false }
def FnExactItemFrameSaid : Prop := fnExactItemFrameRow.holds Try.pinned (OpenSpec.ofChange fnExactItemFrameSpec)

/-- ITS FALSE NEIGHBOUR: 'it returns false'. Refute it at one input. -/
def fnExactItemFrameWrong : ChangeSpec := { name := "fnExactItemFrame", fn := fun _ => fun
  | [d1, d2] => { results := [.lit (.bool false)], args := [d1, d2] }
  | _ => none }
def FnExactItemFrameWrongFalsely : Prop := fnExactItemFrameRow.holds Try.pinned (OpenSpec.ofChange fnExactItemFrameWrong)

/-- 'laws.FnExactFrameItem': WHATEVER THE INPUT: true; the input reads as it did. -/
def fnExactFrameItemSpec : ChangeSpec := { name := "fnExactFrameItem", fn := fun _ => fun
  | [d] => { results := [.lit (.bool true)], args := [d] }
  | _ => none }
def fnExactFrameItemRow : OpenClaim := { program := "ythlbokfajiahpab", sum := "b7104327ce5b3bb5a9292408baf9ef634b40bc8f82c35b16b2e4f2384529d9a2", func := "loop.example/g00287/laws.FnExactFrameItem", spec := "fnExactFrameItem", unfollowed := true, recurses := true, apart := false }
def FnExactFrameItemSaid : Prop := fnExactFrameItemRow.holds Try.pinned (OpenSpec.ofChange fnExactFrameItemSpec)

/-- ITS FALSE NEIGHBOUR: 'it returns false'. Refute it at one input. -/
def fnExactFrameItemWrong : ChangeSpec := { name := "fnExactFrameItem", fn := fun _ => fun
  | [d] => { results := [.lit (.bool false)], args := [d] }
  | _ => none }
def FnExactFrameItemWrongFalsely : Prop := fnExactFrameItemRow.holds Try.pinned (OpenSpec.ofChange fnExactFrameItemWrong)

/-- 'laws.FnExactItemsOk': WHATEVER THE INPUT: true; the input reads as it did. -/
def fnExactItemsOkSpec : ChangeSpec := { name := "fnExactItemsOk", fn := fun _ => fun
  | [d] => { results := [.lit (.bool true)], args := [d] }
  | _ => none }
def fnExactItemsOkRow : OpenClaim := { program := "ythlbokfajiahpab", sum := "b7104327ce5b3bb5a9292408baf9ef634b40bc8f82c35b16b2e4f2384529d9a2", func := "loop.example/g00287/laws.FnExactItemsOk", spec := "fnExactItemsOk", unfollowed := true, recurses := true, apart := false }
def FnExactItemsOkSaid : Prop := fnExactItemsOkRow.holds Try.pinned (OpenSpec.ofChange fnExactItemsOkSpec)

/-- ITS FALSE NEIGHBOUR: 'it returns false'. Refute it at one input. -/
def fnExactItemsOkWrong : ChangeSpec := { name := "fnExactItemsOk", fn := fun _ => fun
  | [d] => { results := [.lit (.bool false)], args := [d] }
  | _ => none }
def FnExactItemsOkWrongFalsely : Prop := fnExactItemsOkRow.holds Try.pinned (OpenSpec.ofChange fnExactItemsOkWrong)

/-- 'laws.FnExactStateOf': WHATEVER THE INPUT: true; the input reads as it did. -/
def fnExactStateOfSpec : ChangeSpec := { name := "fnExactStateOf", fn := fun _ => fun
  | [d] => { results := [.lit (.bool true)], args := [d] }
  | _ => none }
def fnExactStateOfRow : OpenClaim := { program := "ythlbokfajiahpab", sum := "b7104327ce5b3bb5a9292408baf9ef634b40bc8f82c35b16b2e4f2384529d9a2", func := "loop.example/g00287/laws.FnExactStateOf", spec := "fnExactStateOf", unfollowed := true, recurses := true, apart := false }
def FnExactStateOfSaid : Prop := fnExactStateOfRow.holds Try.pinned (OpenSpec.ofChange fnExactStateOfSpec)

/-- ITS FALSE NEIGHBOUR: 'it returns false'. Refute it at one input. -/
def fnExactStateOfWrong : ChangeSpec := { name := "fnExactStateOf", fn := fun _ => fun
  | [d] => { results := [.lit (.bool false)], args := [d] }
  | _ => none }
def FnExactStateOfWrongFalsely : Prop := fnExactStateOfRow.holds Try.pinned (OpenSpec.ofChange fnExactStateOfWrong)

/- THE SECOND FORM. 'bulk': how many values and letters a reading holds, each counted each time it is reached (what is shared counts as often as it is met; a slice's spare places count too). A statement '..UptoSaid' is the law's where the arguments, and the package variables that the reading takes, are together of bulk at most 1048576: NARROWER than '..Said'. Prove '..Said' where nothing that the law and all that it calls make is longer than what came in: it says more and counts as full. Else prove '..UptoSaid'. A law counts once. -/
mutual
def uptoBulk {H : Type} : DataW H → Nat
  | .lit (.string bytes) => bytes.length + 1
  | .lit _ => 1
  | .nil => 1
  | .ptr d => uptoBulk d + 1
  | .slice elems spare => uptoBulkAll elems + uptoBulkAll spare + 1
  | .agg parts => uptoBulkAll parts + 1
  | .iface _ d => uptoBulk d + 1
  | .map entries => uptoBulkEntries entries + 1
  | .held _ => 1
def uptoBulkAll {H : Type} : List (DataW H) → Nat
  | [] => 0
  | d :: r => uptoBulk d + uptoBulkAll r
def uptoBulkEntries {H : Type} : List (Lit × DataW H) → Nat
  | [] => 0
  | x :: r => uptoBulkEntry x + uptoBulkEntries r
def uptoBulkEntry {H : Type} : Lit × DataW H → Nat
  | (.string bytes, d) => bytes.length + uptoBulk d + 1
  | (_, d) => uptoBulk d + 1
 end
def uptoSmall : (H : Type) → List (DataW H) → Bool := fun _ ds => decide (uptoBulkAll ds ≤ 1048576)
def OpenSpec.upto (s : _root_.Go.ChangeSpec) : _root_.Go.OpenSpec := { _root_.Go.OpenSpec.ofChange s with cond := some uptoSmall }

/-- 'laws.FnExactRecText', WHERE WHAT IT READS IS OF BULK AT MOST 1048576: true; the input reads as it did. -/
def fnExactRecTextUptoRow : OpenClaim := { program := "ythlbokfajiahpab", sum := "b7104327ce5b3bb5a9292408baf9ef634b40bc8f82c35b16b2e4f2384529d9a2", func := "loop.example/g00287/laws.FnExactRecText", spec := "fnExactRecText", unfollowed := true, recurses := true, apart := false, narrowed := true }
def FnExactRecTextUptoSaid : Prop := fnExactRecTextUptoRow.holds Try.pinned (OpenSpec.upto fnExactRecTextSpec)

/-- 'laws.FnExactReadRec', WHERE WHAT IT READS IS OF BULK AT MOST 1048576: true; the input reads as it did. -/
def fnExactReadRecUptoRow : OpenClaim := { program := "ythlbokfajiahpab", sum := "b7104327ce5b3bb5a9292408baf9ef634b40bc8f82c35b16b2e4f2384529d9a2", func := "loop.example/g00287/laws.FnExactReadRec", spec := "fnExactReadRec", unfollowed := true, recurses := true, apart := false, narrowed := true }
def FnExactReadRecUptoSaid : Prop := fnExactReadRecUptoRow.holds Try.pinned (OpenSpec.upto fnExactReadRecSpec)

/-- 'laws.FnExactItemFrame', WHERE WHAT IT READS IS OF BULK AT MOST 1048576: true; the input reads as it did. -/
def fnExactItemFrameUptoRow : OpenClaim := { program := "ythlbokfajiahpab", sum := "b7104327ce5b3bb5a9292408baf9ef634b40bc8f82c35b16b2e4f2384529d9a2", func := "loop.example/g00287/laws.FnExactItemFrame", spec := "fnExactItemFrame", unfollowed := true, recurses := true, apart := false, narrowed := true }
def FnExactItemFrameUptoSaid : Prop := fnExactItemFrameUptoRow.holds Try.pinned (OpenSpec.upto fnExactItemFrameSpec)

/-- 'laws.FnExactFrameItem', WHERE WHAT IT READS IS OF BULK AT MOST 1048576: true; the input reads as it did. -/
def fnExactFrameItemUptoRow : OpenClaim := { program := "ythlbokfajiahpab", sum := "b7104327ce5b3bb5a9292408baf9ef634b40bc8f82c35b16b2e4f2384529d9a2", func := "loop.example/g00287/laws.FnExactFrameItem", spec := "fnExactFrameItem", unfollowed := true, recurses := true, apart := false, narrowed := true }
def FnExactFrameItemUptoSaid : Prop := fnExactFrameItemUptoRow.holds Try.pinned (OpenSpec.upto fnExactFrameItemSpec)

/-- 'laws.FnExactItemsOk', WHERE WHAT IT READS IS OF BULK AT MOST 1048576: true; the input reads as it did. -/
def fnExactItemsOkUptoRow : OpenClaim := { program := "ythlbokfajiahpab", sum := "b7104327ce5b3bb5a9292408baf9ef634b40bc8f82c35b16b2e4f2384529d9a2", func := "loop.example/g00287/laws.FnExactItemsOk", spec := "fnExactItemsOk", unfollowed := true, recurses := true, apart := false, narrowed := true }
def FnExactItemsOkUptoSaid : Prop := fnExactItemsOkUptoRow.holds Try.pinned (OpenSpec.upto fnExactItemsOkSpec)

/-- 'laws.FnExactStateOf', WHERE WHAT IT READS IS OF BULK AT MOST 1048576: true; the input reads as it did. -/
def fnExactStateOfUptoRow : OpenClaim := { program := "ythlbokfajiahpab", sum := "b7104327ce5b3bb5a9292408baf9ef634b40bc8f82c35b16b2e4f2384529d9a2", func := "loop.example/g00287/laws.FnExactStateOf", spec := "fnExactStateOf", unfollowed := true, recurses := true, apart := false, narrowed := true }
def FnExactStateOfUptoSaid : Prop := fnExactStateOfUptoRow.holds Try.pinned (OpenSpec.upto fnExactStateOfSpec)

end Rows
end Go.Proofs.Ythlbokfajiahpab
