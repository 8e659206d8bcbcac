/-
  DERIVED. GIVEN WITH THE SEED: THE CARDS: each row of YtmmgnpjhlmiafaqDoorRows.lean that lists a variable, with what it lists TIED to the program's text (the seventh form; the later family's looks); each row that meets fmt, with fmt's text TOLD by the authors' own Lean function (tested against real Go, not proved from fmt's source: count such statements apart). THE CARD IS WHAT COUNTS. Prove the row's statement (the work); the ties are given (YtmmgnpjhlmiafaqDoorTie.lean); close each card by the builder's one call (the guide's Derived/Test/ToyasCard.lean, 'card_holds'). Laid BY PROGRAM, IN A SANDBOX (cutbox-door.mjs). By AI agents, Wed Nov 11 2026. No macro, syntax, notation, axiom, sorry.
-/
import Derived.Test.YtmmgnpjhlmiafaqDoorRows
import GoSem.ClaimSeven
namespace Go.Proofs.YtmmgnpjhlmiafaqDoor
namespace Rows

/-- THE TIED CARD OF 'laws.FnExactScanFrames'. -/
def fnExactScanFramesCard : Claim7 := { stood := { row := fnExactScanFramesRow, standIns := [], harness := (true, "a4b9618ebf8172b0af3ecb6a60578b6575d52db8c7774aa3fddf58da0ee27012"), looks := false }, kinds := [], alts := [], laidByText := true, laidKinds := [.data], laidTests := true, laidLooks := .later }
def FnExactScanFramesCardSaid : Prop := Claim7.holds Tryd.pinned (.plain (OpenSpec.ofChange fnExactScanFramesSpec)) fnExactScanFramesCard

/-- THE TIED CARD OF 'laws.FnExactFrameSize'. -/
def fnExactFrameSizeCard : Claim7 := { stood := { row := fnExactFrameSizeRow, standIns := [], harness := (true, "a4b9618ebf8172b0af3ecb6a60578b6575d52db8c7774aa3fddf58da0ee27012"), looks := false }, kinds := [], alts := [], laidByText := true, laidKinds := [.data], laidTests := true, laidLooks := .later }
def FnExactFrameSizeCardSaid : Prop := Claim7.holds Tryd.pinned (.plain (OpenSpec.ofChange fnExactFrameSizeSpec)) fnExactFrameSizeCard

/-- THE SECOND FORM's CARD OF 'laws.FnExactScanFrames'. -/
def fnExactScanFramesUptoCard : Claim7 := { stood := { row := fnExactScanFramesUptoRow, standIns := [], harness := (true, "a4b9618ebf8172b0af3ecb6a60578b6575d52db8c7774aa3fddf58da0ee27012"), looks := false }, kinds := [], alts := [], laidByText := true, laidKinds := [.data], laidTests := true, laidLooks := .later }
def FnExactScanFramesUptoCardSaid : Prop := Claim7.holds Tryd.pinned (.plain (OpenSpec.upto fnExactScanFramesSpec)) fnExactScanFramesUptoCard

/-- THE SECOND FORM's CARD OF 'laws.FnExactFrameSize'. -/
def fnExactFrameSizeUptoCard : Claim7 := { stood := { row := fnExactFrameSizeUptoRow, standIns := [], harness := (true, "a4b9618ebf8172b0af3ecb6a60578b6575d52db8c7774aa3fddf58da0ee27012"), looks := false }, kinds := [], alts := [], laidByText := true, laidKinds := [.data], laidTests := true, laidLooks := .later }
def FnExactFrameSizeUptoCardSaid : Prop := Claim7.holds Tryd.pinned (.plain (OpenSpec.upto fnExactFrameSizeSpec)) fnExactFrameSizeUptoCard
end Rows
end Go.Proofs.YtmmgnpjhlmiafaqDoor
