/-
  DERIVED. GIVEN WITH THE SEED: THE CARDS: each row of YtmlhpjkijpbinaqDoorRows.lean that lists a variable, with what it lists TIED to the program's text (the seventh form; the later family's looks); each row that meets fmt, with fmt's text TOLD by the authors' own Lean function (tested against real Go, not proved from fmt's source: count such statements apart). THE CARD IS WHAT COUNTS. Prove the row's statement (the work); the ties are given (YtmlhpjkijpbinaqDoorTie.lean); close each card by the builder's one call (the guide's Derived/Test/ToyasCard.lean, 'card_holds'). Laid BY PROGRAM, IN A SANDBOX (cutbox-door.mjs). By AI agents, Wed Nov 11 2026. No macro, syntax, notation, axiom, sorry.
-/
import Derived.Test.YtmlhpjkijpbinaqDoorRows
import GoSem.ClaimSeven
namespace Go.Proofs.YtmlhpjkijpbinaqDoor
namespace Rows

/-- THE TIED CARD OF 'laws.FnExactScanFrames'. -/
def fnExactScanFramesCard : Claim7 := { stood := { row := fnExactScanFramesRow, standIns := [], harness := (true, "67e5dfc5e4d47bb11e06d8081b9590947b34807de968be18581759f560173b8c"), looks := false }, kinds := [], alts := [], laidByText := true, laidKinds := [.data], laidTests := true, laidLooks := .later }
def FnExactScanFramesCardSaid : Prop := Claim7.holds Tryd.pinned (.plain (OpenSpec.ofChange fnExactScanFramesSpec)) fnExactScanFramesCard

/-- THE TIED CARD OF 'laws.FnExactFrameSize'. -/
def fnExactFrameSizeCard : Claim7 := { stood := { row := fnExactFrameSizeRow, standIns := [], harness := (true, "67e5dfc5e4d47bb11e06d8081b9590947b34807de968be18581759f560173b8c"), looks := false }, kinds := [], alts := [], laidByText := true, laidKinds := [.data], laidTests := true, laidLooks := .later }
def FnExactFrameSizeCardSaid : Prop := Claim7.holds Tryd.pinned (.plain (OpenSpec.ofChange fnExactFrameSizeSpec)) fnExactFrameSizeCard

/-- THE TIED CARD OF 'laws.FnExactSegGen'. -/
def fnExactSegGenCard : Claim7 := { stood := { row := fnExactSegGenRow, standIns := [], harness := (true, "67e5dfc5e4d47bb11e06d8081b9590947b34807de968be18581759f560173b8c"), looks := false }, kinds := [], alts := [], laidByText := true, laidKinds := [.data], laidTests := true, laidLooks := .later }
def FnExactSegGenCardSaid : Prop := Claim7.holds Tryd.pinned (.plain (OpenSpec.ofChange fnExactSegGenSpec)) fnExactSegGenCard

/-- THE TIED CARD OF 'laws.FnExactSegFrames'. -/
def fnExactSegFramesCard : Claim7 := { stood := { row := fnExactSegFramesRow, standIns := [], harness := (true, "67e5dfc5e4d47bb11e06d8081b9590947b34807de968be18581759f560173b8c"), looks := false }, kinds := [], alts := [], laidByText := true, laidKinds := [.data], laidTests := true, laidLooks := .later }
def FnExactSegFramesCardSaid : Prop := Claim7.holds Tryd.pinned (.plain (OpenSpec.ofChange fnExactSegFramesSpec)) fnExactSegFramesCard

/-- THE SECOND FORM's CARD OF 'laws.FnExactScanFrames'. -/
def fnExactScanFramesUptoCard : Claim7 := { stood := { row := fnExactScanFramesUptoRow, standIns := [], harness := (true, "67e5dfc5e4d47bb11e06d8081b9590947b34807de968be18581759f560173b8c"), looks := false }, kinds := [], alts := [], laidByText := true, laidKinds := [.data], laidTests := true, laidLooks := .later }
def FnExactScanFramesUptoCardSaid : Prop := Claim7.holds Tryd.pinned (.plain (OpenSpec.upto fnExactScanFramesSpec)) fnExactScanFramesUptoCard

/-- THE SECOND FORM's CARD OF 'laws.FnExactFrameSize'. -/
def fnExactFrameSizeUptoCard : Claim7 := { stood := { row := fnExactFrameSizeUptoRow, standIns := [], harness := (true, "67e5dfc5e4d47bb11e06d8081b9590947b34807de968be18581759f560173b8c"), looks := false }, kinds := [], alts := [], laidByText := true, laidKinds := [.data], laidTests := true, laidLooks := .later }
def FnExactFrameSizeUptoCardSaid : Prop := Claim7.holds Tryd.pinned (.plain (OpenSpec.upto fnExactFrameSizeSpec)) fnExactFrameSizeUptoCard

/-- THE SECOND FORM's CARD OF 'laws.FnExactSegGen'. -/
def fnExactSegGenUptoCard : Claim7 := { stood := { row := fnExactSegGenUptoRow, standIns := [], harness := (true, "67e5dfc5e4d47bb11e06d8081b9590947b34807de968be18581759f560173b8c"), looks := false }, kinds := [], alts := [], laidByText := true, laidKinds := [.data], laidTests := true, laidLooks := .later }
def FnExactSegGenUptoCardSaid : Prop := Claim7.holds Tryd.pinned (.plain (OpenSpec.upto fnExactSegGenSpec)) fnExactSegGenUptoCard

/-- THE SECOND FORM's CARD OF 'laws.FnExactSegFrames'. -/
def fnExactSegFramesUptoCard : Claim7 := { stood := { row := fnExactSegFramesUptoRow, standIns := [], harness := (true, "67e5dfc5e4d47bb11e06d8081b9590947b34807de968be18581759f560173b8c"), looks := false }, kinds := [], alts := [], laidByText := true, laidKinds := [.data], laidTests := true, laidLooks := .later }
def FnExactSegFramesUptoCardSaid : Prop := Claim7.holds Tryd.pinned (.plain (OpenSpec.upto fnExactSegFramesSpec)) fnExactSegFramesUptoCard
end Rows
end Go.Proofs.YtmlhpjkijpbinaqDoor
