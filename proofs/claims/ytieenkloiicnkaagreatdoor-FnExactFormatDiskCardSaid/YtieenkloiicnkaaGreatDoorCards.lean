/-
  DERIVED. GIVEN WITH THE SEED: THE CARDS: each row of YtieenkloiicnkaaGreatDoorRows.lean that lists a variable, with what it lists TIED to the program's text (the seventh form; the later family's looks); each row that meets fmt, with fmt's text TOLD by the authors' own Lean function (tested against real Go, not proved from fmt's source: count such statements apart). THE CARD IS WHAT COUNTS. Prove the row's statement (the work); the ties are given (YtieenkloiicnkaaGreatDoorTie.lean); close each card by the builder's one call (the guide's Derived/Test/ToyasCard.lean, 'card_holds'). Laid BY PROGRAM, IN A SANDBOX (cutbox-door.mjs). By AI agents, Wed Nov 11 2026. No macro, syntax, notation, axiom, sorry.
-/
import Derived.Test.YtieenkloiicnkaaGreatDoorRows
import GoSem.ClaimSeven
namespace Go.Proofs.YtieenkloiicnkaaGreatDoor
namespace Rows

/-- THE TIED CARD OF 'laws.FnExactSegOf'. -/
def fnExactSegOfCard : Claim7 := { stood := { row := fnExactSegOfRow, standIns := [], harness := (true, "86b249c541a9206e1da35a22826e517713138d78ec26604ff10e59483b28f276"), looks := true }, kinds := [], alts := [], laidByText := true, laidKinds := [.data], laidTests := true, laidLooks := .later }
def FnExactSegOfCardSaid : Prop := Claim7.holds Tryz.pinned (.plain (OpenSpec.ofChange fnExactSegOfSpec)) fnExactSegOfCard

/-- THE TIED CARD OF 'laws.FnExactWriteCheck'. -/
def fnExactWriteCheckCard : Claim7 := { stood := { row := fnExactWriteCheckRow, standIns := [], harness := (true, "86b249c541a9206e1da35a22826e517713138d78ec26604ff10e59483b28f276"), looks := true }, kinds := [], alts := [], laidByText := true, laidKinds := [.handle, .data], laidTests := true, laidLooks := .later }
def FnExactWriteCheckCardSaid : Prop := Claim7.holds Tryz.pinned (.plain (OpenSpec.ofChange fnExactWriteCheckSpec)) fnExactWriteCheckCard

/-- THE TIED CARD OF 'laws.FnExactFormatDisk'. -/
def fnExactFormatDiskCard : Claim7 := { stood := { row := fnExactFormatDiskRow, standIns := [], harness := (true, "86b249c541a9206e1da35a22826e517713138d78ec26604ff10e59483b28f276"), looks := true }, kinds := [], alts := [], laidByText := true, laidKinds := [.handle, .data], laidTests := true, laidLooks := .later }
def FnExactFormatDiskCardSaid : Prop := Claim7.holds Tryz.pinned (.plain (OpenSpec.ofChange fnExactFormatDiskSpec)) fnExactFormatDiskCard

/-- THE SECOND FORM's CARD OF 'laws.FnExactSegOf'. -/
def fnExactSegOfUptoCard : Claim7 := { stood := { row := fnExactSegOfUptoRow, standIns := [], harness := (true, "86b249c541a9206e1da35a22826e517713138d78ec26604ff10e59483b28f276"), looks := true }, kinds := [], alts := [], laidByText := true, laidKinds := [.data], laidTests := true, laidLooks := .later }
def FnExactSegOfUptoCardSaid : Prop := Claim7.holds Tryz.pinned (.plain (OpenSpec.upto fnExactSegOfSpec)) fnExactSegOfUptoCard

/-- THE SECOND FORM's CARD OF 'laws.FnExactWriteCheck'. -/
def fnExactWriteCheckUptoCard : Claim7 := { stood := { row := fnExactWriteCheckUptoRow, standIns := [], harness := (true, "86b249c541a9206e1da35a22826e517713138d78ec26604ff10e59483b28f276"), looks := true }, kinds := [], alts := [], laidByText := true, laidKinds := [.handle, .data], laidTests := true, laidLooks := .later }
def FnExactWriteCheckUptoCardSaid : Prop := Claim7.holds Tryz.pinned (.plain (OpenSpec.upto fnExactWriteCheckSpec)) fnExactWriteCheckUptoCard

/-- THE SECOND FORM's CARD OF 'laws.FnExactFormatDisk'. -/
def fnExactFormatDiskUptoCard : Claim7 := { stood := { row := fnExactFormatDiskUptoRow, standIns := [], harness := (true, "86b249c541a9206e1da35a22826e517713138d78ec26604ff10e59483b28f276"), looks := true }, kinds := [], alts := [], laidByText := true, laidKinds := [.handle, .data], laidTests := true, laidLooks := .later }
def FnExactFormatDiskUptoCardSaid : Prop := Claim7.holds Tryz.pinned (.plain (OpenSpec.upto fnExactFormatDiskSpec)) fnExactFormatDiskUptoCard
end Rows
end Go.Proofs.YtieenkloiicnkaaGreatDoor
