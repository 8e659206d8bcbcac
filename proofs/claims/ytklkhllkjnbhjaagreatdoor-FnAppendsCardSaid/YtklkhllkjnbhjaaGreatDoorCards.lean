/-
  DERIVED. GIVEN WITH THE SEED: THE CARDS: each row of YtklkhllkjnbhjaaGreatDoorRows.lean that lists a variable, with what it lists TIED to the program's text (the seventh form; the later family's looks); each row that meets fmt, with fmt's text TOLD by the authors' own Lean function (tested against real Go, not proved from fmt's source: count such statements apart). THE CARD IS WHAT COUNTS. Prove the row's statement (the work); the ties are given (YtklkhllkjnbhjaaGreatDoorTie.lean); close each card by the builder's one call (the guide's Derived/Test/ToyasCard.lean, 'card_holds'). Laid BY PROGRAM, IN A SANDBOX (cutbox-door.mjs). By AI agents, Wed Nov 11 2026. No macro, syntax, notation, axiom, sorry.
-/
import Derived.Test.YtklkhllkjnbhjaaGreatDoorRows
import GoSem.ClaimSeven
namespace Go.Proofs.YtklkhllkjnbhjaaGreatDoor
namespace Rows

/-- THE TIED CARD OF 'laws.FnAppends'. -/
def fnAppendsCard : Claim7 := { stood := { row := fnAppendsRow, standIns := [], harness := (true, "8bf0a0d2242f8f6a012f36b0b55e1b19292641450348ecc5a6b6a83ac3194a4b"), looks := true }, kinds := [], alts := [], laidByText := true, laidKinds := [.data], laidTests := true, laidLooks := .later }
def FnAppendsCardSaid : Prop := Claim7.holds Tryz.pinned (.plain (OpenSpec.ofChange fnAppendsSpec)) fnAppendsCard

/-- THE TIED CARD OF 'laws.FnLogsTold'. -/
def fnLogsToldCard : Claim7 := { stood := { row := fnLogsToldRow, standIns := [], harness := (true, "8bf0a0d2242f8f6a012f36b0b55e1b19292641450348ecc5a6b6a83ac3194a4b"), looks := true }, kinds := [], alts := [], laidByText := true, laidKinds := [.data], laidTests := true, laidLooks := .later }
def FnLogsToldCardSaid : Prop := Claim7.holds Tryz.pinned (.plain (OpenSpec.ofChange fnLogsToldSpec)) fnLogsToldCard

/-- THE SECOND FORM's CARD OF 'laws.FnAppends'. -/
def fnAppendsUptoCard : Claim7 := { stood := { row := fnAppendsUptoRow, standIns := [], harness := (true, "8bf0a0d2242f8f6a012f36b0b55e1b19292641450348ecc5a6b6a83ac3194a4b"), looks := true }, kinds := [], alts := [], laidByText := true, laidKinds := [.data], laidTests := true, laidLooks := .later }
def FnAppendsUptoCardSaid : Prop := Claim7.holds Tryz.pinned (.plain (OpenSpec.upto fnAppendsSpec)) fnAppendsUptoCard

/-- THE SECOND FORM's CARD OF 'laws.FnLogsTold'. -/
def fnLogsToldUptoCard : Claim7 := { stood := { row := fnLogsToldUptoRow, standIns := [], harness := (true, "8bf0a0d2242f8f6a012f36b0b55e1b19292641450348ecc5a6b6a83ac3194a4b"), looks := true }, kinds := [], alts := [], laidByText := true, laidKinds := [.data], laidTests := true, laidLooks := .later }
def FnLogsToldUptoCardSaid : Prop := Claim7.holds Tryz.pinned (.plain (OpenSpec.upto fnLogsToldSpec)) fnLogsToldUptoCard
end Rows
end Go.Proofs.YtklkhllkjnbhjaaGreatDoor
