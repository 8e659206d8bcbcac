/-
  DERIVED. GIVEN WITH THE SEED: THE CARDS: each row of YtmahicpheimnjaaDoorRows.lean that lists a variable, with what it lists TIED to the program's text (the seventh form; the later family's looks); each row that meets fmt, with fmt's text TOLD by the authors' own Lean function (tested against real Go, not proved from fmt's source: count such statements apart). THE CARD IS WHAT COUNTS. Prove the row's statement (the work); the ties are given (YtmahicpheimnjaaDoorTie.lean); close each card by the builder's one call (the guide's Derived/Test/ToyasCard.lean, 'card_holds'). Laid BY PROGRAM, IN A SANDBOX (cutbox-door.mjs). By AI agents, Wed Nov 11 2026. No macro, syntax, notation, axiom, sorry.
-/
import Derived.Test.YtmahicpheimnjaaDoorRows
import GoSem.ClaimSeven
namespace Go.Proofs.YtmahicpheimnjaaDoor
namespace Rows

/-- THE TIED CARD OF 'laws.FnExactCheckOk'. -/
def fnExactCheckOkCard : Claim7 := { stood := { row := fnExactCheckOkRow, standIns := [], harness := (true, "1c5fdd23e04797ec1be1640f4e246da4e6b544c758d353c22fab93e46c38ad80"), looks := true }, kinds := [], alts := [], laidByText := true, laidKinds := [.handle], laidTests := true, laidLooks := .later }
def FnExactCheckOkCardSaid : Prop := Claim7.holds Tryd.pinned (.plain (OpenSpec.ofChange fnExactCheckOkSpec)) fnExactCheckOkCard

/-- THE TIED CARD OF 'laws.FnExactCheckText'. -/
def fnExactCheckTextCard : Claim7 := { stood := { row := fnExactCheckTextRow, standIns := [], harness := (true, "1c5fdd23e04797ec1be1640f4e246da4e6b544c758d353c22fab93e46c38ad80"), looks := true }, kinds := [], alts := [], laidByText := true, laidKinds := [.handle, .data], laidTests := true, laidLooks := .later }
def FnExactCheckTextCardSaid : Prop := Claim7.holds Tryd.pinned (.plain (OpenSpec.ofChange fnExactCheckTextSpec)) fnExactCheckTextCard

/-- THE SECOND FORM's CARD OF 'laws.FnExactCheckOk'. -/
def fnExactCheckOkUptoCard : Claim7 := { stood := { row := fnExactCheckOkUptoRow, standIns := [], harness := (true, "1c5fdd23e04797ec1be1640f4e246da4e6b544c758d353c22fab93e46c38ad80"), looks := true }, kinds := [], alts := [], laidByText := true, laidKinds := [.handle], laidTests := true, laidLooks := .later }
def FnExactCheckOkUptoCardSaid : Prop := Claim7.holds Tryd.pinned (.plain (OpenSpec.upto fnExactCheckOkSpec)) fnExactCheckOkUptoCard

/-- THE SECOND FORM's CARD OF 'laws.FnExactCheckText'. -/
def fnExactCheckTextUptoCard : Claim7 := { stood := { row := fnExactCheckTextUptoRow, standIns := [], harness := (true, "1c5fdd23e04797ec1be1640f4e246da4e6b544c758d353c22fab93e46c38ad80"), looks := true }, kinds := [], alts := [], laidByText := true, laidKinds := [.handle, .data], laidTests := true, laidLooks := .later }
def FnExactCheckTextUptoCardSaid : Prop := Claim7.holds Tryd.pinned (.plain (OpenSpec.upto fnExactCheckTextSpec)) fnExactCheckTextUptoCard
end Rows
end Go.Proofs.YtmahicpheimnjaaDoor
