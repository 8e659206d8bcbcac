/-
  DERIVED. GIVEN WITH THE SEED: THE CARDS: each row of YtlifgcgoehkinaaGreatDoorRows.lean that lists a variable, with what it lists TIED to the program's text (the seventh form; the later family's looks); each row that meets fmt, with fmt's text TOLD by the authors' own Lean function (tested against real Go, not proved from fmt's source: count such statements apart). THE CARD IS WHAT COUNTS. Prove the row's statement (the work); the ties are given (YtlifgcgoehkinaaGreatDoorTie.lean); close each card by the builder's one call (the guide's Derived/Test/ToyasCard.lean, 'card_holds'). Laid BY PROGRAM, IN A SANDBOX (cutbox-door.mjs). By AI agents, Wed Nov 11 2026. No macro, syntax, notation, axiom, sorry.
-/
import Derived.Test.YtlifgcgoehkinaaGreatDoorRows
import GoSem.ClaimSeven
namespace Go.Proofs.YtlifgcgoehkinaaGreatDoor
namespace Rows

/-- THE TIED CARD OF 'laws.FnExactLiveBytes'. -/
def fnExactLiveBytesCard : Claim7 := { stood := { row := fnExactLiveBytesRow, standIns := [], harness := (true, "f471d72aac90195d314615a92a161117ff3dd3ab17b4edc2bb4baffd50ff6861"), looks := true }, kinds := [], alts := [], laidByText := true, laidKinds := [.data], laidTests := true, laidLooks := .later }
def FnExactLiveBytesCardSaid : Prop := Claim7.holds Tryz.pinned (.plain (OpenSpec.ofChange fnExactLiveBytesSpec)) fnExactLiveBytesCard

/-- THE SECOND FORM's CARD OF 'laws.FnExactLiveBytes'. -/
def fnExactLiveBytesUptoCard : Claim7 := { stood := { row := fnExactLiveBytesUptoRow, standIns := [], harness := (true, "f471d72aac90195d314615a92a161117ff3dd3ab17b4edc2bb4baffd50ff6861"), looks := true }, kinds := [], alts := [], laidByText := true, laidKinds := [.data], laidTests := true, laidLooks := .later }
def FnExactLiveBytesUptoCardSaid : Prop := Claim7.holds Tryz.pinned (.plain (OpenSpec.upto fnExactLiveBytesSpec)) fnExactLiveBytesUptoCard
end Rows
end Go.Proofs.YtlifgcgoehkinaaGreatDoor
