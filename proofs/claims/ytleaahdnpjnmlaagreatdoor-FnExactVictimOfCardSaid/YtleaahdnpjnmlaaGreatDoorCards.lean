/-
  DERIVED. GIVEN WITH THE SEED: THE CARDS: each row of YtleaahdnpjnmlaaGreatDoorRows.lean that lists a variable, with what it lists TIED to the program's text (the seventh form; the later family's looks); each row that meets fmt, with fmt's text TOLD by the authors' own Lean function (tested against real Go, not proved from fmt's source: count such statements apart). THE CARD IS WHAT COUNTS. Prove the row's statement (the work); the ties are given (YtleaahdnpjnmlaaGreatDoorTie.lean); close each card by the builder's one call (the guide's Derived/Test/ToyasCard.lean, 'card_holds'). Laid BY PROGRAM, IN A SANDBOX (cutbox-door.mjs). By AI agents, Wed Nov 11 2026. No macro, syntax, notation, axiom, sorry.
-/
import Derived.Test.YtleaahdnpjnmlaaGreatDoorRows
import GoSem.ClaimSeven
namespace Go.Proofs.YtleaahdnpjnmlaaGreatDoor
namespace Rows

/-- THE TIED CARD OF 'laws.FnExactLiveOf'. -/
def fnExactLiveOfCard : Claim7 := { stood := { row := fnExactLiveOfRow, standIns := [], harness := (true, "a7b53117dc7f8059b9e87f33690e73834384da8aa7054660b0403d76f1521679"), looks := true }, kinds := [], alts := [], laidByText := true, laidKinds := [.data], laidTests := true, laidLooks := .later }
def FnExactLiveOfCardSaid : Prop := Claim7.holds Tryz.pinned (.plain (OpenSpec.ofChange fnExactLiveOfSpec)) fnExactLiveOfCard

/-- THE TIED CARD OF 'laws.FnExactGainOf'. -/
def fnExactGainOfCard : Claim7 := { stood := { row := fnExactGainOfRow, standIns := [], harness := (true, "a7b53117dc7f8059b9e87f33690e73834384da8aa7054660b0403d76f1521679"), looks := true }, kinds := [], alts := [], laidByText := true, laidKinds := [.data], laidTests := true, laidLooks := .later }
def FnExactGainOfCardSaid : Prop := Claim7.holds Tryz.pinned (.plain (OpenSpec.ofChange fnExactGainOfSpec)) fnExactGainOfCard

/-- THE TIED CARD OF 'laws.FnExactVictimOf'. -/
def fnExactVictimOfCard : Claim7 := { stood := { row := fnExactVictimOfRow, standIns := [], harness := (true, "a7b53117dc7f8059b9e87f33690e73834384da8aa7054660b0403d76f1521679"), looks := true }, kinds := [], alts := [], laidByText := true, laidKinds := [.data], laidTests := true, laidLooks := .later }
def FnExactVictimOfCardSaid : Prop := Claim7.holds Tryz.pinned (.plain (OpenSpec.ofChange fnExactVictimOfSpec)) fnExactVictimOfCard

/-- THE SECOND FORM's CARD OF 'laws.FnExactLiveOf'. -/
def fnExactLiveOfUptoCard : Claim7 := { stood := { row := fnExactLiveOfUptoRow, standIns := [], harness := (true, "a7b53117dc7f8059b9e87f33690e73834384da8aa7054660b0403d76f1521679"), looks := true }, kinds := [], alts := [], laidByText := true, laidKinds := [.data], laidTests := true, laidLooks := .later }
def FnExactLiveOfUptoCardSaid : Prop := Claim7.holds Tryz.pinned (.plain (OpenSpec.upto fnExactLiveOfSpec)) fnExactLiveOfUptoCard

/-- THE SECOND FORM's CARD OF 'laws.FnExactGainOf'. -/
def fnExactGainOfUptoCard : Claim7 := { stood := { row := fnExactGainOfUptoRow, standIns := [], harness := (true, "a7b53117dc7f8059b9e87f33690e73834384da8aa7054660b0403d76f1521679"), looks := true }, kinds := [], alts := [], laidByText := true, laidKinds := [.data], laidTests := true, laidLooks := .later }
def FnExactGainOfUptoCardSaid : Prop := Claim7.holds Tryz.pinned (.plain (OpenSpec.upto fnExactGainOfSpec)) fnExactGainOfUptoCard

/-- THE SECOND FORM's CARD OF 'laws.FnExactVictimOf'. -/
def fnExactVictimOfUptoCard : Claim7 := { stood := { row := fnExactVictimOfUptoRow, standIns := [], harness := (true, "a7b53117dc7f8059b9e87f33690e73834384da8aa7054660b0403d76f1521679"), looks := true }, kinds := [], alts := [], laidByText := true, laidKinds := [.data], laidTests := true, laidLooks := .later }
def FnExactVictimOfUptoCardSaid : Prop := Claim7.holds Tryz.pinned (.plain (OpenSpec.upto fnExactVictimOfSpec)) fnExactVictimOfUptoCard
end Rows
end Go.Proofs.YtleaahdnpjnmlaaGreatDoor
