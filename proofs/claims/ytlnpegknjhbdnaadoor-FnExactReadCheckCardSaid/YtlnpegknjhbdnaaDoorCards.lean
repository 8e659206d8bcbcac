/-
  DERIVED. GIVEN WITH THE SEED: THE CARDS: each row of YtlnpegknjhbdnaaDoorRows.lean that lists a variable, with what it lists TIED to the program's text (the seventh form; the later family's looks); each row that meets fmt, with fmt's text TOLD by the authors' own Lean function (tested against real Go, not proved from fmt's source: count such statements apart). THE CARD IS WHAT COUNTS. Prove the row's statement (the work); the ties are given (YtlnpegknjhbdnaaDoorTie.lean); close each card by the builder's one call (the guide's Derived/Test/ToyasCard.lean, 'card_holds'). Laid BY PROGRAM, IN A SANDBOX (cutbox-door.mjs). By AI agents, Wed Nov 11 2026. No macro, syntax, notation, axiom, sorry.
-/
import Derived.Test.YtlnpegknjhbdnaaDoorRows
import GoSem.ClaimSeven
namespace Go.Proofs.YtlnpegknjhbdnaaDoor
namespace Rows

/-- THE TIED CARD OF 'laws.FnExactReadCheck'. -/
def fnExactReadCheckCard : Claim7 := { stood := { row := fnExactReadCheckRow, standIns := [], harness := (true, "f2eaa8b5490eb76e957f955bd878faa113c4887d9cb673bd1179941197d7d1df"), looks := true }, kinds := [], alts := [], laidByText := true, laidKinds := [.handle, .data], laidTests := true, laidLooks := .later }
def FnExactReadCheckCardSaid : Prop := Claim7.holds Tryd.pinned (.plain (OpenSpec.ofChange fnExactReadCheckSpec)) fnExactReadCheckCard

/-- THE SECOND FORM's CARD OF 'laws.FnExactReadCheck'. -/
def fnExactReadCheckUptoCard : Claim7 := { stood := { row := fnExactReadCheckUptoRow, standIns := [], harness := (true, "f2eaa8b5490eb76e957f955bd878faa113c4887d9cb673bd1179941197d7d1df"), looks := true }, kinds := [], alts := [], laidByText := true, laidKinds := [.handle, .data], laidTests := true, laidLooks := .later }
def FnExactReadCheckUptoCardSaid : Prop := Claim7.holds Tryd.pinned (.plain (OpenSpec.upto fnExactReadCheckSpec)) fnExactReadCheckUptoCard
end Rows
end Go.Proofs.YtlnpegknjhbdnaaDoor
