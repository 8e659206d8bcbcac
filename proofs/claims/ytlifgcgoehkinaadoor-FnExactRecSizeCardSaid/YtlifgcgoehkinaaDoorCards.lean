/-
  DERIVED. GIVEN WITH THE SEED: THE CARDS: each row of YtlifgcgoehkinaaDoorRows.lean that lists a variable, with what it lists TIED to the program's text (the seventh form; the later family's looks); each row that meets fmt, with fmt's text TOLD by the authors' own Lean function (tested against real Go, not proved from fmt's source: count such statements apart). THE CARD IS WHAT COUNTS. Prove the row's statement (the work); the ties are given (YtlifgcgoehkinaaDoorTie.lean); close each card by the builder's one call (the guide's Derived/Test/ToyasCard.lean, 'card_holds'). Laid BY PROGRAM, IN A SANDBOX (cutbox-door.mjs). By AI agents, Wed Nov 11 2026. No macro, syntax, notation, axiom, sorry.
-/
import Derived.Test.YtlifgcgoehkinaaDoorRows
import GoSem.ClaimSeven
namespace Go.Proofs.YtlifgcgoehkinaaDoor
namespace Rows

/-- THE TIED CARD OF 'laws.FnExactRecSize'. -/
def fnExactRecSizeCard : Claim7 := { stood := { row := fnExactRecSizeRow, standIns := [], harness := (true, "dd541f0440d6e817b2d68575a75fbc7441f3361d30b2652471ebce66566cabc4"), looks := true }, kinds := [], alts := [], laidByText := true, laidKinds := [.data], laidTests := true, laidLooks := .later }
def FnExactRecSizeCardSaid : Prop := Claim7.holds Tryd.pinned (.plain (OpenSpec.ofChange fnExactRecSizeSpec)) fnExactRecSizeCard

/-- THE SECOND FORM's CARD OF 'laws.FnExactRecSize'. -/
def fnExactRecSizeUptoCard : Claim7 := { stood := { row := fnExactRecSizeUptoRow, standIns := [], harness := (true, "dd541f0440d6e817b2d68575a75fbc7441f3361d30b2652471ebce66566cabc4"), looks := true }, kinds := [], alts := [], laidByText := true, laidKinds := [.data], laidTests := true, laidLooks := .later }
def FnExactRecSizeUptoCardSaid : Prop := Claim7.holds Tryd.pinned (.plain (OpenSpec.upto fnExactRecSizeSpec)) fnExactRecSizeUptoCard
end Rows
end Go.Proofs.YtlifgcgoehkinaaDoor
