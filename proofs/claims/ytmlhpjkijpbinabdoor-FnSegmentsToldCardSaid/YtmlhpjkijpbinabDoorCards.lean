/-
  DERIVED. GIVEN WITH THE SEED: THE CARDS: each row of YtmlhpjkijpbinabDoorRows.lean that lists a variable, with what it lists TIED to the program's text (the seventh form; the later family's looks); each row that meets fmt, with fmt's text TOLD by the authors' own Lean function (tested against real Go, not proved from fmt's source: count such statements apart). THE CARD IS WHAT COUNTS. Prove the row's statement (the work); the ties are given (YtmlhpjkijpbinabDoorTie.lean); close each card by the builder's one call (the guide's Derived/Test/ToyasCard.lean, 'card_holds'). Laid BY PROGRAM, IN A SANDBOX (cutbox-door.mjs). By AI agents, Wed Nov 11 2026. No macro, syntax, notation, axiom, sorry.
-/
import Derived.Test.YtmlhpjkijpbinabDoorRows
import GoSem.ClaimSeven
namespace Go.Proofs.YtmlhpjkijpbinabDoor
namespace Rows

/-- THE TIED CARD OF 'laws.FnFrames'. -/
def fnFramesCard : Claim7 := { stood := { row := fnFramesRow, standIns := [], harness := (true, "5c5e09174588bdee6e8d827df33d9e6f7371781a8e4f100caa54c773dc38fa11"), looks := false }, kinds := [], alts := [], laidByText := true, laidKinds := [.data], laidTests := true, laidLooks := .later }
def FnFramesCardSaid : Prop := Claim7.holds Tryd.pinned (.plain (OpenSpec.ofChange fnFramesSpec)) fnFramesCard

/-- THE TIED CARD OF 'laws.FnFramesTurned'. -/
def fnFramesTurnedCard : Claim7 := { stood := { row := fnFramesTurnedRow, standIns := [], harness := (true, "5c5e09174588bdee6e8d827df33d9e6f7371781a8e4f100caa54c773dc38fa11"), looks := false }, kinds := [], alts := [], laidByText := true, laidKinds := [.data], laidTests := true, laidLooks := .later }
def FnFramesTurnedCardSaid : Prop := Claim7.holds Tryd.pinned (.plain (OpenSpec.ofChange fnFramesTurnedSpec)) fnFramesTurnedCard

/-- THE TIED CARD OF 'laws.FnSegmentsTold'. -/
def fnSegmentsToldCard : Claim7 := { stood := { row := fnSegmentsToldRow, standIns := [], harness := (true, "5c5e09174588bdee6e8d827df33d9e6f7371781a8e4f100caa54c773dc38fa11"), looks := false }, kinds := [], alts := [], laidByText := true, laidKinds := [.data], laidTests := true, laidLooks := .later }
def FnSegmentsToldCardSaid : Prop := Claim7.holds Tryd.pinned (.plain (OpenSpec.ofChange fnSegmentsToldSpec)) fnSegmentsToldCard

/-- THE SECOND FORM's CARD OF 'laws.FnFrames'. -/
def fnFramesUptoCard : Claim7 := { stood := { row := fnFramesUptoRow, standIns := [], harness := (true, "5c5e09174588bdee6e8d827df33d9e6f7371781a8e4f100caa54c773dc38fa11"), looks := false }, kinds := [], alts := [], laidByText := true, laidKinds := [.data], laidTests := true, laidLooks := .later }
def FnFramesUptoCardSaid : Prop := Claim7.holds Tryd.pinned (.plain (OpenSpec.upto fnFramesSpec)) fnFramesUptoCard

/-- THE SECOND FORM's CARD OF 'laws.FnFramesTurned'. -/
def fnFramesTurnedUptoCard : Claim7 := { stood := { row := fnFramesTurnedUptoRow, standIns := [], harness := (true, "5c5e09174588bdee6e8d827df33d9e6f7371781a8e4f100caa54c773dc38fa11"), looks := false }, kinds := [], alts := [], laidByText := true, laidKinds := [.data], laidTests := true, laidLooks := .later }
def FnFramesTurnedUptoCardSaid : Prop := Claim7.holds Tryd.pinned (.plain (OpenSpec.upto fnFramesTurnedSpec)) fnFramesTurnedUptoCard

/-- THE SECOND FORM's CARD OF 'laws.FnSegmentsTold'. -/
def fnSegmentsToldUptoCard : Claim7 := { stood := { row := fnSegmentsToldUptoRow, standIns := [], harness := (true, "5c5e09174588bdee6e8d827df33d9e6f7371781a8e4f100caa54c773dc38fa11"), looks := false }, kinds := [], alts := [], laidByText := true, laidKinds := [.data], laidTests := true, laidLooks := .later }
def FnSegmentsToldUptoCardSaid : Prop := Claim7.holds Tryd.pinned (.plain (OpenSpec.upto fnSegmentsToldSpec)) fnSegmentsToldUptoCard
end Rows
end Go.Proofs.YtmlhpjkijpbinabDoor
