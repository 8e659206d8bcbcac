/-
  DERIVED. GIVEN WITH THE SEED: THE CARDS: each row of YtfhkhiejnemndaaGreatDoorRows.lean that lists a variable, with what it lists TIED to the program's text (the seventh form; the later family's looks); each row that meets fmt, with fmt's text TOLD by the authors' own Lean function (tested against real Go, not proved from fmt's source: count such statements apart). THE CARD IS WHAT COUNTS. Prove the row's statement (the work); the ties are given (YtfhkhiejnemndaaGreatDoorTie.lean); close each card by the builder's one call (the guide's Derived/Test/ToyasCard.lean, 'card_holds'). Laid BY PROGRAM, IN A SANDBOX (cutbox-door.mjs). By AI agents, Wed Nov 11 2026. No macro, syntax, notation, axiom, sorry.
-/
import Derived.Test.YtfhkhiejnemndaaGreatDoorRows
import GoSem.ClaimSeven
namespace Go.Proofs.YtfhkhiejnemndaaGreatDoor
namespace Rows

/-- THE TIED CARD OF 'laws.FnAppends'. -/
def fnAppendsCard : Claim7 := { stood := { row := fnAppendsRow, standIns := [], harness := (true, "eb80d6991d6faf6636e7ab98b8643fd2fa32027202284c033eb474ad2a113ac6"), looks := true }, kinds := [], alts := [], laidByText := true, laidKinds := [.data], laidTests := true, laidLooks := .later }
def FnAppendsCardSaid : Prop := Claim7.holds Tryz.pinned (.plain (OpenSpec.ofChange fnAppendsSpec)) fnAppendsCard

/-- THE TIED CARD OF 'laws.FnOpens'. -/
def fnOpensCard : Claim7 := { stood := { row := fnOpensRow, standIns := [], harness := (true, "eb80d6991d6faf6636e7ab98b8643fd2fa32027202284c033eb474ad2a113ac6"), looks := true }, kinds := [], alts := [], laidByText := true, laidKinds := [.data], laidTests := true, laidLooks := .later }
def FnOpensCardSaid : Prop := Claim7.holds Tryz.pinned (.plain (OpenSpec.ofChange fnOpensSpec)) fnOpensCard

/-- THE TIED CARD OF 'laws.FnLogsTold'. -/
def fnLogsToldCard : Claim7 := { stood := { row := fnLogsToldRow, standIns := [], harness := (true, "eb80d6991d6faf6636e7ab98b8643fd2fa32027202284c033eb474ad2a113ac6"), looks := true }, kinds := [], alts := [], laidByText := true, laidKinds := [.data], laidTests := true, laidLooks := .later }
def FnLogsToldCardSaid : Prop := Claim7.holds Tryz.pinned (.plain (OpenSpec.ofChange fnLogsToldSpec)) fnLogsToldCard

/-- THE SECOND FORM's CARD OF 'laws.FnAppends'. -/
def fnAppendsUptoCard : Claim7 := { stood := { row := fnAppendsUptoRow, standIns := [], harness := (true, "eb80d6991d6faf6636e7ab98b8643fd2fa32027202284c033eb474ad2a113ac6"), looks := true }, kinds := [], alts := [], laidByText := true, laidKinds := [.data], laidTests := true, laidLooks := .later }
def FnAppendsUptoCardSaid : Prop := Claim7.holds Tryz.pinned (.plain (OpenSpec.upto fnAppendsSpec)) fnAppendsUptoCard

/-- THE SECOND FORM's CARD OF 'laws.FnOpens'. -/
def fnOpensUptoCard : Claim7 := { stood := { row := fnOpensUptoRow, standIns := [], harness := (true, "eb80d6991d6faf6636e7ab98b8643fd2fa32027202284c033eb474ad2a113ac6"), looks := true }, kinds := [], alts := [], laidByText := true, laidKinds := [.data], laidTests := true, laidLooks := .later }
def FnOpensUptoCardSaid : Prop := Claim7.holds Tryz.pinned (.plain (OpenSpec.upto fnOpensSpec)) fnOpensUptoCard

/-- THE SECOND FORM's CARD OF 'laws.FnLogsTold'. -/
def fnLogsToldUptoCard : Claim7 := { stood := { row := fnLogsToldUptoRow, standIns := [], harness := (true, "eb80d6991d6faf6636e7ab98b8643fd2fa32027202284c033eb474ad2a113ac6"), looks := true }, kinds := [], alts := [], laidByText := true, laidKinds := [.data], laidTests := true, laidLooks := .later }
def FnLogsToldUptoCardSaid : Prop := Claim7.holds Tryz.pinned (.plain (OpenSpec.upto fnLogsToldSpec)) fnLogsToldUptoCard
end Rows
end Go.Proofs.YtfhkhiejnemndaaGreatDoor
