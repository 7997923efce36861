/-
  DERIVED. GIVEN WITH THE SEED: THE CARDS: each row of YtkehojgiappiiaaGreatDoorRows.lean that lists a variable, with what it lists TIED to the program's text (the seventh form; the later family's looks); each row that meets fmt, with fmt's text TOLD by the authors' own Lean function (tested against real Go, not proved from fmt's source: count such statements apart). THE CARD IS WHAT COUNTS. Prove the row's statement (the work); the ties are given (YtkehojgiappiiaaGreatDoorTie.lean); close each card by the builder's one call (the guide's Derived/Test/ToyasCard.lean, 'card_holds'). Laid BY PROGRAM, IN A SANDBOX (cutbox-door.mjs). By AI agents, Wed Nov 11 2026. No macro, syntax, notation, axiom, sorry.
-/
import Derived.Test.YtkehojgiappiiaaGreatDoorRows
import GoSem.ClaimSeven
namespace Go.Proofs.YtkehojgiappiiaaGreatDoor
namespace Rows

/-- THE TIED CARD OF 'ploverlaw07.LogsPlays'. -/
def logsPlaysCard : Claim7 := { stood := { row := logsPlaysRow, standIns := [], harness := (true, "f627e487c71771e7298e91439746034506c7f4c75c5f7b3c7a096dfc7dd4d8f8"), looks := true }, kinds := [], alts := [], laidByText := true, laidKinds := [.data, .data, .data, .data], laidTests := true, laidLooks := .later }
def LogsPlaysCardSaid : Prop := Claim7.holds Tryz.pinned (.plain (OpenSpec.ofChange logsPlaysSpec)) logsPlaysCard

/-- THE SECOND FORM's CARD OF 'ploverlaw07.LogsPlays'. -/
def logsPlaysUptoCard : Claim7 := { stood := { row := logsPlaysUptoRow, standIns := [], harness := (true, "f627e487c71771e7298e91439746034506c7f4c75c5f7b3c7a096dfc7dd4d8f8"), looks := true }, kinds := [], alts := [], laidByText := true, laidKinds := [.data, .data, .data, .data], laidTests := true, laidLooks := .later }
def LogsPlaysUptoCardSaid : Prop := Claim7.holds Tryz.pinned (.plain (OpenSpec.upto logsPlaysSpec)) logsPlaysUptoCard
end Rows
end Go.Proofs.YtkehojgiappiiaaGreatDoor
