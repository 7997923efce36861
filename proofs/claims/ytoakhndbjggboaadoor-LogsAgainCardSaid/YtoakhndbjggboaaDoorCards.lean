/-
  DERIVED. GIVEN WITH THE SEED: THE CARDS: each row of YtoakhndbjggboaaDoorRows.lean that lists a variable, with what it lists TIED to the program's text (the seventh form; the later family's looks); each row that meets fmt, with fmt's text TOLD by the authors' own Lean function (tested against real Go, not proved from fmt's source: count such statements apart). THE CARD IS WHAT COUNTS. Prove the row's statement (the work); the ties are given (YtoakhndbjggboaaDoorTie.lean); close each card by the builder's one call (the guide's Derived/Test/ToyasCard.lean, 'card_holds'). Laid BY PROGRAM, IN A SANDBOX (cutbox-door.mjs). By AI agents, Wed Nov 11 2026. No macro, syntax, notation, axiom, sorry.
-/
import Derived.Test.YtoakhndbjggboaaDoorRows
import GoSem.ClaimSeven
namespace Go.Proofs.YtoakhndbjggboaaDoor
namespace Rows

/-- THE TIED CARD OF 'ploverlaw07.LogsRoom'. -/
def logsRoomCard : Claim7 := { stood := { row := logsRoomRow, standIns := [], harness := (true, "d6fcfcc2b0838a6936f7abeeb5ef9866d9655e62bdd09d984360044c1bc1badd"), looks := true }, kinds := [], alts := [], laidByText := true, laidKinds := [.data], laidTests := true, laidLooks := .later }
def LogsRoomCardSaid : Prop := Claim7.holds Tryd.pinned (.plain (OpenSpec.ofChange logsRoomSpec)) logsRoomCard

/-- THE TIED CARD OF 'ploverlaw07.LogsAgain'. -/
def logsAgainCard : Claim7 := { stood := { row := logsAgainRow, standIns := [], harness := (true, "d6fcfcc2b0838a6936f7abeeb5ef9866d9655e62bdd09d984360044c1bc1badd"), looks := true }, kinds := [], alts := [], laidByText := true, laidKinds := [.data, .data, .data, .data], laidTests := true, laidLooks := .later }
def LogsAgainCardSaid : Prop := Claim7.holds Tryd.pinned (.plain (OpenSpec.ofChange logsAgainSpec)) logsAgainCard

/-- THE TIED CARD OF 'ploverlaw07.LogsLong'. -/
def logsLongCard : Claim7 := { stood := { row := logsLongRow, standIns := [], harness := (true, "d6fcfcc2b0838a6936f7abeeb5ef9866d9655e62bdd09d984360044c1bc1badd"), looks := true }, kinds := [], alts := [], laidByText := true, laidKinds := [.data, .data, .data, .data], laidTests := true, laidLooks := .later }
def LogsLongCardSaid : Prop := Claim7.holds Tryd.pinned (.plain (OpenSpec.ofChange logsLongSpec)) logsLongCard

/-- THE SECOND FORM's CARD OF 'ploverlaw07.LogsRoom'. -/
def logsRoomUptoCard : Claim7 := { stood := { row := logsRoomUptoRow, standIns := [], harness := (true, "d6fcfcc2b0838a6936f7abeeb5ef9866d9655e62bdd09d984360044c1bc1badd"), looks := true }, kinds := [], alts := [], laidByText := true, laidKinds := [.data], laidTests := true, laidLooks := .later }
def LogsRoomUptoCardSaid : Prop := Claim7.holds Tryd.pinned (.plain (OpenSpec.upto logsRoomSpec)) logsRoomUptoCard

/-- THE SECOND FORM's CARD OF 'ploverlaw07.LogsAgain'. -/
def logsAgainUptoCard : Claim7 := { stood := { row := logsAgainUptoRow, standIns := [], harness := (true, "d6fcfcc2b0838a6936f7abeeb5ef9866d9655e62bdd09d984360044c1bc1badd"), looks := true }, kinds := [], alts := [], laidByText := true, laidKinds := [.data, .data, .data, .data], laidTests := true, laidLooks := .later }
def LogsAgainUptoCardSaid : Prop := Claim7.holds Tryd.pinned (.plain (OpenSpec.upto logsAgainSpec)) logsAgainUptoCard

/-- THE SECOND FORM's CARD OF 'ploverlaw07.LogsLong'. -/
def logsLongUptoCard : Claim7 := { stood := { row := logsLongUptoRow, standIns := [], harness := (true, "d6fcfcc2b0838a6936f7abeeb5ef9866d9655e62bdd09d984360044c1bc1badd"), looks := true }, kinds := [], alts := [], laidByText := true, laidKinds := [.data, .data, .data, .data], laidTests := true, laidLooks := .later }
def LogsLongUptoCardSaid : Prop := Claim7.holds Tryd.pinned (.plain (OpenSpec.upto logsLongSpec)) logsLongUptoCard
end Rows
end Go.Proofs.YtoakhndbjggboaaDoor
