/-
  DERIVED. GIVEN WITH THE SEED: THE CARDS: each row of YtjdehojbkogpkaaDoorRows.lean that lists a variable, with what it lists TIED to the program's text (the seventh form; the later family's looks); each row that meets fmt, with fmt's text TOLD by the authors' own Lean function (tested against real Go, not proved from fmt's source: count such statements apart). THE CARD IS WHAT COUNTS. Prove the row's statement (the work); the ties are given (YtjdehojbkogpkaaDoorTie.lean); close each card by the builder's one call (the guide's Derived/Test/ToyasCard.lean, 'card_holds'). Laid BY PROGRAM, IN A SANDBOX (cutbox-door.mjs). By AI agents, Wed Nov 11 2026. No macro, syntax, notation, axiom, sorry.
-/
import Derived.Test.YtjdehojbkogpkaaDoorRows
import GoSem.ClaimSeven
namespace Go.Proofs.YtjdehojbkogpkaaDoor
namespace Rows

/-- THE TIED CARD OF 'ploverlaw11.RingComes'. -/
def ringComesCard : Claim7 := { stood := { row := ringComesRow, standIns := [], harness := (true, "e6057093612874c85c9e913809db9ee3fbf01790c3981fac7941701319cbfd09"), looks := false }, kinds := [], alts := [], laidByText := true, laidKinds := [.data, .data, .data, .data], laidTests := true, laidLooks := .later }
def RingComesCardSaid : Prop := Claim7.holds Tryd.pinned (.plain (OpenSpec.ofChange ringComesSpec)) ringComesCard

/-- THE TIED CARD OF 'ploverlaw11.RingParts'. -/
def ringPartsCard : Claim7 := { stood := { row := ringPartsRow, standIns := [], harness := (true, "e6057093612874c85c9e913809db9ee3fbf01790c3981fac7941701319cbfd09"), looks := false }, kinds := [], alts := [], laidByText := true, laidKinds := [.data, .data, .data, .data], laidTests := true, laidLooks := .later }
def RingPartsCardSaid : Prop := Claim7.holds Tryd.pinned (.plain (OpenSpec.ofChange ringPartsSpec)) ringPartsCard

/-- THE TIED CARD OF 'ploverlaw11.RingNobody'. -/
def ringNobodyCard : Claim7 := { stood := { row := ringNobodyRow, standIns := [], harness := (true, "e6057093612874c85c9e913809db9ee3fbf01790c3981fac7941701319cbfd09"), looks := false }, kinds := [], alts := [], laidByText := true, laidKinds := [.data, .data, .data, .data], laidTests := true, laidLooks := .later }
def RingNobodyCardSaid : Prop := Claim7.holds Tryd.pinned (.plain (OpenSpec.ofChange ringNobodySpec)) ringNobodyCard

/-- THE TIED CARD OF 'ploverlaw11.RingSpots'. -/
def ringSpotsCard : Claim7 := { stood := { row := ringSpotsRow, standIns := [], harness := (true, "e6057093612874c85c9e913809db9ee3fbf01790c3981fac7941701319cbfd09"), looks := false }, kinds := [], alts := [], laidByText := true, laidKinds := [.data, .data, .data, .data], laidTests := true, laidLooks := .later }
def RingSpotsCardSaid : Prop := Claim7.holds Tryd.pinned (.plain (OpenSpec.ofChange ringSpotsSpec)) ringSpotsCard

/-- THE SECOND FORM's CARD OF 'ploverlaw11.RingComes'. -/
def ringComesUptoCard : Claim7 := { stood := { row := ringComesUptoRow, standIns := [], harness := (true, "e6057093612874c85c9e913809db9ee3fbf01790c3981fac7941701319cbfd09"), looks := false }, kinds := [], alts := [], laidByText := true, laidKinds := [.data, .data, .data, .data], laidTests := true, laidLooks := .later }
def RingComesUptoCardSaid : Prop := Claim7.holds Tryd.pinned (.plain (OpenSpec.upto ringComesSpec)) ringComesUptoCard

/-- THE SECOND FORM's CARD OF 'ploverlaw11.RingParts'. -/
def ringPartsUptoCard : Claim7 := { stood := { row := ringPartsUptoRow, standIns := [], harness := (true, "e6057093612874c85c9e913809db9ee3fbf01790c3981fac7941701319cbfd09"), looks := false }, kinds := [], alts := [], laidByText := true, laidKinds := [.data, .data, .data, .data], laidTests := true, laidLooks := .later }
def RingPartsUptoCardSaid : Prop := Claim7.holds Tryd.pinned (.plain (OpenSpec.upto ringPartsSpec)) ringPartsUptoCard

/-- THE SECOND FORM's CARD OF 'ploverlaw11.RingNobody'. -/
def ringNobodyUptoCard : Claim7 := { stood := { row := ringNobodyUptoRow, standIns := [], harness := (true, "e6057093612874c85c9e913809db9ee3fbf01790c3981fac7941701319cbfd09"), looks := false }, kinds := [], alts := [], laidByText := true, laidKinds := [.data, .data, .data, .data], laidTests := true, laidLooks := .later }
def RingNobodyUptoCardSaid : Prop := Claim7.holds Tryd.pinned (.plain (OpenSpec.upto ringNobodySpec)) ringNobodyUptoCard

/-- THE SECOND FORM's CARD OF 'ploverlaw11.RingSpots'. -/
def ringSpotsUptoCard : Claim7 := { stood := { row := ringSpotsUptoRow, standIns := [], harness := (true, "e6057093612874c85c9e913809db9ee3fbf01790c3981fac7941701319cbfd09"), looks := false }, kinds := [], alts := [], laidByText := true, laidKinds := [.data, .data, .data, .data], laidTests := true, laidLooks := .later }
def RingSpotsUptoCardSaid : Prop := Claim7.holds Tryd.pinned (.plain (OpenSpec.upto ringSpotsSpec)) ringSpotsUptoCard
end Rows
end Go.Proofs.YtjdehojbkogpkaaDoor
