/-
  DERIVED. GIVEN WITH THE SEED: THE CARDS: each row of YtmepahlmbopacaaDoorRows.lean that lists a variable, with what it lists TIED to the program's text (the seventh form; the later family's looks); each row that meets fmt, with fmt's text TOLD by the authors' own Lean function (tested against real Go, not proved from fmt's source: count such statements apart). THE CARD IS WHAT COUNTS. Prove the row's statement (the work); the ties are given (YtmepahlmbopacaaDoorTie.lean); close each card by the builder's one call (the guide's Derived/Test/ToyasCard.lean, 'card_holds'). Laid BY PROGRAM, IN A SANDBOX (cutbox-door.mjs). By AI agents, Wed Nov 11 2026. No macro, syntax, notation, axiom, sorry.
-/
import Derived.Test.YtmepahlmbopacaaDoorRows
import GoSem.ClaimSeven
namespace Go.Proofs.YtmepahlmbopacaaDoor
namespace Rows

/-- THE TIED CARD OF 'ploverlaw12.ChartPlans'. -/
def chartPlansCard : Claim7 := { stood := { row := chartPlansRow, standIns := [], harness := (true, "1d4263e6d30a60d4f9f326672fef666d84bfb8d01cd079659e22dc422e96ea2a"), looks := true }, kinds := [], alts := [], laidByText := true, laidKinds := [.data, .data, .data, .data], laidTests := true, laidLooks := .later }
def ChartPlansCardSaid : Prop := Claim7.holds Tryd.pinned (.plain (OpenSpec.ofChange chartPlansSpec)) chartPlansCard

/-- THE TIED CARD OF 'ploverlaw12.ChartRests'. -/
def chartRestsCard : Claim7 := { stood := { row := chartRestsRow, standIns := [], harness := (true, "1d4263e6d30a60d4f9f326672fef666d84bfb8d01cd079659e22dc422e96ea2a"), looks := true }, kinds := [], alts := [], laidByText := true, laidKinds := [.data, .data, .data, .data], laidTests := true, laidLooks := .later }
def ChartRestsCardSaid : Prop := Claim7.holds Tryd.pinned (.plain (OpenSpec.ofChange chartRestsSpec)) chartRestsCard

/-- THE TIED CARD OF 'ploverlaw12.ChartTexts'. -/
def chartTextsCard : Claim7 := { stood := { row := chartTextsRow, standIns := [], harness := (true, "1d4263e6d30a60d4f9f326672fef666d84bfb8d01cd079659e22dc422e96ea2a"), looks := true }, kinds := [], alts := [], laidByText := true, laidKinds := [.data, .data, .data], laidTests := true, laidLooks := .later }
def ChartTextsCardSaid : Prop := Claim7.holds Tryd.pinned (.plain (OpenSpec.ofChange chartTextsSpec)) chartTextsCard

/-- THE SECOND FORM's CARD OF 'ploverlaw12.ChartPlans'. -/
def chartPlansUptoCard : Claim7 := { stood := { row := chartPlansUptoRow, standIns := [], harness := (true, "1d4263e6d30a60d4f9f326672fef666d84bfb8d01cd079659e22dc422e96ea2a"), looks := true }, kinds := [], alts := [], laidByText := true, laidKinds := [.data, .data, .data, .data], laidTests := true, laidLooks := .later }
def ChartPlansUptoCardSaid : Prop := Claim7.holds Tryd.pinned (.plain (OpenSpec.upto chartPlansSpec)) chartPlansUptoCard

/-- THE SECOND FORM's CARD OF 'ploverlaw12.ChartRests'. -/
def chartRestsUptoCard : Claim7 := { stood := { row := chartRestsUptoRow, standIns := [], harness := (true, "1d4263e6d30a60d4f9f326672fef666d84bfb8d01cd079659e22dc422e96ea2a"), looks := true }, kinds := [], alts := [], laidByText := true, laidKinds := [.data, .data, .data, .data], laidTests := true, laidLooks := .later }
def ChartRestsUptoCardSaid : Prop := Claim7.holds Tryd.pinned (.plain (OpenSpec.upto chartRestsSpec)) chartRestsUptoCard

/-- THE SECOND FORM's CARD OF 'ploverlaw12.ChartTexts'. -/
def chartTextsUptoCard : Claim7 := { stood := { row := chartTextsUptoRow, standIns := [], harness := (true, "1d4263e6d30a60d4f9f326672fef666d84bfb8d01cd079659e22dc422e96ea2a"), looks := true }, kinds := [], alts := [], laidByText := true, laidKinds := [.data, .data, .data], laidTests := true, laidLooks := .later }
def ChartTextsUptoCardSaid : Prop := Claim7.holds Tryd.pinned (.plain (OpenSpec.upto chartTextsSpec)) chartTextsUptoCard
end Rows
end Go.Proofs.YtmepahlmbopacaaDoor
