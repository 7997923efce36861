/-
  DERIVED. GIVEN WITH THE SEED: THE CARDS: each row of YtegjjhjgfkcbhaaGreatDoorRows.lean that lists a variable, with what it lists TIED to the program's text (the seventh form; the later family's looks); each row that meets fmt, with fmt's text TOLD by the authors' own Lean function (tested against real Go, not proved from fmt's source: count such statements apart). THE CARD IS WHAT COUNTS. Prove the row's statement (the work); the ties are given (YtegjjhjgfkcbhaaGreatDoorTie.lean); close each card by the builder's one call (the guide's Derived/Test/ToyasCard.lean, 'card_holds'). Laid BY PROGRAM, IN A SANDBOX (cutbox-door.mjs). By AI agents, Wed Nov 11 2026. No macro, syntax, notation, axiom, sorry.
-/
import Derived.Test.YtegjjhjgfkcbhaaGreatDoorRows
import GoSem.ClaimSeven
namespace Go.Proofs.YtegjjhjgfkcbhaaGreatDoor
namespace Rows

/-- THE TIED CARD OF 'ploverlaw10.ShardSurvives'. -/
def shardSurvivesCard : Claim7 := { stood := { row := shardSurvivesRow, standIns := [], harness := (true, "618bdd8cbc1ef53bba7a0e1017d1214eba9873d8def9bd228b2724acb4b5b501"), looks := true }, kinds := [], alts := [], laidByText := true, laidKinds := [.data, .data, .data, .data], laidTests := true, laidLooks := .later }
def ShardSurvivesCardSaid : Prop := Claim7.holds Tryz.pinned (.plain (OpenSpec.ofChange shardSurvivesSpec)) shardSurvivesCard

/-- THE TIED CARD OF 'ploverlaw10.ShardMoves'. -/
def shardMovesCard : Claim7 := { stood := { row := shardMovesRow, standIns := [], harness := (true, "618bdd8cbc1ef53bba7a0e1017d1214eba9873d8def9bd228b2724acb4b5b501"), looks := true }, kinds := [], alts := [], laidByText := true, laidKinds := [.data, .data, .data, .data], laidTests := true, laidLooks := .later }
def ShardMovesCardSaid : Prop := Claim7.holds Tryz.pinned (.plain (OpenSpec.ofChange shardMovesSpec)) shardMovesCard

/-- THE TIED CARD OF 'ploverlaw10.ShardDisk'. -/
def shardDiskCard : Claim7 := { stood := { row := shardDiskRow, standIns := [], harness := (true, "618bdd8cbc1ef53bba7a0e1017d1214eba9873d8def9bd228b2724acb4b5b501"), looks := true }, kinds := [], alts := [], laidByText := true, laidKinds := [.data, .data, .data, .data], laidTests := true, laidLooks := .later }
def ShardDiskCardSaid : Prop := Claim7.holds Tryz.pinned (.plain (OpenSpec.ofChange shardDiskSpec)) shardDiskCard

/-- THE TIED CARD OF 'ploverlaw10.ShardNobody'. -/
def shardNobodyCard : Claim7 := { stood := { row := shardNobodyRow, standIns := [], harness := (true, "618bdd8cbc1ef53bba7a0e1017d1214eba9873d8def9bd228b2724acb4b5b501"), looks := true }, kinds := [], alts := [], laidByText := true, laidKinds := [.data, .data, .data, .data], laidTests := true, laidLooks := .later }
def ShardNobodyCardSaid : Prop := Claim7.holds Tryz.pinned (.plain (OpenSpec.ofChange shardNobodySpec)) shardNobodyCard

/-- THE TIED CARD OF 'ploverlaw10.ShardOnce'. -/
def shardOnceCard : Claim7 := { stood := { row := shardOnceRow, standIns := [], harness := (true, "618bdd8cbc1ef53bba7a0e1017d1214eba9873d8def9bd228b2724acb4b5b501"), looks := true }, kinds := [], alts := [], laidByText := true, laidKinds := [.data, .data, .data, .data], laidTests := true, laidLooks := .later }
def ShardOnceCardSaid : Prop := Claim7.holds Tryz.pinned (.plain (OpenSpec.ofChange shardOnceSpec)) shardOnceCard

/-- THE TIED CARD OF 'ploverlaw10.ShardReopens'. -/
def shardReopensCard : Claim7 := { stood := { row := shardReopensRow, standIns := [], harness := (true, "618bdd8cbc1ef53bba7a0e1017d1214eba9873d8def9bd228b2724acb4b5b501"), looks := true }, kinds := [], alts := [], laidByText := true, laidKinds := [.data, .data, .data, .data], laidTests := true, laidLooks := .later }
def ShardReopensCardSaid : Prop := Claim7.holds Tryz.pinned (.plain (OpenSpec.ofChange shardReopensSpec)) shardReopensCard

/-- THE SECOND FORM's CARD OF 'ploverlaw10.ShardSurvives'. -/
def shardSurvivesUptoCard : Claim7 := { stood := { row := shardSurvivesUptoRow, standIns := [], harness := (true, "618bdd8cbc1ef53bba7a0e1017d1214eba9873d8def9bd228b2724acb4b5b501"), looks := true }, kinds := [], alts := [], laidByText := true, laidKinds := [.data, .data, .data, .data], laidTests := true, laidLooks := .later }
def ShardSurvivesUptoCardSaid : Prop := Claim7.holds Tryz.pinned (.plain (OpenSpec.upto shardSurvivesSpec)) shardSurvivesUptoCard

/-- THE SECOND FORM's CARD OF 'ploverlaw10.ShardMoves'. -/
def shardMovesUptoCard : Claim7 := { stood := { row := shardMovesUptoRow, standIns := [], harness := (true, "618bdd8cbc1ef53bba7a0e1017d1214eba9873d8def9bd228b2724acb4b5b501"), looks := true }, kinds := [], alts := [], laidByText := true, laidKinds := [.data, .data, .data, .data], laidTests := true, laidLooks := .later }
def ShardMovesUptoCardSaid : Prop := Claim7.holds Tryz.pinned (.plain (OpenSpec.upto shardMovesSpec)) shardMovesUptoCard

/-- THE SECOND FORM's CARD OF 'ploverlaw10.ShardDisk'. -/
def shardDiskUptoCard : Claim7 := { stood := { row := shardDiskUptoRow, standIns := [], harness := (true, "618bdd8cbc1ef53bba7a0e1017d1214eba9873d8def9bd228b2724acb4b5b501"), looks := true }, kinds := [], alts := [], laidByText := true, laidKinds := [.data, .data, .data, .data], laidTests := true, laidLooks := .later }
def ShardDiskUptoCardSaid : Prop := Claim7.holds Tryz.pinned (.plain (OpenSpec.upto shardDiskSpec)) shardDiskUptoCard

/-- THE SECOND FORM's CARD OF 'ploverlaw10.ShardNobody'. -/
def shardNobodyUptoCard : Claim7 := { stood := { row := shardNobodyUptoRow, standIns := [], harness := (true, "618bdd8cbc1ef53bba7a0e1017d1214eba9873d8def9bd228b2724acb4b5b501"), looks := true }, kinds := [], alts := [], laidByText := true, laidKinds := [.data, .data, .data, .data], laidTests := true, laidLooks := .later }
def ShardNobodyUptoCardSaid : Prop := Claim7.holds Tryz.pinned (.plain (OpenSpec.upto shardNobodySpec)) shardNobodyUptoCard

/-- THE SECOND FORM's CARD OF 'ploverlaw10.ShardOnce'. -/
def shardOnceUptoCard : Claim7 := { stood := { row := shardOnceUptoRow, standIns := [], harness := (true, "618bdd8cbc1ef53bba7a0e1017d1214eba9873d8def9bd228b2724acb4b5b501"), looks := true }, kinds := [], alts := [], laidByText := true, laidKinds := [.data, .data, .data, .data], laidTests := true, laidLooks := .later }
def ShardOnceUptoCardSaid : Prop := Claim7.holds Tryz.pinned (.plain (OpenSpec.upto shardOnceSpec)) shardOnceUptoCard

/-- THE SECOND FORM's CARD OF 'ploverlaw10.ShardReopens'. -/
def shardReopensUptoCard : Claim7 := { stood := { row := shardReopensUptoRow, standIns := [], harness := (true, "618bdd8cbc1ef53bba7a0e1017d1214eba9873d8def9bd228b2724acb4b5b501"), looks := true }, kinds := [], alts := [], laidByText := true, laidKinds := [.data, .data, .data, .data], laidTests := true, laidLooks := .later }
def ShardReopensUptoCardSaid : Prop := Claim7.holds Tryz.pinned (.plain (OpenSpec.upto shardReopensSpec)) shardReopensUptoCard
end Rows
end Go.Proofs.YtegjjhjgfkcbhaaGreatDoor
