/-
  No cell of these rows narrows 'for every input' (looked for: loops, veiled, ifaces, maps, wideKeys, modest, calm, conditions, laid).
  DERIVED. THE GIVEN ROWS OF THIS SEAT. 6 by the template 'for every input the law returns true; each argument reads behind the call as it read before'; 0 by the template 'total and deterministic' (their statements: YtikbgaomiliefaaTotals.lean).
  GIVEN WITH THE SEED: the statements are not yours to turn. If you find one false, say at which input.
  Laid BY PROGRAM, IN A SANDBOX (cutbox-rows.mjs): the forced cells as the released guide's own fill.sh prints them over the translation c1226a9e09d73ef0… (all of the seat's roots in one cut). By AI agents, Wed Nov 11 2026. No macro, syntax, notation, axiom, sorry.
-/
import Derived.Test.YtikbgaomiliefaaChecked
import GoSem.Claim
import GoSem.ClaimJoined
import GoSem.ClaimMapViews
import Derived.JoinedTies
import Derived.KernelRfl
namespace Go.Proofs.Ytikbgaomiliefaa
/- THE CELL 'sum', in the pinned program and in every row, IS THE sha256 OF THE DUMP (.gsa) THAT YtikbgaomiliefaaProg.lean LOADS. Nothing in Lean hashes anything: it is a label: what it is worth is what the hold of that sum in a sandbox is worth. -/
noncomputable def Try.pinned : Pinned := { name := "ytikbgaomiliefaa", sum := "c1226a9e09d73ef04c081cf80998a75f475da0f9fc4185073fb8acde365acac9", checked := Try.checked }
namespace Rows
def none {H : Type} : Left H := { results := [], args := [] }

/-- 'ploverlaw15.RoadPlays': WHATEVER THE INPUT: true; the input reads as it did. -/
def roadPlaysSpec : ChangeSpec := { name := "roadPlays", fn := fun _ => fun
  | [d1, d2] => { results := [.lit (.bool true)], args := [d1, d2] }
  | _ => none }
def roadPlaysRow : OpenClaim := { program := "ytikbgaomiliefaa", sum := "c1226a9e09d73ef04c081cf80998a75f475da0f9fc4185073fb8acde365acac9", func := "plover/ploverlaw15.RoadPlays", spec := "roadPlays", inPlace := ["slices.overlaps[plover/api.Letter]"], apart := false }
def RoadPlaysSaid : Prop := roadPlaysRow.holds Try.pinned (OpenSpec.ofChange roadPlaysSpec)

/-- ITS FALSE NEIGHBOUR: 'it returns false'. Refute it at one input. -/
def roadPlaysWrong : ChangeSpec := { name := "roadPlays", fn := fun _ => fun
  | [d1, d2] => { results := [.lit (.bool false)], args := [d1, d2] }
  | _ => none }
def RoadPlaysWrongFalsely : Prop := roadPlaysRow.holds Try.pinned (OpenSpec.ofChange roadPlaysWrong)

/-- 'ploverlaw15.RoadOrder': WHATEVER THE INPUT: true; the input reads as it did. -/
def roadOrderSpec : ChangeSpec := { name := "roadOrder", fn := fun _ => fun
  | [d] => { results := [.lit (.bool true)], args := [d] }
  | _ => none }
def roadOrderRow : OpenClaim := { program := "ytikbgaomiliefaa", sum := "c1226a9e09d73ef04c081cf80998a75f475da0f9fc4185073fb8acde365acac9", func := "plover/ploverlaw15.RoadOrder", spec := "roadOrder", apart := false }
def RoadOrderSaid : Prop := roadOrderRow.holds Try.pinned (OpenSpec.ofChange roadOrderSpec)

/-- ITS FALSE NEIGHBOUR: 'it returns false'. Refute it at one input. -/
def roadOrderWrong : ChangeSpec := { name := "roadOrder", fn := fun _ => fun
  | [d] => { results := [.lit (.bool false)], args := [d] }
  | _ => none }
def RoadOrderWrongFalsely : Prop := roadOrderRow.holds Try.pinned (OpenSpec.ofChange roadOrderWrong)

/-- 'ploverlaw15.RoadFull': WHATEVER THE INPUT: true; the input reads as it did. -/
def roadFullSpec : ChangeSpec := { name := "roadFull", fn := fun _ => fun
  | [d] => { results := [.lit (.bool true)], args := [d] }
  | _ => none }
def roadFullRow : OpenClaim := { program := "ytikbgaomiliefaa", sum := "c1226a9e09d73ef04c081cf80998a75f475da0f9fc4185073fb8acde365acac9", func := "plover/ploverlaw15.RoadFull", spec := "roadFull", inPlace := ["slices.overlaps[plover/api.Letter]"], apart := false }
def RoadFullSaid : Prop := roadFullRow.holds Try.pinned (OpenSpec.ofChange roadFullSpec)

/-- ITS FALSE NEIGHBOUR: 'it returns false'. Refute it at one input. -/
def roadFullWrong : ChangeSpec := { name := "roadFull", fn := fun _ => fun
  | [d] => { results := [.lit (.bool false)], args := [d] }
  | _ => none }
def RoadFullWrongFalsely : Prop := roadFullRow.holds Try.pinned (OpenSpec.ofChange roadFullWrong)

/-- 'ploverlaw15.RoadBack': WHATEVER THE INPUT: true; the input reads as it did. -/
def roadBackSpec : ChangeSpec := { name := "roadBack", fn := fun _ => fun
  | [d1, d2] => { results := [.lit (.bool true)], args := [d1, d2] }
  | _ => none }
def roadBackRow : OpenClaim := { program := "ytikbgaomiliefaa", sum := "c1226a9e09d73ef04c081cf80998a75f475da0f9fc4185073fb8acde365acac9", func := "plover/ploverlaw15.RoadBack", spec := "roadBack", inPlace := ["slices.overlaps[plover/api.Letter]"], apart := false }
def RoadBackSaid : Prop := roadBackRow.holds Try.pinned (OpenSpec.ofChange roadBackSpec)

/-- ITS FALSE NEIGHBOUR: 'it returns false'. Refute it at one input. -/
def roadBackWrong : ChangeSpec := { name := "roadBack", fn := fun _ => fun
  | [d1, d2] => { results := [.lit (.bool false)], args := [d1, d2] }
  | _ => none }
def RoadBackWrongFalsely : Prop := roadBackRow.holds Try.pinned (OpenSpec.ofChange roadBackWrong)

/-- 'ploverlaw15.RoadNobody': WHATEVER THE INPUT: true; the input reads as it did. -/
def roadNobodySpec : ChangeSpec := { name := "roadNobody", fn := fun _ => fun
  | [d1, d2] => { results := [.lit (.bool true)], args := [d1, d2] }
  | _ => none }
def roadNobodyRow : OpenClaim := { program := "ytikbgaomiliefaa", sum := "c1226a9e09d73ef04c081cf80998a75f475da0f9fc4185073fb8acde365acac9", func := "plover/ploverlaw15.RoadNobody", spec := "roadNobody", inPlace := ["slices.overlaps[plover/api.Letter]"], apart := false }
def RoadNobodySaid : Prop := roadNobodyRow.holds Try.pinned (OpenSpec.ofChange roadNobodySpec)

/-- ITS FALSE NEIGHBOUR: 'it returns false'. Refute it at one input. -/
def roadNobodyWrong : ChangeSpec := { name := "roadNobody", fn := fun _ => fun
  | [d1, d2] => { results := [.lit (.bool false)], args := [d1, d2] }
  | _ => none }
def RoadNobodyWrongFalsely : Prop := roadNobodyRow.holds Try.pinned (OpenSpec.ofChange roadNobodyWrong)

/-- 'ploverlaw15.RoadApart': WHATEVER THE INPUT: true; the input reads as it did. -/
def roadApartSpec : ChangeSpec := { name := "roadApart", fn := fun _ => fun
  | [d1, d2] => { results := [.lit (.bool true)], args := [d1, d2] }
  | _ => none }
def roadApartRow : OpenClaim := { program := "ytikbgaomiliefaa", sum := "c1226a9e09d73ef04c081cf80998a75f475da0f9fc4185073fb8acde365acac9", func := "plover/ploverlaw15.RoadApart", spec := "roadApart", inPlace := ["slices.overlaps[plover/api.Letter]"], apart := false }
def RoadApartSaid : Prop := roadApartRow.holds Try.pinned (OpenSpec.ofChange roadApartSpec)

/-- ITS FALSE NEIGHBOUR: 'it returns false'. Refute it at one input. -/
def roadApartWrong : ChangeSpec := { name := "roadApart", fn := fun _ => fun
  | [d1, d2] => { results := [.lit (.bool false)], args := [d1, d2] }
  | _ => none }
def RoadApartWrongFalsely : Prop := roadApartRow.holds Try.pinned (OpenSpec.ofChange roadApartWrong)

/- THE SECOND FORM. 'bulk': how many values and letters a reading holds, each counted each time it is reached (what is shared counts as often as it is met; a slice's spare places count too). A statement '..UptoSaid' is the law's where the arguments, and the package variables that the reading takes, are together of bulk at most 1048576: NARROWER than '..Said'. Prove '..Said' where nothing that the law and all that it calls make is longer than what came in: it says more and counts as full. Else prove '..UptoSaid'. A law counts once. -/
mutual
def uptoBulk {H : Type} : DataW H → Nat
  | .lit (.string bytes) => bytes.length + 1
  | .lit _ => 1
  | .nil => 1
  | .ptr d => uptoBulk d + 1
  | .slice elems spare => uptoBulkAll elems + uptoBulkAll spare + 1
  | .agg parts => uptoBulkAll parts + 1
  | .iface _ d => uptoBulk d + 1
  | .map entries => uptoBulkEntries entries + 1
  | .held _ => 1
def uptoBulkAll {H : Type} : List (DataW H) → Nat
  | [] => 0
  | d :: r => uptoBulk d + uptoBulkAll r
def uptoBulkEntries {H : Type} : List (Lit × DataW H) → Nat
  | [] => 0
  | x :: r => uptoBulkEntry x + uptoBulkEntries r
def uptoBulkEntry {H : Type} : Lit × DataW H → Nat
  | (.string bytes, d) => bytes.length + uptoBulk d + 1
  | (_, d) => uptoBulk d + 1
 end
def uptoSmall : (H : Type) → List (DataW H) → Bool := fun _ ds => decide (uptoBulkAll ds ≤ 1048576)
def OpenSpec.upto (s : _root_.Go.ChangeSpec) : _root_.Go.OpenSpec := { _root_.Go.OpenSpec.ofChange s with cond := some uptoSmall }

/-- 'ploverlaw15.RoadPlays', WHERE WHAT IT READS IS OF BULK AT MOST 1048576: true; the input reads as it did. -/
def roadPlaysUptoRow : OpenClaim := { program := "ytikbgaomiliefaa", sum := "c1226a9e09d73ef04c081cf80998a75f475da0f9fc4185073fb8acde365acac9", func := "plover/ploverlaw15.RoadPlays", spec := "roadPlays", inPlace := ["slices.overlaps[plover/api.Letter]"], apart := false, narrowed := true }
def RoadPlaysUptoSaid : Prop := roadPlaysUptoRow.holds Try.pinned (OpenSpec.upto roadPlaysSpec)

/-- 'ploverlaw15.RoadOrder', WHERE WHAT IT READS IS OF BULK AT MOST 1048576: true; the input reads as it did. -/
def roadOrderUptoRow : OpenClaim := { program := "ytikbgaomiliefaa", sum := "c1226a9e09d73ef04c081cf80998a75f475da0f9fc4185073fb8acde365acac9", func := "plover/ploverlaw15.RoadOrder", spec := "roadOrder", apart := false, narrowed := true }
def RoadOrderUptoSaid : Prop := roadOrderUptoRow.holds Try.pinned (OpenSpec.upto roadOrderSpec)

/-- 'ploverlaw15.RoadFull', WHERE WHAT IT READS IS OF BULK AT MOST 1048576: true; the input reads as it did. -/
def roadFullUptoRow : OpenClaim := { program := "ytikbgaomiliefaa", sum := "c1226a9e09d73ef04c081cf80998a75f475da0f9fc4185073fb8acde365acac9", func := "plover/ploverlaw15.RoadFull", spec := "roadFull", inPlace := ["slices.overlaps[plover/api.Letter]"], apart := false, narrowed := true }
def RoadFullUptoSaid : Prop := roadFullUptoRow.holds Try.pinned (OpenSpec.upto roadFullSpec)

/-- 'ploverlaw15.RoadBack', WHERE WHAT IT READS IS OF BULK AT MOST 1048576: true; the input reads as it did. -/
def roadBackUptoRow : OpenClaim := { program := "ytikbgaomiliefaa", sum := "c1226a9e09d73ef04c081cf80998a75f475da0f9fc4185073fb8acde365acac9", func := "plover/ploverlaw15.RoadBack", spec := "roadBack", inPlace := ["slices.overlaps[plover/api.Letter]"], apart := false, narrowed := true }
def RoadBackUptoSaid : Prop := roadBackUptoRow.holds Try.pinned (OpenSpec.upto roadBackSpec)

/-- 'ploverlaw15.RoadNobody', WHERE WHAT IT READS IS OF BULK AT MOST 1048576: true; the input reads as it did. -/
def roadNobodyUptoRow : OpenClaim := { program := "ytikbgaomiliefaa", sum := "c1226a9e09d73ef04c081cf80998a75f475da0f9fc4185073fb8acde365acac9", func := "plover/ploverlaw15.RoadNobody", spec := "roadNobody", inPlace := ["slices.overlaps[plover/api.Letter]"], apart := false, narrowed := true }
def RoadNobodyUptoSaid : Prop := roadNobodyUptoRow.holds Try.pinned (OpenSpec.upto roadNobodySpec)

/-- 'ploverlaw15.RoadApart', WHERE WHAT IT READS IS OF BULK AT MOST 1048576: true; the input reads as it did. -/
def roadApartUptoRow : OpenClaim := { program := "ytikbgaomiliefaa", sum := "c1226a9e09d73ef04c081cf80998a75f475da0f9fc4185073fb8acde365acac9", func := "plover/ploverlaw15.RoadApart", spec := "roadApart", inPlace := ["slices.overlaps[plover/api.Letter]"], apart := false, narrowed := true }
def RoadApartUptoSaid : Prop := roadApartUptoRow.holds Try.pinned (OpenSpec.upto roadApartSpec)

end Rows
end Go.Proofs.Ytikbgaomiliefaa
