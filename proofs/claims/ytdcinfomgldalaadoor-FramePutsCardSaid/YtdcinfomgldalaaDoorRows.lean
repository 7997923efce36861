/-
  NARROWER THAN 'FOR EVERY INPUT', by the rows' own cells (each row's printed sentence says how): FramePuts: laid · FrameReads: laid · FrameCuts: laid · FrameTells: laid · FrameLong: laid · FrameTwice: laid.
  DERIVED. THE GIVEN ROWS OF THIS SEAT. 6 by the template 'for every input the law returns true; each argument reads behind the call as it read before'; 0 by the template 'total and deterministic' (their statements: YtdcinfomgldalaaDoorTotals.lean).
  GIVEN WITH THE SEED: the statements are not yours to turn. If you find one false, say at which input.
  Laid BY PROGRAM, IN A SANDBOX (cutbox-rows.mjs): the forced cells as the released guide's own fill.sh prints them over the translation d442846787862fbd… (all of the seat's roots in one cut). By AI agents, Wed Nov 11 2026. No macro, syntax, notation, axiom, sorry.
-/
import Derived.Test.YtdcinfomgldalaaDoorChecked
import GoSem.Claim
import GoSem.ClaimJoined
import GoSem.ClaimMapViews
import Derived.JoinedTies
import Derived.KernelRfl
namespace Go.Proofs.YtdcinfomgldalaaDoor
/- THE CELL 'sum', in the pinned program and in every row, IS THE sha256 OF THE DUMP (.gsa) THAT YtdcinfomgldalaaDoorProg.lean LOADS. Nothing in Lean hashes anything: it is a label: what it is worth is what the hold of that sum in a sandbox is worth. -/
noncomputable def Tryd.pinned : Pinned := { name := "ytdcinfomgldalaadoor", sum := "d442846787862fbd7a073d20b1749bf1187284f58636914181abe88ec3f218e7", checked := Tryd.checked }
namespace Rows
def none {H : Type} : Left H := { results := [], args := [] }

/- WHAT THE LISTED PACKAGE-LEVEL VARIABLES READ AS WHEN THE CALL BEGINS. Each datum BY PROGRAM (the guide's laid-datum.mjs) off the statement by which the dump's own 'gosem.cut.vars' lays the variable. In a bare row this is a premise. The card (YtdcinfomgldalaaDoorCards.lean) ties it to the program's text. -/
def laid_plover_crc_left {H : Type} : DataW H := .agg [.lit (.int .i64 0), .lit (.int .i64 8801531), .lit (.int .i64 9098509), .lit (.int .i64 825846), .lit (.int .i64 9692897), .lit (.int .i64 1419802), .lit (.int .i64 1651692), .lit (.int .i64 10452759), .lit (.int .i64 10584377), .lit (.int .i64 2608578), .lit (.int .i64 2839604), .lit (.int .i64 11344079), .lit (.int .i64 3303384), .lit (.int .i64 11807523), .lit (.int .i64 12104405), .lit (.int .i64 4128302)]

/-- 'ploverlaw04.FramePuts': WHATEVER THE INPUT: true; the input reads as it did. -/
def framePutsSpec : ChangeSpec := { name := "framePuts", fn := fun _ => fun
  | [d1, d2] => { results := [.lit (.bool true)], args := [d1, d2] }
  | _ => none }
def framePutsRow : OpenClaim := { program := "ytdcinfomgldalaadoor", sum := "d442846787862fbd7a073d20b1749bf1187284f58636914181abe88ec3f218e7", func := "plover/ploverlaw04.FramePuts", spec := "framePuts", inPlace := ["internal/bytealg.IndexByteString"], unfollowed := true, recurses := true, named := ["plover/crc.left"], apart := false, laid := [("plover/crc.left", laid_plover_crc_left)] }
def FramePutsSaid : Prop := framePutsRow.holds Tryd.pinned (OpenSpec.ofChange framePutsSpec)

/-- ITS FALSE NEIGHBOUR: 'it returns false'. Refute it at one input. -/
def framePutsWrong : ChangeSpec := { name := "framePuts", fn := fun _ => fun
  | [d1, d2] => { results := [.lit (.bool false)], args := [d1, d2] }
  | _ => none }
def FramePutsWrongFalsely : Prop := framePutsRow.holds Tryd.pinned (OpenSpec.ofChange framePutsWrong)

/-- 'ploverlaw04.FrameReads': WHATEVER THE INPUT: true; the input reads as it did. -/
def frameReadsSpec : ChangeSpec := { name := "frameReads", fn := fun _ => fun
  | [d] => { results := [.lit (.bool true)], args := [d] }
  | _ => none }
def frameReadsRow : OpenClaim := { program := "ytdcinfomgldalaadoor", sum := "d442846787862fbd7a073d20b1749bf1187284f58636914181abe88ec3f218e7", func := "plover/ploverlaw04.FrameReads", spec := "frameReads", inPlace := ["internal/bytealg.IndexByteString"], unfollowed := true, recurses := true, named := ["plover/crc.left"], apart := false, laid := [("plover/crc.left", laid_plover_crc_left)] }
def FrameReadsSaid : Prop := frameReadsRow.holds Tryd.pinned (OpenSpec.ofChange frameReadsSpec)

/-- ITS FALSE NEIGHBOUR: 'it returns false'. Refute it at one input. -/
def frameReadsWrong : ChangeSpec := { name := "frameReads", fn := fun _ => fun
  | [d] => { results := [.lit (.bool false)], args := [d] }
  | _ => none }
def FrameReadsWrongFalsely : Prop := frameReadsRow.holds Tryd.pinned (OpenSpec.ofChange frameReadsWrong)

/-- 'ploverlaw04.FrameCuts': WHATEVER THE INPUT: true; the input reads as it did. -/
def frameCutsSpec : ChangeSpec := { name := "frameCuts", fn := fun _ => fun
  | [d1, d2] => { results := [.lit (.bool true)], args := [d1, d2] }
  | _ => none }
def frameCutsRow : OpenClaim := { program := "ytdcinfomgldalaadoor", sum := "d442846787862fbd7a073d20b1749bf1187284f58636914181abe88ec3f218e7", func := "plover/ploverlaw04.FrameCuts", spec := "frameCuts", inPlace := ["internal/bytealg.IndexByteString"], unfollowed := true, recurses := true, named := ["plover/crc.left"], apart := false, laid := [("plover/crc.left", laid_plover_crc_left)] }
def FrameCutsSaid : Prop := frameCutsRow.holds Tryd.pinned (OpenSpec.ofChange frameCutsSpec)

/-- ITS FALSE NEIGHBOUR: 'it returns false'. Refute it at one input. -/
def frameCutsWrong : ChangeSpec := { name := "frameCuts", fn := fun _ => fun
  | [d1, d2] => { results := [.lit (.bool false)], args := [d1, d2] }
  | _ => none }
def FrameCutsWrongFalsely : Prop := frameCutsRow.holds Tryd.pinned (OpenSpec.ofChange frameCutsWrong)

/-- 'ploverlaw04.FrameTells': WHATEVER THE INPUT: true; the input reads as it did. -/
def frameTellsSpec : ChangeSpec := { name := "frameTells", fn := fun _ => fun
  | [d1, d2, d3] => { results := [.lit (.bool true)], args := [d1, d2, d3] }
  | _ => none }
def frameTellsRow : OpenClaim := { program := "ytdcinfomgldalaadoor", sum := "d442846787862fbd7a073d20b1749bf1187284f58636914181abe88ec3f218e7", func := "plover/ploverlaw04.FrameTells", spec := "frameTells", inPlace := ["internal/bytealg.IndexByteString"], unfollowed := true, recurses := true, named := ["plover/crc.left"], apart := false, laid := [("plover/crc.left", laid_plover_crc_left)] }
def FrameTellsSaid : Prop := frameTellsRow.holds Tryd.pinned (OpenSpec.ofChange frameTellsSpec)

/-- ITS FALSE NEIGHBOUR: 'it returns false'. Refute it at one input. -/
def frameTellsWrong : ChangeSpec := { name := "frameTells", fn := fun _ => fun
  | [d1, d2, d3] => { results := [.lit (.bool false)], args := [d1, d2, d3] }
  | _ => none }
def FrameTellsWrongFalsely : Prop := frameTellsRow.holds Tryd.pinned (OpenSpec.ofChange frameTellsWrong)

/-- 'ploverlaw04.FrameLong': WHATEVER THE INPUT: true; the input reads as it did. -/
def frameLongSpec : ChangeSpec := { name := "frameLong", fn := fun _ => fun
  | [d] => { results := [.lit (.bool true)], args := [d] }
  | _ => none }
def frameLongRow : OpenClaim := { program := "ytdcinfomgldalaadoor", sum := "d442846787862fbd7a073d20b1749bf1187284f58636914181abe88ec3f218e7", func := "plover/ploverlaw04.FrameLong", spec := "frameLong", inPlace := ["internal/bytealg.IndexByteString"], unfollowed := true, recurses := true, named := ["plover/crc.left"], apart := false, laid := [("plover/crc.left", laid_plover_crc_left)] }
def FrameLongSaid : Prop := frameLongRow.holds Tryd.pinned (OpenSpec.ofChange frameLongSpec)

/-- ITS FALSE NEIGHBOUR: 'it returns false'. Refute it at one input. -/
def frameLongWrong : ChangeSpec := { name := "frameLong", fn := fun _ => fun
  | [d] => { results := [.lit (.bool false)], args := [d] }
  | _ => none }
def FrameLongWrongFalsely : Prop := frameLongRow.holds Tryd.pinned (OpenSpec.ofChange frameLongWrong)

/-- 'ploverlaw04.FrameTwice': WHATEVER THE INPUT: true; the input reads as it did. -/
def frameTwiceSpec : ChangeSpec := { name := "frameTwice", fn := fun _ => fun
  | [d] => { results := [.lit (.bool true)], args := [d] }
  | _ => none }
def frameTwiceRow : OpenClaim := { program := "ytdcinfomgldalaadoor", sum := "d442846787862fbd7a073d20b1749bf1187284f58636914181abe88ec3f218e7", func := "plover/ploverlaw04.FrameTwice", spec := "frameTwice", inPlace := ["internal/bytealg.IndexByteString"], unfollowed := true, recurses := true, named := ["plover/crc.left"], apart := false, laid := [("plover/crc.left", laid_plover_crc_left)] }
def FrameTwiceSaid : Prop := frameTwiceRow.holds Tryd.pinned (OpenSpec.ofChange frameTwiceSpec)

/-- ITS FALSE NEIGHBOUR: 'it returns false'. Refute it at one input. -/
def frameTwiceWrong : ChangeSpec := { name := "frameTwice", fn := fun _ => fun
  | [d] => { results := [.lit (.bool false)], args := [d] }
  | _ => none }
def FrameTwiceWrongFalsely : Prop := frameTwiceRow.holds Tryd.pinned (OpenSpec.ofChange frameTwiceWrong)

/- THE SECOND FORM. 'bulk': how many values and letters a reading holds, each counted each time it is reached (what is shared counts as often as it is met; a slice's spare places count too). A statement '..UptoSaid' is the law's where the arguments, and the package variables that the reading takes, are together of bulk at most 1048576: NARROWER than '..Said'. Prove '..Said' where nothing that the law and all that it calls make is longer than what came in: it says more and counts as full. Else prove '..UptoSaid'. A law counts once. -/
mutual
def uptoBulk {H : Type} : DataW H → Nat
  | .lit (.string bytes) => bytes.length + 1
  | .lit _ => 1
  | .nil => 1
  | .ptr d => uptoBulk d + 1
  | .slice elems spare => uptoBulkAll elems + uptoBulkAll spare + 1
  | .agg parts => uptoBulkAll parts + 1
  | .iface _ d => uptoBulk d + 1
  | .map entries => uptoBulkEntries entries + 1
  | .held _ => 1
def uptoBulkAll {H : Type} : List (DataW H) → Nat
  | [] => 0
  | d :: r => uptoBulk d + uptoBulkAll r
def uptoBulkEntries {H : Type} : List (Lit × DataW H) → Nat
  | [] => 0
  | x :: r => uptoBulkEntry x + uptoBulkEntries r
def uptoBulkEntry {H : Type} : Lit × DataW H → Nat
  | (.string bytes, d) => bytes.length + uptoBulk d + 1
  | (_, d) => uptoBulk d + 1
 end
def uptoSmall : (H : Type) → List (DataW H) → Bool := fun _ ds => decide (uptoBulkAll ds ≤ 1048576)
def OpenSpec.upto (s : _root_.Go.ChangeSpec) : _root_.Go.OpenSpec := { _root_.Go.OpenSpec.ofChange s with cond := some uptoSmall }

/-- 'ploverlaw04.FramePuts', WHERE WHAT IT READS IS OF BULK AT MOST 1048576: true; the input reads as it did. -/
def framePutsUptoRow : OpenClaim := { program := "ytdcinfomgldalaadoor", sum := "d442846787862fbd7a073d20b1749bf1187284f58636914181abe88ec3f218e7", func := "plover/ploverlaw04.FramePuts", spec := "framePuts", inPlace := ["internal/bytealg.IndexByteString"], unfollowed := true, recurses := true, named := ["plover/crc.left"], apart := false, laid := [("plover/crc.left", laid_plover_crc_left)], narrowed := true }
def FramePutsUptoSaid : Prop := framePutsUptoRow.holds Tryd.pinned (OpenSpec.upto framePutsSpec)

/-- 'ploverlaw04.FrameReads', WHERE WHAT IT READS IS OF BULK AT MOST 1048576: true; the input reads as it did. -/
def frameReadsUptoRow : OpenClaim := { program := "ytdcinfomgldalaadoor", sum := "d442846787862fbd7a073d20b1749bf1187284f58636914181abe88ec3f218e7", func := "plover/ploverlaw04.FrameReads", spec := "frameReads", inPlace := ["internal/bytealg.IndexByteString"], unfollowed := true, recurses := true, named := ["plover/crc.left"], apart := false, laid := [("plover/crc.left", laid_plover_crc_left)], narrowed := true }
def FrameReadsUptoSaid : Prop := frameReadsUptoRow.holds Tryd.pinned (OpenSpec.upto frameReadsSpec)

/-- 'ploverlaw04.FrameCuts', WHERE WHAT IT READS IS OF BULK AT MOST 1048576: true; the input reads as it did. -/
def frameCutsUptoRow : OpenClaim := { program := "ytdcinfomgldalaadoor", sum := "d442846787862fbd7a073d20b1749bf1187284f58636914181abe88ec3f218e7", func := "plover/ploverlaw04.FrameCuts", spec := "frameCuts", inPlace := ["internal/bytealg.IndexByteString"], unfollowed := true, recurses := true, named := ["plover/crc.left"], apart := false, laid := [("plover/crc.left", laid_plover_crc_left)], narrowed := true }
def FrameCutsUptoSaid : Prop := frameCutsUptoRow.holds Tryd.pinned (OpenSpec.upto frameCutsSpec)

/-- 'ploverlaw04.FrameTells', WHERE WHAT IT READS IS OF BULK AT MOST 1048576: true; the input reads as it did. -/
def frameTellsUptoRow : OpenClaim := { program := "ytdcinfomgldalaadoor", sum := "d442846787862fbd7a073d20b1749bf1187284f58636914181abe88ec3f218e7", func := "plover/ploverlaw04.FrameTells", spec := "frameTells", inPlace := ["internal/bytealg.IndexByteString"], unfollowed := true, recurses := true, named := ["plover/crc.left"], apart := false, laid := [("plover/crc.left", laid_plover_crc_left)], narrowed := true }
def FrameTellsUptoSaid : Prop := frameTellsUptoRow.holds Tryd.pinned (OpenSpec.upto frameTellsSpec)

/-- 'ploverlaw04.FrameLong', WHERE WHAT IT READS IS OF BULK AT MOST 1048576: true; the input reads as it did. -/
def frameLongUptoRow : OpenClaim := { program := "ytdcinfomgldalaadoor", sum := "d442846787862fbd7a073d20b1749bf1187284f58636914181abe88ec3f218e7", func := "plover/ploverlaw04.FrameLong", spec := "frameLong", inPlace := ["internal/bytealg.IndexByteString"], unfollowed := true, recurses := true, named := ["plover/crc.left"], apart := false, laid := [("plover/crc.left", laid_plover_crc_left)], narrowed := true }
def FrameLongUptoSaid : Prop := frameLongUptoRow.holds Tryd.pinned (OpenSpec.upto frameLongSpec)

/-- 'ploverlaw04.FrameTwice', WHERE WHAT IT READS IS OF BULK AT MOST 1048576: true; the input reads as it did. -/
def frameTwiceUptoRow : OpenClaim := { program := "ytdcinfomgldalaadoor", sum := "d442846787862fbd7a073d20b1749bf1187284f58636914181abe88ec3f218e7", func := "plover/ploverlaw04.FrameTwice", spec := "frameTwice", inPlace := ["internal/bytealg.IndexByteString"], unfollowed := true, recurses := true, named := ["plover/crc.left"], apart := false, laid := [("plover/crc.left", laid_plover_crc_left)], narrowed := true }
def FrameTwiceUptoSaid : Prop := frameTwiceUptoRow.holds Tryd.pinned (OpenSpec.upto frameTwiceSpec)

end Rows
end Go.Proofs.YtdcinfomgldalaaDoor
