/-
  NARROWER THAN 'FOR EVERY INPUT', by the rows' own cells (each row's printed sentence says how): ShardSurvives: laid · ShardMoves: laid · ShardDisk: laid · ShardNobody: laid · ShardOnce: laid · ShardReopens: laid.
  DERIVED. THE GIVEN ROWS OF THIS SEAT. 6 by the template 'for every input the law returns true; each argument reads behind the call as it read before'; 0 by the template 'total and deterministic' (their statements: YtegjjhjgfkcbhaaGreatDoorTotals.lean).
  GIVEN WITH THE SEED: the statements are not yours to turn. If you find one false, say at which input.
  Laid BY PROGRAM, IN A SANDBOX (cutbox-rows.mjs): the forced cells as the released guide's own fill.sh prints them over the translation d06afb5c5791c043… (all of the seat's roots in one cut). By AI agents, Wed Nov 11 2026. No macro, syntax, notation, axiom, sorry.
-/
import Derived.Test.YtegjjhjgfkcbhaaGreatDoorChecked
import GoSem.Claim
import GoSem.ClaimJoined
import GoSem.ClaimMapViews
import Derived.JoinedTies
import Derived.KernelRfl
namespace Go.Proofs.YtegjjhjgfkcbhaaGreatDoor
/- THE CELL 'sum', in the pinned program and in every row, IS THE sha256 OF THE DUMP (.gsa) THAT YtegjjhjgfkcbhaaGreatDoorProg.lean LOADS. Nothing in Lean hashes anything: it is a label: what it is worth is what the hold of that sum in a sandbox is worth. -/
noncomputable def Tryz.pinned : Pinned := { name := "ytegjjhjgfkcbhaagreatdoor", sum := "d06afb5c5791c04393e94794fd0f010f4644a12b2fb4a9b0018a177772e9f042", checked := Tryz.checked }
namespace Rows
def none {H : Type} : Left H := { results := [], args := [] }

/- WHAT THE LISTED PACKAGE-LEVEL VARIABLES READ AS WHEN THE CALL BEGINS. Each datum BY PROGRAM (the guide's laid-datum.mjs) off the statement by which the dump's own 'gosem.cut.vars' lays the variable. In a bare row this is a premise. The card (YtegjjhjgfkcbhaaGreatDoorCards.lean) ties it to the program's text. -/
def laid_math_bits_deBruijn32tab {H : Type} : DataW H := .agg [.lit (.int .u8 0), .lit (.int .u8 1), .lit (.int .u8 28), .lit (.int .u8 2), .lit (.int .u8 29), .lit (.int .u8 14), .lit (.int .u8 24), .lit (.int .u8 3), .lit (.int .u8 30), .lit (.int .u8 22), .lit (.int .u8 20), .lit (.int .u8 15), .lit (.int .u8 25), .lit (.int .u8 17), .lit (.int .u8 4), .lit (.int .u8 8), .lit (.int .u8 31), .lit (.int .u8 27), .lit (.int .u8 13), .lit (.int .u8 23), .lit (.int .u8 21), .lit (.int .u8 19), .lit (.int .u8 16), .lit (.int .u8 7), .lit (.int .u8 26), .lit (.int .u8 12), .lit (.int .u8 18), .lit (.int .u8 6), .lit (.int .u8 11), .lit (.int .u8 5), .lit (.int .u8 10), .lit (.int .u8 9)]
def laid_math_bits_deBruijn64tab {H : Type} : DataW H := .agg [.lit (.int .u8 0), .lit (.int .u8 1), .lit (.int .u8 56), .lit (.int .u8 2), .lit (.int .u8 57), .lit (.int .u8 49), .lit (.int .u8 28), .lit (.int .u8 3), .lit (.int .u8 61), .lit (.int .u8 58), .lit (.int .u8 42), .lit (.int .u8 50), .lit (.int .u8 38), .lit (.int .u8 29), .lit (.int .u8 17), .lit (.int .u8 4), .lit (.int .u8 62), .lit (.int .u8 47), .lit (.int .u8 59), .lit (.int .u8 36), .lit (.int .u8 45), .lit (.int .u8 43), .lit (.int .u8 51), .lit (.int .u8 22), .lit (.int .u8 53), .lit (.int .u8 39), .lit (.int .u8 33), .lit (.int .u8 30), .lit (.int .u8 24), .lit (.int .u8 18), .lit (.int .u8 12), .lit (.int .u8 5), .lit (.int .u8 63), .lit (.int .u8 55), .lit (.int .u8 48), .lit (.int .u8 27), .lit (.int .u8 60), .lit (.int .u8 41), .lit (.int .u8 37), .lit (.int .u8 16), .lit (.int .u8 46), .lit (.int .u8 35), .lit (.int .u8 44), .lit (.int .u8 21), .lit (.int .u8 52), .lit (.int .u8 32), .lit (.int .u8 23), .lit (.int .u8 11), .lit (.int .u8 54), .lit (.int .u8 26), .lit (.int .u8 40), .lit (.int .u8 15), .lit (.int .u8 34), .lit (.int .u8 20), .lit (.int .u8 31), .lit (.int .u8 10), .lit (.int .u8 25), .lit (.int .u8 14), .lit (.int .u8 19), .lit (.int .u8 9), .lit (.int .u8 13), .lit (.int .u8 8), .lit (.int .u8 7), .lit (.int .u8 6)]
def laid_internal_strconv_uint64pow10 {H : Type} : DataW H := .agg [.lit (.int .u64 1), .lit (.int .u64 10), .lit (.int .u64 100), .lit (.int .u64 1000), .lit (.int .u64 10000), .lit (.int .u64 100000), .lit (.int .u64 1000000), .lit (.int .u64 10000000), .lit (.int .u64 100000000), .lit (.int .u64 1000000000), .lit (.int .u64 10000000000), .lit (.int .u64 100000000000), .lit (.int .u64 1000000000000), .lit (.int .u64 10000000000000), .lit (.int .u64 100000000000000), .lit (.int .u64 1000000000000000), .lit (.int .u64 10000000000000000), .lit (.int .u64 100000000000000000), .lit (.int .u64 1000000000000000000), .lit (.int .u64 10000000000000000000)]
def laid_plover_crc_left {H : Type} : DataW H := .agg [.lit (.int .i64 0), .lit (.int .i64 8801531), .lit (.int .i64 9098509), .lit (.int .i64 825846), .lit (.int .i64 9692897), .lit (.int .i64 1419802), .lit (.int .i64 1651692), .lit (.int .i64 10452759), .lit (.int .i64 10584377), .lit (.int .i64 2608578), .lit (.int .i64 2839604), .lit (.int .i64 11344079), .lit (.int .i64 3303384), .lit (.int .i64 11807523), .lit (.int .i64 12104405), .lit (.int .i64 4128302)]

/-- 'ploverlaw10.ShardSurvives': WHATEVER THE INPUT: true; the input reads as it did. -/
def shardSurvivesSpec : ChangeSpec := { name := "shardSurvives", fn := fun _ => fun
  | [d1, d2, d3] => { results := [.lit (.bool true)], args := [d1, d2, d3] }
  | _ => none }
def shardSurvivesRow : OpenClaim := { program := "ytegjjhjgfkcbhaagreatdoor", sum := "d06afb5c5791c04393e94794fd0f010f4644a12b2fb4a9b0018a177772e9f042", func := "plover/ploverlaw10.ShardSurvives", spec := "shardSurvives", inPlace := ["internal/bytealg.IndexByteString", "internal/abi.NoEscape", "slices.overlaps[plover/api.Hit]"], unfollowed := true, recurses := true, named := ["plover/crc.left", "internal/strconv.uint64pow10", "math/bits.deBruijn32tab", "math/bits.deBruijn64tab"], apart := false, laid := [("math/bits.deBruijn32tab", laid_math_bits_deBruijn32tab), ("math/bits.deBruijn64tab", laid_math_bits_deBruijn64tab), ("internal/strconv.uint64pow10", laid_internal_strconv_uint64pow10), ("plover/crc.left", laid_plover_crc_left)] }
def ShardSurvivesSaid : Prop := shardSurvivesRow.holds Tryz.pinned (OpenSpec.ofChange shardSurvivesSpec)

/-- ITS FALSE NEIGHBOUR: 'it returns false'. Refute it at one input. -/
def shardSurvivesWrong : ChangeSpec := { name := "shardSurvives", fn := fun _ => fun
  | [d1, d2, d3] => { results := [.lit (.bool false)], args := [d1, d2, d3] }
  | _ => none }
def ShardSurvivesWrongFalsely : Prop := shardSurvivesRow.holds Tryz.pinned (OpenSpec.ofChange shardSurvivesWrong)

/-- 'ploverlaw10.ShardMoves': WHATEVER THE INPUT: true; the input reads as it did. -/
def shardMovesSpec : ChangeSpec := { name := "shardMoves", fn := fun _ => fun
  | [d1, d2, d3] => { results := [.lit (.bool true)], args := [d1, d2, d3] }
  | _ => none }
def shardMovesRow : OpenClaim := { program := "ytegjjhjgfkcbhaagreatdoor", sum := "d06afb5c5791c04393e94794fd0f010f4644a12b2fb4a9b0018a177772e9f042", func := "plover/ploverlaw10.ShardMoves", spec := "shardMoves", inPlace := ["internal/bytealg.IndexByteString", "internal/abi.NoEscape", "slices.overlaps[plover/api.Hit]"], unfollowed := true, recurses := true, named := ["plover/crc.left", "internal/strconv.uint64pow10", "math/bits.deBruijn32tab", "math/bits.deBruijn64tab"], apart := false, laid := [("math/bits.deBruijn32tab", laid_math_bits_deBruijn32tab), ("math/bits.deBruijn64tab", laid_math_bits_deBruijn64tab), ("internal/strconv.uint64pow10", laid_internal_strconv_uint64pow10), ("plover/crc.left", laid_plover_crc_left)] }
def ShardMovesSaid : Prop := shardMovesRow.holds Tryz.pinned (OpenSpec.ofChange shardMovesSpec)

/-- ITS FALSE NEIGHBOUR: 'it returns false'. Refute it at one input. -/
def shardMovesWrong : ChangeSpec := { name := "shardMoves", fn := fun _ => fun
  | [d1, d2, d3] => { results := [.lit (.bool false)], args := [d1, d2, d3] }
  | _ => none }
def ShardMovesWrongFalsely : Prop := shardMovesRow.holds Tryz.pinned (OpenSpec.ofChange shardMovesWrong)

/-- 'ploverlaw10.ShardDisk': WHATEVER THE INPUT: true; the input reads as it did. -/
def shardDiskSpec : ChangeSpec := { name := "shardDisk", fn := fun _ => fun
  | [d1, d2] => { results := [.lit (.bool true)], args := [d1, d2] }
  | _ => none }
def shardDiskRow : OpenClaim := { program := "ytegjjhjgfkcbhaagreatdoor", sum := "d06afb5c5791c04393e94794fd0f010f4644a12b2fb4a9b0018a177772e9f042", func := "plover/ploverlaw10.ShardDisk", spec := "shardDisk", inPlace := ["internal/bytealg.IndexByteString", "internal/abi.NoEscape", "slices.overlaps[plover/api.Hit]"], unfollowed := true, recurses := true, named := ["plover/crc.left", "internal/strconv.uint64pow10", "math/bits.deBruijn32tab", "math/bits.deBruijn64tab"], apart := false, laid := [("math/bits.deBruijn32tab", laid_math_bits_deBruijn32tab), ("math/bits.deBruijn64tab", laid_math_bits_deBruijn64tab), ("internal/strconv.uint64pow10", laid_internal_strconv_uint64pow10), ("plover/crc.left", laid_plover_crc_left)] }
def ShardDiskSaid : Prop := shardDiskRow.holds Tryz.pinned (OpenSpec.ofChange shardDiskSpec)

/-- ITS FALSE NEIGHBOUR: 'it returns false'. Refute it at one input. -/
def shardDiskWrong : ChangeSpec := { name := "shardDisk", fn := fun _ => fun
  | [d1, d2] => { results := [.lit (.bool false)], args := [d1, d2] }
  | _ => none }
def ShardDiskWrongFalsely : Prop := shardDiskRow.holds Tryz.pinned (OpenSpec.ofChange shardDiskWrong)

/-- 'ploverlaw10.ShardNobody': WHATEVER THE INPUT: true; the input reads as it did. -/
def shardNobodySpec : ChangeSpec := { name := "shardNobody", fn := fun _ => fun
  | [d1, d2, d3] => { results := [.lit (.bool true)], args := [d1, d2, d3] }
  | _ => none }
def shardNobodyRow : OpenClaim := { program := "ytegjjhjgfkcbhaagreatdoor", sum := "d06afb5c5791c04393e94794fd0f010f4644a12b2fb4a9b0018a177772e9f042", func := "plover/ploverlaw10.ShardNobody", spec := "shardNobody", inPlace := ["internal/bytealg.IndexByteString", "internal/abi.NoEscape", "slices.overlaps[plover/api.Hit]"], unfollowed := true, recurses := true, named := ["plover/crc.left", "internal/strconv.uint64pow10", "math/bits.deBruijn32tab", "math/bits.deBruijn64tab"], apart := false, laid := [("math/bits.deBruijn32tab", laid_math_bits_deBruijn32tab), ("math/bits.deBruijn64tab", laid_math_bits_deBruijn64tab), ("internal/strconv.uint64pow10", laid_internal_strconv_uint64pow10), ("plover/crc.left", laid_plover_crc_left)] }
def ShardNobodySaid : Prop := shardNobodyRow.holds Tryz.pinned (OpenSpec.ofChange shardNobodySpec)

/-- ITS FALSE NEIGHBOUR: 'it returns false'. Refute it at one input. -/
def shardNobodyWrong : ChangeSpec := { name := "shardNobody", fn := fun _ => fun
  | [d1, d2, d3] => { results := [.lit (.bool false)], args := [d1, d2, d3] }
  | _ => none }
def ShardNobodyWrongFalsely : Prop := shardNobodyRow.holds Tryz.pinned (OpenSpec.ofChange shardNobodyWrong)

/-- 'ploverlaw10.ShardOnce': WHATEVER THE INPUT: true; the input reads as it did. -/
def shardOnceSpec : ChangeSpec := { name := "shardOnce", fn := fun _ => fun
  | [d1, d2] => { results := [.lit (.bool true)], args := [d1, d2] }
  | _ => none }
def shardOnceRow : OpenClaim := { program := "ytegjjhjgfkcbhaagreatdoor", sum := "d06afb5c5791c04393e94794fd0f010f4644a12b2fb4a9b0018a177772e9f042", func := "plover/ploverlaw10.ShardOnce", spec := "shardOnce", inPlace := ["internal/bytealg.IndexByteString", "internal/abi.NoEscape", "slices.overlaps[plover/api.Hit]"], unfollowed := true, recurses := true, named := ["plover/crc.left", "internal/strconv.uint64pow10", "math/bits.deBruijn32tab", "math/bits.deBruijn64tab"], apart := false, laid := [("math/bits.deBruijn32tab", laid_math_bits_deBruijn32tab), ("math/bits.deBruijn64tab", laid_math_bits_deBruijn64tab), ("internal/strconv.uint64pow10", laid_internal_strconv_uint64pow10), ("plover/crc.left", laid_plover_crc_left)] }
def ShardOnceSaid : Prop := shardOnceRow.holds Tryz.pinned (OpenSpec.ofChange shardOnceSpec)

/-- ITS FALSE NEIGHBOUR: 'it returns false'. Refute it at one input. -/
def shardOnceWrong : ChangeSpec := { name := "shardOnce", fn := fun _ => fun
  | [d1, d2] => { results := [.lit (.bool false)], args := [d1, d2] }
  | _ => none }
def ShardOnceWrongFalsely : Prop := shardOnceRow.holds Tryz.pinned (OpenSpec.ofChange shardOnceWrong)

/-- 'ploverlaw10.ShardReopens': WHATEVER THE INPUT: true; the input reads as it did. -/
def shardReopensSpec : ChangeSpec := { name := "shardReopens", fn := fun _ => fun
  | [d1, d2, d3] => { results := [.lit (.bool true)], args := [d1, d2, d3] }
  | _ => none }
def shardReopensRow : OpenClaim := { program := "ytegjjhjgfkcbhaagreatdoor", sum := "d06afb5c5791c04393e94794fd0f010f4644a12b2fb4a9b0018a177772e9f042", func := "plover/ploverlaw10.ShardReopens", spec := "shardReopens", inPlace := ["internal/bytealg.IndexByteString", "internal/abi.NoEscape", "slices.overlaps[plover/api.Hit]"], unfollowed := true, recurses := true, named := ["plover/crc.left", "internal/strconv.uint64pow10", "math/bits.deBruijn32tab", "math/bits.deBruijn64tab"], apart := false, laid := [("math/bits.deBruijn32tab", laid_math_bits_deBruijn32tab), ("math/bits.deBruijn64tab", laid_math_bits_deBruijn64tab), ("internal/strconv.uint64pow10", laid_internal_strconv_uint64pow10), ("plover/crc.left", laid_plover_crc_left)] }
def ShardReopensSaid : Prop := shardReopensRow.holds Tryz.pinned (OpenSpec.ofChange shardReopensSpec)

/-- ITS FALSE NEIGHBOUR: 'it returns false'. Refute it at one input. -/
def shardReopensWrong : ChangeSpec := { name := "shardReopens", fn := fun _ => fun
  | [d1, d2, d3] => { results := [.lit (.bool false)], args := [d1, d2, d3] }
  | _ => none }
def ShardReopensWrongFalsely : Prop := shardReopensRow.holds Tryz.pinned (OpenSpec.ofChange shardReopensWrong)

/- THE SECOND FORM. 'bulk': how many values and letters a reading holds, each counted each time it is reached (what is shared counts as often as it is met; a slice's spare places count too). A statement '..UptoSaid' is the law's where the arguments, and the package variables that the reading takes, are together of bulk at most 1048576: NARROWER than '..Said'. Prove '..Said' where nothing that the law and all that it calls make is longer than what came in: it says more and counts as full. Else prove '..UptoSaid'. A law counts once. -/
mutual
def uptoBulk {H : Type} : DataW H → Nat
  | .lit (.string bytes) => bytes.length + 1
  | .lit _ => 1
  | .nil => 1
  | .ptr d => uptoBulk d + 1
  | .slice elems spare => uptoBulkAll elems + uptoBulkAll spare + 1
  | .agg parts => uptoBulkAll parts + 1
  | .iface _ d => uptoBulk d + 1
  | .map entries => uptoBulkEntries entries + 1
  | .held _ => 1
def uptoBulkAll {H : Type} : List (DataW H) → Nat
  | [] => 0
  | d :: r => uptoBulk d + uptoBulkAll r
def uptoBulkEntries {H : Type} : List (Lit × DataW H) → Nat
  | [] => 0
  | x :: r => uptoBulkEntry x + uptoBulkEntries r
def uptoBulkEntry {H : Type} : Lit × DataW H → Nat
  | (.string bytes, d) => bytes.length + uptoBulk d + 1
  | (_, d) => uptoBulk d + 1
 end
def uptoSmall : (H : Type) → List (DataW H) → Bool := fun _ ds => decide (uptoBulkAll ds ≤ 1048576)
def OpenSpec.upto (s : _root_.Go.ChangeSpec) : _root_.Go.OpenSpec := { _root_.Go.OpenSpec.ofChange s with cond := some uptoSmall }

/-- 'ploverlaw10.ShardSurvives', WHERE WHAT IT READS IS OF BULK AT MOST 1048576: true; the input reads as it did. -/
def shardSurvivesUptoRow : OpenClaim := { program := "ytegjjhjgfkcbhaagreatdoor", sum := "d06afb5c5791c04393e94794fd0f010f4644a12b2fb4a9b0018a177772e9f042", func := "plover/ploverlaw10.ShardSurvives", spec := "shardSurvives", inPlace := ["internal/bytealg.IndexByteString", "internal/abi.NoEscape", "slices.overlaps[plover/api.Hit]"], unfollowed := true, recurses := true, named := ["plover/crc.left", "internal/strconv.uint64pow10", "math/bits.deBruijn32tab", "math/bits.deBruijn64tab"], apart := false, laid := [("math/bits.deBruijn32tab", laid_math_bits_deBruijn32tab), ("math/bits.deBruijn64tab", laid_math_bits_deBruijn64tab), ("internal/strconv.uint64pow10", laid_internal_strconv_uint64pow10), ("plover/crc.left", laid_plover_crc_left)], narrowed := true }
def ShardSurvivesUptoSaid : Prop := shardSurvivesUptoRow.holds Tryz.pinned (OpenSpec.upto shardSurvivesSpec)

/-- 'ploverlaw10.ShardMoves', WHERE WHAT IT READS IS OF BULK AT MOST 1048576: true; the input reads as it did. -/
def shardMovesUptoRow : OpenClaim := { program := "ytegjjhjgfkcbhaagreatdoor", sum := "d06afb5c5791c04393e94794fd0f010f4644a12b2fb4a9b0018a177772e9f042", func := "plover/ploverlaw10.ShardMoves", spec := "shardMoves", inPlace := ["internal/bytealg.IndexByteString", "internal/abi.NoEscape", "slices.overlaps[plover/api.Hit]"], unfollowed := true, recurses := true, named := ["plover/crc.left", "internal/strconv.uint64pow10", "math/bits.deBruijn32tab", "math/bits.deBruijn64tab"], apart := false, laid := [("math/bits.deBruijn32tab", laid_math_bits_deBruijn32tab), ("math/bits.deBruijn64tab", laid_math_bits_deBruijn64tab), ("internal/strconv.uint64pow10", laid_internal_strconv_uint64pow10), ("plover/crc.left", laid_plover_crc_left)], narrowed := true }
def ShardMovesUptoSaid : Prop := shardMovesUptoRow.holds Tryz.pinned (OpenSpec.upto shardMovesSpec)

/-- 'ploverlaw10.ShardDisk', WHERE WHAT IT READS IS OF BULK AT MOST 1048576: true; the input reads as it did. -/
def shardDiskUptoRow : OpenClaim := { program := "ytegjjhjgfkcbhaagreatdoor", sum := "d06afb5c5791c04393e94794fd0f010f4644a12b2fb4a9b0018a177772e9f042", func := "plover/ploverlaw10.ShardDisk", spec := "shardDisk", inPlace := ["internal/bytealg.IndexByteString", "internal/abi.NoEscape", "slices.overlaps[plover/api.Hit]"], unfollowed := true, recurses := true, named := ["plover/crc.left", "internal/strconv.uint64pow10", "math/bits.deBruijn32tab", "math/bits.deBruijn64tab"], apart := false, laid := [("math/bits.deBruijn32tab", laid_math_bits_deBruijn32tab), ("math/bits.deBruijn64tab", laid_math_bits_deBruijn64tab), ("internal/strconv.uint64pow10", laid_internal_strconv_uint64pow10), ("plover/crc.left", laid_plover_crc_left)], narrowed := true }
def ShardDiskUptoSaid : Prop := shardDiskUptoRow.holds Tryz.pinned (OpenSpec.upto shardDiskSpec)

/-- 'ploverlaw10.ShardNobody', WHERE WHAT IT READS IS OF BULK AT MOST 1048576: true; the input reads as it did. -/
def shardNobodyUptoRow : OpenClaim := { program := "ytegjjhjgfkcbhaagreatdoor", sum := "d06afb5c5791c04393e94794fd0f010f4644a12b2fb4a9b0018a177772e9f042", func := "plover/ploverlaw10.ShardNobody", spec := "shardNobody", inPlace := ["internal/bytealg.IndexByteString", "internal/abi.NoEscape", "slices.overlaps[plover/api.Hit]"], unfollowed := true, recurses := true, named := ["plover/crc.left", "internal/strconv.uint64pow10", "math/bits.deBruijn32tab", "math/bits.deBruijn64tab"], apart := false, laid := [("math/bits.deBruijn32tab", laid_math_bits_deBruijn32tab), ("math/bits.deBruijn64tab", laid_math_bits_deBruijn64tab), ("internal/strconv.uint64pow10", laid_internal_strconv_uint64pow10), ("plover/crc.left", laid_plover_crc_left)], narrowed := true }
def ShardNobodyUptoSaid : Prop := shardNobodyUptoRow.holds Tryz.pinned (OpenSpec.upto shardNobodySpec)

/-- 'ploverlaw10.ShardOnce', WHERE WHAT IT READS IS OF BULK AT MOST 1048576: true; the input reads as it did. -/
def shardOnceUptoRow : OpenClaim := { program := "ytegjjhjgfkcbhaagreatdoor", sum := "d06afb5c5791c04393e94794fd0f010f4644a12b2fb4a9b0018a177772e9f042", func := "plover/ploverlaw10.ShardOnce", spec := "shardOnce", inPlace := ["internal/bytealg.IndexByteString", "internal/abi.NoEscape", "slices.overlaps[plover/api.Hit]"], unfollowed := true, recurses := true, named := ["plover/crc.left", "internal/strconv.uint64pow10", "math/bits.deBruijn32tab", "math/bits.deBruijn64tab"], apart := false, laid := [("math/bits.deBruijn32tab", laid_math_bits_deBruijn32tab), ("math/bits.deBruijn64tab", laid_math_bits_deBruijn64tab), ("internal/strconv.uint64pow10", laid_internal_strconv_uint64pow10), ("plover/crc.left", laid_plover_crc_left)], narrowed := true }
def ShardOnceUptoSaid : Prop := shardOnceUptoRow.holds Tryz.pinned (OpenSpec.upto shardOnceSpec)

/-- 'ploverlaw10.ShardReopens', WHERE WHAT IT READS IS OF BULK AT MOST 1048576: true; the input reads as it did. -/
def shardReopensUptoRow : OpenClaim := { program := "ytegjjhjgfkcbhaagreatdoor", sum := "d06afb5c5791c04393e94794fd0f010f4644a12b2fb4a9b0018a177772e9f042", func := "plover/ploverlaw10.ShardReopens", spec := "shardReopens", inPlace := ["internal/bytealg.IndexByteString", "internal/abi.NoEscape", "slices.overlaps[plover/api.Hit]"], unfollowed := true, recurses := true, named := ["plover/crc.left", "internal/strconv.uint64pow10", "math/bits.deBruijn32tab", "math/bits.deBruijn64tab"], apart := false, laid := [("math/bits.deBruijn32tab", laid_math_bits_deBruijn32tab), ("math/bits.deBruijn64tab", laid_math_bits_deBruijn64tab), ("internal/strconv.uint64pow10", laid_internal_strconv_uint64pow10), ("plover/crc.left", laid_plover_crc_left)], narrowed := true }
def ShardReopensUptoSaid : Prop := shardReopensUptoRow.holds Tryz.pinned (OpenSpec.upto shardReopensSpec)

end Rows
end Go.Proofs.YtegjjhjgfkcbhaaGreatDoor
