/- ShardNobody returns true for all dimensions, all changes and all texts, and changes nothing that was there. Conditions: package crc's table of four bits and strconv's powers of ten lie as the program's text lays them, which the card ties. -/
import Derived.Test.YtegjjhjgfkcbhaaGreatDoorG46
import Derived.Test.YtegjjhjgfkcbhaaGreatDoorTie
import Derived.Test.YtegjjhjgfkcbhaaGreatDoorCards
import Derived.ProofKit
import Derived.ShutString
import Derived.OpenShut
import Derived.ChangeOld
import Derived.Lay
import Derived.Lib.LaidTab
import Derived.Lib.SmallJoins
import Derived.Stop.LaidErr
import Derived.SevenTiedAt
import Derived.SliceStrings
namespace Go.Proofs.YtegjjhjgfkcbhaaGreatDoor
open Go Go.ChangeShapes Go.WideShapes Go.ChangeAt Go.RowKit
open Go.ChangeMaps (open_string shut_string)
set_option linter.unusedVariables false
set_option maxRecDepth 100000

theorem tabs_of_laid {W : World} {a b : DataW Unit} (h : laidMet Tryz.prog [("math/bits.deBruijn32tab", a), ("math/bits.deBruijn64tab", b), ("internal/strconv.uint64pow10", Rows.laid_internal_strconv_uint64pow10), ("plover/crc.left", Rows.laid_plover_crc_left)] W) : TabW W ∧ Tabs W W.heap.size :=
  ⟨tabW_of (Lib.tabIs_of_head (k := .i64) (zs := tabI) (g := 0) (t := 287) (e := 3) (n := 16) (by kernel_rfl) (by kernel_rfl) Tryz.underlying287 Tryz.underlying3 (by kernel_rfl) (by kernel_rfl) h.tail.tail.tail),
   Lib.tabBelow_of_tabIs (Lib.tabIs_of_head (g := 2) (t := 332) (e := 270) (n := 20) (by kernel_rfl) (by kernel_rfl) Tryz.underlying332 Tryz.underlying270 (by kernel_rfl) (by kernel_rfl) h.tail.tail)⟩
theorem open_Op {H : Type} {enc : TypeId × Value → H} {W : World} {spare : Nat → Bool} {v : Value} {d : DataW H} {p : List MemPlace} {hd : Bool} {r : Reach} {b0 : Nat} (hv : Value.okWide Tryz.prog W r b0 29 v) (h : DataW.Trod enc Tryz.prog W 0 spare hd 29 v d p) :
    ∃ (kd x K : Int) (A : Option Addr) (n c : Nat), v = .agg #[.int .i64 kd, .int .i64 x, .slice A n c, .int .i64 K] := by
  obtain ⟨v0, v1, v2, v3, y0, y1, y2, y3, n, e, _, _, h0, h1, h2, h3⟩ := Go.Joins.open_agg4 Tryz.underlying29 (by kernel_rfl) (by kernel_rfl) hv h
  obtain ⟨z0, g0, _, _⟩ := DataW.trod_int Tryz.underlying3 h0
  obtain ⟨z1, g1, _, _⟩ := DataW.trod_int Tryz.underlying3 h1
  obtain ⟨z3, g3, _, _⟩ := DataW.trod_int Tryz.underlying3 h3
  rcases Go.Deep.open_slice Tryz.underlying27 h2 with ⟨hcs, _⟩ | ⟨x, l, c, m, n, D, Pl, hcs, _⟩
  · simp at g0 g1 g3 hcs
    subst g0 g1 g3 hcs
    exact ⟨_, _, _, _, _, _, e⟩
  · simp at g0 g1 g3 hcs
    subst g0 g1 g3 hcs
    exact ⟨_, _, _, _, _, _, e⟩
theorem own_shardNobody : ownKnob Tryz.prog.godebug = none := by kernel_rfl
theorem laidOut_shardNobody : laidOutB Tryz.prog = true := by kernel_rfl
set_option maxRecDepth 100000 in
theorem lifted_shardNobody (os : Os) (started : os.Started) (H : Type) (enc : TypeId × Value → H) :
    ReturnsInHanded {} Tryz.checked os 6 .any (fun w args => (Rows.shardNobodySpec.pre enc Tryz.prog Tryz.f6 Rows.shardNobodyRow.domain false w args ∧ laidMetH Tryz.prog Rows.shardNobodyRow.laid w) ∧ sizedMet enc Tryz.prog Tryz.f6 (OpenSpec.ofChange Rows.shardNobodySpec) false w args)
      (Rows.shardNobodySpec.post enc Tryz.prog Tryz.f6 false true false false) := by
  refine returnsInHanded_of_change_and (C := Tryz.checked) (X := fun w _ => laidMetH Tryz.prog Rows.shardNobodyRow.laid w) (fun _ _ _ hh h => h.of_heap hh) own_shardNobody started (by kernel_rfl) Tryz.func6
    (ChangeSpec.witness_shaped (enc := enc) (C := Tryz.checked) (os := os) (X := fun w _ => laidMetH Tryz.prog Rows.shardNobodyRow.laid w) false (World.laidAll Tryz.prog os Rows.shardNobodyRow.laid) #[.int .i64 0, .agg #[.int .i64 0, .int .i64 0, .slice none 0 0, .int .i64 0], .string ByteArray.empty] 8 (World.laidAll_os _ _ _)
      (World.shaped_of_ZipB (by kernel_rfl) (by kernel_rfl)) (by kernel_rfl) (by kernel_rfl) (by kernel_rfl)
      (by rw [MakeChecks.laidMetH_plain _ _ _ (by kernel_rfl)]; exact laidMet_laidAll _ (by kernel_rfl) (by kernel_rfl))) ?_
  intro W base args ds gs before hval0 hW _ _ hL _
  have hval : ∀ (j : Nat) t v, Tryz.f6.params[j]? = some t → args[j]? = some v → Value.okWide Tryz.prog W .any base t v := hval0
  have hW' := hW
  obtain ⟨p, q, hA0, hV, rfl, hfr, _⟩ := hW
  have hA : DataW.TrodAll enc Tryz.prog W 0 (fun _ => true) true Tryz.f6.params.toList args.toList ds p := hA0
  rw [Tryz.params6] at hA hval
  obtain ⟨v0, vs0, d0, ds0, p0, q0, hargs, rfl, rfl, h0, r0⟩ := trodAll_cons hA
  obtain ⟨v1, vs1, d1, ds1, p1, q1, rfl, rfl, rfl, h1, r1⟩ := trodAll_cons r0
  obtain ⟨v2, vs2, d2, ds2, p2, q2, rfl, rfl, rfl, h2, r2⟩ := trodAll_cons r1
  obtain ⟨rfl, rfl, rfl⟩ := trodAll_nil r2
  obtain rfl : args = #[v0, v1, v2] := by cases args; simp_all
  obtain ⟨rfl, rfl⟩ := trodVars_none hV
  obtain ⟨a0, rfl, rfl, rfl, w0⟩ := open_int Tryz.underlying3 (hval 0 3 v0 rfl rfl) h0
  have k1 := h1
  have lt1 : ∀ x ∈ p1, x.block < W.heap.size := by obtain ⟨m, hm⟩ := k1; exact DataW.trod_lt m _ _ _ hm
  obtain ⟨kd1, x1, K1, A1, n1, c1, rfl⟩ := open_Op (hval 1 29 v1 rfl rfl) h1
  obtain ⟨a2, rfl, rfl, rfl, w2⟩ := open_string Tryz.underlying9 (hval 2 9 v2 rfl rfl) h2
  clear hA0 hval0
  rw [MakeChecks.laidMetH_plain _ _ _ (by kernel_rfl)] at hL
  have hT := tabs_of_laid hL
  refine (shardNobody_walk a0 kd1 x1 K1 A1 n1 c1 a2 W ⟨hT.1, hT.1.size, Nat.le_refl _⟩ hT.2).mono fun e W' ⟨he, bel⟩ => ?_
  subst he
  simp only [List.append_nil] at hW'
  exact ⟨_, rfl, _, _, _, [], _, [], hW', trodAll_mk1 (shut_bool Tryz.underlying4 _), (trodAll_cons_mk (shut_int Tryz.underlying3 w0) (trodAll_cons_mk (Below.trod laidOut_shardNobody (by kernel_rfl) (of_decide_eq_true (by kernel_rfl)) k1 bel lt1) (trodAll_cons_mk (shut_string Tryz.underlying9 w2) trodAll_mk0))), rfl, bel.frame _, fun h => by cases h⟩
theorem over_shardNobody : Rows.shardNobodyRow.holds Tryz.pinned (OpenSpec.ofChange Rows.shardNobodySpec) :=
  OpenClaim.holds_of_wide 6 Tryz.f6 rfl rfl rfl rfl rfl rfl rfl ⟨rfl, rfl, rfl, rfl, rfl⟩ rfl rfl rfl rfl rfl (by kernel_rfl) Tryz.func6 (by kernel_rfl)
    (of_decide_eq_true (by kernel_rfl)) (by unfold Func.isWrapper; first | (rw [if_pos (by decide +kernel)]; kernel_rfl) | (rw [if_neg (by decide +kernel)]; exact ⟨rfl, rfl⟩))
    (fun os started H enc _ => lifted_shardNobody os started H enc)
theorem shardNobody_card : Rows.ShardNobodyCardSaid :=
  Claim7.holds_tied_plain_at .later [] [.data, .data, .data, .data] true (true, "618bdd8cbc1ef53bba7a0e1017d1214eba9873d8def9bd228b2724acb4b5b501") true over_shardNobody (fun _ h => by cases h) (by kernel_rfl) (fun _ h => by cases h) shardNobody_row_tie rfl ⟨rfl, rfl⟩ (by kernel_rfl) rfl
    (fun f fn hf hfn => by
      obtain rfl : f = 6 := Option.some.inj ((show Tryz.prog.funcNamed "plover/ploverlaw10.ShardNobody" = some 6 by kernel_rfl).symm.trans hf) |>.symm
      obtain rfl : fn = Tryz.f6 := (Option.some.inj (Tryz.func6.symm.trans hfn)).symm
      exact ⟨by kernel_rfl, fun j t ht => by
        rw [Tryz.params6] at ht
        have hm : t ∈ [3, 29, 9] := by simpa using Array.mem_of_getElem? ht
        have hall : ([3, 29, 9].all fun u => !Tryz.prog.wantsStandIn u) = true := by kernel_rfl
        exact (show Tryz.prog.wantsStandIn t = false by simpa using List.all_eq_true.1 hall t hm)⟩)
    (by kernel_rfl)
#print axioms shardNobody_card
end Go.Proofs.YtegjjhjgfkcbhaaGreatDoor
