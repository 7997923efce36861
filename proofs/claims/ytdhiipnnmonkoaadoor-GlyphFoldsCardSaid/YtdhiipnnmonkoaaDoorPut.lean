/- What put of the document's answers returns: a new row with just the rune's bytes. Conditions: the number is a rune. -/
import Derived.Test.YtdhiipnnmonkoaaDoorSmallB
import Derived.Laws.BitsLemmas
import Derived.BigCall
import Derived.OwnWalk
set_option linter.unusedVariables false
namespace Go.Proofs.YtdhiipnnmonkoaaDoor
open Go Go.RowKit Go.Lib

theorem i64_and63 (n : Int) : bits .and .i64 n 63 = n % 64 := by
  have h63 : (BitVec.ofInt 64 63).toNat = 2 ^ 6 - 1 := by decide
  have key : (BitVec.ofInt 64 n &&& BitVec.ofInt 64 63).toNat = (n % ((2 ^ 64 : Nat) : Int)).toNat % 2 ^ 6 := by
    rw [BitVec.toNat_and, BitVec.toNat_ofInt, h63, Nat.and_two_pow_sub_one_eq_mod]
  show IntKind.i64.wrap ((BitVec.ofInt 64 n &&& BitVec.ofInt 64 63).toNat : Nat) = n % 64
  rw [key, IntKind.wrap_i64]
  omega

def PutPost (n : Int) (w : World) (e : Ending) (w' : World) : Prop :=
  e = .returned (.slice (some ⟨w.heap.size, 0, none⟩) (encodeRune n).length (encodeRune n).length) ∧ w' = w.alloc (.cells (Lib.runeCells n).toArray 5)

set_option maxHeartbeats 1000000 in
theorem put_any (n : Int) (w : World) (hn : isR n = true) : Calls Tryd.prog 34 #[.int .i64 n] w (PutPost n w) := by
  rw [isR_iff] at hn
  obtain ⟨h0, h1, hsur⟩ := hn
  have b0 := i64_and63 n
  have b1 := i64_and63 (n / 64)
  have b2 := i64_and63 (n / 4096)
  by_cases c1 : n ≤ 127
  · have e2 : wideZ n = 1 := by unfold wideZ; rw [if_pos c1]
    have hw := fun W => wide_any n W
    rw [e2] at hw
    clear e2
    go_enter Tryd.func34, Tryd.ntmps34
    go_wp2_with (go_at_call 45; refine (hw _).mono ?_; rintro e w' ⟨rfl, rfl⟩)
    go_ret
    have e1 := encodeRuneZ_one h0 c1
    refine ⟨?_, ?_⟩
    · simp [encodeRune, e1]
    · simp [runeCells, e1]
  · by_cases c2 : n ≤ 2047
    · have e2 : wideZ n = 2 := by unfold wideZ; rw [if_neg c1, if_pos c2]
      have hw := fun W => wide_any n W
      rw [e2] at hw
      clear e2
      go_enter Tryd.func34, Tryd.ntmps34
      go_wp2_with (go_at_call 45; refine (hw _).mono ?_; rintro e w' ⟨rfl, rfl⟩)
      go_ret
      have e1 := encodeRuneZ_two (r := n) (by omega) c2
      refine ⟨?_, ?_⟩
      · simp [encodeRune, e1]
      · simp [runeCells, e1]
        try omega
    · by_cases c3 : n ≤ 65535
      · have e2 : wideZ n = 3 := by unfold wideZ; rw [if_neg c1, if_neg c2, if_pos c3]
        have hw := fun W => wide_any n W
        rw [e2] at hw
        clear e2
        go_enter Tryd.func34, Tryd.ntmps34
        go_wp2_with (go_at_call 45; refine (hw _).mono ?_; rintro e w' ⟨rfl, rfl⟩)
        go_ret
        have e1 := encodeRuneZ_three (r := n) (by omega)
        refine ⟨?_, ?_⟩
        · simp [encodeRune, e1]
        · simp [runeCells, e1]
          try omega
      · have e2 : wideZ n = 4 := by unfold wideZ; rw [if_neg c1, if_neg c2, if_neg c3]
        have hw := fun W => wide_any n W
        rw [e2] at hw
        clear e2
        go_enter Tryd.func34, Tryd.ntmps34
        go_wp2_with (go_at_call 45; refine (hw _).mono ?_; rintro e w' ⟨rfl, rfl⟩)
        go_ret
        have e1 := encodeRuneZ_four (r := n) (by omega) h1
        refine ⟨?_, ?_⟩
        · simp [encodeRune, e1]
        · simp [runeCells, e1]
          try omega
end Go.Proofs.YtdhiipnnmonkoaaDoor
