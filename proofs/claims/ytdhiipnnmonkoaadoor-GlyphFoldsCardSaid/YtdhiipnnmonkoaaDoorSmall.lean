/- What the small functions on runes return: is, wide, great, letter, blank and their fellows. Conditions: none but that the numbers fit their kinds. -/
import Derived.Test.YtdhiipnnmonkoaaDoorChecked
import Derived.Test.YtdhiipnnmonkoaaDoorMath
import Derived.WalkKit
import Derived.BigQuiet
import Derived.Deep.QuietTactic
set_option linter.unusedVariables false
namespace Go.Proofs.YtdhiipnnmonkoaaDoor
open Go Go.RowKit

theorem ret_bool {a b : Bool} (h : a = b) : Ending.returned (.bool a) = .returned (.bool b) := by rw [h]
theorem ret_int {k : IntKind} {a b : Int} (h : a = b) : Ending.returned (.int k a) = .returned (.int k b) := by rw [h]

theorem is_any (n : Int) (w : World) : Calls Tryd.prog 33 #[.int .i64 n] w fun e w' => e = .returned (.bool (isR n)) ∧ w = w' := by
  by_cases h0 : 0 ≤ n
  · by_cases h1 : n ≤ 1114111
    · by_cases h2 : n < 55296
      · have e : isR n = true := by rw [isR_iff]; omega
        rw [e]
        go_enter Tryd.func33, Tryd.ntmps33
        go_wp2
        go_ret
        exact ⟨rfl, rfl⟩
      · by_cases h3 : 57343 < n
        · have e : isR n = true := by rw [isR_iff]; omega
          rw [e]
          go_enter Tryd.func33, Tryd.ntmps33
          go_wp2
          go_ret
          exact ⟨rfl, rfl⟩
        · have e : isR n = false := by rw [Bool.eq_false_iff, Ne, isR_iff]; omega
          rw [e]
          go_enter Tryd.func33, Tryd.ntmps33
          go_wp2
          go_ret
          exact ⟨rfl, rfl⟩
    · have e : isR n = false := by rw [Bool.eq_false_iff, Ne, isR_iff]; omega
      rw [e]
      go_enter Tryd.func33, Tryd.ntmps33
      go_wp2
      go_ret
      exact ⟨rfl, rfl⟩
  · have e : isR n = false := by rw [Bool.eq_false_iff, Ne, isR_iff]; omega
    rw [e]
    go_enter Tryd.func33, Tryd.ntmps33
    go_wp2
    go_ret
    exact ⟨rfl, rfl⟩

def greatB (n : Int) : Bool := decide ((65 ≤ n ∧ n ≤ 90) ∨ (192 ≤ n ∧ n ≤ 222 ∧ n ≠ 215) ∨ (913 ≤ n ∧ n ≤ 937 ∧ n ≠ 930) ∨ (1040 ≤ n ∧ n ≤ 1071))
theorem great_yes {n : Int} (h : (65 ≤ n ∧ n ≤ 90) ∨ (192 ≤ n ∧ n ≤ 222 ∧ n ≠ 215) ∨ (913 ≤ n ∧ n ≤ 937 ∧ n ≠ 930) ∨ (1040 ≤ n ∧ n ≤ 1071)) : greatB n = true := decide_eq_true h
theorem great_no {n : Int} (h : ¬ ((65 ≤ n ∧ n ≤ 90) ∨ (192 ≤ n ∧ n ≤ 222 ∧ n ≠ 215) ∨ (913 ≤ n ∧ n ≤ 937 ∧ n ≠ 930) ∨ (1040 ≤ n ∧ n ≤ 1071))) : greatB n = false := decide_eq_false h
theorem great_parts (n : Int) : n < 65 ∨ (65 ≤ n ∧ n ≤ 90) ∨ (90 < n ∧ n < 192) ∨ (192 ≤ n ∧ n < 215) ∨ n = 215 ∨ (215 < n ∧ n ≤ 222) ∨ (222 < n ∧ n < 913) ∨ (913 ≤ n ∧ n < 930) ∨ n = 930 ∨ (930 < n ∧ n ≤ 937) ∨ (937 < n ∧ n < 1040) ∨ (1040 ≤ n ∧ n ≤ 1071) ∨ 1071 < n := by omega

set_option maxHeartbeats 2000000 in
theorem great_any (n : Int) (w : World) : Calls Tryd.prog 37 #[.int .i64 n] w fun e w' => e = .returned (.bool (greatB n)) ∧ w = w' := by
  rcases great_parts n with h | ⟨h, h'⟩ | ⟨h, h'⟩ | ⟨h, h'⟩ | rfl | ⟨h, h'⟩ | ⟨h, h'⟩ | ⟨h, h'⟩ | rfl | ⟨h, h'⟩ | ⟨h, h'⟩ | ⟨h, h'⟩ | h
  all_goals
    first
      | rw [great_yes (by omega)]
      | rw [great_no (by omega)]
    go_enter Tryd.func37, Tryd.ntmps37
    go_wp2
    go_ret
    exact ⟨ret_bool (by first | rfl | (simp; omega)), rfl⟩
set_option maxHeartbeats 2000000 in
theorem isGreat_any (n : Int) (w : World) : Calls Tryd.prog 36 #[.int .i32 n] w fun e w' => e = .returned (.bool (greatB n)) ∧ w = w' := by
  rcases great_parts n with h | ⟨h, h'⟩ | ⟨h, h'⟩ | ⟨h, h'⟩ | rfl | ⟨h, h'⟩ | ⟨h, h'⟩ | ⟨h, h'⟩ | rfl | ⟨h, h'⟩ | ⟨h, h'⟩ | ⟨h, h'⟩ | h
  all_goals
    first
      | rw [great_yes (by omega)]
      | rw [great_no (by omega)]
    go_enter Tryd.func36, Tryd.ntmps36
    go_wp2
    go_ret
    exact ⟨ret_bool (by first | rfl | (simp; omega)), rfl⟩
end Go.Proofs.YtdhiipnnmonkoaaDoor
