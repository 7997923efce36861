/- What take of the document's answers returns: the rune that bytes begin with, and how many bytes it has, or noughts. Conditions: at least one byte. -/
import Derived.Test.YtdhiipnnmonkoaaDoorSmallB
import Derived.LoopN
import Derived.BigCall
import Derived.OwnWalk
set_option linter.unusedVariables false
namespace Go.Proofs.YtdhiipnnmonkoaaDoor
open Go Go.RowKit Go.Lib

theorem ret2_int {k k' : IntKind} {a b c d : Int} (h : a = b) (g : c = d) : Ending.returned (.tuple #[.int k a, .int k' c]) = .returned (.tuple #[.int k b, .int k' d]) := by rw [h, g]
theorem is_yes (n : Int) (w : World) (h : isR n = true) : Calls Tryd.prog 33 #[.int .i64 n] w fun e w' => e = .returned (.bool true) ∧ w = w' := by
  have := is_any n w
  rw [h] at this
  exact this
theorem is_no (n : Int) (w : World) (h : isR n = false) : Calls Tryd.prog 33 #[.int .i64 n] w fun e w' => e = .returned (.bool false) ∧ w = w' := by
  have := is_any n w
  rw [h] at this
  exact this
theorem isR_yes {n : Int} (h : 0 ≤ n ∧ n ≤ 1114111 ∧ (n < 55296 ∨ 57343 < n)) : isR n = true := (isR_iff n).2 h
theorem isR_no {n : Int} (h : ¬ (0 ≤ n ∧ n ≤ 1114111 ∧ (n < 55296 ∨ 57343 < n))) : isR n = false := by rw [Bool.eq_false_iff, Ne, isR_iff]; exact h
theorem wide_1 (n : Int) (w : World) (h : n ≤ 127) : Calls Tryd.prog 45 #[.int .i64 n] w fun e w' => e = .returned (.int .i64 1) ∧ w = w' := by
  have := wide_any n w
  rw [show wideZ n = 1 by unfold wideZ; rw [if_pos h]] at this
  exact this
theorem wide_2 (n : Int) (w : World) (h : 127 < n ∧ n ≤ 2047) : Calls Tryd.prog 45 #[.int .i64 n] w fun e w' => e = .returned (.int .i64 2) ∧ w = w' := by
  have := wide_any n w
  rw [show wideZ n = 2 by unfold wideZ; rw [if_neg (by omega), if_pos h.2]] at this
  exact this
theorem wide_3 (n : Int) (w : World) (h : 2047 < n ∧ n ≤ 65535) : Calls Tryd.prog 45 #[.int .i64 n] w fun e w' => e = .returned (.int .i64 3) ∧ w = w' := by
  have := wide_any n w
  rw [show wideZ n = 3 by unfold wideZ; rw [if_neg (by omega), if_neg (by omega), if_pos h.2]] at this
  exact this
theorem wide_4 (n : Int) (w : World) (h : 65535 < n) : Calls Tryd.prog 45 #[.int .i64 n] w fun e w' => e = .returned (.int .i64 4) ∧ w = w' := by
  have := wide_any n w
  rw [show wideZ n = 4 by unfold wideZ; rw [if_neg (by omega), if_neg (by omega), if_neg (by omega)]] at this
  exact this

/-- What take hands back of N bytes that begin b0 b1 b2 b3. -/
def takeN (N b0 b1 b2 b3 : Nat) : Int × Int :=
  if (decodeN N b0 b1 b2 b3).1 = 65533 ∧ (decodeN N b0 b1 b2 b3).2 = 1 then (0, 0) else ((decodeN N b0 b1 b2 b3).1, (decodeN N b0 b1 b2 b3).2)
theorem takeN_bad {N b0 b1 b2 b3 : Nat} (h : decodeN N b0 b1 b2 b3 = (65533, 1)) : takeN N b0 b1 b2 b3 = (0, 0) := by unfold takeN; rw [h]; rfl
theorem takeN_ok {N b0 b1 b2 b3 r k : Nat} (h : decodeN N b0 b1 b2 b3 = (r, k)) (hn : ¬ (r = 65533 ∧ k = 1)) : takeN N b0 b1 b2 b3 = ((r : Int), (k : Int)) := by unfold takeN; rw [h, if_neg hn]
def TakePost (N b0 b1 b2 b3 : Nat) (w : World) (e : Ending) (w' : World) : Prop :=
  e = .returned (.tuple #[.int .i64 (takeN N b0 b1 b2 b3).1, .int .i64 (takeN N b0 b1 b2 b3).2]) ∧ w = w'
end Go.Proofs.YtdhiipnnmonkoaaDoor
