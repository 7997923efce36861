/- What the small functions on letters and blanks return. Conditions: none but that the numbers fit their kinds. -/
import Derived.Test.YtdhiipnnmonkoaaDoorSmall
set_option linter.unusedVariables false
namespace Go.Proofs.YtdhiipnnmonkoaaDoor
open Go Go.RowKit

def letterB (n : Int) : Bool := greatB n || greatB (n - 32)
theorem letter_any (n : Int) (w : World) (h0 : -1000 ≤ n) (h1 : n ≤ 2147483647) : Calls Tryd.prog 43 #[.int .i64 n] w fun e w' => e = .returned (.bool (letterB n)) ∧ w = w' := by
  cases hg : greatB n with
  | true =>
    have e : letterB n = true := by simp [letterB, hg]
    rw [e]
    go_enter Tryd.func43, Tryd.ntmps43
    go_wp2_with (go_at_call 37; refine (great_any _ _).mono ?_; rintro e w' ⟨rfl, rfl⟩)
    go_ret
    exact ⟨ret_bool (by first | rfl | (simp [*]; done) | (simp; omega)), rfl⟩
  | false =>
    have e : letterB n = greatB (n - 32) := by simp [letterB, hg]
    rw [e]
    go_enter Tryd.func43, Tryd.ntmps43
    go_wp2_with (go_at_call 37; refine (great_any _ _).mono ?_; rintro e w' ⟨rfl, rfl⟩)
    go_ret
    exact ⟨ret_bool (by first | rfl | (simp [*]; done) | (simp; omega)), rfl⟩
theorem isLetter_any (n : Int) (w : World) (h0 : -1000 ≤ n) (h1 : n ≤ 2147483647) : Calls Tryd.prog 51 #[.int .i32 n] w fun e w' => e = .returned (.bool (letterB n)) ∧ w = w' := by
  cases hg : greatB n with
  | true =>
    have e : letterB n = true := by simp [letterB, hg]
    rw [e]
    go_enter Tryd.func51, Tryd.ntmps51
    go_wp2_with (go_at_call 36; refine (isGreat_any _ _).mono ?_; rintro e w' ⟨rfl, rfl⟩)
    go_ret
    exact ⟨ret_bool (by first | rfl | (simp [*]; done) | (simp; omega)), rfl⟩
  | false =>
    have e : letterB n = greatB (n - 32) := by simp [letterB, hg]
    rw [e]
    go_enter Tryd.func51, Tryd.ntmps51
    go_wp2_with (go_at_call 36; refine (isGreat_any _ _).mono ?_; rintro e w' ⟨rfl, rfl⟩)
    go_ret
    exact ⟨ret_bool (by first | rfl | (simp [*]; done) | (simp; omega)), rfl⟩
def blankB (n : Int) : Bool := decide (n = 9 ∨ n = 10 ∨ n = 13 ∨ n = 32 ∨ n = 160 ∨ n = 8195 ∨ n = 12288)
theorem blank_parts (n : Int) : n = 9 ∨ n = 10 ∨ n = 13 ∨ n = 32 ∨ n = 160 ∨ n = 8195 ∨ n = 12288 ∨ (n ≠ 9 ∧ n ≠ 10 ∧ n ≠ 13 ∧ n ≠ 32 ∧ n ≠ 160 ∧ n ≠ 8195 ∧ n ≠ 12288) := by omega
set_option maxHeartbeats 2000000 in
theorem blank_any (n : Int) (w : World) : Calls Tryd.prog 41 #[.int .i64 n] w fun e w' => e = .returned (.bool (blankB n)) ∧ w = w' := by
  rcases blank_parts n with rfl | rfl | rfl | rfl | rfl | rfl | rfl | ⟨h1, h2, h3, h4, h5, h6, h7⟩
  case inr.inr.inr.inr.inr.inr.inr =>
    have e : blankB n = false := decide_eq_false (by omega)
    rw [e]
    go_enter Tryd.func41, Tryd.ntmps41
    go_wp2
    go_ret
    exact ⟨ret_bool (by first | rfl | (simp [*]; done) | (simp; omega)), rfl⟩
  all_goals
    go_enter Tryd.func41, Tryd.ntmps41
    go_wp2
    go_ret
    exact ⟨ret_bool (by first | rfl | (simp [*]; done) | (simp; omega)), rfl⟩
set_option maxHeartbeats 2000000 in
theorem isBlank_any (n : Int) (w : World) : Calls Tryd.prog 38 #[.int .i32 n] w fun e w' => e = .returned (.bool (blankB n)) ∧ w = w' := by
  rcases blank_parts n with rfl | rfl | rfl | rfl | rfl | rfl | rfl | ⟨h1, h2, h3, h4, h5, h6, h7⟩
  case inr.inr.inr.inr.inr.inr.inr =>
    have e : blankB n = false := decide_eq_false (by omega)
    rw [e]
    go_enter Tryd.func38, Tryd.ntmps38
    go_wp2
    go_ret
    exact ⟨ret_bool (by first | rfl | (simp [*]; done) | (simp; omega)), rfl⟩
  all_goals
    go_enter Tryd.func38, Tryd.ntmps38
    go_wp2
    go_ret
    exact ⟨ret_bool (by first | rfl | (simp [*]; done) | (simp; omega)), rfl⟩
def wideZ (n : Int) : Int := if n ≤ 127 then 1 else if n ≤ 2047 then 2 else if n ≤ 65535 then 3 else 4
theorem wide_any (n : Int) (w : World) : Calls Tryd.prog 45 #[.int .i64 n] w fun e w' => e = .returned (.int .i64 (wideZ n)) ∧ w = w' := by
  by_cases h1 : n ≤ 127
  · have e : wideZ n = 1 := by unfold wideZ; rw [if_pos h1]
    rw [e]
    go_enter Tryd.func45, Tryd.ntmps45
    go_wp2
    go_ret
    exact ⟨rfl, rfl⟩
  · by_cases h2 : n ≤ 2047
    · have e : wideZ n = 2 := by unfold wideZ; rw [if_neg h1, if_pos h2]
      rw [e]
      go_enter Tryd.func45, Tryd.ntmps45
      go_wp2
      go_ret
      exact ⟨rfl, rfl⟩
    · by_cases h3 : n ≤ 65535
      · have e : wideZ n = 3 := by unfold wideZ; rw [if_neg h1, if_neg h2, if_pos h3]
        rw [e]
        go_enter Tryd.func45, Tryd.ntmps45
        go_wp2
        go_ret
        exact ⟨rfl, rfl⟩
      · have e : wideZ n = 4 := by unfold wideZ; rw [if_neg h1, if_neg h2, if_neg h3]
        rw [e]
        go_enter Tryd.func45, Tryd.ntmps45
        go_wp2
        go_ret
        exact ⟨rfl, rfl⟩
/-- A letter, or behind the first place a digit or a stroke. -/
def standB (n : Int) (k : Nat) : Bool := letterB n || (decide (0 < k) && (decide (48 ≤ n ∧ n ≤ 57) || decide (n = 45)))
set_option maxHeartbeats 2000000 in
theorem mayStand_any (n : Int) (k : Nat) (w : World) (h0 : 0 ≤ n) (h1 : n ≤ 1114111) (hk : k ≤ 1000) :
    Calls Tryd.prog 42 #[.int .i32 n, .int .i64 k] w fun e w' => e = .returned (.bool (standB n k)) ∧ w = w' := by
  cases hg : letterB n with
  | true =>
    have e : standB n k = true := by simp [standB, hg]
    rw [e]
    go_enter Tryd.func42, Tryd.ntmps42
    go_wp2_with (go_at_call 51; refine (isLetter_any _ _ (by omega) (by omega)).mono ?_; rintro e w' ⟨rfl, rfl⟩)
    go_ret
    exact ⟨ret_bool (by first | rfl | (simp [*]; done) | (simp; omega)), rfl⟩
  | false =>
    by_cases hk0 : 0 < k
    · have hp : n < 45 ∨ n = 45 ∨ (45 < n ∧ n < 48) ∨ (48 ≤ n ∧ n ≤ 57) ∨ 57 < n := by omega
      rcases hp with h | rfl | ⟨h, h'⟩ | ⟨h, h'⟩ | h
      · have e : standB n k = false := by simp [standB, hg]; omega
        rw [e]
        go_enter Tryd.func42, Tryd.ntmps42
        go_wp2_with (go_at_call 51; refine (isLetter_any _ _ (by omega) (by omega)).mono ?_; rintro e w' ⟨rfl, rfl⟩)
        go_ret
        exact ⟨ret_bool (by first | rfl | (simp [*]; done) | (simp; omega)), rfl⟩
      · have e : standB 45 k = true := by simp [standB]; omega
        rw [e]
        go_enter Tryd.func42, Tryd.ntmps42
        go_wp2_with (go_at_call 51; refine (isLetter_any _ _ (by omega) (by omega)).mono ?_; rintro e w' ⟨rfl, rfl⟩)
        go_ret
        exact ⟨ret_bool (by first | rfl | (simp [*]; done) | (simp; omega)), rfl⟩
      · have e : standB n k = false := by simp [standB, hg]; omega
        rw [e]
        go_enter Tryd.func42, Tryd.ntmps42
        go_wp2_with (go_at_call 51; refine (isLetter_any _ _ (by omega) (by omega)).mono ?_; rintro e w' ⟨rfl, rfl⟩)
        go_ret
        exact ⟨ret_bool (by first | rfl | (simp [*]; done) | (simp; omega)), rfl⟩
      · have e : standB n k = true := by simp [standB]; omega
        rw [e]
        go_enter Tryd.func42, Tryd.ntmps42
        go_wp2_with (go_at_call 51; refine (isLetter_any _ _ (by omega) (by omega)).mono ?_; rintro e w' ⟨rfl, rfl⟩)
        go_ret
        exact ⟨ret_bool (by first | rfl | (simp [*]; done) | (simp; omega)), rfl⟩
      · have e : standB n k = false := by simp [standB, hg]; omega
        rw [e]
        go_enter Tryd.func42, Tryd.ntmps42
        go_wp2_with (go_at_call 51; refine (isLetter_any _ _ (by omega) (by omega)).mono ?_; rintro e w' ⟨rfl, rfl⟩)
        go_ret
        exact ⟨ret_bool (by first | rfl | (simp [*]; done) | (simp; omega)), rfl⟩
    · obtain rfl : k = 0 := by omega
      have e : standB n 0 = false := by simp [standB, hg]
      rw [e]
      go_enter Tryd.func42, Tryd.ntmps42
      go_wp2_with (go_at_call 51; refine (isLetter_any _ _ (by omega) (by omega)).mono ?_; rintro e w' ⟨rfl, rfl⟩)
      go_ret
      exact ⟨ret_bool (by first | rfl | (simp [*]; done) | (simp; omega)), rfl⟩
end Go.Proofs.YtdhiipnnmonkoaaDoor
