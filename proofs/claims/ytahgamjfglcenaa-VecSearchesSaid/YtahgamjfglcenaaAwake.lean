/- What awake of the laws returns: true. Conditions: none. -/
import Derived.Test.YtahgamjfglcenaaDist
set_option linter.unusedVariables false
set_option linter.unusedSimpArgs false
namespace Go.Proofs.Ytahgamjfglcenaa
open Go Go.RowKit
theorem awake_dist (w : World) : Calls Try.prog 11 #[.slice (some ⟨w.heap.size, 0, none⟩) 2 2, .slice (some ⟨w.heap.size + 1, 0, none⟩) 2 2] ((w.alloc (.cells #[.int .i64 1, .int .i64 2] 3)).alloc (.cells #[.int .i64 (-1), .int .i64 5] 3))
    fun e w' => e = .returned (.tuple #[.int .i64 5, .int .i64 0]) ∧ Below w.heap.size w w' := by
  have h1 := (news_int w [1, 2] (by simp)).alloc (o := .cells #[.int .i64 (-1), .int .i64 5] 3) (by simp)
  have h2 := news_int (w.alloc (.cells #[.int .i64 1, .int .i64 2] 3)) [-1, 5] (by simp)
  have hs : (w.alloc (.cells #[.int .i64 1, .int .i64 2] 3)).heap.size = w.heap.size + 1 := by simp
  rw [hs] at h2
  have hb : Below w.heap.size w ((w.alloc (.cells #[.int .i64 1, .int .i64 2] 3)).alloc (.cells #[.int .i64 (-1), .int .i64 5] 3)) := ((Below.refl _ w).alloc (Nat.le_refl _) _).alloc (by simp) _
  refine (dist_any _ _ 2 2 2 2 _ _ [1, 2] [-1, 5] _ h1 h2 (by decide) (by decide)).mono ?_
  rintro e w' ⟨rfl, q, rfl⟩
  rw [dstR_known]
  exact ⟨rfl, below_drewN hb q⟩
theorem awake_check (w : World) : Calls Try.prog 13 #[.slice (some ⟨w.heap.size, 0, none⟩) 1 1, .int .i64 2] (w.alloc (.cells #[.int .i64 1] 3)) fun e w' => e = .returned (.int .i64 50) ∧ Below w.heap.size w w' := by
  have h1 := news_int w [1] (by simp)
  refine (check_any _ 1 1 _ [1] 2 _ h1 (by decide)).mono ?_
  rintro e w' ⟨rfl, q, rfl⟩
  rw [ck_known]
  exact ⟨rfl, below_drewN ((Below.refl _ w).alloc (Nat.le_refl _) _) q⟩
set_option maxHeartbeats 2000000 in
theorem awake_any (w : World) : Calls Try.prog 15 #[] w (Gives (.bool true) w) := by
  go_enter Try.func15, Try.ntmps15
  go_wp2_with fail
  refine (awake_dist w).mono ?_
  rintro e w1 ⟨rfl, hb1⟩
  go_wp2_with fail
  refine (awake_check w1).mono ?_
  rintro e w2 ⟨rfl, hb2⟩
  go_wp2_with fail
  go_ret
  exact ⟨rfl, below_then hb1 hb2⟩
end Go.Proofs.Ytahgamjfglcenaa
