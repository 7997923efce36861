/- New of the document's move. Conditions: none. -/
import Derived.Test.YtbjjgjifaomdlaaMvW
set_option linter.unusedVariables false
set_option linter.unusedSimpArgs false
set_option maxRecDepth 100000
namespace Go.Proofs.Ytbjjgjifaomdlaa.Mv
open Go Go.RowKit
open Po (M msgV)
def W1 (n : Int) : Prop := 1 ≤ n ∧ n ≤ 1099511627776
instance (n : Int) : Decidable (W1 n) := by unfold W1; exact inferInstance
theorem number_any (n : Int) (w : World) : Calls Try.prog 23 #[.int .i64 n] w (fun e w' => e = .returned (.bool (decide (W1 n))) ∧ w' = w) := by
  by_cases h1 : 1 ≤ n
  · by_cases h2 : n ≤ 1099511627776
    · rw [decide_eq_true (show W1 n from ⟨h1, h2⟩)]
      go_enter Try.func23, Try.ntmps23
      go_wp2
      go_ret
      exact ⟨rfl, rfl⟩
    · rw [decide_eq_false (show ¬ W1 n from fun h => h2 h.2)]
      go_enter Try.func23, Try.ntmps23
      go_wp2
      go_ret
      exact ⟨rfl, rfl⟩
  · rw [decide_eq_false (show ¬ W1 n from fun h => h1 h.1)]
    go_enter Try.func23, Try.ntmps23
    go_wp2
    go_ret
    exact ⟨rfl, rfl⟩
def noMv : Mv := ⟨0, 0, 0, 0, 0, 0, 0, ⟨#[]⟩⟩
instance (n e s f t : Int) : Decidable (okN n e s f t) := by unfold okN; exact inferInstance
def RNPost (n e s f t : Int) (w : World) (en : Ending) (w' : World) : Prop := (en = .returned (.tuple #[.agg (mvV (if okN n e s f t then newM n e s f t else noMv)).toArray, .int .i64 (if okN n e s f t then 0 else 1)])) ∧ Below w.heap.size w w'
set_option maxHeartbeats 2000000 in
theorem rnew_any (n e s f t : Int) (w : World) : Calls Try.prog 9 #[.int .i64 n, .int .i64 e, .agg #[.int .i64 s, .int .i64 f, .int .i64 t]] w (RNPost n e s f t w) := by
  have HN := Lib.hid (fun n w => number_any n w)
  have hb : ∀ o1 o2, Below w.heap.size w ((w.alloc o1).alloc o2) := fun o1 o2 => ((Below.refl _ w).alloc (Nat.le_refl _) _).alloc (by simp) _
  unfold RNPost
  by_cases hk : okN n e s f t
  · rw [if_pos hk, if_pos hk]
    obtain ⟨a1, a2, a3, a4, a5, a6, a7, a8, a9, a10, a11⟩ := hk
    have HN1 := Lib.hid (fun w => by have := number_any n w; rwa [decide_eq_true (show W1 n from ⟨a1, a2⟩)] at this)
    have HN2 := Lib.hid (fun w => by have := number_any e w; rwa [decide_eq_true (show W1 e from ⟨a3, a4⟩)] at this)
    have b5 : decide (s < 0) = false := decide_eq_false (by omega)
    have b6 : decide (15 < s) = false := decide_eq_false (by omega)
    have b7 : decide (f < 0) = false := decide_eq_false (by omega)
    have b8 : decide (7 < f) = false := decide_eq_false (by omega)
    have b9 : decide (t < 0) = false := decide_eq_false (by omega)
    have b10 : decide (7 < t) = false := decide_eq_false (by omega)
    have b11 : decide (f = t) = false := decide_eq_false a11
    clear HN a1 a2 a3 a4 a5 a6 a7 a8 a9 a10
    unfold mvV newM
    go_enter Try.func9, Try.ntmps9
    go_wp2_with (first
      | (with_reducible refine (HN1.out _).mono ?_; rintro e w1 ⟨rfl, rfl⟩)
      | (with_reducible refine (HN2.out _).mono ?_; rintro e w1 ⟨rfl, rfl⟩))
    exact bodyPost_ret (res_mv (m := newM n e s f t) Try.results9 _ (b := w.heap.size + 1) (row_new1 w _ 31 (mvV (newM n e s f t))) rfl rfl) rfl ⟨rfl, hb _ _⟩
  · rw [if_neg hk, if_neg hk]
    unfold mvV noMv
    by_cases h1 : W1 n
    rotate_left
    · have HN1 := Lib.hid (fun w => by have := number_any n w; rwa [decide_eq_false h1] at this)
      clear HN h1 hk
      go_enter Try.func9, Try.ntmps9
      go_wp2_with (with_reducible refine (HN1.out _).mono ?_; rintro e w1 ⟨rfl, rfl⟩)
      exact bodyPost_ret (res_mv (m := noMv) Try.results9 _ (b := w.heap.size + 1) (row_new1 w _ 31 _) rfl rfl) rfl ⟨rfl, hb _ _⟩
    have HN1 := Lib.hid (fun w => by have := number_any n w; rwa [decide_eq_true h1] at this)
    by_cases h2 : W1 e
    rotate_left
    · have HN2 := Lib.hid (fun w => by have := number_any e w; rwa [decide_eq_false h2] at this)
      clear HN h1 h2 hk
      go_enter Try.func9, Try.ntmps9
      go_wp2_with (first
        | (with_reducible refine (HN1.out _).mono ?_; rintro e w1 ⟨rfl, rfl⟩)
        | (with_reducible refine (HN2.out _).mono ?_; rintro e w1 ⟨rfl, rfl⟩))
      exact bodyPost_ret (res_mv (m := noMv) Try.results9 _ (b := w.heap.size + 1) (row_new1 w _ 31 _) rfl rfl) rfl ⟨rfl, hb _ _⟩
    have HN2 := Lib.hid (fun w => by have := number_any e w; rwa [decide_eq_true h2] at this)
    have hbad : s < 0 ∨ 15 < s ∨ f < 0 ∨ 7 < f ∨ t < 0 ∨ 7 < t ∨ f = t := by
      unfold okN at hk
      obtain ⟨c1, c2⟩ := h1
      obtain ⟨c3, c4⟩ := h2
      omega
    clear h1 h2 hk HN
    by_cases d1 : s < 0
    rotate_left
    by_cases d2 : 15 < s
    rotate_left
    by_cases d3 : f < 0
    rotate_left
    by_cases d4 : 7 < f
    rotate_left
    by_cases d5 : t < 0
    rotate_left
    by_cases d6 : 7 < t
    rotate_left
    obtain rfl : f = t := by omega
    all_goals
      clear hbad
      go_enter Try.func9, Try.ntmps9
      go_wp2_with (first
        | (with_reducible refine (HN1.out _).mono ?_; rintro e w1 ⟨rfl, rfl⟩)
        | (with_reducible refine (HN2.out _).mono ?_; rintro e w1 ⟨rfl, rfl⟩))
      exact bodyPost_ret (res_mv (m := noMv) Try.results9 _ (b := w.heap.size + 1) (row_new1 w _ 31 _) rfl rfl) rfl ⟨rfl, hb _ _⟩
end Go.Proofs.Ytbjjgjifaomdlaa.Mv
