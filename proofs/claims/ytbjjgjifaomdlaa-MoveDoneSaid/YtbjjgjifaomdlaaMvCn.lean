/- New of the program's move, and what nobody made. Conditions: none. -/
import Derived.Test.YtbjjgjifaomdlaaMvCc
import Derived.Test.YtbjjgjifaomdlaaMvRn
set_option linter.unusedVariables false
set_option linter.unusedSimpArgs false
set_option maxRecDepth 100000
namespace Go.Proofs.Ytbjjgjifaomdlaa.Mv
open Go Go.RowKit
open Po (M msgV)
theorem within_any (n a b : Int) (w : World) : Calls Try.prog 21 #[.int .i64 n, .int .i64 a, .int .i64 b] w (fun e w' => e = .returned (.bool (decide (a ≤ n ∧ n ≤ b))) ∧ w' = w) := by
  by_cases h1 : a ≤ n
  · by_cases h2 : n ≤ b
    · rw [decide_eq_true (And.intro h1 h2)]
      go_enter Try.func21, Try.ntmps21
      go_wp2
      go_ret
      exact ⟨rfl, rfl⟩
    · rw [decide_eq_false (fun h => h2 h.2)]
      go_enter Try.func21, Try.ntmps21
      go_wp2
      go_ret
      exact ⟨rfl, rfl⟩
  · rw [decide_eq_false (fun h => h1 h.1)]
    go_enter Try.func21, Try.ntmps21
    go_wp2
    go_ret
    exact ⟨rfl, rfl⟩
def okW (s f t : Int) : Prop := (0 ≤ s ∧ s ≤ 15) ∧ (0 ≤ f ∧ f ≤ 7) ∧ (0 ≤ t ∧ t ≤ 7) ∧ f ≠ t
instance (s f t : Int) : Decidable (okW s f t) := by unfold okW; exact inferInstance
theorem okN_w (n e s f t : Int) : okN n e s f t ↔ W1 n ∧ W1 e ∧ okW s f t := by
  unfold okN W1 okW
  omega
set_option maxHeartbeats 2000000 in
theorem mayBe_any (s f t : Int) (w : World) : Calls Try.prog 22 #[.agg #[.int .i64 s, .int .i64 f, .int .i64 t]] w (fun e w' => e = .returned (.bool (decide (okW s f t))) ∧ Below w.heap.size w w') := by
  have HWI := Lib.hid (fun n a b w => within_any n a b w)
  have hb : ∀ o, Below w.heap.size w (w.alloc o) := fun o => (Below.refl _ w).alloc (Nat.le_refl _) o
  by_cases h1 : 0 ≤ s ∧ s ≤ 15
  rotate_left
  · rw [decide_eq_false (show ¬ okW s f t from fun h => h1 h.1)]
    have H1 := Lib.hid (fun w => by have := within_any s 0 15 w; rwa [decide_eq_false h1] at this)
    clear h1
    go_enter Try.func22, Try.ntmps22
    go_wp2_with (with_reducible refine (H1.out _).mono ?_; rintro e w1 ⟨rfl, rfl⟩)
    go_ret
    exact ⟨rfl, hb _⟩
  have H1 := Lib.hid (fun w => by have := within_any s 0 15 w; rwa [decide_eq_true h1] at this)
  by_cases h2 : 0 ≤ f ∧ f ≤ 7
  rotate_left
  · rw [decide_eq_false (show ¬ okW s f t from fun h => h2 h.2.1)]
    have H2 := Lib.hid (fun w => by have := within_any f 0 7 w; rwa [decide_eq_false h2] at this)
    clear h1 h2
    go_enter Try.func22, Try.ntmps22
    go_wp2_with (first
      | (with_reducible refine (H1.out _).mono ?_; rintro e w1 ⟨rfl, rfl⟩)
      | (with_reducible refine (H2.out _).mono ?_; rintro e w1 ⟨rfl, rfl⟩))
    go_ret
    exact ⟨rfl, hb _⟩
  have H2 := Lib.hid (fun w => by have := within_any f 0 7 w; rwa [decide_eq_true h2] at this)
  by_cases h3 : 0 ≤ t ∧ t ≤ 7
  rotate_left
  · rw [decide_eq_false (show ¬ okW s f t from fun h => h3 h.2.2.1)]
    have H3 := Lib.hid (fun w => by have := within_any t 0 7 w; rwa [decide_eq_false h3] at this)
    clear h1 h2 h3
    go_enter Try.func22, Try.ntmps22
    go_wp2_with (first
      | (with_reducible refine (H1.out _).mono ?_; rintro e w1 ⟨rfl, rfl⟩)
      | (with_reducible refine (H2.out _).mono ?_; rintro e w1 ⟨rfl, rfl⟩)
      | (with_reducible refine (H3.out _).mono ?_; rintro e w1 ⟨rfl, rfl⟩))
    go_ret
    exact ⟨rfl, hb _⟩
  have H3 := Lib.hid (fun w => by have := within_any t 0 7 w; rwa [decide_eq_true h3] at this)
  by_cases h4 : f = t
  · rw [decide_eq_false (show ¬ okW s f t from fun h => h.2.2.2 h4)]
    have e1 : (f != t) = false := by simp [h4]
    clear h1 h2 h3
    subst h4
    go_enter Try.func22, Try.ntmps22
    go_wp2_with (first
      | (with_reducible refine (H1.out _).mono ?_; rintro e w1 ⟨rfl, rfl⟩)
      | (with_reducible refine (H2.out _).mono ?_; rintro e w1 ⟨rfl, rfl⟩)
      | (with_reducible refine (H3.out _).mono ?_; rintro e w1 ⟨rfl, rfl⟩))
    go_ret
    exact ⟨rfl, hb _⟩
  · rw [decide_eq_true (show okW s f t from ⟨h1, h2, h3, h4⟩)]
    have e1 : (f != t) = true := by simp [h4]
    clear h1 h2 h3
    go_enter Try.func22, Try.ntmps22
    go_wp2_with (first
      | (with_reducible refine (H1.out _).mono ?_; rintro e w1 ⟨rfl, rfl⟩)
      | (with_reducible refine (H2.out _).mono ?_; rintro e w1 ⟨rfl, rfl⟩)
      | (with_reducible refine (H3.out _).mono ?_; rintro e w1 ⟨rfl, rfl⟩))
    go_ret
    exact ⟨rfl, hb _⟩
set_option maxHeartbeats 2000000 in
theorem new_no (n e s f t : Int) (w : World) (h : ¬ okN n e s f t) : Calls Try.prog 8 #[.int .i64 n, .int .i64 e, .agg #[.int .i64 s, .int .i64 f, .int .i64 t]] w fun en w' => en = .returned (.tuple #[.pointer none, .int .i64 1]) ∧ Below w.heap.size w w' := by
  rw [okN_w] at h
  have hb : ∀ o, Below w.heap.size w (w.alloc o) := fun o => (Below.refl _ w).alloc (Nat.le_refl _) o
  by_cases h1 : W1 n
  rotate_left
  · have H1 := Lib.hid (fun w => by have := within_any n 1 1099511627776 w; rwa [decide_eq_false (show ¬ (1 ≤ n ∧ n ≤ 1099511627776) from h1)] at this)
    clear h h1
    go_enter Try.func8, Try.ntmps8
    go_wp2_with (with_reducible refine (H1.out _).mono ?_; rintro e w1 ⟨rfl, rfl⟩)
    refine bodyPost_ret (v := .tuple #[.pointer none, .int .i64 1]) (by simp [results, Try.results8, go_sem]) rfl ⟨rfl, hb _⟩
  have H1 := Lib.hid (fun w => by have := within_any n 1 1099511627776 w; rwa [decide_eq_true (show 1 ≤ n ∧ n ≤ 1099511627776 from h1)] at this)
  by_cases h2 : W1 e
  rotate_left
  · have H2 := Lib.hid (fun w => by have := within_any e 1 1099511627776 w; rwa [decide_eq_false (show ¬ (1 ≤ e ∧ e ≤ 1099511627776) from h2)] at this)
    clear h h1 h2
    go_enter Try.func8, Try.ntmps8
    go_wp2_with (first
      | (with_reducible refine (H1.out _).mono ?_; rintro e w1 ⟨rfl, rfl⟩)
      | (with_reducible refine (H2.out _).mono ?_; rintro e w1 ⟨rfl, rfl⟩))
    refine bodyPost_ret (v := .tuple #[.pointer none, .int .i64 1]) (by simp [results, Try.results8, go_sem]) rfl ⟨rfl, hb _⟩
  have H2 := Lib.hid (fun w => by have := within_any e 1 1099511627776 w; rwa [decide_eq_true (show 1 ≤ e ∧ e ≤ 1099511627776 from h2)] at this)
  have h3 : ¬ okW s f t := fun h3 => h ⟨h1, h2, h3⟩
  have H3 := Lib.hid (fun w => by have := mayBe_any s f t w; rwa [decide_eq_false h3] at this)
  clear h h1 h2 h3
  go_enter Try.func8, Try.ntmps8
  go_wp2_with (first
    | (with_reducible refine (H1.out _).mono ?_; rintro e w1 ⟨rfl, rfl⟩)
    | (with_reducible refine (H2.out _).mono ?_; rintro e w1 ⟨rfl, rfl⟩)
    | (with_reducible refine (H3.out _).mono ?_; rintro e w1 ⟨rfl, hb1⟩))
  refine bodyPost_ret (v := .tuple #[.pointer none, .int .i64 1]) (by simp [results, Try.results8, go_sem]) rfl ⟨rfl, (hb _).trans (hb1.mono (hb _).size)⟩
set_option maxHeartbeats 2000000 in
theorem new_is (n e s f t : Int) (w : World) (h : okN n e s f t) : Calls Try.prog 8 #[.int .i64 n, .int .i64 e, .agg #[.int .i64 s, .int .i64 f, .int .i64 t]] w fun en w' => ∃ p, en = .returned (.tuple #[ptr p, .int .i64 0]) ∧ IsM w' p (newM n e s f t) ∧ w.heap.size ≤ p ∧ Below w.heap.size w w' := by
  have HF := Lib.hid (new_fit h)
  rw [okN_w] at h
  have hb : ∀ o, Below w.heap.size w (w.alloc o) := fun o => (Below.refl _ w).alloc (Nat.le_refl _) o
  obtain ⟨h1, h2, h3⟩ := h
  have H1 := Lib.hid (fun w => by have := within_any n 1 1099511627776 w; rwa [decide_eq_true (show 1 ≤ n ∧ n ≤ 1099511627776 from h1)] at this)
  have H2 := Lib.hid (fun w => by have := within_any e 1 1099511627776 w; rwa [decide_eq_true (show 1 ≤ e ∧ e ≤ 1099511627776 from h2)] at this)
  have H3 := Lib.hid (fun w => by have := mayBe_any s f t w; rwa [decide_eq_true h3] at this)
  clear h1 h2 h3
  go_enter Try.func8, Try.ntmps8
  go_wp2_with (first
    | (with_reducible refine (H1.out _).mono ?_; rintro e w1 ⟨rfl, rfl⟩)
    | (with_reducible refine (H2.out _).mono ?_; rintro e w1 ⟨rfl, rfl⟩)
    | (with_reducible fail))
  with_reducible refine (H3.out _).mono ?_
  rintro e w1 ⟨rfl, hb1⟩
  have hb01 := Lib.hid ((hb _).trans (hb1.mono (hb _).size))
  have r0 := (Row.new w 24 [.int .i64 s, .int .i64 f, .int .i64 t])
  have r1 := r0.keep (hb1.block _ r0.lt)
  have c0 := r1.cell (j := 0) rfl
  have c1 := r1.cell (j := 1) rfl
  have c2 := r1.cell (j := 2) rfl
  have cl := r1.lt
  clear hb1 r0 r1
  go_wp2
  exact bodyPost_ret (v := .tuple #[ptr w1.heap.size, .int .i64 0]) (by simp [results, Try.results8, go_sem]) rfl ⟨w1.heap.size, rfl, ⟨HF.out, 0, { data := #[] }, Row.new w1 62 (mvC w1.heap.size (newM n e s f t) 0 { data := #[] }), by simp [newM], by simp [newM]⟩, hb01.out.size, hb01.out.alloc hb01.out.size _⟩
end Go.Proofs.Ytbjjgjifaomdlaa.Mv
