/- What Find of the document's answers does. Conditions: a table by value. -/
import Derived.Test.YtbijaipoifpngaaDoorDRef
set_option linter.unusedVariables false
set_option linter.unusedSimpArgs false
set_option maxRecDepth 100000
namespace Go.Proofs.YtbijaipoifpngaaDoor.Be
open Go Go.RowKit
theorem rfind_any {w : World} {q : List E} (hq : q.length = 8) (c n : Int) : Calls Tryd.prog 13 #[tabV q, .int .i64 c, .int .i64 n] w fun e w' => e = .returned (.tuple #[repV (findM q c n).1, .int .i64 (findM q c n).2]) ∧ Below w.heap.size w w' := by
  have hm := Lib.hid (fun w1 => may_any c n w1)
  have HB : ∀ (A B : Obj), Below w.heap.size w ((w.alloc A).alloc B) := fun A B => ((Below.refl _ _).alloc (Nat.le_refl _) _).alloc (by simp) _
  have HB3 : ∀ (A B C : Obj), Below w.heap.size w (((w.alloc A).alloc B).alloc C) := fun A B C => (HB A B).alloc (by simp; omega) _
  have R1 := (TabV.new w q hq).al (.cells #[.int .i64 0, .bool false, .slice none 0 0] 32)
  unfold findM
  by_cases hm0 : mayB c n = true
  · rw [if_pos hm0]
    obtain ⟨k, rfl, hk⟩ := cli_nat (by unfold mayB at hm0; simp only [Bool.and_eq_true] at hm0; exact hm0.1 : cliB c = true)
    rw [show ((k : Int)).toNat = k from rfl]
    rw [hm0] at hm
    obtain ⟨c1, c2, c3⟩ := R1.cell hk
    have hk2 : (k : Int) < 8 := by omega
    generalize q[k]! = x at *
    obtain ⟨xs, xe, xb⟩ := x
    simp only at c1 c2 c3 ⊢
    unfold tabV
    clear R1 hm0
    by_cases h1 : n < xs
    · rw [if_pos h1]
      go_enter Tryd.func13, Tryd.ntmps13
      go_wp2_with (first | (refine (hm.out _).mono ?_; rintro e w1 ⟨rfl, rfl⟩))
      refine bodyPost_ret (v := .tuple #[repV (0, false), .int .i64 90]) (by simp [results, Tryd.results13, go_sem, repV]) rfl ⟨rfl, ?_⟩
      exact HB3 _ _ _
    · rw [if_neg h1]
      by_cases h2 : xs < n
      · rw [if_pos h2]
        go_enter Tryd.func13, Tryd.ntmps13
        go_wp2_with (first | (refine (hm.out _).mono ?_; rintro e w1 ⟨rfl, rfl⟩))
        refine bodyPost_ret (v := .tuple #[repV (0, false), .int .i64 3]) (by simp [results, Tryd.results13, go_sem, repV]) rfl ⟨rfl, ?_⟩
        exact HB3 _ _ _
      · rw [if_neg h2]
        go_enter Tryd.func13, Tryd.ntmps13
        go_wp2_with (first | (refine (hm.out _).mono ?_; rintro e w1 ⟨rfl, rfl⟩))
        refine bodyPost_ret (v := .tuple #[repV (xe, xb), .int .i64 0]) (by simp [results, Tryd.results13, go_sem, repV]) rfl ⟨rfl, ?_⟩
        exact HB3 _ _ _
  · rw [if_neg hm0]
    have hm0 : mayB c n = false := by simpa using hm0
    rw [hm0] at hm
    unfold tabV
    clear R1
    go_enter Tryd.func13, Tryd.ntmps13
    go_wp2_with (first | (refine (hm.out _).mono ?_; rintro e w1 ⟨rfl, rfl⟩))
    refine bodyPost_ret (v := .tuple #[repV (0, false), .int .i64 1]) (by simp [results, Tryd.results13, go_sem, repV]) rfl ⟨rfl, ?_⟩
    exact HB _ _
end Go.Proofs.YtbijaipoifpngaaDoor.Be
