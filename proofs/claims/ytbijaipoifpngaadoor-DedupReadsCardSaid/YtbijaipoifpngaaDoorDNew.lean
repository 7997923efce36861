/- What New, Last, Find and Put of package dedup do. Conditions: a table in memory. -/
import Derived.Test.YtbijaipoifpngaaDoorDKit
import Derived.LaidEqlPtr
set_option linter.unusedVariables false
set_option linter.unusedSimpArgs false
set_option maxRecDepth 100000
namespace Go.Proofs.YtbijaipoifpngaaDoor.Be
open Go Go.RowKit
theorem new_any (w : World) : Calls Tryd.prog 9 #[] w fun e w' => ∃ p, e = .returned (.pointer (some ⟨p, 0, none⟩)) ∧ TabAt w' p q0 ∧ w.heap.size ≤ p ∧ Below w.heap.size w w' := by
  go_enter Tryd.func9, Tryd.ntmps9
  go_wp2
  go_ret
  exact ⟨w.heap.size, rfl, ⟨Row.new w 59 (.pointer (some ⟨w.heap.size, 0, none⟩) :: qc q0), okq0⟩, Nat.le_refl _, (Below.refl _ _).alloc (Nat.le_refl _) _⟩
theorem ret_b {a b : Bool} (h : a = b) : Ending.returned (.bool a) = .returned (.bool b) := by rw [h]
def cliB (n : Int) : Bool := decide (0 ≤ n ∧ n < 8)
def seqB (n : Int) : Bool := decide (1 ≤ n ∧ n ≤ 1099511627776)
def errB (n : Int) : Bool := decide (0 ≤ n ∧ n ≤ 255)
theorem isClient_any (n : Int) (w : World) : Calls Tryd.prog 22 #[.int .i64 n] w fun e w' => e = .returned (.bool (cliB n)) ∧ w = w' := by
  go_enter Tryd.func22, Tryd.ntmps22
  go_wp2
  all_goals go_ret
  all_goals exact ⟨ret_b (by unfold cliB; rw [Bool.eq_iff_iff]; simp; try omega), rfl⟩
theorem isSeq_any (n : Int) (w : World) : Calls Tryd.prog 23 #[.int .i64 n] w fun e w' => e = .returned (.bool (seqB n)) ∧ w = w' := by
  go_enter Tryd.func23, Tryd.ntmps23
  go_wp2
  all_goals go_ret
  all_goals exact ⟨ret_b (by unfold seqB; rw [Bool.eq_iff_iff]; simp; try omega), rfl⟩
theorem isErr_any (n : Int) (w : World) : Calls Tryd.prog 24 #[.int .i64 n] w fun e w' => e = .returned (.bool (errB n)) ∧ w = w' := by
  go_enter Tryd.func24, Tryd.ntmps24
  go_wp2
  all_goals go_ret
  all_goals exact ⟨ret_b (by unfold errB; rw [Bool.eq_iff_iff]; simp; try omega), rfl⟩
theorem table_row : (Tryd.prog.info? 59).map (fun i => i.size) = some 25 := by kernel_rfl
theorem eql_self (p : Nat) (w : World) : (binOp .eql 23 (.pointer (some ⟨p, 0, none⟩)) (.pointer (some ⟨p, 0, none⟩))).run Tryd.prog w = .ok (.bool true) w := by
  obtain ⟨i, hi, _⟩ := Option.map_eq_some_iff.1 table_row
  exact run_eql_ptr_same w _ Tryd.underlying23 hi
theorem eql_nil_some (p : Nat) (w : World) : (binOp .eql 23 (.pointer none) (.pointer (some ⟨p, 0, none⟩))).run Tryd.prog w = .ok (.bool false) w := by kernel_rfl
theorem given_any {w : World} {p : Nat} {q : List E} (h : TabAt w p q) : Calls Tryd.prog 21 #[.pointer (some ⟨p, 0, none⟩)] w fun e w' => e = .returned (.bool true) ∧ w = w' := by
  have h0 := h.c0
  have he := eql_self p w
  clear h
  go_enter Tryd.func21, Tryd.ntmps21
  go_wp2
  go_ret
  exact ⟨rfl, rfl⟩
theorem given_nil (w : World) : Calls Tryd.prog 21 #[.pointer none] w fun e w' => e = .returned (.bool false) ∧ w = w' := by
  go_enter Tryd.func21, Tryd.ntmps21
  go_wp2
  go_ret
  exact ⟨rfl, rfl⟩
theorem given_not {w : World} {p : Nat} (h0 : w.cell? ⟨p, 0, none⟩ = some (.pointer none)) : Calls Tryd.prog 21 #[.pointer (some ⟨p, 0, none⟩)] w fun e w' => e = .returned (.bool false) ∧ w = w' := by
  have he := eql_nil_some p w
  go_enter Tryd.func21, Tryd.ntmps21
  go_wp2
  go_ret
  exact ⟨rfl, rfl⟩
def lastM (q : List E) (c : Int) : Int := if cliB c then q[c.toNat]!.s else 0
theorem last_no (v : Value) (w : World) (hg : Calls Tryd.prog 21 #[v] w fun e w' => e = .returned (.bool false) ∧ w = w') (c : Int) : Calls Tryd.prog 14 #[v, .int .i64 c] w fun e w' => e = .returned (.int .i64 0) ∧ w = w' := by
  go_enter Tryd.func14, Tryd.ntmps14
  go_wp2_with (refine hg.mono ?_; rintro e w1 ⟨rfl, rfl⟩)
  go_ret
  exact ⟨rfl, rfl⟩
theorem last_any {w : World} {p : Nat} {q : List E} (h : TabAt w p q) (c : Int) : Calls Tryd.prog 14 #[.pointer (some ⟨p, 0, none⟩), .int .i64 c] w fun e w' => e = .returned (.int .i64 (lastM q c)) ∧ w = w' := by
  have hg := Lib.hid (given_any h)
  have hc := Lib.hid (isClient_any c w)
  unfold lastM
  by_cases hb : cliB c = true
  · obtain ⟨k, rfl, hk⟩ : ∃ k : Nat, c = (k : Int) ∧ k < 8 := by
      unfold cliB at hb
      simp at hb
      exact ⟨c.toNat, by omega, by omega⟩
    obtain ⟨c1, c2, c3⟩ := h.cell hk
    rw [if_pos hb]
    rw [hb] at hc
    rw [show ((k : Int)).toNat = k from rfl]
    generalize q[k]! = x at *
    have hk2 : (k : Int) < 8 := by omega
    clear h hb
    go_enter Tryd.func14, Tryd.ntmps14
    go_wp2_with (first | (refine (hg.out).mono ?_; rintro e w1 ⟨rfl, rfl⟩) | (refine (hc.out).mono ?_; rintro e w1 ⟨rfl, rfl⟩))
    go_ret
    exact ⟨rfl, rfl⟩
  · rw [if_neg hb]
    have hb : cliB c = false := by simpa using hb
    rw [hb] at hc
    clear h hb
    go_enter Tryd.func14, Tryd.ntmps14
    go_wp2_with (first | (refine (hg.out).mono ?_; rintro e w1 ⟨rfl, rfl⟩) | (refine (hc.out).mono ?_; rintro e w1 ⟨rfl, rfl⟩))
    go_ret
    exact ⟨rfl, rfl⟩
end Go.Proofs.YtbijaipoifpngaaDoor.Be
