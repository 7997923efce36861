/- What New, given, Len and Left of a wheel return, and all calls of a wheel that New did not give. Conditions: a wheel in memory; or none. -/
import Derived.Test.YtfojempmgonahaaWhW
set_option linter.unusedVariables false
set_option linter.unusedSimpArgs false
set_option maxRecDepth 100000
namespace Go.Proofs.Ytfojempmgonahaa.Wh
open Go Go.RowKit Go.Maps
theorem wheel_row : (Try.prog.info? 53).map (fun i => i.size) = some 4 := by kernel_rfl
theorem weql_self (p : Nat) (w : World) : (binOp .eql 23 (.pointer (some ⟨p, 0, none⟩)) (.pointer (some ⟨p, 0, none⟩))).run Try.prog w = .ok (.bool true) w := by
  obtain ⟨i, hi, _⟩ := Option.map_eq_some_iff.1 wheel_row
  exact run_eql_ptr_same w _ Try.underlying23 hi
theorem weql_nil (p : Nat) (w : World) : (binOp .eql 23 (.pointer none) (.pointer (some ⟨p, 0, none⟩))).run Try.prog w = .ok (.bool false) w := by kernel_rfl
def GivenIs (v : Value) (g : Bool) (w : World) : Prop := Calls Try.prog 24 #[v] w fun e w' => e = .returned (.bool g) ∧ w = w'
theorem given_any {w : World} {p : Nat} {x y z : Value} (h : Row w p 53 [.pointer (some ⟨p, 0, none⟩), x, y, z]) : GivenIs (.pointer (some ⟨p, 0, none⟩)) true w := by
  have h0 := h.cell (j := 0) rfl
  have he := weql_self p w
  unfold GivenIs
  clear h
  go_enter Try.func24, Try.ntmps24
  go_wp2
  go_ret
  exact ⟨rfl, rfl⟩
theorem given_nil (w : World) : GivenIs (.pointer none) false w := by
  unfold GivenIs
  go_enter Try.func24, Try.ntmps24
  go_wp2
  go_ret
  exact ⟨rfl, rfl⟩
theorem given_not {w : World} {p : Nat} {x y z : Value} (h : Row w p 53 [.pointer none, x, y, z]) : GivenIs (.pointer (some ⟨p, 0, none⟩)) false w := by
  have h0 := h.cell (j := 0) rfl
  have he := weql_nil p w
  unfold GivenIs
  clear h
  go_enter Try.func24, Try.ntmps24
  go_wp2
  go_ret
  exact ⟨rfl, rfl⟩
section
variable {w : World} {v : Value} (hg : GivenIs v false w)
include hg
theorem set_no (x n : Int) : Calls Try.prog 11 #[v, .int .i64 x, .int .i64 n] w fun e w' => e = .returned (.int .i64 1) ∧ w = w' := by
  have HG := Lib.hid (show Calls _ _ _ _ _ from hg)
  clear hg
  go_enter Try.func11, Try.ntmps11
  go_wp2_with fail
  refine HG.out.mono ?_
  rintro e w1 ⟨rfl, rfl⟩
  go_wp2
  all_goals go_ret
  all_goals exact ⟨rfl, rfl⟩
theorem cancel_no (x : Int) : Calls Try.prog 13 #[v, .int .i64 x] w fun e w' => e = .returned (.bool false) ∧ w = w' := by
  have HG := Lib.hid (show Calls _ _ _ _ _ from hg)
  clear hg
  go_enter Try.func13, Try.ntmps13
  go_wp2_with fail
  refine HG.out.mono ?_
  rintro e w1 ⟨rfl, rfl⟩
  go_wp2
  go_ret
  exact ⟨rfl, rfl⟩
theorem left_no (x : Int) : Calls Try.prog 14 #[v, .int .i64 x] w fun e w' => e = .returned (.tuple #[.int .i64 0, .int .i64 1]) ∧ w = w' := by
  have HG := Lib.hid (show Calls _ _ _ _ _ from hg)
  clear hg
  go_enter Try.func14, Try.ntmps14
  go_wp2_with fail
  refine HG.out.mono ?_
  rintro e w1 ⟨rfl, rfl⟩
  go_wp2
  refine bodyPost_ret (results_tmp2 rfl _ _ _) rfl ?_
  exact ⟨rfl, rfl⟩
theorem len_no : Calls Try.prog 19 #[v] w fun e w' => e = .returned (.int .i64 0) ∧ w = w' := by
  have HG := Lib.hid (show Calls _ _ _ _ _ from hg)
  clear hg
  go_enter Try.func19, Try.ntmps19
  go_wp2_with fail
  refine HG.out.mono ?_
  rintro e w1 ⟨rfl, rfl⟩
  go_wp2
  go_ret
  exact ⟨rfl, rfl⟩
theorem tick_no : Calls Try.prog 18 #[v] w fun e w' => e = .returned (.slice none 0 0) ∧ w = w' := by
  have HG := Lib.hid (show Calls _ _ _ _ _ from hg)
  clear hg
  go_enter Try.func18, Try.ntmps18
  go_wp2_with fail
  refine HG.out.mono ?_
  rintro e w1 ⟨rfl, rfl⟩
  go_wp2
  go_ret
  exact ⟨rfl, rfl⟩
end
section
variable {w : World} {p bm dm : Nat} {now : Int} {L : List Tm} {G : List (Int × Nat)}
theorem len_any (h : WheelW w p bm dm now L G) : Calls Try.prog 19 #[.pointer (some ⟨p, 0, none⟩)] w fun e w' => e = .returned (.int .i64 (L.length : Int)) ∧ w = w' := by
  have HG := Lib.hid (show Calls _ _ _ _ _ from given_any h.row)
  have c2 := h.c2
  have hl := h.row.lt
  have hlen := h.ends.len uE
  have hel : (endsE L).length = L.length := by simp [endsE]
  rw [hel] at hlen
  clear h hel
  go_enter Try.func19, Try.ntmps19
  go_wp2_with fail
  refine HG.out.mono ?_
  rintro e w1 ⟨rfl, rfl⟩
  go_wp2
  go_ret
  exact ⟨rfl, rfl⟩
def leftL (x now : Int) (L : List Tm) : Int × Int := if has x L = true then (endOf x L - now, 0) else (0, 3)
theorem left_any (h : WheelW w p bm dm now L G) (hn : now ≤ 1000000) {x : Int} (hx : (Lit.int .i64 x).wf = true) : Calls Try.prog 14 #[.pointer (some ⟨p, 0, none⟩), .int .i64 x] w fun e w' => e = .returned (.tuple #[.int .i64 (leftL x now L).1, .int .i64 (leftL x now L).2]) ∧ w = w' := by
  have HG := Lib.hid (show Calls _ _ _ _ _ from given_any h.row)
  have c2 := h.c2
  have c1 := h.c1
  have hl := h.row.lt
  have hlook := h.ends.look2 uE (zeroI w) hx
  rw [val_ends, isId_ends] at hlook
  cases hh : has x L with
  | false =>
    rw [hh] at hlook
    have HQ := Lib.hid (show leftL x now L = (0, 3) by unfold leftL; rw [hh]; rfl)
    generalize endOf x L = en at hlook
    clear h hh
    go_enter Try.func14, Try.ntmps14
    go_wp2_with fail
    refine HG.out.mono ?_
    rintro e w1 ⟨rfl, rfl⟩
    go_wp2
    refine bodyPost_ret (results_tmp2 rfl _ _ _) rfl ?_
    exact ⟨by rw [HQ.out]; rfl, rfl⟩
  | true =>
    rw [hh] at hlook
    have HQ := Lib.hid (show leftL x now L = (endOf x L - now, 0) by unfold leftL; rw [hh]; rfl)
    have hb : now < endOf x L ∧ endOf x L ≤ now + 1048576 := by
      obtain ⟨q, hq, rfl⟩ := (has_iff x L).1 hh
      rw [endOf_mem h.toMid hq]
      exact (h.wf q hq).2
    have h0 := h.now0
    generalize endOf x L = en at *
    have hw : IntKind.i64.wrap (en - now) = en - now := by rw [IntKind.wrap_i64]; omega
    clear h hh
    go_enter Try.func14, Try.ntmps14
    go_wp2_with fail
    refine HG.out.mono ?_
    rintro e w1 ⟨rfl, rfl⟩
    go_wp2
    refine bodyPost_ret (results_tmp2 rfl _ _ _) rfl ?_
    exact ⟨by rw [HQ.out]; rfl, rfl⟩
end
theorem wnew_any (w : World) : Calls Try.prog 9 #[] w fun e w' => ∃ p bm dm, e = .returned (.pointer (some ⟨p, 0, none⟩)) ∧ WheelW w' p bm dm 0 [] [] ∧ (∀ b, Foot p bm dm [] b → w.heap.size ≤ b) ∧ Below w.heap.size w w' := by
  have hmm := @run_makeMap Try.prog
  go_enter Try.func9, Try.ntmps9
  go_wp2
  go_ret
  have hb : Below w.heap.size w (((w.alloc (.map #[] 0)).alloc (.map #[] 0)).alloc (.cells #[.pointer (some ⟨w.heap.size + 1 + 1, 0, none⟩), .int .i64 0, .map (some w.heap.size), .map (some (w.heap.size + 1))] 53)) :=
    (((Below.refl _ w).alloc (Nat.le_refl _) _).alloc (by simp) _).alloc (by simp; omega) _
  refine ⟨w.heap.size + 1 + 1, w.heap.size, w.heap.size + 1, rfl, ?_, ?_, hb⟩
  · refine ⟨⟨?_, ?_, ?_, fun q hq => by simp at hq, fun q hq => by simp at hq, fun q hq => by simp at hq, fun q hq => by simp at hq, by omega, by omega, by omega, List.Pairwise.nil, fun q hq => by simp at hq, by omega, by simp⟩, fun q hq => by simp at hq⟩
    · have h := Row.new ((w.alloc (.map #[] 0)).alloc (.map #[] 0)) 53 [.pointer (some ⟨w.heap.size + 1 + 1, 0, none⟩), .int .i64 0, .map (some w.heap.size), .map (some (w.heap.size + 1))]
      simpa using h
    · exact ((MapAt.made w).keep (heap_alloc_lt _ _ (by simp))).keep (heap_alloc_lt _ _ (by simp; omega))
    · have h := MapAt.made (w.alloc (.map #[] 0))
      rw [World.size_alloc] at h
      exact h.keep (heap_alloc_lt _ _ (by simp))
  · rintro b (rfl | rfl | rfl | ⟨q, hq, _⟩)
    · omega
    · omega
    · omega
    · simp at hq
end Go.Proofs.Ytfojempmgonahaa.Wh
