/- awake of chart's laws returns true. Conditions: none. -/
import Derived.Test.YtmepahlmbopacaaDoorChDoneB
set_option linter.unusedVariables false
set_option linter.unusedSimpArgs false
set_option maxRecDepth 100000
namespace Go.Proofs.YtmepahlmbopacaaDoor.Ct
open Go Go.RowKit
theorem own_len {w : World} {b : Nat} {v : Value} {n : Nat} {l : List Int} (h : w.ownsRow b 3 1 v n (ints l)) : n = l.length := by
  have := h.1
  rw [ints_len] at this
  omega
theorem eqE (a b : Int) (w : World) : (binOp .eql 27 (.int .i64 a) (.int .i64 b)).run Tryd.prog w = .ok (.bool (a == b)) w := by
  have := Tryd.underlying27
  go_simp
theorem aw_e : doneE 4 [0, 1, 0] ⟨2, 0, 1⟩ = 0 := by decide
theorem aw_n : doneN 4 [0, 1, 0] ⟨2, 0, 1⟩ = 5 := by decide
theorem aw_l : doneL 4 [0, 1, 0] ⟨2, 0, 1⟩ = [0, 1, 1] := by decide
set_option maxHeartbeats 2000000 in
theorem cawake_any (w : World) : Calls Tryd.prog 6 #[] w (Gives (.bool true) w) := by
  obtain ⟨W, hW⟩ : ∃ W, W = w.alloc (.cells #[.int .i64 0, .int .i64 1, .int .i64 0] 3) := ⟨_, rfl⟩
  have hB0 : Below w.heap.size w W := by rw [hW]; exact (Below.refl _ w).alloc (Nat.le_refl _) _
  have hR : Reads W (w.heap.size + 1) 1 (some ⟨w.heap.size, 0, none⟩) 3 (ints [0, 1, 0]) := by rw [hW]; exact news_int w [0, 1, 0] (by simp)
  have hD : Calls Tryd.prog 13 #[.agg #[.int .i64 4, .slice (some ⟨w.heap.size, 0, none⟩) 3 3], .agg #[.int .i64 2, .int .i64 0, .int .i64 1]] W (DonePost 4 [0, 1, 0] ⟨2, 0, 1⟩ W) := done_any (c := 3) 4 hR (by rw [hW]; simp) ⟨2, 0, 1⟩ (Nat.le_refl _) (by unfold maxLen; omega)
  have HD := Lib.hid hD
  have HW := Lib.hid hW
  have HB0 := Lib.hid hB0
  clear hD hW hR hB0
  go_enter Tryd.func6, Tryd.ntmps6
  go_wp2_with fail
  rw [← HW.out]
  refine HD.out.mono ?_
  rintro en w1 ⟨A1, n1, c1, rfl, hown, hb1⟩
  rw [aw_e, aw_n]
  rw [aw_l] at hown
  obtain rfl : n1 = 3 := own_len hown
  have hbw := HB0.out.trans (hb1.mono HB0.out.size)
  obtain ⟨U, hU⟩ : ∃ U, U = (w1.alloc (.cells #[.int .i64 5, .slice A1 3 c1] 24)).alloc (.cells #[.int .i64 0, .int .i64 1, .int .i64 1] 3) := ⟨_, rfl⟩
  have hbU : Below w.heap.size w U := by rw [hU]; exact (hbw.alloc hbw.size _).alloc (by have := hbw.size; simp; omega) _
  have hRa : Reads U w1.heap.size 1 A1 3 (ints [0, 1, 1]) := by rw [hU]; exact ((Reads.of_own hown).alloc (Nat.le_refl _) _).alloc (by simp) _
  have hRb : Reads U (w1.heap.size + 1 + 1) 1 (some ⟨w1.heap.size + 1, 0, none⟩) 3 (ints [0, 1, 1]) := by
    rw [hU]
    have := news_int (w1.alloc (.cells #[.int .i64 5, .slice A1 3 c1] 24)) [0, 1, 1] (by simp)
    rwa [World.size_alloc] at this
  have hs : w1.heap.size + 1 + 1 ≤ U.heap.size := by rw [hU]; simp
  have HS : Hid (Calls Tryd.prog 11 #[.agg #[.int .i64 5, .slice A1 3 c1], .agg #[.int .i64 5, .slice (some ⟨w1.heap.size + 1, 0, none⟩) 3 3]] U (Gives (.bool true) U)) := Lib.hid (sameC_any 5 hRa (by omega) hRb hs (by unfold maxLen; omega))
  have HU := Lib.hid hU
  have HBU := Lib.hid hbU
  clear hown hb1 hbw hU hbU hRa hRb hs
  go_wp2_with fail
  rw [← HU.out]
  refine HS.out.mono ?_
  rintro en w2 ⟨rfl, hb2⟩
  go_wp2_with fail
  go_ret
  exact ⟨rfl, below_then HBU.out hb2⟩
end Go.Proofs.YtmepahlmbopacaaDoor.Ct
