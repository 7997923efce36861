/- A message is the same as itself (without lists), as the document tells. Conditions: none. -/
import Derived.Test.YtbjjgjifaomdlaaPoHSam
import Derived.Test.YtbjjgjifaomdlaaMvW
set_option linter.unusedVariables false
set_option linter.unusedSimpArgs false
set_option maxRecDepth 100000
namespace Go.Proofs.Ytbjjgjifaomdlaa.Mv
open Go Go.RowKit
open Po (M msgV)
theorem nilints_any (w : World) : Calls Try.prog 33 #[.slice none 0 0, .slice none 0 0] w (fun e w' => e = .returned (.bool true) ∧ Below w.heap.size w w') := by
  have := sameInts_any none none 0 0 0 0 0 0 [] [] w Reads.none_ Reads.none_ (by decide) (by decide)
  refine this.mono fun e w' h => ?_
  obtain ⟨h1, q, rfl⟩ := h
  exact ⟨by simpa using h1, below_drewN (Below.refl _ w) q⟩
theorem nilhits_any (w : World) : Calls Try.prog 31 #[.slice none 0 0, .slice none 0 0] w (fun e w' => e = .returned (.bool true) ∧ Below w.heap.size w w') := by
  have := same_any none none 0 0 0 0 0 0 [] [] w Reads.none_ Reads.none_ (by decide) (by decide)
  refine this.mono fun e w' h => ?_
  obtain ⟨h1, q, rfl⟩ := h
  exact ⟨by simpa using h1, below_drewN (Below.refl _ w) q⟩
set_option maxHeartbeats 2000000 in
theorem rsameop_self (a b k : Int) (w : World) : Calls Try.prog 30 #[.agg #[.int .i64 a, .int .i64 b, .slice none 0 0, .int .i64 k], .agg #[.int .i64 a, .int .i64 b, .slice none 0 0, .int .i64 k]] w (Gives (.bool true) w) := by
  have HN := Lib.hid (fun w => nilints_any w)
  have hb : ∀ o1 o2, Below w.heap.size w ((w.alloc o1).alloc o2) := fun o1 o2 => ((Below.refl _ w).alloc (Nat.le_refl _) _).alloc (by simp) _
  go_enter Try.func30, Try.ntmps30
  go_wp2_with fail
  with_reducible refine (HN.out _).mono ?_
  rintro e w1 ⟨rfl, hb1⟩
  have hfin := (hb _ _).trans (hb1.mono (hb _ _).size)
  go_wp2
  go_ret
  exact ⟨rfl, hfin⟩
set_option maxHeartbeats 4000000 in
theorem rsame_self (x : M) (w : World) : Calls Try.prog 20 #[.agg (msgV x none 0 0 none 0 0).toArray, .agg (msgV x none 0 0 none 0 0).toArray] w (Gives (.bool true) w) := by
  have HO := Lib.hid (fun w => rsameop_self x.ok x.oi x.kk w)
  have HH := Lib.hid (fun w => nilhits_any w)
  have hb0 : Below w.heap.size w ((w.alloc (.cells (msgV x none 0 0 none 0 0).toArray 42)).alloc (.cells (msgV x none 0 0 none 0 0).toArray 42)) := ((Below.refl _ w).alloc (Nat.le_refl _) _).alloc (by simp) _
  have HR1 := Lib.hid (row_new1 w (.cells (msgV x none 0 0 none 0 0).toArray 42) 42 (msgV x none 0 0 none 0 0))
  have r0 := (Row.new w 42 (msgV x none 0 0 none 0 0)).keep (heap_alloc_lt _ (.cells (msgV x none 0 0 none 0 0).toArray 42) (Row.new w 42 (msgV x none 0 0 none 0 0)).lt)
  have HR0 := Lib.hid r0
  have HB := Lib.hid hb0
  clear hb0 r0
  unfold msgV
  go_enter Try.func20, Try.ntmps20
  go_wp2_with fail
  with_reducible refine (HO.out _).mono ?_
  rintro e w1 ⟨rfl, hb1⟩
  have h1 := HR1.out.keep (hb1.block _ HR1.out.lt)
  have h0 := HR0.out.keep (hb1.block _ HR0.out.lt)
  have HBf := Lib.hid (HB.out.trans (hb1.mono HB.out.size))
  have c12 := h0.cell (j := 12) rfl
  have c13 := h0.cell (j := 13) rfl
  have c14 := h0.cell (j := 14) rfl
  have c15 := h0.cell (j := 15) rfl
  have cl := h0.lt
  have d12 := h1.cell (j := 12) rfl
  have d13 := h1.cell (j := 13) rfl
  have d14 := h1.cell (j := 14) rfl
  have d15 := h1.cell (j := 15) rfl
  have dl := h1.lt
  clear hb1 h0 h1
  go_wp2_with fail
  with_reducible refine (HH.out _).mono ?_
  rintro e w2 ⟨rfl, hb2⟩
  have a15 := (hb2.cell (p := ⟨w.heap.size, 15, none⟩) cl).trans c15
  have b15 := (hb2.cell (p := ⟨w.heap.size + 1, 15, none⟩) dl).trans d15
  have al : w.heap.size < w2.heap.size := Nat.lt_of_lt_of_le cl hb2.size
  have bl : w.heap.size + 1 < w2.heap.size := Nat.lt_of_lt_of_le dl hb2.size
  go_wp2
  go_ret
  exact ⟨rfl, HBf.out.trans (hb2.mono HBf.out.size)⟩
end Go.Proofs.Ytbjjgjifaomdlaa.Mv
