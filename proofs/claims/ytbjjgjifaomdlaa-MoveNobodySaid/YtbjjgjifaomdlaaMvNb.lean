/- A move that nobody made. Conditions: none. -/
import Derived.Test.YtbjjgjifaomdlaaMvAw
import Derived.Test.YtbjjgjifaomdlaaMvSm
set_option linter.unusedVariables false
set_option linter.unusedSimpArgs false
set_option maxRecDepth 100000
namespace Go.Proofs.Ytbjjgjifaomdlaa.Mv
open Go Go.RowKit
open Po (M msgV)
/-- The cells of a move that New did not give. -/
def nbC : List Value := [.pointer none, .int .i64 0, .int .i64 0, .int .i64 0, .int .i64 0, .int .i64 0, .int .i64 0, .int .i64 0, .string { data := #[] }]
def Nb (w : World) (v : Option Addr) : Prop := v = none ∨ ∃ q, v = some ⟨q, 0, none⟩ ∧ Row w q 62 nbC
section
variable {w w2 : World} {v : Option Addr}
theorem Nb.on (h : Nb w v) (hb : Below w.heap.size w w2) : Nb w2 v := by
  rcases h with h | ⟨q, h, r⟩
  · exact .inl h
  · exact .inr ⟨q, h, r.keep (hb.block _ r.lt)⟩
theorem given_nb (h : Nb w v) : Calls Try.prog 26 #[.pointer v] w (fun e w2 => e = .returned (.bool false) ∧ w2 = w) := by
  rcases h with rfl | ⟨q, rfl, r⟩
  · exact given_nil w
  · exact given_no r
theorem phase_nb (h : Nb w v) : Calls Try.prog 18 #[.pointer v] w (fun e w2 => e = .returned (.int .i64 0) ∧ w2 = w) := by
  have HG := Lib.hid (given_nb h)
  clear h
  go_enter Try.func18, Try.ntmps18
  go_wp2_with ((with_reducible refine (HG.out).mono ?_); rintro e w1 ⟨rfl, rfl⟩)
  go_ret
  exact ⟨rfl, rfl⟩
theorem abort_nb (h : Nb w v) : Calls Try.prog 13 #[.pointer v] w (fun e w2 => e = .returned (.int .i64 1) ∧ w2 = w) := by
  have HG := Lib.hid (given_nb h)
  clear h
  go_enter Try.func13, Try.ntmps13
  go_wp2_with ((with_reducible refine (HG.out).mono ?_); rintro e w1 ⟨rfl, rfl⟩)
  go_ret
  exact ⟨rfl, rfl⟩
theorem step_nb (h : Nb w v) : Calls Try.prog 28 #[.pointer v] w (fun e w2 => e = .returned (.tuple #[.agg #[.int .i64 0, .int .i64 0, .int .i64 0], .bool false]) ∧ Below w.heap.size w w2) := by
  have HG := Lib.hid (given_nb (h.on (below_a w (.cells #[.int .i64 0, .int .i64 0, .int .i64 0] 71))))
  clear h
  go_enter Try.func28, Try.ntmps28
  go_wp2_with ((with_reducible refine (HG.out).mono ?_); rintro e w1 ⟨rfl, rfl⟩)
  exact bodyPost_ret (res_st Try.results28 _ (b := w.heap.size) (Row.new w _ [_, _, _]) rfl rfl) rfl ⟨rfl, below_a _ _⟩
set_option maxHeartbeats 1000000 in
theorem says_nb (h : Nb w v) : Calls Try.prog 17 #[.pointer v] w (fun e w' => e = .returned (.tuple #[.int .i64 (-1), .agg (msgV nilM none 0 0 none 0 0).toArray, .bool false]) ∧ Below w.heap.size w w') := by
  obtain ⟨W, hW⟩ : ∃ W, W = w.alloc (.cells nilV.toArray 42) := ⟨_, rfl⟩
  have hb : Below w.heap.size w W := by rw [hW]; exact (Below.refl _ w).alloc (Nat.le_refl _) _
  have RX : Row W w.heap.size 42 nilV := by rw [hW]; exact Row.new w _ _
  have HT := Lib.hid (step_nb (h.on hb))
  have HK := Lib.hid (And.intro RX hb)
  unfold nilV msgV nilM at hW
  have HW := Lib.hid hW
  clear hW hb RX h
  go_enter Try.func17, Try.ntmps17
  go_wp2_with fail
  rw [← HW.out]
  with_reducible refine HT.out.mono ?_
  rintro e w1 ⟨rfl, hb1⟩
  have HB := Lib.hid (HK.out.2.trans (hb1.mono HK.out.2.size))
  have R1 := HK.out.1.keep (hb1.block _ HK.out.1.lt)
  clear hb1
  have R2 := Lib.hid (R1.keep (heap_alloc_lt w1 (.cells #[.int .i64 0, .int .i64 0, .int .i64 0] 71) R1.lt))
  have HB2 := Lib.hid (HB.out.alloc HB.out.size (.cells #[.int .i64 0, .int .i64 0, .int .i64 0] 71))
  clear R1
  go_wp2_with (refine Po.st_msg R2.out rfl rfl nil_one rfl _ _ rfl rfl rfl ?_; intro W' hr' hs' hg')
  exact bodyPost_ret (res_says Try.results17 _ hr' rfl rfl rfl rfl) rfl ⟨rfl, below_grown HB2.out hg' (Nat.le_refl _) hs' HB2.out.size⟩
set_option maxHeartbeats 1000000 in
theorem hears_nb (h : Nb w v) (f : Int) (x : M) (A : Option Addr) (n c : Nat) (A' : Option Addr) (n' c' : Nat) :
    Calls Try.prog 15 #[.pointer v, .int .i64 f, .agg (msgV x A n c A' n' c').toArray] w (fun e w' => e = .returned (.bool false) ∧ Below w.heap.size w w') := by
  obtain ⟨W, hW⟩ : ∃ W, W = w.alloc (.cells (msgV x A n c A' n' c').toArray 42) := ⟨_, rfl⟩
  have hb : Below w.heap.size w W := by rw [hW]; exact (Below.refl _ w).alloc (Nat.le_refl _) _
  have HT := Lib.hid (step_nb (h.on hb))
  have HK := Lib.hid hb
  unfold msgV at hW ⊢
  have HW := Lib.hid hW
  clear hW hb h
  go_enter Try.func15, Try.ntmps15
  go_wp2_with fail
  rw [← HW.out]
  with_reducible refine HT.out.mono ?_
  rintro e w1 ⟨rfl, hb1⟩
  have HB := Lib.hid (HK.out.trans (hb1.mono HK.out.size))
  clear hb1
  go_wp2_with fail
  go_quiet (fail)
  go_wp2
  go_ret
  exact ⟨rfl, below_drewN (HB.out.alloc HB.out.size _) _⟩
end
end Go.Proofs.Ytbjjgjifaomdlaa.Mv
