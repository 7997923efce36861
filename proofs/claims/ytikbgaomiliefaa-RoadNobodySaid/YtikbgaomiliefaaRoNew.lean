/- New of the document's road. Conditions: none. -/
import Derived.Test.YtikbgaomiliefaaRoNext
set_option linter.unusedVariables false
set_option linter.unusedSimpArgs false
set_option maxRecDepth 100000
namespace Go.Proofs.Ytikbgaomiliefaa.Ro
open Go Go.RowKit
def newQ (k : Int) : Rd × Int := if k < 1 ∨ 8 < k then ([], 1) else (List.replicate (k.toNat + 1) [], 0)
theorem rat_none (w : World) (F : Nat → Prop) : RAt w F [] none 0 0 := ⟨⟨[], rfl, ⟨rfl, fun h => absurd h (by omega)⟩, fun i hi => absurd hi (by simp)⟩, Nat.le_refl _, Nat.zero_le _, off_none _ _⟩
theorem rat_new {w : World} {F : Nat → Prop} {p n : Nat} (hr : Row w p 58 (List.replicate n (.slice none 0 0))) (hF : ¬ F p) (hn : n ≤ 1000) : RAt w F (List.replicate n []) (some ⟨p, 0, none⟩) n n := by
  refine ⟨⟨List.replicate n nilS, by simp, ⟨by simp, fun _ => ⟨_, rfl, hr.lt, fun j u hu => ?_⟩⟩, fun i hi => ?_⟩, Nat.le_refl _, by unfold maxLen; omega, fun ad hA => ?_⟩
  · rw [add_flat, Nat.zero_add]
    refine hr.cell ?_
    rw [← hu, List.map_replicate]
    rfl
  · rw [List.length_replicate] at hi
    rw [List.getD_eq_getElem?_getD, List.getD_eq_getElem?_getD, List.getElem?_replicate_of_lt hi, List.getElem?_replicate_of_lt hi]
    exact SlAt.nil w F 0 (by decide)
  · injection hA with hA
    subst hA
    exact ⟨hr.lt, hF⟩
theorem mk_slices (w : World) (n : Nat) (hn : n ≤ 1000) : (Instr.makeSlice 27 (.int .i64 (n : Int)) (.int .i64 (n : Int))).run Try.prog w = .ok (.slice (some ⟨w.heap.size, 0, none⟩) n n) (w.alloc (.cells (List.replicate n (.slice none 0 0)).toArray 58)) := by
  have h := run_make_row' (P := Try.prog) 27 58 (.slice none 0 0) 24 Try.underlying27 slice_row rfl .i64 .i64 n (by omega) (by omega) w
  rw [h]
  have e : madeCells #[.slice none 0 0] n = (List.replicate n (Value.slice none 0 0)).toArray := Array.toList_inj.1 (by rw [toList_madeCells_one])
  rw [e]
set_option maxHeartbeats 4000000 in
theorem rnew_any (k : Int) (w : World) (F : Nat → Prop) (hF : ∀ b, F b → b < w.heap.size) :
    Calls Try.prog 10 #[.int .i64 k] w (REPost F (newQ k).1 (newQ k).2 w) := by
  unfold newQ
  obtain ⟨W, hW⟩ : ∃ W, W = w.alloc (.cells #[.slice none 0 0] 29) := ⟨_, rfl⟩
  have hr0 : Row W w.heap.size 29 [.slice none 0 0] := by rw [hW]; exact Row.new w _ _
  have hb0 : Below w.heap.size w W := by rw [hW]; exact (Below.refl _ w).alloc (Nat.le_refl _) _
  have v0 := hr0.cell (j := 0) rfl
  have f0 := hr0.frozen 0
  have vl := hr0.lt
  have hs : W.heap.size = w.heap.size + 1 := by rw [hW]; simp
  have HW := Lib.hid hW
  by_cases hk : k < 1 ∨ 8 < k
  · rw [if_pos hk]
    have hc : k < 1 ∨ ¬ k < 1 ∧ 8 < k := by omega
    have HR := Lib.hid (And.intro (hr0.set 0 (.slice none 0 0)) (below_setCell hb0 (p := ⟨w.heap.size, 0, none⟩) (Nat.le_refl _) (.slice none 0 0)))
    have HB := Lib.hid (And.intro hr0 hb0)
    clear hW hr0 hb0 hk
    rcases hc with h1 | ⟨h1, h2⟩
    all_goals
      go_enter Try.func10, Try.ntmps10
      go_wp2_with fail
      try rw [← HW.out]
      go_wp2
      refine bodyPost_ret (v := .tuple #[.agg #[.slice none 0 0], .int .i64 1]) (by simp [results, Try.results10, go_sem, v0]) rfl ?_
      exact ⟨none, 0, 0, rfl, rat_none _ F, HB.out.2⟩
  · rw [if_neg hk]
    obtain ⟨m, rfl⟩ : ∃ m : Nat, k = (m : Int) := ⟨k.toNat, by omega⟩
    have h1 : ¬ (m : Int) < 1 := by omega
    have h2 : ¬ (8 : Int) < (m : Int) := by omega
    have hm1 : IntKind.i64.wrap ((m : Int) + 1) = ((m + 1 : Nat) : Int) := by rw [IntKind.wrap_i64]; omega
    have hmk := mk_slices W (m + 1) (by omega)
    obtain ⟨W2, hW2⟩ : ∃ W2, W2 = W.alloc (.cells (List.replicate (m + 1) (Value.slice none 0 0)).toArray 58) := ⟨_, rfl⟩
    have hr1 : Row W2 (w.heap.size + 1) 58 (List.replicate (m + 1) (.slice none 0 0)) := by rw [hW2, ← hs]; exact Row.new W _ _
    have hr2 : Row W2 w.heap.size 29 [.slice none 0 0] := by rw [hW2]; exact hr0.keep (heap_alloc_lt _ _ hr0.lt)
    have hb1 : Below w.heap.size w W2 := by rw [hW2]; exact hb0.alloc (by omega) _
    have v1 := hr2.cell (j := 0) rfl
    have f1 := hr2.frozen 0
    have l1 := hr2.lt
    have HR := Lib.hid (And.intro (hr2.set 0 (.slice (some ⟨w.heap.size + 1, 0, none⟩) (m + 1) (m + 1))) (And.intro (below_setCell hb1 (p := ⟨w.heap.size, 0, none⟩) (Nat.le_refl _) (.slice (some ⟨w.heap.size + 1, 0, none⟩) (m + 1) (m + 1))) (rat_new (F := F) ((hr1.keep (heap_set_ne W2 ⟨w.heap.size, 0, none⟩ (.slice (some ⟨w.heap.size + 1, 0, none⟩) (m + 1) (m + 1)) (by simp only; omega)))) (fun hf => by have := hF _ hf; omega) (by omega))))
    have HS := Lib.hid hs
    rw [← hW2] at hmk
    rw [hs] at hmk
    rw [show ((m + 1 : Nat) : Int) = (m : Int) + 1 by omega] at hmk
    have e1 : (m : Int).toNat + 1 = m + 1 := by omega
    rw [e1]
    clear hW hr0 hb0 hk hW2 hr1 hr2 hb1 e1 hs
    go_enter Try.func10, Try.ntmps10
    go_wp2_with fail
    rw [← HW.out]
    go_wp2
    rw [hmk]
    go_wp2
    have g0 := HR.out.1.cell (j := 0) rfl
    refine bodyPost_ret (v := .tuple #[.agg #[.slice (some ⟨w.heap.size + 1, 0, none⟩) (m + 1) (m + 1)], .int .i64 0]) (by simp [results, Try.results10, go_sem, g0]) rfl ?_
    exact ⟨some ⟨w.heap.size + 1, 0, none⟩, m + 1, m + 1, rfl, HR.out.2.2, HR.out.2.1⟩

end Go.Proofs.Ytikbgaomiliefaa.Ro
