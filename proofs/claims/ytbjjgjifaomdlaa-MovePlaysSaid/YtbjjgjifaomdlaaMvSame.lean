/- The program's move and the document's say the same. Conditions: a move that may be. -/
import Derived.Test.YtbjjgjifaomdlaaMvNb
import Derived.Test.YtbjjgjifaomdlaaMvRh
set_option linter.unusedVariables false
set_option linter.unusedSimpArgs false
set_option maxRecDepth 100000
namespace Go.Proofs.Ytbjjgjifaomdlaa.Mv
open Go Go.RowKit
open Po (M msgV)
set_option maxHeartbeats 4000000 in
theorem same_mv {w : World} {p : Nat} {m : Mv} (h : IsM w p m) : Calls Try.prog 16 #[ptr p, .agg (mvV m).toArray] w (Gives (.bool true) w) := by
  have hf := h.fit
  obtain ⟨⟨nn, x, b⟩, hs⟩ : ∃ y, saysM m = y := ⟨_, rfl⟩
  have HSM := Lib.hid (fun w => rsame_self x w)
  have HS := Lib.hid (fun w (h : IsM w p m) => says_to h hs)
  have HR := Lib.hid (fun w => by have := rsays_any hf w; unfold saysV at this; rw [hs] at this; simp only [msgA] at this; exact this)
  have HP := Lib.hid (fun w (h : IsM w p m) => phase_to h (r := m.ph) rfl)
  have hb0 : Below w.heap.size w (w.alloc (.cells (mvV m).toArray 31)) := (Below.refl _ w).alloc (Nat.le_refl _) _
  have hi := h.keep (heap_alloc_lt w (.cells (mvV m).toArray 31) h.lt)
  have r0 := Row.new w 31 (mvV m)
  have HK := Lib.hid (And.intro hb0 (And.intro hi r0))
  clear hb0 hi r0 hf hs h
  obtain ⟨nm, ep, ph, vr, sh, fr, tw, tx⟩ := m
  simp only [mvV]
  go_enter Try.func16, Try.ntmps16
  go_wp2_with fail
  refine (HS.out _ HK.out.2.1).mono ?_
  rintro e w1 ⟨rfl, hb1⟩
  have H1 := Lib.hid (And.intro (HK.out.1.trans (hb1.mono HK.out.1.size)) (And.intro (HK.out.2.1.keep (hb1.block _ HK.out.2.1.lt)) (HK.out.2.2.keep (hb1.block _ HK.out.2.2.lt))))
  clear hb1
  rw [msgA]
  go_wp2_with (refine ld_mv (m := ⟨nm, ep, ph, vr, sh, fr, tw, tx⟩) (by exact H1.out.2.2.keep (heap_alloc_lt _ _ H1.out.2.2.lt)) rfl _ rfl rfl ?_)
  have ha := below_a w1 (.cells (msgV x none 0 0 none 0 0).toArray 42)
  have H2 := Lib.hid (show Below w.heap.size w (w1.alloc (.cells (msgV x none 0 0 none 0 0).toArray 42)) ∧ IsM (w1.alloc (.cells (msgV x none 0 0 none 0 0).toArray 42)) p ⟨nm, ep, ph, vr, sh, fr, tw, tx⟩ ∧ Row (w1.alloc (.cells (msgV x none 0 0 none 0 0).toArray 42)) w.heap.size 31 (mvV ⟨nm, ep, ph, vr, sh, fr, tw, tx⟩) ∧ Row (w1.alloc (.cells (msgV x none 0 0 none 0 0).toArray 42)) w1.heap.size 42 (msgV x none 0 0 none 0 0) from ⟨H1.out.1.trans (ha.mono H1.out.1.size), H1.out.2.1.keep (ha.block _ H1.out.2.1.lt), H1.out.2.2.keep (ha.block _ H1.out.2.2.lt), Row.new w1 _ _⟩)
  clear ha
  refine (HR.out _).mono ?_
  rintro e w2 ⟨rfl, hb2⟩
  have H3 := Lib.hid (And.intro (H2.out.1.trans (hb2.mono H2.out.1.size)) (And.intro (H2.out.2.1.keep (hb2.block _ H2.out.2.1.lt)) (And.intro (H2.out.2.2.1.keep (hb2.block _ H2.out.2.2.1.lt)) (H2.out.2.2.2.keep (hb2.block _ H2.out.2.2.2.lt)))))
  have hz := Lib.hid (show w1.heap.size < w2.heap.size from Nat.lt_of_lt_of_le (by simp) hb2.size)
  clear hb2
  go_wp2_with fail
  have ha := below_a w2 (.cells (msgV x none 0 0 none 0 0).toArray 42)
  have h4 : Below w.heap.size w (w2.alloc (.cells (msgV x none 0 0 none 0 0).toArray 42)) := H3.out.1.trans (ha.mono H3.out.1.size)
  have h5 := H3.out.2.1.keep (ha.block _ H3.out.2.1.lt)
  have h6 := H3.out.2.2.1.keep (ha.block _ H3.out.2.2.1.lt)
  have h7 := H3.out.2.2.2.keep (ha.block _ H3.out.2.2.2.lt)
  have h8 := Row.new w2 42 (msgV x none 0 0 none 0 0)
  have H4 := Lib.hid (And.intro h4 (And.intro h5 (And.intro h6 (And.intro h7 h8))))
  clear ha h4 h5 h6 h7 h8
  refine wp_region_held_drew (S := fun W => Row W w.heap.size 31 (mvV ⟨nm, ep, ph, vr, sh, fr, tw, tx⟩) ∧ Row W w1.heap.size 42 (msgV x none 0 0 none 0 0) ∧ Row W w2.heap.size 42 (msgV x none 0 0 none 0 0)) (by kernel_rfl) ?_ (fun hHeld => ?_)
  · exact ⟨H4.out.2.2.1, H4.out.2.2.2.1, H4.out.2.2.2.2⟩
  refine tk 0 (oi := ⟨_, _, _, _, _, _⟩) rfl (fun w' hSw => by ((try dsimp only at hSw); go_simp <;> with_reducible rfl)) ?_
  try simp only [Act.put, List.setIfInBounds_toArray, List.set_cons_zero, List.set_cons_succ]
  refine tk 1 (oi := ⟨_, _, _, _, _, _⟩) rfl (fun w' hSw => by ((try dsimp only at hSw); go_simp <;> with_reducible rfl)) ?_
  try simp only [Act.put, List.setIfInBounds_toArray, List.set_cons_zero, List.set_cons_succ]
  refine tk 2 (oi := ⟨_, _, _, _, _, _⟩) (v := .bool true) rfl (fun w' hSw => by ((try dsimp only at hSw); go_simp <;> with_reducible rfl)) ?_
  try simp only [Act.put, List.setIfInBounds_toArray, List.set_cons_zero, List.set_cons_succ]
  refine tk 3 (oi := ⟨_, _, _, _, _, _⟩) rfl (fun w' hSw => by ((try dsimp only at hSw); go_simp <;> with_reducible rfl)) ?_
  try simp only [Act.put, List.setIfInBounds_toArray, List.set_cons_zero, List.set_cons_succ]
  refine tk 4 (oi := ⟨_, _, _, _, _, _⟩) rfl (fun w' hSw => by (refine yields_msg hSw.2.1 rfl (.tmp 6) ?_ ?_) <;> rfl) ?_
  try simp only [Act.put, List.setIfInBounds_toArray, List.set_cons_zero, List.set_cons_succ]
  refine tk 5 (oi := ⟨_, _, _, _, _, _⟩) rfl (fun w' hSw => by (refine yields_msg hSw.2.2 rfl (.tmp 9) ?_ ?_) <;> rfl) ?_
  try simp only [Act.put, List.setIfInBounds_toArray, List.set_cons_zero, List.set_cons_succ]
  refine rd1 6 (o := ⟨_, _, _, _, _, _⟩) rfl (fun K' hK => ?_)
  go_simp
  go_at_call 20
  refine (HSM.out _).mono ?_
  rintro en w5 ⟨rfl, hb5⟩
  have hb5' : Below (w2.alloc (.cells (msgV x none 0 0 none 0 0).toArray 42)).heap.size (w2.alloc (.cells (msgV x none 0 0 none 0 0).toArray 42)) w5 := ⟨hb5.os, hb5.tape, hb5.output, hb5.size, hb5.block⟩
  have H5 := Lib.hid (And.intro (H4.out.1.trans (hb5'.mono H4.out.1.size)) (And.intro (H4.out.2.1.keep (hb5'.block _ H4.out.2.1.lt)) (And.intro (H4.out.2.2.1.keep (hb5'.block _ H4.out.2.2.1.lt)) (And.intro (H4.out.2.2.2.1.keep (hb5'.block _ H4.out.2.2.2.1.lt)) (H4.out.2.2.2.2.keep (hb5'.block _ H4.out.2.2.2.2.lt))))))
  refine hK.out _ _ (by exact ⟨H5.out.2.2.1, H5.out.2.2.2.1, H5.out.2.2.2.2⟩) (fun hHeld => ?_)
  clear hK K' hb5 hb5'
  try simp only [Act.put, List.setIfInBounds_toArray, List.set_cons_zero, List.set_cons_succ]
  refine tk 7 (oi := ⟨_, _, _, _, _, _⟩) rfl (fun w' hSw => by ((try dsimp only at hSw); go_simp <;> with_reducible rfl)) ?_
  try simp only [Act.put, List.setIfInBounds_toArray, List.set_cons_zero, List.set_cons_succ]
  refine tk 8 (oi := ⟨_, _, _, _, _, _⟩) rfl (fun w' hSw => by ((try dsimp only at hSw); go_simp <;> with_reducible rfl)) ?_
  try simp only [Act.put, List.setIfInBounds_toArray, List.set_cons_zero, List.set_cons_succ]
  refine tk 9 (oi := ⟨_, _, _, _, _, _⟩) rfl (fun w' hSw => by ((try dsimp only at hSw); go_simp <;> with_reducible rfl)) ?_
  try simp only [Act.put, List.setIfInBounds_toArray, List.set_cons_zero, List.set_cons_succ]
  refine tk 10 (oi := ⟨_, _, _, _, _, _⟩) rfl (fun w' hSw => by ((try dsimp only at hSw); go_simp <;> with_reducible rfl)) ?_
  try simp only [Act.put, List.setIfInBounds_toArray, List.set_cons_zero, List.set_cons_succ]
  refine tk 11 (oi := ⟨_, _, _, _, _, _⟩) (v := .bool true) rfl (fun w' hSw => by ((try dsimp only at hSw); go_simp <;> with_reducible rfl)) ?_
  try simp only [Act.put, List.setIfInBounds_toArray, List.set_cons_zero, List.set_cons_succ]
  refine tk 12 (oi := ⟨_, _, _, _, _, _⟩) rfl (fun w' hSw => by ((try dsimp only at hSw); go_simp <;> with_reducible rfl)) ?_
  try simp only [Act.put, List.setIfInBounds_toArray, List.set_cons_zero, List.set_cons_succ]
  refine tk 13 (oi := ⟨_, _, _, _, _, _⟩) rfl (fun w' hSw => by ((try dsimp only at hSw); go_simp <;> with_reducible rfl)) ?_
  try simp only [Act.put, List.setIfInBounds_toArray, List.set_cons_zero, List.set_cons_succ]
  refine tk 14 (oi := ⟨_, _, _, _, _, _⟩) rfl (fun w' hSw => by ((try dsimp only at hSw); go_simp <;> with_reducible rfl)) ?_
  try simp only [Act.put, List.setIfInBounds_toArray, List.set_cons_zero, List.set_cons_succ]
  refine tk 16 (oi := ⟨_, _, _, _, _, _⟩) rfl (fun w' hSw => by ((try dsimp only at hSw); go_simp <;> with_reducible rfl)) ?_
  try simp only [Act.put, List.setIfInBounds_toArray, List.set_cons_zero, List.set_cons_succ]
  refine tk 17 (oi := ⟨_, _, _, _, _, _⟩) rfl (fun w' hSw => by (have y := hSw.1.cell (j := 2) rfl; go_simp <;> with_reducible rfl)) ?_
  try simp only [Act.put, List.setIfInBounds_toArray, List.set_cons_zero, List.set_cons_succ]
  refine rd1 15 (o := ⟨_, _, _, _, _, _⟩) rfl (fun K' hK => ?_)
  go_simp
  go_at_call 18
  refine (HP.out _ H5.out.2.1).mono ?_
  rintro en w6 ⟨rfl, rfl⟩
  refine hK.out _ _ (by exact ⟨H5.out.2.2.1, H5.out.2.2.2.1, H5.out.2.2.2.2⟩) (fun hHeld => ?_)
  clear hK K'
  try simp only [Act.put, List.setIfInBounds_toArray, List.set_cons_zero, List.set_cons_succ]
  refine tk 18 (oi := ⟨_, _, _, _, _, _⟩) (v := .bool true) rfl (fun w' hSw => by ((try dsimp only at hSw); go_simp <;> with_reducible rfl)) ?_
  try simp only [Act.put, List.setIfInBounds_toArray, List.set_cons_zero, List.set_cons_succ]
  refine tk 19 (oi := ⟨_, _, _, _, _, _⟩) rfl (fun w' hSw => by ((try dsimp only at hSw); go_simp <;> with_reducible rfl)) ?_
  try simp only [Act.put, List.setIfInBounds_toArray, List.set_cons_zero, List.set_cons_succ]
  refine tk 20 (oi := ⟨_, _, _, _, _, _⟩) rfl (fun w' hSw => by ((try dsimp only at hSw); go_simp <;> with_reducible rfl)) ?_
  try simp only [Act.put, List.setIfInBounds_toArray, List.set_cons_zero, List.set_cons_succ]
  refine wpAnyH_done (by kernel_rfl) ?_ _
  go_wp2_with fail
  go_ret
  exact ⟨rfl, H5.out.1⟩
end Go.Proofs.Ytbjjgjifaomdlaa.Mv
