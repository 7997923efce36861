/- What the program's move says. Conditions: a move that New gave. -/
import Derived.Test.YtbjjgjifaomdlaaMvCa
import Derived.Test.YtbjjgjifaomdlaaMvW
set_option linter.unusedVariables false
set_option linter.unusedSimpArgs false
set_option maxRecDepth 100000
namespace Go.Proofs.Ytbjjgjifaomdlaa.Mv
open Go Go.RowKit
open Po (M msgV)
section
variable {w : World} {p : Nat} {m : Mv} {v : Int} {t : ByteArray}
theorem closed_step (h : open_ m = false) : stepV m = .agg #[.int .i64 0, .int .i64 0, .int .i64 0] := by unfold stepV; simp [h]
theorem open_step (h : open_ m = true) : stepV m = .agg #[.int .i64 (asks m.ph), .int .i64 (nodeM m), .int .i64 (asks m.ph + 1)] := by unfold stepV; simp [h]
set_option maxHeartbeats 2000000 in
theorem says_is (h : IsM w p m) : Calls Try.prog 17 #[ptr p] w (fun e w' => e = .returned (saysV m) ∧ Below w.heap.size w w') := by
  have hf := h.fit
  obtain ⟨v, t, hr, hv, ht⟩ := h.row
  obtain ⟨W, hW⟩ : ∃ W, W = w.alloc (.cells nilV.toArray 42) := ⟨_, rfl⟩
  have hb : Below w.heap.size w W := by rw [hW]; exact (Below.refl _ w).alloc (Nat.le_refl _) _
  have RX : Row W w.heap.size 42 nilV := by rw [hW]; exact Row.new w _ _
  have RP := hr.keep (hb.block _ hr.lt)
  have HT := step_any hf RP
  have HK := Lib.hid (And.intro RX (And.intro RP hb))
  have h1 := phases hf
  unfold saysV saysM
  cases ho : open_ m with
  | false =>
    rw [ho, closed_step ho] at HT
    have HT := Lib.hid HT
    unfold nilV msgV nilM at hW
    have HW := Lib.hid hW
    clear hW hb RX RP hr hv hf h ho h1 ht
    go_enter Try.func17, Try.ntmps17
    go_wp2_with fail
    rw [← HW.out]
    with_reducible refine HT.out.mono ?_
    rintro e w1 ⟨rfl, hb1⟩
    have HB := Lib.hid (HK.out.2.2.trans (hb1.mono HK.out.2.2.size))
    have R1 := HK.out.1.keep (hb1.block _ HK.out.1.lt)
    have HR := Lib.hid R1
    clear hb1
    have R2 := Lib.hid (R1.keep (heap_alloc_lt w1 (.cells #[.int .i64 0, .int .i64 0, .int .i64 0] 71) R1.lt))
    have HB2 := Lib.hid (HB.out.alloc HB.out.size (.cells #[.int .i64 0, .int .i64 0, .int .i64 0] 71))
    clear R1
    go_wp2_with (refine Po.st_msg R2.out rfl rfl nil_one rfl _ _ rfl rfl rfl ?_; intro W' hr' hs' hg')
    exact bodyPost_ret (res_says Try.results17 _ hr' rfl rfl rfl rfl) rfl ⟨rfl, below_grown HB2.out hg' (Nat.le_refl _) hs' HB2.out.size⟩
  | true =>
    rw [ho, open_step ho] at HT
    rw [said_k]
    generalize asks m.ph = K at HT ⊢
    generalize nodeM m = ND at HT ⊢
    obtain ⟨nm, ep, ph, vr, sh, fr, tw, tx⟩ := m
    unfold nilV msgV nilM at hW
    simp only at h1 HT hv ht ho ⊢
    have HT := Lib.hid HT
    have HW := Lib.hid hW
    have HVT := Lib.hid (And.intro hv ht)
    have H1 := Lib.hid (And.intro h1 ho)
    clear hW hb RX RP hr hf h ho hv ht h1
    go_enter Try.func17, Try.ntmps17
    go_wp2_with fail
    rw [← HW.out]
    with_reducible refine HT.out.mono ?_
    rintro e w1 ⟨rfl, hb1⟩
    have HB := Lib.hid (HK.out.2.2.trans (hb1.mono HK.out.2.2.size))
    have R1 := HK.out.1.keep (hb1.block _ HK.out.1.lt)
    have P1 := HK.out.2.1.keep (hb1.block _ HK.out.2.1.lt)
    obtain ⟨c1, c2, c3, c4, c5, c6, c7, c8, hp⟩ := cells_of P1
    have HR := Lib.hid (And.intro R1 P1)
    clear hb1 R1 P1
    simp only at c1 c2 c3 c4 c5 c6
    go_wp2_with fail
    go_region_held3 (fun w' => w'.cell? ⟨w1.heap.size, 0, none⟩ = some (.int .i64 K) ∧ w'.cell? ⟨p, 3, none⟩ = some (.int .i64 sh) ∧ w'.cell? ⟨p, 1, none⟩ = some (.int .i64 nm))
      (first | go_keep)
      (first | fail)
    generalize hW3 : World.drew _ = W3
    have RX0 : Row W3 (w1.heap.size + 1) 42 (msgV (said0 K sh nm) none 0 0 none 0 0) := by rw [← hW3]; exact row_new1 w1 _ _ _
    have hb3 : Below w1.heap.size w1 W3 := by rw [← hW3]; exact (((Below.refl _ w1).alloc (Nat.le_refl _) _).alloc (by simp) _).drew
    have hs : W3.cell? ⟨w1.heap.size, 1, none⟩ = some (.int .i64 ND) := by rw [← hW3]; simp [World.cell?_alloc_lt]
    have hz3 : W3.heap.size = w1.heap.size + 2 := by rw [← hW3]; simp
    have hb03 := HB.out.trans (hb3.mono HB.out.size)
    have rr := HR.out.1.keep (hb3.block _ HR.out.1.lt)
    have d2 := HR.out.2.keep (hb3.block _ HR.out.2.lt)
    obtain ⟨e1, e2, e3, e4, e5, e6, e7, e8, hq⟩ := cells_of d2
    have f2 := RX0.frozen 2
    have f6 := RX0.frozen 6
    have f15 := RX0.frozen 15
    have g2 := RX0.cell (j := 2) rfl
    have g6 := RX0.cell (j := 6) rfl
    have g15 := RX0.cell (j := 15) rfl
    have gl := RX0.lt
    have HX := Lib.hid (show Mk w W3 (w1.heap.size + 1) w.heap.size (said0 K sh nm) from ⟨RX0, rr, hb03, Nat.le_refl _, by have := HR.out.1.lt; omega⟩)
    have hn1 : ¬ w1.heap.size = w1.heap.size + 1 := by omega
    have hs0 := hs
    clear RX0 hb03 rr d2 hb3 hW3 c1 c2 c3 c4 c5 c6 c7 c8 hp
    obtain ⟨h1, ho⟩ := H1.out
    simp only at e1 e2 e3 e4 e5 e6
    have e7' : W3.cell? ⟨p, 7, none⟩ = some (.int .i64 (if ph = 3 then vr else v)) := by
      rw [e7]
      split
      · rename_i h
        rw [HVT.out.1 (.inr h)]
      · rfl
    have e8' : W3.cell? ⟨p, 8, none⟩ = some (.string (if ph = 2 ∨ ph = 4 then tx else t)) := by
      rw [e8]
      split
      · rename_i h
        rw [HVT.out.2 h]
      · rfl
    clear e7 e8 HVT H1
    rcases h1 with e | e | e | e | e | e | e | e | e
    all_goals (try (exfalso; rw [e] at ho; revert ho; decide))
    all_goals
      as_aux_lemma =>
      rw [e] at e6
      simp (config := { decide := true }) only [e, if_true, if_false, or_true, true_or, or_false, false_or, Bool.false_eq_true] at e7' e8'
      have HE := Lib.hid e
      clear ho e
      go_wp2_with fail
      refine wp_world (fun W => Mk w W (w1.heap.size + 1) w.heap.size (saidK K ⟨nm, ep, ph, vr, sh, fr, tw, tx⟩) ∧ W.cell? ⟨w1.heap.size, 1, none⟩ = some (.int .i64 ND)) ?_ ?_
      · refine ⟨?_, ?_⟩
        · first
            | exact HX.out.cast (by simp [saidK, said0, nilM, HE.out])
            | exact (HX.out.tx _).cast (by simp [saidK, said0, nilM, HE.out])
            | exact (HX.out.vr _).cast (by simp [saidK, said0, nilM, HE.out])
            | exact (HX.out.ep _).cast (by simp [saidK, said0, nilM, HE.out])
            | exact ((HX.out.ep _).tx _).cast (by simp [saidK, said0, nilM, HE.out])
            | exact ((HX.out.tx _).ep _).cast (by simp [saidK, said0, nilM, HE.out])
        · first
            | exact hs0
            | (go_keep)
      intro Wf hF
      clear e1 e2 e3 e4 e5 e6 e7' e8' hq f2 f6 f15 g2 g6 g15 gl hs hs0 HX
      refine wp_region_held_drew (S := fun W => W.cell? ⟨w1.heap.size, 1, none⟩ = some (.int .i64 ND) ∧ Row W (w1.heap.size + 1) 42 (msgV (saidK K ⟨nm, ep, ph, vr, sh, fr, tw, tx⟩) none 0 0 none 0 0)) (by kernel_rfl) ⟨hF.2, hF.1.row⟩ (fun hHeld => ?_)
      refine tk 0 (oi := ⟨_, _, _, _, _, _⟩) rfl (fun w' hSw => by (try dsimp only at hSw); go_simp <;> with_reducible rfl) ?_
      refine tk 1 (oi := ⟨_, _, _, _, _, _⟩) rfl (fun w' hSw => by (try dsimp only at hSw); have hSw := hSw.1; go_simp <;> with_reducible rfl) ?_
      refine tk 2 (oi := ⟨_, _, _, _, _, _⟩) rfl (fun w' hSw => by (refine yields_msg hSw.2 rfl (.tmp 7) ?_ ?_) <;> rfl) ?_
      refine tk 3 (oi := ⟨_, _, _, _, _, _⟩) rfl (fun w' hSw => by (try dsimp only at hSw); go_simp <;> with_reducible rfl) ?_
      try simp only [Act.put, List.setIfInBounds_toArray, List.set_cons_zero, List.set_cons_succ]
      refine rd1 4 (o := ⟨_, _, _, _, _, _⟩) rfl (fun K hK => ?_)
      refine step_st_row (xs := nilV) (ys := msgV (saidK _ ⟨nm, ep, ph, vr, sh, fr, tw, tx⟩) none 0 0 none 0 0) hF.1.drew.res rfl (by kernel_rfl) (msg_one _ none 0 0 none 0 0) rfl _ _ rfl rfl rfl ?_
      intro W4 hr4 hs4 hg4
      refine hK.out _ _ ?_ (fun hHeld => ?_)
      · exact ⟨cell_grown (W := Wf.drew) hF.2 hg4 (by have := HR.out.1.lt; omega), row_grown (W := Wf.drew) hF.1.row hg4 (by have := hF.1.lt; omega)⟩
      clear hK K
      try simp only [Act.put, List.setIfInBounds_toArray, List.set_cons_zero, List.set_cons_succ]
      refine tk 5 (oi := ⟨_, _, _, _, _, _⟩) rfl (fun w' hSw => by (try dsimp only at hSw); go_simp <;> with_reducible rfl) ?_
      try simp only [Act.put, List.setIfInBounds_toArray, List.set_cons_zero, List.set_cons_succ]
      refine wpAnyH_done (by kernel_rfl) ?_ _
      go_wp2_with fail
      exact bodyPost_ret (res_says Try.results17 _ hr4 rfl rfl rfl rfl) rfl ⟨rfl, below_grown hF.1.drew.bel hg4 (Nat.le_refl _) hs4 hF.1.bel.size⟩
end
end Go.Proofs.Ytbjjgjifaomdlaa.Mv
