/- What the document's move says, and hears. Conditions: a move that may be. -/
import Derived.Test.YtbjjgjifaomdlaaMvW
set_option linter.unusedVariables false
set_option linter.unusedSimpArgs false
set_option maxRecDepth 100000
namespace Go.Proofs.Ytbjjgjifaomdlaa.Mv
open Go Go.RowKit
open Po (M msgV)
section
variable {w : World} {m : Mv}
/-- The document's move in a variable's block. -/
structure MvAt (w0 w : World) (b : Nat) (m : Mv) : Prop where
  row : Row w b 31 (mvV m)
  bel : Below w0.heap.size w0 w
  lo : w0.heap.size ≤ b
theorem MvAt.on {w0 w1 w2 : World} {b : Nat} (h : MvAt w0 w1 b m) (hb : Below w1.heap.size w1 w2) : MvAt w0 w2 b m := ⟨h.row.keep (hb.block _ h.row.lt), h.bel.trans (hb.mono h.bel.size), h.lo⟩
theorem mvat_new (w : World) (m : Mv) : MvAt w (w.alloc (.cells (mvV m).toArray 31)) w.heap.size m := ⟨Row.new w _ _, (Below.refl _ w).alloc (Nat.le_refl _) _, Nat.le_refl _⟩
theorem mk_st {W W4 : World} {N R b : Nat} {x : M} (h4 : Row W4 N 42 (msgV x none 0 0 none 0 0)) (hg : W.grownBy W4 (some N)) (hs : W4.heap.size = W.heap.size) (r : Row W R 42 nilV) (rm : Row W b 31 (mvV m)) (hb : Below w.heap.size w W) (lo : w.heap.size ≤ R) (lt : R < N) (ne : b ≠ N) : Mk w W4 N R x ∧ Row W4 b 31 (mvV m) :=
  ⟨⟨h4, row_grown r hg (by omega), below_grown hb hg (by omega) hs hb.size, lo, lt⟩, row_grown rm hg ne⟩
set_option maxHeartbeats 2000000 in
theorem rsays_any (hf : FitV m) (w : World) : Calls Try.prog 11 #[.agg (mvV m).toArray] w (fun e w' => e = .returned (saysV m) ∧ Below w.heap.size w w') := by
  have hno := node_open hf
  have HND := Lib.hid (fun w => node_any m hf w)
  have HM := Lib.hid (mvat_new w m)
  unfold saysV saysM
  cases ho : open_ m with
  | false =>
    have hlt : nodeM m < 0 := hno.2 ho
    generalize nodeM m = ND at *
    clear hno ho hf
    unfold mvV
    unfold mvV at HND HM
    go_enter Try.func11, Try.ntmps11
    go_wp2_with fail
    refine (HND.out _).mono ?_
    rintro e w1 ⟨rfl, hb1⟩
    have r0 := row_new1 w (.cells #[.int .i64 m.nm, .int .i64 m.ep, .int .i64 m.ph, .int .i64 m.vr, .int .i64 m.sh, .int .i64 m.fr, .int .i64 m.to, .string m.tx] 31) 42 nilV
    have R := Lib.hid (r0.keep (hb1.block _ r0.lt))
    have HB := Lib.hid ((((Below.refl _ w).alloc (Nat.le_refl _) (.cells #[.int .i64 m.nm, .int .i64 m.ep, .int .i64 m.ph, .int .i64 m.vr, .int .i64 m.sh, .int .i64 m.fr, .int .i64 m.to, .string m.tx] 31)).alloc (by simp) (.cells nilV.toArray 42)).trans (hb1.mono (by simp; omega)))
    clear hb1 r0
    go_wp2_with (refine Po.st_msg R.out rfl rfl nil_one rfl _ _ rfl rfl rfl ?_; intro W' hr' hs' hg')
    exact bodyPost_ret (res_says Try.results11 _ hr' rfl rfl rfl rfl) rfl ⟨rfl, below_grown HB.out hg' (by omega) hs' HB.out.size⟩
  | true =>
    have hlt : ¬ nodeM m < 0 := fun h => by have := hno.1 h; rw [ho] at this; cases this
    have HAS := Lib.hid (fun w => asks_any m.ph hf.ph w)
    have h1 := phases hf
    rw [said_k]
    generalize hND : nodeM m = ND at *
    generalize hKK : asks m.ph = K at *
    obtain ⟨nm, ep, ph, vr, sh, fr, tw, tx⟩ := m
    have H1 := Lib.hid (And.intro h1 ho)
    simp only [mvV] at HND HAS ⊢
    clear hno ho hf h1 hND hKK
    go_enter Try.func11, Try.ntmps11
    go_wp2_with fail
    refine (HND.out _).mono ?_
    rintro e w1 ⟨rfl, hb1⟩
    have r0 := row_new1 w (.cells (mvV ⟨nm, ep, ph, vr, sh, fr, tw, tx⟩).toArray 31) 42 nilV
    have rm := ((mvat_new w ⟨nm, ep, ph, vr, sh, fr, tw, tx⟩).row).keep (heap_alloc_lt _ (.cells nilV.toArray 42) (mvat_new w ⟨nm, ep, ph, vr, sh, fr, tw, tx⟩).row.lt)
    have R := Lib.hid (And.intro (r0.keep (hb1.block _ r0.lt)) (rm.keep (hb1.block _ rm.lt)))
    have HB := Lib.hid ((((Below.refl _ w).alloc (Nat.le_refl _) (.cells (mvV ⟨nm, ep, ph, vr, sh, fr, tw, tx⟩).toArray 31)).alloc (by simp) (.cells nilV.toArray 42)).trans (hb1.mono (by simp; omega)))
    have HZ := Lib.hid (show w.heap.size + 1 < w1.heap.size by have := hb1.size; simp at this; omega)
    clear hb1 r0 rm
    go_upto_region 3 with fail
    go_cut [5] from 10 to 19 (fun s5 wc => ∃ N, s5 = .pointer (some ⟨N, 0, none⟩) ∧ Hid (Mk w wc N (w.heap.size + 1) (said0 K sh nm) ∧ Row wc w.heap.size 31 (mvV ⟨nm, ep, ph, vr, sh, fr, tw, tx⟩)))
    case first =>
      have cl := R.out.2.lt
      refine wp_region_held_drew (S := fun W => Row W w.heap.size 31 (mvV ⟨nm, ep, ph, vr, sh, fr, tw, tx⟩)) (by kernel_rfl) (by exact R.out.2) (fun hHeld => ?_)
      refine tk 0 (oi := ⟨_, _, _, _, _, _⟩) rfl (fun w' hSw => by (try dsimp only at hSw); go_simp <;> with_reducible rfl) ?_
      refine tk 1 (oi := ⟨_, _, _, _, _, _⟩) rfl (fun w' hSw => by (try dsimp only at hSw); have k := hSw.cell (j := 2) rfl; go_simp <;> with_reducible rfl) ?_
      refine tk 3 (oi := ⟨_, _, _, _, _, _⟩) rfl (fun w' hSw => by (try dsimp only at hSw); go_simp <;> with_reducible rfl) ?_
      refine tk 4 (oi := ⟨_, _, _, _, _, _⟩) rfl (fun w' hSw => by (try dsimp only at hSw); go_simp <;> with_reducible rfl) ?_
      refine tk 5 (oi := ⟨_, _, _, _, _, _⟩) rfl (fun w' hSw => by (try dsimp only at hSw); have k := hSw.cell (j := 4) rfl; go_simp <;> with_reducible rfl) ?_
      refine tk 6 (oi := ⟨_, _, _, _, _, _⟩) rfl (fun w' hSw => by (try dsimp only at hSw); go_simp <;> with_reducible rfl) ?_
      refine tk 7 (oi := ⟨_, _, _, _, _, _⟩) rfl (fun w' hSw => by (try dsimp only at hSw); have k := hSw.cell (j := 0) rfl; go_simp <;> with_reducible rfl) ?_
      try simp only [Act.put, List.setIfInBounds_toArray, List.set_cons_zero, List.set_cons_succ]
      refine wpAnyH_ready (rs := [2, 9]) (by kernel_rfl) (by simp) ?_
      refine AllReadyH.cons (o := ⟨_, _, _, _, _, _⟩) rfl (fun K' hK => ?_) ?_
      · go_simp
        go_at_call 25
        refine (HAS.out _).mono ?_
        rintro en w2 ⟨rfl, hb2⟩
        refine hK.out _ _ (R.out.2.keep (hb2.block _ cl)) (fun hHeld => ?_)
        clear hK K'
        try simp only [Act.put, List.setIfInBounds_toArray, List.set_cons_zero, List.set_cons_succ]
        refine tk 8 (oi := ⟨_, _, _, _, _, _⟩) rfl (fun w' hSw => by (try dsimp only at hSw); go_simp <;> with_reducible rfl) ?_
        try simp only [Act.put, List.setIfInBounds_toArray, List.set_cons_zero, List.set_cons_succ]
        refine rd1 9 (o := ⟨_, _, _, _, _, _⟩) rfl (fun K' hK => ?_)
        go_simp
        have rm2 := R.out.2.keep (hb2.block _ cl)
        have rr2 := R.out.1.keep (hb2.block _ R.out.1.lt)
        have hb02 := HB.out.trans ((show Below w1.heap.size w1 w2 from ⟨hb2.os, hb2.tape, hb2.output, hb2.size, hb2.block⟩).mono HB.out.size)
        have hz2 : w1.heap.size ≤ w2.heap.size := hb2.size
        have hz1 := HZ.out
        refine hK.out _ _ (rm2.keep (heap_alloc_lt _ _ rm2.lt)) (fun hHeld => ?_)
        clear hK K'
        try simp only [Act.put, List.setIfInBounds_toArray, List.set_cons_zero, List.set_cons_succ]
        refine rd1 10 (o := ⟨_, _, _, _, _, _⟩) rfl (fun K' hK => ?_)
        refine step_st_row (xs := nilV) (ys := msgV (said0 K sh nm) none 0 0 none 0 0) (Row.new w2 _ nilV) rfl (by kernel_rfl) (msg_one _ none 0 0 none 0 0) rfl _ _ rfl rfl rfl ?_
        intro W4 hr4 hs4 hg4
        have hfin := mk_st hr4 hg4 hs4 (rr2.keep (heap_alloc_lt _ _ rr2.lt)) (rm2.keep (heap_alloc_lt _ _ rm2.lt)) (hb02.alloc hb02.size _) (by omega) (by omega) (by omega)
        refine hK.out _ _ hfin.2 (fun hHeld => ?_)
        clear hK K'
        try simp only [Act.put, List.setIfInBounds_toArray, List.set_cons_zero, List.set_cons_succ]
        refine wpAnyH_done (by kernel_rfl) ?_ _
        go_wp2_with fail
        go_meet
        exact ⟨_, rfl, Lib.hid hfin⟩
      refine AllReadyH.cons (o := ⟨_, _, _, _, _, _⟩) rfl (fun K' hK => ?_) AllReadyH.nil
      go_simp
      have hz1 := HZ.out
      have rm1 := R.out.2.keep (heap_alloc_lt w1 (.cells nilV.toArray 42) cl)
      refine hK.out _ _ (by exact rm1) (fun hHeld => ?_)
      clear hK K'
      try simp only [Act.put, List.setIfInBounds_toArray, List.set_cons_zero, List.set_cons_succ]
      refine rd1 2 (o := ⟨_, _, _, _, _, _⟩) rfl (fun K' hK => ?_)
      go_simp
      go_at_call 25
      refine (HAS.out _).mono ?_
      rintro en w2 ⟨rfl, hb2⟩
      have hb2' : Below (w1.alloc (.cells nilV.toArray 42)).heap.size (w1.alloc (.cells nilV.toArray 42)) w2 := ⟨hb2.os, hb2.tape, hb2.output, by first | exact hb2.size | (have := hb2.size; simpa using this), fun k hk => hb2.block k (by first | exact hk | simpa using hk)⟩
      have rn1 := Row.new w1 42 nilV
      have rr1 := R.out.1.keep (heap_alloc_lt w1 (.cells nilV.toArray 42) R.out.1.lt)
      have rm2 := rm1.keep (hb2'.block _ rm1.lt)
      have rn2 := rn1.keep (hb2'.block _ rn1.lt)
      have rr2 := rr1.keep (hb2'.block _ rr1.lt)
      have hb01 := HB.out.alloc HB.out.size (.cells nilV.toArray 42)
      have hb02 := hb01.trans (hb2'.mono hb01.size)
      refine hK.out _ _ rm2 (fun hHeld => ?_)
      clear hK K'
      try simp only [Act.put, List.setIfInBounds_toArray, List.set_cons_zero, List.set_cons_succ]
      refine tk 8 (oi := ⟨_, _, _, _, _, _⟩) rfl (fun w' hSw => by (try dsimp only at hSw); go_simp <;> with_reducible rfl) ?_
      try simp only [Act.put, List.setIfInBounds_toArray, List.set_cons_zero, List.set_cons_succ]
      refine rd1 10 (o := ⟨_, _, _, _, _, _⟩) rfl (fun K' hK => ?_)
      refine step_st_row (xs := nilV) (ys := msgV (said0 K sh nm) none 0 0 none 0 0) rn2 rfl (by kernel_rfl) (msg_one _ none 0 0 none 0 0) rfl _ _ rfl rfl rfl ?_
      intro W4 hr4 hs4 hg4
      have hfin := mk_st hr4 hg4 hs4 rr2 rm2 hb02 (by omega) (by omega) (by omega)
      refine hK.out _ _ hfin.2 (fun hHeld => ?_)
      clear hK K'
      try simp only [Act.put, List.setIfInBounds_toArray, List.set_cons_zero, List.set_cons_succ]
      refine wpAnyH_done (by kernel_rfl) ?_ _
      go_wp2_with fail
      go_meet
      exact ⟨_, rfl, Lib.hid hfin⟩
    case rest =>
      obtain ⟨N, rfl, H⟩ := hcut
      have HX := Lib.hid H.out.1
      have c2 := H.out.2.cell (j := 2) rfl
      have c1 := H.out.2.cell (j := 1) rfl
      have c3 := H.out.2.cell (j := 3) rfl
      have c5 := H.out.2.cell (j := 7) rfl
      have cl := H.out.2.lt
      have f2 := H.out.1.row.frozen 2
      have f6 := H.out.1.row.frozen 6
      have f15 := H.out.1.row.frozen 15
      have g2 := H.out.1.row.cell (j := 2) rfl
      have g6 := H.out.1.row.cell (j := 6) rfl
      have g15 := H.out.1.row.cell (j := 15) rfl
      have gl := H.out.1.row.lt
      have hn1 : ¬ w.heap.size = N := by have := H.out.1.lt; omega
      have HN := Lib.hid (And.intro H.out.2 hn1)
      obtain ⟨h1, ho⟩ := H1.out
      clear H H1 R HB HZ HAS
      rcases h1 with e | e | e | e | e | e | e | e | e
      all_goals (try (exfalso; rw [e] at ho; revert ho; decide))
      all_goals
        as_aux_lemma =>
        rw [e] at c2
        have HE := Lib.hid e
        clear ho e
        go_wp2_with fail
        refine wp_world (fun W => Mk w W N (w.heap.size + 1) (saidK K ⟨nm, ep, ph, vr, sh, fr, tw, tx⟩) ∧ Row W w.heap.size 31 (mvV ⟨nm, ep, ph, vr, sh, fr, tw, tx⟩)) ?_ ?_
        · refine ⟨?_, ?_⟩
          · first
              | exact HX.out.cast (by simp [saidK, said0, nilM, HE.out])
              | exact (HX.out.tx _).cast (by simp [saidK, said0, nilM, HE.out])
              | exact (HX.out.vr _).cast (by simp [saidK, said0, nilM, HE.out])
              | exact (HX.out.ep _).cast (by simp [saidK, said0, nilM, HE.out])
              | exact ((HX.out.ep _).tx _).cast (by simp [saidK, said0, nilM, HE.out])
              | exact ((HX.out.tx _).ep _).cast (by simp [saidK, said0, nilM, HE.out])
          · first
              | exact HN.out.1
              | exact HN.out.1.keep (heap_set_ne _ ⟨N, _, none⟩ _ HN.out.2)
              | exact (HN.out.1.keep (heap_set_ne _ ⟨N, _, none⟩ _ HN.out.2)).keep (heap_set_ne _ ⟨N, _, none⟩ _ HN.out.2)
        intro Wf hF
        clear c1 c2 c3 c5 cl f2 f6 f15 g2 g6 g15 gl HX
        have hn := HN.out.2
        refine wp_region_held_drew (S := fun W => Row W w.heap.size 31 (mvV ⟨nm, ep, ph, vr, sh, fr, tw, tx⟩) ∧ Row W N 42 (msgV (saidK K ⟨nm, ep, ph, vr, sh, fr, tw, tx⟩) none 0 0 none 0 0)) (by kernel_rfl) ⟨hF.2, hF.1.row⟩ (fun hHeld => ?_)
        refine tk 0 (oi := ⟨_, _, _, _, _, _⟩) rfl (fun w' hSw => by (refine yields_mv hSw.1 (.tmp 1) ?_ ?_) <;> rfl) ?_
        refine tk 2 (oi := ⟨_, _, _, _, _, _⟩) rfl (fun w' hSw => by (refine yields_msg hSw.2 rfl (.tmp 5) ?_ ?_) <;> rfl) ?_
        try simp only [Act.put, List.setIfInBounds_toArray, List.set_cons_zero, List.set_cons_succ]
        refine rd1 1 (o := ⟨_, _, _, _, _, _⟩) rfl (fun K' hK => ?_)
        go_simp
        go_at_call 24
        refine (HND.out _).mono ?_
        rintro en w5 ⟨rfl, hb5⟩
        have m5 : Mk w w5 N (w.heap.size + 1) (saidK K ⟨nm, ep, ph, vr, sh, fr, tw, tx⟩) := hF.1.drew.on hb5
        have r5 : Row w5 w.heap.size 31 (mvV ⟨nm, ep, ph, vr, sh, fr, tw, tx⟩) := hF.2.keep (hb5.block _ hF.2.lt)
        refine hK.out _ _ ⟨r5, m5.row⟩ (fun hHeld => ?_)
        clear hK K'
        try simp only [Act.put, List.setIfInBounds_toArray, List.set_cons_zero, List.set_cons_succ]
        refine tk 3 (oi := ⟨_, _, _, _, _, _⟩) rfl (fun w' hSw => by (try dsimp only at hSw); go_simp <;> with_reducible rfl) ?_
        try simp only [Act.put, List.setIfInBounds_toArray, List.set_cons_zero, List.set_cons_succ]
        refine rd1 4 (o := ⟨_, _, _, _, _, _⟩) rfl (fun K' hK => ?_)
        refine step_st_row (xs := nilV) (ys := msgV (saidK K ⟨nm, ep, ph, vr, sh, fr, tw, tx⟩) none 0 0 none 0 0) m5.res rfl (by kernel_rfl) (msg_one _ none 0 0 none 0 0) rfl _ _ rfl rfl rfl ?_
        intro W4 hr4 hs4 hg4
        refine hK.out _ _ ⟨row_grown r5 hg4 (by omega), row_grown m5.row hg4 (by have := m5.lt; omega)⟩ (fun hHeld => ?_)
        clear hK K'
        try simp only [Act.put, List.setIfInBounds_toArray, List.set_cons_zero, List.set_cons_succ]
        refine tk 5 (oi := ⟨_, _, _, _, _, _⟩) rfl (fun w' hSw => by (try dsimp only at hSw); go_simp <;> with_reducible rfl) ?_
        try simp only [Act.put, List.setIfInBounds_toArray, List.set_cons_zero, List.set_cons_succ]
        refine wpAnyH_done (by kernel_rfl) ?_ _
        go_wp2_with fail
        exact bodyPost_ret (res_says Try.results11 _ hr4 rfl rfl rfl rfl) rfl ⟨rfl, below_grown m5.bel hg4 m5.lo hs4 m5.bel.size⟩
end
end Go.Proofs.Ytbjjgjifaomdlaa.Mv
