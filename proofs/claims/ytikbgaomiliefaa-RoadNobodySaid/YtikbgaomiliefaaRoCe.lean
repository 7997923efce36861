/- Send of the program's road. Conditions: none. -/
import Derived.Test.YtikbgaomiliefaaRoCw
set_option linter.unusedVariables false
set_option linter.unusedSimpArgs false
set_option maxRecDepth 100000
namespace Go.Proofs.Ytikbgaomiliefaa.Ro
open Go Go.RowKit
theorem clone_any (s : ByteArray) (w : World) (h : s.size ≤ 281474976710656) : Calls Try.prog 28 #[.string s] w fun e w' => e = .returned (.string s) ∧ Below w.heap.size w w' := by
  have HC := Lib.hid (Try.stringslite_Clone s w h)
  clear h
  go_enter Try.func28, Try.ntmps28
  go_wp2_with fail
  with_reducible refine HC.out.mono ?_
  rintro e w1 ⟨rfl, hb⟩
  have HB := Lib.hid hb
  clear hb
  go_wp2
  go_ret
  exact ⟨rfl, HB.out⟩
section
variable {w : World} {p : Nat} {F : Nat → Prop} {Q : Rd}
theorem letter_sets {W : World} {N : Nat} {l : Lt} (h : Row W N 34 (lc l)) : Row (W.setCell ⟨N, 2, none⟩ (.string l.2.2)) N 34 (lc l) := h.set 2 (.string l.2.2)
set_option maxHeartbeats 4000000 in
theorem send_is (l : Lt) (h : IsR w p F Q) (hfr : In64 l.1) (hto : In64 l.2.1) (hm : l.2.2.size ≤ maxLen) : Calls Try.prog 12 #[ptr p, .agg #[.int .i64 l.1, .int .i64 l.2.1, .string l.2.2]] w (Does IsR p F (.int .i64 (sendQ Q l).2) (sendQ Q l).1 w) := by
  have HN := Lib.hid (fun (r : Int) (w1 : World) (hb : Below w.heap.size w w1) => does_none h (v := .int .i64 r) rfl hb)
  obtain ⟨ss, h, hF⟩ := h
  unfold sendQ
  obtain ⟨fr, to, tx⟩ := l
  simp only at hfr hto hm ⊢
  obtain ⟨W, hW⟩ : ∃ W, W = w.alloc (.cells #[.int .i64 fr, .int .i64 to, .string tx] 34) := ⟨_, rfl⟩
  have h1 : IsB W p ss Q := by rw [hW]; exact h.alloc _
  have HA := at_any h1 to hto
  have HR := at_any h1 fr hfr
  have hbW : Below w.heap.size w W := by rw [hW]; exact (Below.refl _ w).alloc (Nat.le_refl _) _
  have HB := Lib.hid hbW
  have r0 : Row W w.heap.size 34 (lc (fr, to, tx)) := by rw [hW]; exact Row.new w _ _
  have l0 := r0.cell (j := 0) (u := .int .i64 fr) rfl
  have l1 := r0.cell (j := 1) (u := .int .i64 to) rfl
  have l2 := r0.cell (j := 2) (u := .string tx) rfl
  have lf2 := r0.frozen 2
  have ll := r0.lt
  have HW := Lib.hid hW
  cases ht : thereQ Q to with
  | false =>
    rw [q_none ht] at HA
    rw [if_pos (.inr (.inl rfl))]
    have HA := Lib.hid HA
    clear h hF ht h1 hW r0 HR hbW
    go_enter Try.func12, Try.ntmps12
    go_wp2_with fail
    rw [← HW.out]
    with_reducible refine HA.out.mono ?_
    rintro e w1 ⟨rfl, rfl⟩
    go_wp2
    go_ret
    exact HN.out 1 _ HB.out
  | true =>
    rw [q_there ht] at HA
    have HA := Lib.hid HA
    cases hf1 : thereQ Q fr with
    | false =>
      rw [q_none hf1] at HR
      rw [if_pos (.inl rfl)]
      have HR := Lib.hid HR
      clear h hF ht h1 hW r0 hf1 hbW
      go_enter Try.func12, Try.ntmps12
      go_wp2_with fail
      rw [← HW.out]
      with_reducible refine HA.out.mono ?_
      rintro e w1 ⟨rfl, rfl⟩
      go_wp2_with (with_reducible refine HR.out.mono ?_; rintro e w1 ⟨rfl, rfl⟩)
      go_ret
      exact HN.out 1 _ HB.out
    | true =>
      rw [q_there hf1] at HR
      have HR := Lib.hid HR
      by_cases hbig : 1048576 < tx.size
      · rw [if_pos (.inr (.inr hbig))]
        have hbz : (1048576 : Int) < (tx.size : Int) := by omega
        clear h hF ht h1 hW r0 hf1 hbW hbig
        go_enter Try.func12, Try.ntmps12
        go_wp2_with fail
        rw [← HW.out]
        with_reducible refine HA.out.mono ?_
        rintro e w1 ⟨rfl, rfl⟩
        go_wp2_with (with_reducible refine HR.out.mono ?_; rintro e w1 ⟨rfl, rfl⟩)
        go_ret
        exact HN.out 1 _ HB.out
      · rw [if_neg (by simp [hbig])]
        have hbz : ¬ (1048576 : Int) < (tx.size : Int) := by omega
        obtain ⟨⟨A, n, c⟩, e⟩ : ∃ s, ss.getD (spot to) nls = s := ⟨_, rfl⟩
        obtain ⟨hs, hc, hf, hp, hq, hn, hn1⟩ := h1.place ht e
        have HU := full_any hc hp
        obtain ⟨L, hL⟩ : ∃ L, haveQ Q to = L := ⟨_, rfl⟩
        have HWS := Lib.hid (fun (L' : List Lt) => with_sets (l := L') ht)
        rw [hL] at hn hq ⊢
        generalize spot to = i at *
        by_cases hfull : 1024 ≤ L.length
        · rw [if_pos hfull]
          rw [decide_eq_true (by omega)] at HU
          have HU := Lib.hid HU
          clear h hF ht h1 hW r0 hf1 hbW hbig hfull hn hq hs e hL
          go_enter Try.func12, Try.ntmps12
          go_wp2_with fail
          rw [← HW.out]
          with_reducible refine HA.out.mono ?_
          rintro e w1 ⟨rfl, rfl⟩
          go_wp2_with (first
            | (with_reducible refine HR.out.mono ?_; rintro e w1 ⟨rfl, rfl⟩)
            | (with_reducible refine HU.out.mono ?_; rintro e w1 ⟨rfl, rfl⟩))
          go_ret
          exact HN.out 2 _ HB.out
        · rw [if_neg hfull, HWS.out]
          rw [decide_eq_false (by omega)] at HU
          have HU := Lib.hid HU
          have HC := Lib.hid (clone_any tx W (by omega))
          have HX := Lib.hid (fun w1 (hb : Below W.heap.size W w1) => show IsB (w1.setCell ⟨w.heap.size, 2, none⟩ (.string tx)) p ss Q ∧ Row w1 w.heap.size 34 (lc (fr, to, tx)) ∧ Turn F w F (w1.setCell ⟨w.heap.size, 2, none⟩ (.string tx)) ∧ (w1.setCell ⟨w.heap.size, 2, none⟩ (.string tx)).cell? ⟨p, 2 + i, none⟩ = some (.slice A n c) ∧ QA (w1.setCell ⟨w.heap.size, 2, none⟩ (.string tx)) (A, n, c) L from by
            have hlo := h.lt
            have hk : ∀ b, Foot p ss b → (w1.setCell ⟨w.heap.size, 2, none⟩ (.string tx)).heap[b]? = W.heap[b]? := fun b hb1 => by
              have := hlo b hb1
              rw [heap_set_ne w1 ⟨w.heap.size, 2, none⟩ _ (by simp only; omega)]
              exact hb.block b (h1.lt b hb1)
            refine ⟨h1.keep hk, r0.keep (hb.block _ r0.lt), Turn.new (Turn.below F (hbW.trans (hb.mono hbW.size))) (Nat.le_refl _) 2 _, ?_, ?_⟩
            · exact (cell_blk (w := W) (a := ⟨p, 2 + i, none⟩) (hk p (.inl rfl))).trans hc
            · exact hq.keep (fun b hb1 => hk b (.inr ⟨i, by rw [e]; exact hb1⟩)))
          have HD := Lib.hid (fun (w2 : World) (h2 : IsB w2 p ss Q) (T : Turn F w F w2) (hc2 : w2.cell? ⟨p, 2 + i, none⟩ = some (.slice A n c)) => fin_q h2 hF T i hs e hc2 (L ++ [(fr, to, tx)]) (by simp; omega) (.int .i64 0))
          have HLL := Lib.hid (show L.length ≤ 1000000 by omega)
          clear h hF ht h1 hW r0 hf1 hbW hbig hfull hn hq hs e hL HWS hm
          have mixed : Try.prog.follows .mixedOrders = true := by kernel_rfl
          go_enter Try.func12, Try.ntmps12
          go_wp2_with fail
          rw [← HW.out]
          with_reducible refine HA.out.mono ?_
          rintro e w1 ⟨rfl, rfl⟩
          go_wp2_with (first
            | (with_reducible refine HR.out.mono ?_; rintro e w1 ⟨rfl, rfl⟩)
            | (with_reducible refine HU.out.mono ?_; rintro e w1 ⟨rfl, rfl⟩)
            | fail)
          with_reducible refine HC.out.mono ?_
          rintro e w4 ⟨rfl, hb4⟩
          obtain ⟨h4, r4, T4, c4, q4⟩ := HX.out w4 hb4
          have m2 := r4.cell (j := 2) (u := .string tx) rfl
          have mf2 := r4.frozen 2
          have ml := r4.lt
          have r5 := letter_sets r4
          clear l0 l1 l2 lf2 ll hc hf hp hb4 r4 HX HR HU HC HA
          go_wp2_with fail
          obtain ⟨w5, hw5⟩ : ∃ w5, w5 = w4.setCell ⟨w.heap.size, 2, none⟩ (.string tx) := ⟨_, rfl⟩
          change Row (w4.setCell ⟨w.heap.size, 2, none⟩ (.string tx)) w.heap.size 34 (lc (fr, to, tx)) at r5
          rw [← hw5] at h4 r5 T4 c4 q4 ⊢
          clear hw5
          have m0 := r5.cell (j := 0) (u := .int .i64 fr) rfl
          have m1 := r5.cell (j := 1) (u := .int .i64 to) rfl
          have n2 := r5.cell (j := 2) (u := .string tx) rfl
          have nl := r5.lt
          have cf := h4.row.frozen (2 + i)
          have cl := h4.row.lt
          have HQ := Lib.hid (fun (wx : World) (hb : Below w5.heap.size w5 wx) => q4.keep (fun b hb1 => hb.block b (q4.lt b hb1)))
          have HE := Lib.hid (HD.out w5 h4 T4 c4)
          clear h4 T4 q4 r5 HD m2 mf2 ml
          go_region_law (refine step_append_q (L := L) (l := (fr, to, tx)) (s := (A, n, c)) rfl (.tmp 34) (.tmp 36) rfl rfl (HQ.out _ (((below_drewN (Below.refl _ w5) 1).alloc (Nat.le_refl _) _))) HLL.out _ 1 rfl (news_cells _ _ _) ?_; rintro ⟨A3, n3, c3⟩ w6 hq6 T6; obtain ⟨⟨g1, g2, g3⟩, hE⟩ := HE.out _ _ _ (((below_drewN (Below.refl _ w5) 1).alloc (Nat.le_refl _) _)) hq6 T6; have hE := Lib.hid hE; clear hq6 T6; simp only [sc])
          all_goals
            go_wp2_with fail
            go_ret
            exact hE.out
end
end Go.Proofs.Ytikbgaomiliefaa.Ro
