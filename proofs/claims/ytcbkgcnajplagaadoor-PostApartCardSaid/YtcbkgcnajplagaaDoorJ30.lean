/- PostApart returns true. Conditions: both messages' numbers and hits read as lists; their free numbers are numbers of Go; the tables lie as start-up lays them. -/
import Derived.Test.YtcbkgcnajplagaaDoorJ29
set_option linter.unusedVariables false
set_option linter.unusedSimpArgs false
set_option maxRecDepth 100000
namespace Go.Proofs.YtcbkgcnajplagaaDoor.Po
open Go Go.RowKit
open Be (T kindsOk kindsOkL deepT deepL wfT wfL tidy tidyL onlyRes takeRes gdT RdL Rd RdA ReadsP Keeps)
theorem eM_or (m : M) : (mayM m = true ∧ eM m = 0) ∨ (mayM m = false ∧ eM m = 1) := by
  cases h : mayM m with
  | true => exact .inl ⟨rfl, eM_t h⟩
  | false => exact .inr ⟨rfl, eM_f h⟩
set_option maxHeartbeats 16000000 in
theorem postApart_walk (m m' : M) (hf : FitM m) (hf' : FitM m') {w : World} {B : Nat} {A A' A2 A2' : Option Addr} {n c n' c' n2 c2 n2' c2' : Nat} (hR : Reads w B 1 A n (ints m.vs)) (hH : Reads w B 2 A2 n2 (hits m.hs)) (hR' : Reads w B 1 A' n' (ints m'.vs)) (hH' : Reads w B 2 A2' n2' (hits m'.hs)) (hB : B ≤ w.heap.size) (hT : Four w) :
    Calls Tryd.prog 5 #[.agg (msgV m A n c A2 n2 c2).toArray, .agg (msgV m' A' n' c' A2' n2' c2').toArray] w (Gives (.bool true) w) := by
  obtain ⟨W, hW⟩ : ∃ W, W = (w.alloc (.cells (msgV m A n c A2 n2 c2).toArray 30)).alloc (.cells (msgV m' A' n' c' A2' n2' c2').toArray 30) := ⟨_, rfl⟩
  have hb0 : Below w.heap.size w W := by rw [hW]; exact ((Below.refl _ w).alloc (Nat.le_refl _) _).alloc (by simp) _
  have r1 : Row W w.heap.size 30 (msgV m A n c A2 n2 c2) := by rw [hW]; exact (Row.new w 30 (msgV m A n c A2 n2 c2)).keep (heap_alloc_lt _ _ (by simp))
  have r2 : Row W (w.heap.size + 1) 30 (msgV m' A' n' c' A2' n2' c2') := by
    rw [hW]
    have := Row.new (w.alloc (.cells (msgV m A n c A2 n2 c2).toArray 30)) 30 (msgV m' A' n' c' A2' n2' c2')
    rwa [World.size_alloc] at this
  have KR := Lib.hid (fun w1 (hb : Below W.heap.size W w1) => show Row w1 w.heap.size 30 (msgV m A n c A2 n2 c2) ∧ Row w1 (w.heap.size + 1) 30 (msgV m' A' n' c' A2' n2' c2') ∧ Below w.heap.size w w1 ∧ Four w1 ∧ B ≤ w1.heap.size ∧ Reads w1 B 1 A n (ints m.vs) ∧ Reads w1 B 2 A2 n2 (hits m.hs) ∧ Reads w1 B 1 A' n' (ints m'.vs) ∧ Reads w1 B 2 A2' n2' (hits m'.hs) from by
    have hbw := hb0.trans (hb.mono hb0.size)
    exact ⟨r1.keep (hb.block _ r1.lt), r2.keep (hb.block _ r2.lt), hbw, hT.on hbw, Nat.le_trans hB hbw.size, hR.below (hbw.mono hB), hH.below (hbw.mono hB), hR'.below (hbw.mono hB), hH'.below (hbw.mono hB)⟩)
  have HAW := Lib.hid (fun w1 (hb : Below W.heap.size W w1) => show Calls Tryd.prog 9 #[] w1 (fun e w' => e = .returned (.bool true) ∧ Below w.heap.size w w') from by
    refine (awake_any w1 (KR.out w1 hb).2.2.2.1).mono ?_
    rintro e w2 ⟨rfl, hb2⟩
    exact ⟨rfl, below_then (KR.out w1 hb).2.2.1 hb2⟩)
  have HW := Lib.hid hW
  have HL1 := Lib.hid (light_any m A n c A2 n2 c2 W)
  have HL2 := Lib.hid (fun w1 => light_any m' A' n' c' A2' n2' c2' w1)
  clear hW hb0 r1 r2 hT hB hR hH hR' hH'
  by_cases hl1 : m.tx.size ≤ 2048 ∧ n ≤ 100 ∧ n2 ≤ 100
  rotate_left
  · as_aux_lemma =>
    rw [decide_eq_false hl1] at HL1
    clear hl1
    go_enter Tryd.func5, Tryd.ntmps5
    go_upto_region 1 with fail
    rw [← HW.out]
    go_wp2_with (refine ld_msg (KR.out W (Below.refl _ W)).1 rfl rfl _ rfl rfl ?_)
    refine HL1.out.mono ?_
    rintro en w1 ⟨rfl, hb1⟩
    have HA := Lib.hid (HAW.out w1 hb1)
    clear hb1
    go_wp2_with fail
    refine HA.out.mono ?_
    rintro en w2 ⟨rfl, hb2⟩
    go_wp2_with fail
    go_ret
    exact ⟨rfl, hb2⟩
  rw [decide_eq_true hl1] at HL1
  by_cases hl2 : m'.tx.size ≤ 2048 ∧ n' ≤ 100 ∧ n2' ≤ 100
  rotate_left
  · as_aux_lemma =>
    rw [decide_eq_false hl2] at HL2
    clear hl2
    go_enter Tryd.func5, Tryd.ntmps5
    go_upto_region 1 with fail
    rw [← HW.out]
    go_wp2_with (refine ld_msg (KR.out W (Below.refl _ W)).1 rfl rfl _ rfl rfl ?_)
    refine HL1.out.mono ?_
    rintro en w1 ⟨rfl, hb1⟩
    have HB1 := Lib.hid hb1
    clear hb1
    have q2 := (KR.out w1 HB1.out).2.1
    have k0 := q2.cell (j := 0) rfl
    have k1 := q2.cell (j := 1) rfl
    have k2 := q2.cell (j := 2) rfl
    have k3 := q2.cell (j := 3) rfl
    have k4 := q2.cell (j := 4) rfl
    have k5 := q2.cell (j := 5) rfl
    have k6 := q2.cell (j := 6) rfl
    have k7 := q2.cell (j := 7) rfl
    have k8 := q2.cell (j := 8) rfl
    have k9 := q2.cell (j := 9) rfl
    have k10 := q2.cell (j := 10) rfl
    have k11 := q2.cell (j := 11) rfl
    have k12 := q2.cell (j := 12) rfl
    have k13 := q2.cell (j := 13) rfl
    have k14 := q2.cell (j := 14) rfl
    have k15 := q2.cell (j := 15) rfl
    have kl := q2.lt
    have hl2w := HL2.out w1
    unfold msgV at hl2w
    have HL2W := Lib.hid hl2w
    clear q2 hl2w
    go_wp2_with fail
    refine HL2W.out.mono ?_
    rintro en w2 ⟨rfl, hb2⟩
    clear k0 k1 k2 k3 k4 k5 k6 k7 k8 k9 k10 k11 k12 k13 k14 k15 kl HL2W
    have HA := Lib.hid (HAW.out w2 (HB1.out.trans (hb2.mono HB1.out.size)))
    clear hb2
    go_wp2_with fail
    refine HA.out.mono ?_
    rintro en w3 ⟨rfl, hb3⟩
    go_wp2_with fail
    go_ret
    exact ⟨rfl, hb3⟩
  rw [decide_eq_true hl2] at HL2
  have HPA := Lib.hid (fun w1 (hb : Below W.heap.size W w1) => put_any (c := c) (c' := c2) m hf (KR.out w1 hb).2.2.2.2.2.1 (KR.out w1 hb).2.2.2.2.2.2.1 (KR.out w1 hb).2.2.2.2.1 (by omega) (by omega) (KR.out w1 hb).2.2.2.1)
  have HPB := Lib.hid (fun w1 (hb : Below W.heap.size W w1) => put_any (c := c') (c' := c2') m' hf' (KR.out w1 hb).2.2.2.2.2.2.2.1 (KR.out w1 hb).2.2.2.2.2.2.2.2 (KR.out w1 hb).2.2.2.2.1 (by omega) (by omega) (KR.out w1 hb).2.2.2.1)
  have HSA := Lib.hid (fun w1 (hb : Below W.heap.size W w1) => rsame_any m m' (c := c) (c' := c') (c2 := c2) (c2' := c2') (KR.out w1 hb).2.2.2.2.2.1 (KR.out w1 hb).2.2.2.2.2.2.2.1 (KR.out w1 hb).2.2.2.2.2.2.1 (KR.out w1 hb).2.2.2.2.2.2.2.2 (KR.out w1 hb).2.2.2.2.1 (show n ≤ maxLen by unfold maxLen; omega) (show n' ≤ maxLen by unfold maxLen; omega) (show n2 ≤ maxLen by unfold maxLen; omega) (show n2' ≤ maxLen by unfold maxLen; omega))
  have HEQ : mayM m = true → mayM m' = true → decide (txtB m = txtB m') = decide (m = m') := fun h1 h2 => by
    rw [decide_eq_decide]
    exact ⟨fun e => txt_inj h1 hf h2 hf' e, fun e => by rw [e]⟩
  clear hl1 hl2 hf hf'
  obtain ⟨X, hX⟩ : ∃ X, txP m = X := ⟨_, rfl⟩
  obtain ⟨Y, hY⟩ : ∃ Y, txP m' = Y := ⟨_, rfl⟩
  rw [hX] at HPA
  rw [hY] at HPB
  have HXX := Lib.hid hX
  have HYY := Lib.hid hY
  have HEQ := Lib.hid HEQ
  clear hX hY
  rcases eM_or m with ⟨hm, he⟩ | ⟨hm, he⟩
  rotate_left
  · rw [he] at HPA
    rcases eM_or m' with ⟨hm', he'⟩ | ⟨hm', he'⟩
    all_goals
      as_aux_lemma =>
      rw [he'] at HPB
      clear hm he hm' he'
      go_enter Tryd.func5, Tryd.ntmps5
      go_upto_region 1 with fail
      rw [← HW.out]
      go_wp2_with (refine ld_msg (KR.out W (Below.refl _ W)).1 rfl rfl _ rfl rfl ?_)
      refine HL1.out.mono ?_
      rintro en w1 ⟨rfl, hb1⟩
      have HB1 := Lib.hid hb1
      clear hb1
      have q2 := (KR.out w1 HB1.out).2.1
      have k0 := q2.cell (j := 0) rfl
      have k1 := q2.cell (j := 1) rfl
      have k2 := q2.cell (j := 2) rfl
      have k3 := q2.cell (j := 3) rfl
      have k4 := q2.cell (j := 4) rfl
      have k5 := q2.cell (j := 5) rfl
      have k6 := q2.cell (j := 6) rfl
      have k7 := q2.cell (j := 7) rfl
      have k8 := q2.cell (j := 8) rfl
      have k9 := q2.cell (j := 9) rfl
      have k10 := q2.cell (j := 10) rfl
      have k11 := q2.cell (j := 11) rfl
      have k12 := q2.cell (j := 12) rfl
      have k13 := q2.cell (j := 13) rfl
      have k14 := q2.cell (j := 14) rfl
      have k15 := q2.cell (j := 15) rfl
      have kl := q2.lt
      have hl2w := HL2.out w1
      unfold msgV at hl2w
      have HL2W := Lib.hid hl2w
      clear q2 hl2w
      go_wp2_with fail
      refine HL2W.out.mono ?_
      rintro en w2 ⟨rfl, hb2⟩
      clear k0 k1 k2 k3 k4 k5 k6 k7 k8 k9 k10 k11 k12 k13 k14 k15 kl HL2W
      have HB2 := Lib.hid (HB1.out.trans (hb2.mono HB1.out.size))
      clear hb2
      go_wp2_with (refine ld_msg (KR.out w2 HB2.out).1 rfl rfl _ rfl rfl ?_)
      refine (HPA.out w2 HB2.out).mono ?_
      rintro en w3 ⟨rfl, hb3⟩
      have HB3 := Lib.hid (HB2.out.trans (hb3.mono HB2.out.size))
      clear hb3
      go_wp2_with (refine ld_msg (KR.out w3 HB3.out).2.1 rfl rfl _ rfl rfl ?_)
      refine (HPB.out w3 HB3.out).mono ?_
      rintro en w4 ⟨rfl, hb4⟩
      have HA := Lib.hid (HAW.out w4 (HB3.out.trans (hb4.mono HB3.out.size)))
      clear hb4
      go_wp2_with fail
      refine HA.out.mono ?_
      rintro en w5 ⟨rfl, hb5⟩
      go_wp2_with fail
      go_ret
      exact ⟨rfl, hb5⟩
  · rw [he] at HPA
    rcases eM_or m' with ⟨hm', he'⟩ | ⟨hm', he'⟩
    rotate_left
    · as_aux_lemma =>
      rw [he'] at HPB
      clear hm he hm' he'
      go_enter Tryd.func5, Tryd.ntmps5
      go_upto_region 1 with fail
      rw [← HW.out]
      go_wp2_with (refine ld_msg (KR.out W (Below.refl _ W)).1 rfl rfl _ rfl rfl ?_)
      refine HL1.out.mono ?_
      rintro en w1 ⟨rfl, hb1⟩
      have HB1 := Lib.hid hb1
      clear hb1
      have q2 := (KR.out w1 HB1.out).2.1
      have k0 := q2.cell (j := 0) rfl
      have k1 := q2.cell (j := 1) rfl
      have k2 := q2.cell (j := 2) rfl
      have k3 := q2.cell (j := 3) rfl
      have k4 := q2.cell (j := 4) rfl
      have k5 := q2.cell (j := 5) rfl
      have k6 := q2.cell (j := 6) rfl
      have k7 := q2.cell (j := 7) rfl
      have k8 := q2.cell (j := 8) rfl
      have k9 := q2.cell (j := 9) rfl
      have k10 := q2.cell (j := 10) rfl
      have k11 := q2.cell (j := 11) rfl
      have k12 := q2.cell (j := 12) rfl
      have k13 := q2.cell (j := 13) rfl
      have k14 := q2.cell (j := 14) rfl
      have k15 := q2.cell (j := 15) rfl
      have kl := q2.lt
      have hl2w := HL2.out w1
      unfold msgV at hl2w
      have HL2W := Lib.hid hl2w
      clear q2 hl2w
      go_wp2_with fail
      refine HL2W.out.mono ?_
      rintro en w2 ⟨rfl, hb2⟩
      clear k0 k1 k2 k3 k4 k5 k6 k7 k8 k9 k10 k11 k12 k13 k14 k15 kl HL2W
      have HB2 := Lib.hid (HB1.out.trans (hb2.mono HB1.out.size))
      clear hb2
      go_wp2_with (refine ld_msg (KR.out w2 HB2.out).1 rfl rfl _ rfl rfl ?_)
      refine (HPA.out w2 HB2.out).mono ?_
      rintro en w3 ⟨rfl, hb3⟩
      have HB3 := Lib.hid (HB2.out.trans (hb3.mono HB2.out.size))
      clear hb3
      go_wp2_with (refine ld_msg (KR.out w3 HB3.out).2.1 rfl rfl _ rfl rfl ?_)
      refine (HPB.out w3 HB3.out).mono ?_
      rintro en w4 ⟨rfl, hb4⟩
      have HA := Lib.hid (HAW.out w4 (HB3.out.trans (hb4.mono HB3.out.size)))
      clear hb4
      go_wp2_with fail
      refine HA.out.mono ?_
      rintro en w5 ⟨rfl, hb5⟩
      go_wp2_with fail
      go_ret
      exact ⟨rfl, hb5⟩
    · as_aux_lemma =>
      rw [he'] at HPB
      have HSM : Hid ((X.toList == Y.toList) = decide (m = m')) := Lib.hid (by
        rw [Be.str_eq_dec, ← HXX.out, ← HYY.out]
        unfold txP
        rw [if_pos hm, if_pos hm']
        exact HEQ.out hm hm')
      clear hm he hm' he'
      generalize decide (m = m') = D at *
      go_enter Tryd.func5, Tryd.ntmps5
      go_upto_region 1 with fail
      rw [← HW.out]
      go_wp2_with (refine ld_msg (KR.out W (Below.refl _ W)).1 rfl rfl _ rfl rfl ?_)
      refine HL1.out.mono ?_
      rintro en w1 ⟨rfl, hb1⟩
      have HB1 := Lib.hid hb1
      clear hb1
      have q2 := (KR.out w1 HB1.out).2.1
      have k0 := q2.cell (j := 0) rfl
      have k1 := q2.cell (j := 1) rfl
      have k2 := q2.cell (j := 2) rfl
      have k3 := q2.cell (j := 3) rfl
      have k4 := q2.cell (j := 4) rfl
      have k5 := q2.cell (j := 5) rfl
      have k6 := q2.cell (j := 6) rfl
      have k7 := q2.cell (j := 7) rfl
      have k8 := q2.cell (j := 8) rfl
      have k9 := q2.cell (j := 9) rfl
      have k10 := q2.cell (j := 10) rfl
      have k11 := q2.cell (j := 11) rfl
      have k12 := q2.cell (j := 12) rfl
      have k13 := q2.cell (j := 13) rfl
      have k14 := q2.cell (j := 14) rfl
      have k15 := q2.cell (j := 15) rfl
      have kl := q2.lt
      have hl2w := HL2.out w1
      unfold msgV at hl2w
      have HL2W := Lib.hid hl2w
      clear q2 hl2w
      go_wp2_with fail
      refine HL2W.out.mono ?_
      rintro en w2 ⟨rfl, hb2⟩
      clear k0 k1 k2 k3 k4 k5 k6 k7 k8 k9 k10 k11 k12 k13 k14 k15 kl HL2W
      have HB2 := Lib.hid (HB1.out.trans (hb2.mono HB1.out.size))
      clear hb2
      go_wp2_with (refine ld_msg (KR.out w2 HB2.out).1 rfl rfl _ rfl rfl ?_)
      refine (HPA.out w2 HB2.out).mono ?_
      rintro en w3 ⟨rfl, hb3⟩
      have HB3 := Lib.hid (HB2.out.trans (hb3.mono HB2.out.size))
      clear hb3
      go_wp2_with (refine ld_msg (KR.out w3 HB3.out).2.1 rfl rfl _ rfl rfl ?_)
      refine (HPB.out w3 HB3.out).mono ?_
      rintro en w4 ⟨rfl, hb4⟩
      have HB4 := Lib.hid (HB3.out.trans (hb4.mono HB3.out.size))
      clear hb4
      have hsm := HSM.out
      go_wp2_with (first
        | refine ld_msg (KR.out w4 HB4.out).1 rfl rfl _ rfl rfl ?_
        | refine ld_msg (KR.out w4 HB4.out).2.1 rfl rfl _ rfl rfl ?_)
      refine (HSA.out w4 HB4.out).mono ?_
      rintro en w5 ⟨rfl, hb5⟩
      have HA := Lib.hid (HAW.out w5 (HB4.out.trans (hb5.mono HB4.out.size)))
      clear hb5
      go_wp2_with fail
      refine HA.out.mono ?_
      rintro en w6 ⟨rfl, hb6⟩
      go_wp2_with fail
      go_ret
      exact ⟨rfl, hb6⟩
end Go.Proofs.YtcbkgcnajplagaaDoor.Po
