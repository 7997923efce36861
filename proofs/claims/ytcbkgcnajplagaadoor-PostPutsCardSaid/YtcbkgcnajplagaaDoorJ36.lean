/- PostPuts returns true. Conditions: the message's numbers and hits read as lists; its free numbers are numbers of Go; the tables lie as start-up lays them. -/
import Derived.Test.YtcbkgcnajplagaaDoorJ35
import Derived.Test.YtcbkgcnajplagaaDoorJ29
set_option linter.unusedVariables false
set_option linter.unusedSimpArgs false
set_option maxRecDepth 100000
namespace Go.Proofs.YtcbkgcnajplagaaDoor.Po
open Go Go.RowKit
open Be (T kindsOk kindsOkL deepT deepL wfT wfL tidy tidyL onlyRes takeRes gdT RdL Rd RdA ReadsP Keeps)
set_option maxHeartbeats 16000000 in
theorem postPuts_walk (m : M) (hf : FitM m) {w : World} {B : Nat} {A A2 : Option Addr} {n c n2 c2 : Nat} (hR : Reads w B 1 A n (ints m.vs)) (hH : Reads w B 2 A2 n2 (hits m.hs)) (hB : B ≤ w.heap.size) (hT : Four w) :
    Calls Tryd.prog 3 #[.agg (msgV m A n c A2 n2 c2).toArray] w (Gives (.bool true) w) := by
  obtain ⟨W, hW⟩ : ∃ W, W = w.alloc (.cells (msgV m A n c A2 n2 c2).toArray 30) := ⟨_, rfl⟩
  have hb0 : Below w.heap.size w W := by rw [hW]; exact (Below.refl _ w).alloc (Nat.le_refl _) _
  have r1 : Row W w.heap.size 30 (msgV m A n c A2 n2 c2) := by rw [hW]; exact Row.new w 30 (msgV m A n c A2 n2 c2)
  have KR := Lib.hid (fun w1 (hb : Below W.heap.size W w1) => show Row w1 w.heap.size 30 (msgV m A n c A2 n2 c2) ∧ Below w.heap.size w w1 ∧ Four w1 ∧ B ≤ w1.heap.size ∧ Reads w1 B 1 A n (ints m.vs) ∧ Reads w1 B 2 A2 n2 (hits m.hs) from by
    have hbw := hb0.trans (hb.mono hb0.size)
    exact ⟨r1.keep (hb.block _ r1.lt), hbw, hT.on hbw, Nat.le_trans hB hbw.size, hR.below (hbw.mono hB), hH.below (hbw.mono hB)⟩)
  have HAW := Lib.hid (fun w1 (hb : Below W.heap.size W w1) => show Calls Tryd.prog 9 #[] w1 (fun e w' => e = .returned (.bool true) ∧ Below w.heap.size w w') from by
    refine (awake_any w1 (KR.out w1 hb).2.2.1).mono ?_
    rintro e w2 ⟨rfl, hb2⟩
    exact ⟨rfl, below_then (KR.out w1 hb).2.1 hb2⟩)
  have HW := Lib.hid hW
  have HL1 := Lib.hid (light_any m A n c A2 n2 c2 W)
  clear hW hb0 r1 hT hB hR hH
  by_cases hl1 : m.tx.size ≤ 2048 ∧ n ≤ 100 ∧ n2 ≤ 100
  rotate_left
  · as_aux_lemma =>
    rw [decide_eq_false hl1] at HL1
    clear hl1
    go_enter Tryd.func3, Tryd.ntmps3
    go_upto_region 1 with fail
    rw [← HW.out]
    go_wp2_with (refine ld_msg (KR.out W (Below.refl _ W)).1 rfl rfl _ rfl rfl ?_)
    refine HL1.out.mono ?_
    rintro en w1 ⟨rfl, hb1⟩
    have HA := Lib.hid (HAW.out w1 hb1)
    clear hb1
    go_wp2_with fail
    refine HA.out.mono ?_
    rintro en w2 ⟨rfl, hb2⟩
    go_wp2_with fail
    go_ret
    exact ⟨rfl, hb2⟩
  rw [decide_eq_true hl1] at HL1
  have HPA := Lib.hid (fun w1 (hb : Below W.heap.size W w1) => put_any (c := c) (c' := c2) m hf (KR.out w1 hb).2.2.2.2.1 (KR.out w1 hb).2.2.2.2.2 (KR.out w1 hb).2.2.2.1 (by omega) (by omega) (KR.out w1 hb).2.2.1)
  have HPB := Lib.hid (fun w1 (hb : Below W.heap.size W w1) => rput_any (c := c) (c' := c2) m hf (KR.out w1 hb).2.2.2.2.1 (KR.out w1 hb).2.2.2.2.2 (KR.out w1 hb).2.2.2.1 (by omega) (by omega))
  have HCH := Lib.hid (fun w1 (hb : Below W.heap.size W w1) => check_any (c := c) (c' := c2) m hf.1 (KR.out w1 hb).2.2.2.2.1 (KR.out w1 hb).2.2.2.2.2 (KR.out w1 hb).2.2.2.1 (show n ≤ maxLen by unfold maxLen; omega) (show n2 ≤ maxLen by unfold maxLen; omega))
  have HLN := Lib.hid (show n ≤ maxLen ∧ n2 ≤ maxLen from ⟨by unfold maxLen; omega, by unfold maxLen; omega⟩)
  obtain ⟨X, hX⟩ : ∃ X, txP m = X := ⟨_, rfl⟩
  rw [hX] at HPA HPB
  cases hmm : mayM m with
  | false =>
    as_aux_lemma =>
    rw [eM_f hmm] at HPA HPB HCH
    clear hmm hl1 hf hX
    go_enter Tryd.func3, Tryd.ntmps3
    go_upto_region 1 with fail
    rw [← HW.out]
    go_wp2_with (refine ld_msg (KR.out W (Below.refl _ W)).1 rfl rfl _ rfl rfl ?_)
    refine HL1.out.mono ?_
    rintro en w1 ⟨rfl, hb1⟩
    have HB1 := Lib.hid hb1
    clear hb1
    go_wp2_with (refine ld_msg (KR.out w1 HB1.out).1 rfl rfl _ rfl rfl ?_)
    refine (HPA.out w1 HB1.out).mono ?_
    rintro en w2 ⟨rfl, hb2⟩
    have HB2 := Lib.hid (HB1.out.trans (hb2.mono HB1.out.size))
    clear hb2
    go_wp2_with (refine ld_msg (KR.out w2 HB2.out).1 rfl rfl _ rfl rfl ?_)
    refine (HPB.out w2 HB2.out).mono ?_
    rintro en w3 ⟨rfl, hb3⟩
    have HB3 := Lib.hid (HB2.out.trans (hb3.mono HB2.out.size))
    clear hb3
    have hc := HCH.out w3 HB3.out
    unfold msgV at hc
    have HC := Lib.hid hc
    clear hc
    have q2 := (KR.out w3 HB3.out).1
    have k0 := q2.cell (j := 0) rfl
    have k1 := q2.cell (j := 1) rfl
    have k2 := q2.cell (j := 2) rfl
    have k3 := q2.cell (j := 3) rfl
    have k4 := q2.cell (j := 4) rfl
    have k5 := q2.cell (j := 5) rfl
    have k6 := q2.cell (j := 6) rfl
    have k7 := q2.cell (j := 7) rfl
    have k8 := q2.cell (j := 8) rfl
    have k9 := q2.cell (j := 9) rfl
    have k10 := q2.cell (j := 10) rfl
    have k11 := q2.cell (j := 11) rfl
    have k12 := q2.cell (j := 12) rfl
    have k13 := q2.cell (j := 13) rfl
    have k14 := q2.cell (j := 14) rfl
    have k15 := q2.cell (j := 15) rfl
    have kl := q2.lt
    clear q2
    go_wp2_with fail
    refine HC.out.mono ?_
    rintro en w4 ⟨rfl, hb4⟩
    clear k0 k1 k2 k3 k4 k5 k6 k7 k8 k9 k10 k11 k12 k13 k14 k15 kl HC
    have HA := Lib.hid (HAW.out w4 (HB3.out.trans (hb4.mono HB3.out.size)))
    clear hb4
    go_wp2_with fail
    refine HA.out.mono ?_
    rintro en w5 ⟨rfl, hb5⟩
    go_wp2_with fail
    go_ret
    exact ⟨rfl, hb5⟩
  | true =>
    as_aux_lemma =>
    rw [eM_t hmm] at HPA HPB HCH
    have hxt : X = txtB m := by rw [← hX]; unfold txP; rw [if_pos hmm]
    have hxs : X.size ≤ 300000 := by rw [hxt]; have := txt_le hmm hf; omega
    have HTM := Lib.hid (show takeM X = some m by rw [hxt]; exact takeM_txt hmm hf)
    clear hmm hl1 hf hX hxt
    go_enter Tryd.func3, Tryd.ntmps3
    go_upto_region 1 with fail
    rw [← HW.out]
    go_wp2_with (refine ld_msg (KR.out W (Below.refl _ W)).1 rfl rfl _ rfl rfl ?_)
    refine HL1.out.mono ?_
    rintro en w1 ⟨rfl, hb1⟩
    have HB1 := Lib.hid hb1
    clear hb1
    go_wp2_with (refine ld_msg (KR.out w1 HB1.out).1 rfl rfl _ rfl rfl ?_)
    refine (HPA.out w1 HB1.out).mono ?_
    rintro en w2 ⟨rfl, hb2⟩
    have HB2 := Lib.hid (HB1.out.trans (hb2.mono HB1.out.size))
    clear hb2
    go_wp2_with (refine ld_msg (KR.out w2 HB2.out).1 rfl rfl _ rfl rfl ?_)
    refine (HPB.out w2 HB2.out).mono ?_
    rintro en w3 ⟨rfl, hb3⟩
    have HB3 := Lib.hid (HB2.out.trans (hb3.mono HB2.out.size))
    clear hb3
    have hc := HCH.out w3 HB3.out
    unfold msgV at hc
    have HC := Lib.hid hc
    clear hc
    have q2 := (KR.out w3 HB3.out).1
    have k0 := q2.cell (j := 0) rfl
    have k1 := q2.cell (j := 1) rfl
    have k2 := q2.cell (j := 2) rfl
    have k3 := q2.cell (j := 3) rfl
    have k4 := q2.cell (j := 4) rfl
    have k5 := q2.cell (j := 5) rfl
    have k6 := q2.cell (j := 6) rfl
    have k7 := q2.cell (j := 7) rfl
    have k8 := q2.cell (j := 8) rfl
    have k9 := q2.cell (j := 9) rfl
    have k10 := q2.cell (j := 10) rfl
    have k11 := q2.cell (j := 11) rfl
    have k12 := q2.cell (j := 12) rfl
    have k13 := q2.cell (j := 13) rfl
    have k14 := q2.cell (j := 14) rfl
    have k15 := q2.cell (j := 15) rfl
    have kl := q2.lt
    clear q2
    go_wp2_with fail
    refine HC.out.mono ?_
    rintro en w4 ⟨rfl, hb4⟩
    clear k0 k1 k2 k3 k4 k5 k6 k7 k8 k9 k10 k11 k12 k13 k14 k15 kl HC
    have hbW4 := HB3.out.trans (hb4.mono HB3.out.size)
    have htk := take_any X hxs (KR.out w4 hbW4).2.2.1
    rw [HTM.out] at htk
    have HTK := Lib.hid htk
    have HB4 := Lib.hid hbW4
    clear hb4 hbW4 htk
    go_wp2_with fail
    refine HTK.out.mono ?_
    intro en w5 hpost
    unfold TkPost at hpost
    obtain ⟨hb5, A5, n5, c5, A5', n5', c5', rfl, hR5, hR5', hn5, hn5'⟩ := hpost
    obtain ⟨V, hV⟩ : ∃ V, V = w5.alloc (.cells (msgV m A5 n5 c5 A5' n5' c5').toArray 30) := ⟨_, rfl⟩
    have hbV : Below w5.heap.size w5 V := by rw [hV]; exact (Below.refl _ w5).alloc (Nat.le_refl _) _
    have rV : Row V w5.heap.size 30 (msgV m A5 n5 c5 A5' n5' c5') := by rw [hV]; exact Row.new w5 _ _
    have hbw := (HB4.out.trans (hb5.mono HB4.out.size)).trans (hbV.mono (Nat.le_trans HB4.out.size hb5.size))
    obtain ⟨rM, _, _, hBs, hRm, hHm⟩ := KR.out V hbw
    have hsa := rsame_any m m (c := c) (c' := c5) (c2 := c2) (c2' := c5') (w := V) (hRm.more hBs) ((hR5.below hbV).more hbV.size) (hHm.more hBs) ((hR5'.below hbV).more hbV.size) (Nat.le_refl _) HLN.out.1 (by unfold maxLen; omega) HLN.out.2 (by unfold maxLen; omega)
    rw [decide_eq_true (rfl : m = m)] at hsa
    have HSA := Lib.hid hsa
    clear hsa
    have HV := Lib.hid hV
    have HRV := Lib.hid (And.intro rM (And.intro rV hbw))
    clear hb5 hR5 hR5' hn5 hn5' hV hbV rV hbw rM hBs hRm hHm HTK
    unfold msgV
    unfold msgV at HV HSA
    go_upto_region 10 with fail
    rw [← HV.out]
    go_wp2_with (first
      | refine ld_msg HRV.out.1 rfl rfl _ rfl rfl ?_
      | refine ld_msg HRV.out.2.1 rfl rfl _ rfl rfl ?_)
    refine HSA.out.mono ?_
    rintro en w6 ⟨rfl, hb6⟩
    have HA := Lib.hid (HAW.out w6 (HRV.out.2.2.trans (hb6.mono HRV.out.2.2.size)))
    clear hb6
    go_wp2_with fail
    refine HA.out.mono ?_
    rintro en w7 ⟨rfl, hb7⟩
    go_wp2_with fail
    go_ret
    exact ⟨rfl, hb7⟩
end Go.Proofs.YtcbkgcnajplagaaDoor.Po
