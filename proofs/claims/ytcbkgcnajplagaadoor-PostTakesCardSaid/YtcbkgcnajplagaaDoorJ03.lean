/- May a message be, as the document tells. Conditions: its numbers and hits read as lists. -/
import Derived.Test.YtcbkgcnajplagaaDoorJ01
import Derived.Test.YtcbkgcnajplagaaDoorJ02
set_option linter.unusedVariables false
set_option linter.unusedSimpArgs false
set_option maxRecDepth 100000
namespace Go.Proofs.YtcbkgcnajplagaaDoor.Po
open Go Go.RowKit
/-- A message as sixteen values. -/
def msgV (m : M) (A : Option Addr) (n c : Nat) (A' : Option Addr) (n' c' : Nat) : List Value := [.int .i64 m.kd, .int .i64 m.sh, .int .i64 m.ep, .int .i64 m.cl, .int .i64 m.sq, .int .i64 m.nn, .int .i64 m.vr, .int .i64 m.lm, .int .i64 m.ok, .int .i64 m.oi, .slice A n c, .int .i64 m.kk, .int .i64 m.er, .bool m.wa, .slice A' n' c', .string m.tx]
set_option maxHeartbeats 8000000 in
theorem rmay_any (m : M) {w : World} {B : Nat} {A A' : Option Addr} {n c n' c' : Nat} (hR : Reads w B 1 A n (ints m.vs)) (hR' : Reads w B 2 A' n' (hits m.hs)) (hB : B ≤ w.heap.size) (hm : n ≤ maxLen) (hm' : n' ≤ maxLen) :
    Calls Tryd.prog 20 #[.agg (msgV m A n c A' n' c').toArray] w (Gives (.bool (mayM m)) w) := by
  have hln := hR.len
  have hln' := hR'.hits_len
  obtain ⟨W, hW⟩ : ∃ W, W = w.alloc (.cells (msgV m A n c A' n' c').toArray 30) := ⟨_, rfl⟩
  have hb0 : Below w.heap.size w W := by rw [hW]; exact (Below.refl _ w).alloc (Nat.le_refl _) _
  have hRw : Row W w.heap.size 30 (msgV m A n c A' n' c') := by rw [hW]; exact Row.new w 30 (msgV m A n c A' n' c')
  obtain ⟨U, hU⟩ : ∃ U, U = W.alloc (.cells #[.int .i64 m.ep, .int .i64 m.cl, .int .i64 m.sq, .int .i64 m.nn, .int .i64 m.vr, .int .i64 m.lm] 3) := ⟨_, rfl⟩
  have hsW : W.heap.size = w.heap.size + 1 := by rw [hW]; simp
  have hb1 : Below w.heap.size w U := by rw [hU]; exact hb0.alloc hb0.size _
  have hRU : Row U w.heap.size 30 (msgV m A n c A' n' c') := by rw [hU]; exact hRw.keep (by rw [World.alloc]; simp [Array.getElem?_push]; omega)
  have h6 : Reads U (w.heap.size + 1 + 1) 1 (some ⟨w.heap.size + 1, 0, none⟩) 6 (ints (l6 m)) := by rw [hU, ← hsW]; exact news_int W (l6 m) (by simp [l6])
  have hV := (hR.more hB).below hb1
  have hH := (hR'.more hB).below hb1
  have c0 := hRw.cell (j := 0) rfl
  have c1 := hRw.cell (j := 1) rfl
  have c2 := hRw.cell (j := 2) rfl
  have c3 := hRw.cell (j := 3) rfl
  have c4 := hRw.cell (j := 4) rfl
  have c5 := hRw.cell (j := 5) rfl
  have c6 := hRw.cell (j := 6) rfl
  have c7 := hRw.cell (j := 7) rfl
  have lw := hRw.lt
  have HRU := Lib.hid hRU
  have H6 := Lib.hid h6
  have HV := Lib.hid hV
  have HH := Lib.hid hH
  have HB := Lib.hid hb1
  have HW := Lib.hid hW
  have HU := Lib.hid hU
  have HSZ : Hid (W.heap.size = w.heap.size + 1 ∧ w.heap.size + 1 + 1 ≤ U.heap.size) := Lib.hid ⟨hsW, by rw [hU]; simp; omega⟩
  have HL := Lib.hid hln
  have HL' := Lib.hid hln'
  have HM6 := Lib.hid (fun k hk h => may_6 (m := m) (k := k) hk h)
  have HMH := Lib.hid (fun k hk h => may_h (m := m) (k := k) hk h)
  clear hRw hRU h6 hV hH hb0 hb1 hR hR' hB hln hln' hW hU hsW
  unfold maxLen at hm hm'
  go_enter Tryd.func20, Tryd.ntmps20
  unfold msgV at *
  go_wp2_with fail
  rw [← HW.out]
  go_wp2_with fail
  rw [← HU.out]
  clear c0 c1 c2 c3 c4 c5 c6 c7 lw
  go_loopw [4] (fun i wr => ∃ k : Nat, k ≤ 6 ∧ i = .int .i64 (k : Int) ∧ U = wr ∧ Hid (∀ j, j < k → W40 ((l6 m).getD j 0))) (fun i _ => 6 - (intOf i).toNat)
  case atStart => exact ⟨0, Nat.zero_le _, rfl, rfl, Lib.hid (fun j hj => absurd hj (by omega))⟩
  case round =>
    obtain ⟨k, hk, rfl, rfl, HK⟩ := hrel
    by_cases hlt : k < 6
    · obtain ⟨ad, had, hab, hc⟩ := H6.out.int_at hlt
      obtain rfl : (⟨w.heap.size + 1, 0, none⟩ : Addr) = ad := Option.some.inj had
      have ek : (⟨w.heap.size + 1, 0, none⟩ : Addr).add k = ⟨w.heap.size + 1, k, none⟩ := by cases k <;> simp [Addr.add]
      rw [ek] at hc
      clear had hab ek
      have hltz : (k : Int) < 6 := by omega
      have hsz := HSZ.out.2
      have HF := Lib.hid (fun h => HM6.out k hlt h)
      have HS := Lib.hid (show W40 ((l6 m).getD k 0) → ∀ j, j < k + 1 → W40 ((l6 m).getD j 0) from fun h j hj => by
        rcases Nat.lt_or_ge j k with h1 | h1
        · exact HK.out j h1
        · obtain rfl : j = k := by omega
          exact h)
      generalize (l6 m).getD k 0 = X at *
      by_cases x0 : X < 0
      · have hmf := HF.out (by unfold W40; omega)
        have HMF := Lib.hid hmf
        clear hmf
        go_wp2_with fail
        go_ret
        exact ⟨ret_bool HMF.out.symm, HB.out⟩
      · by_cases x1 : 1099511627776 < X
        · have hmf := HF.out (by unfold W40; omega)
          have HMF := Lib.hid hmf
          clear hmf
          go_wp2_with fail
          go_ret
          exact ⟨ret_bool HMF.out.symm, HB.out⟩
        · have hs := Lib.hid (HS.out (by unfold W40; omega))
          go_wp2_with fail
          exact ⟨⟨k + 1, hlt, by go_num, by trivial, hs⟩, by simp [intOf]; omega⟩
    · obtain rfl : k = 6 := by omega
      have HKX := HK
      have h66 : ¬ ((6 : Nat) : Int) < 6 := by omega
      have d14 := HRU.out.cell (j := 14) rfl
      have lu := HRU.out.lt
      go_wp2_with fail
      go_loopw [5] (fun i wr => ∃ k : Nat, k ≤ n' ∧ i = .int .i64 (k : Int) ∧ U = wr ∧ Hid (∀ j, j < k → W40 (m.hs.getD j (0, 0)).2 ∧ j < 64)) (fun i _ => n' - (intOf i).toNat)
      case atStart => exact ⟨0, Nat.zero_le _, rfl, rfl, Lib.hid (fun j hj => absurd hj (by omega))⟩
      case round =>
        obtain ⟨k, hk, rfl, rfl, HJ⟩ := hrel
        by_cases hlt : k < n'
        · obtain ⟨ad, rfl, hab, hkl, hc0, hc⟩ := HH.out.hit_at hlt
          have hltz : (k : Int) < (n' : Int) := by omega
          have hdl : (ad.add (k * 2)).block < U.heap.size := by rw [block_of_add]; omega
          have HF := Lib.hid (fun h => HMH.out k hkl h)
          have HS := Lib.hid (show W40 (m.hs.getD k (0, 0)).2 → k < 64 → ∀ j, j < k + 1 → W40 (m.hs.getD j (0, 0)).2 ∧ j < 64 from fun h h' j hj => by
            rcases Nat.lt_or_ge j k with h1 | h1
            · exact HJ.out j h1
            · obtain rfl : j = k := by omega
              exact ⟨h, h'⟩)
          clear hc0
          generalize (m.hs.getD k (0, 0)).2 = X at *
          by_cases x0 : X < 0
          · have hmf := HF.out (.inl (by unfold W40; omega))
            have HMF := Lib.hid hmf
            clear hmf
            go_wp2_with fail
            go_ret
            exact ⟨ret_bool HMF.out.symm, HB.out⟩
          · by_cases x1 : 1099511627776 < X
            · have hmf := HF.out (.inl (by unfold W40; omega))
              have HMF := Lib.hid hmf
              clear hmf
              go_wp2_with fail
              go_ret
              exact ⟨ret_bool HMF.out.symm, HB.out⟩
            · by_cases x2 : 64 ≤ k
              · have hmf := HF.out (.inr x2)
                have HMF := Lib.hid hmf
                have x3 : (64 : Int) ≤ (k : Int) := by omega
                clear hmf
                go_wp2_with fail
                go_ret
                exact ⟨ret_bool HMF.out.symm, HB.out⟩
              · have hs := Lib.hid (HS.out (by unfold W40; omega) (by omega))
                have x3 : ¬ (64 : Int) ≤ (k : Int) := by omega
                go_wp2_with fail
                exact ⟨⟨k + 1, hlt, by go_num, by trivial, hs⟩, by simp [intOf]; omega⟩
        · obtain rfl : k = n' := by omega
          have hnl : ¬ (k : Int) < (k : Int) := by omega
          -- TAIL (gen_pomay.py)
          have hoh : okHs m.hs = true := h_may (fun j hj => HJ.out j (by rw [HL'.out]; exact hj))
          have HOH := Lib.hid hoh
          clear hoh
          have e0 := HRU.out.cell (j := 0) rfl
          have e1 := HRU.out.cell (j := 1) rfl
          have e8 := HRU.out.cell (j := 8) rfl
          have e10 := HRU.out.cell (j := 10) rfl
          have e11 := HRU.out.cell (j := 11) rfl
          have e12 := HRU.out.cell (j := 12) rfl
          have e15 := HRU.out.cell (j := 15) rfl
          by_cases p10 : m.kd < 1
          · have HMF := Lib.hid (may_no (m := m) (fun h => by have := h.1; have := h.2.1; omega))
            go_wp2_with fail
            go_ret
            exact ⟨ret_bool HMF.out.symm, HB.out⟩
          ·
            by_cases p12 : (19 : Int) < m.kd
            · have HMF := Lib.hid (may_no (m := m) (fun h => by have := h.1; have := h.2.1; omega))
              go_wp2_with fail
              go_ret
              exact ⟨ret_bool HMF.out.symm, HB.out⟩
            ·
              by_cases p14 : m.sh < 0
              · have HMF := Lib.hid (may_no (m := m) (fun h => by have := h.1; have := h.2.1; omega))
                go_wp2_with fail
                go_ret
                exact ⟨ret_bool HMF.out.symm, HB.out⟩
              ·
                by_cases p16 : (15 : Int) < m.sh
                · have HMF := Lib.hid (may_no (m := m) (fun h => by have := h.1; have := h.2.1; omega))
                  go_wp2_with fail
                  go_ret
                  exact ⟨ret_bool HMF.out.symm, HB.out⟩
                ·
                  have HK6 := HKX
                  by_cases pv : (0 : Int) < (n : Int)
                  · have HC := Lib.hid (is_any A n c _ m.vs U HV.out (by unfold maxLen; omega))
                    cases hv : okV m.vs with
                    | false =>
                      have HMF := Lib.hid (may_no (m := m) (fun h => by have h3 := h.2.2.1; rw [okVs_is, hv, Bool.or_false, decide_eq_true_eq] at h3; have := HL.out; omega))
                      rw [hv] at HC
                      clear hv
                      go_wp2_with fail
                      refine HC.out.mono ?_
                      rintro en w1 ⟨rfl, q, rfl⟩
                      go_wp2_with fail
                      go_ret
                      exact ⟨ret_bool HMF.out.symm, below_drewN HB.out _⟩
                    | true =>
                      have HOV := Lib.hid (show okVs m.vs = true by rw [okVs_is, hv, Bool.or_true])
                      rw [hv] at HC
                      clear hv
                      go_wp2_with fail
                      refine HC.out.mono ?_
                      rintro en w1 ⟨rfl, q, rfl⟩
                      have f8 : (U.drewN q).cell? _ = _ := e8
                      have f10 : (U.drewN q).cell? _ = _ := e10
                      have f11 : (U.drewN q).cell? _ = _ := e11
                      have f12 : (U.drewN q).cell? _ = _ := e12
                      have f15 : (U.drewN q).cell? _ = _ := e15
                      have fl : w.heap.size < (U.drewN q).heap.size := lu
                      by_cases q22 : 0 ≤ m.ok
                      · have r22 := q22
                        by_cases q24 : m.ok ≤ 3
                        · have r24 := q24
                          by_cases q26 : 0 ≤ m.kk
                          · have r26 := q26
                            by_cases q28 : m.kk ≤ 64
                            · have r28 := q28
                              by_cases q30 : 0 ≤ m.er
                              · have r30 := q30
                                by_cases q32 : m.er ≤ 255
                                · have r32 := q32
                                  by_cases q34 : (m.tx.size : Int) ≤ 262144
                                  · have r34 := q34
                                    have HMF := Lib.hid (may_rest (m := m) HK6.out HOH.out ⟨⟨by omega, by omega⟩, ⟨by omega, by omega⟩, HOV.out, ⟨q22, q24⟩, ⟨q26, q28⟩, ⟨q30, q32⟩, by omega⟩)
                                    go_wp2_with fail
                                    go_ret
                                    exact ⟨ret_bool HMF.out.symm, below_drewN HB.out _⟩
                                  · have HMF := Lib.hid (may_no (m := m) (fun h => q34 (by have := h.2.2.2.2.2.2; omega)))
                                    have HQ := Lib.hid q34
                                    go_wp2_with fail
                                    go_ret
                                    first | exact ⟨ret_bool HMF.out.symm, below_drewN HB.out _⟩ | exact ⟨ret_bool ((decide_eq_false (by have := HQ.out; omega)).trans HMF.out.symm), below_drewN HB.out _⟩
                                · have HMF := Lib.hid (may_no (m := m) (fun h => q32 h.2.2.2.2.2.1.2))
                                  go_wp2_with fail
                                  go_ret
                                  exact ⟨ret_bool HMF.out.symm, below_drewN HB.out _⟩
                              · have HMF := Lib.hid (may_no (m := m) (fun h => q30 h.2.2.2.2.2.1.1))
                                go_wp2_with fail
                                go_ret
                                exact ⟨ret_bool HMF.out.symm, below_drewN HB.out _⟩
                            · have HMF := Lib.hid (may_no (m := m) (fun h => q28 h.2.2.2.2.1.2))
                              go_wp2_with fail
                              go_ret
                              exact ⟨ret_bool HMF.out.symm, below_drewN HB.out _⟩
                          · have HMF := Lib.hid (may_no (m := m) (fun h => q26 h.2.2.2.2.1.1))
                            go_wp2_with fail
                            go_ret
                            exact ⟨ret_bool HMF.out.symm, below_drewN HB.out _⟩
                        · have HMF := Lib.hid (may_no (m := m) (fun h => q24 h.2.2.2.1.2))
                          go_wp2_with fail
                          go_ret
                          exact ⟨ret_bool HMF.out.symm, below_drewN HB.out _⟩
                      · have HMF := Lib.hid (may_no (m := m) (fun h => q22 h.2.2.2.1.1))
                        go_wp2_with fail
                        go_ret
                        exact ⟨ret_bool HMF.out.symm, below_drewN HB.out _⟩
                  · have HOV := Lib.hid (show okVs m.vs = true by rw [okVs_is, Bool.or_eq_true, decide_eq_true_eq]; have := HL.out; left; omega)
                    by_cases q20 : 0 ≤ m.ok
                    · have r20 := q20
                      by_cases q22 : m.ok ≤ 3
                      · have r22 := q22
                        by_cases q24 : 0 ≤ m.kk
                        · have r24 := q24
                          by_cases q26 : m.kk ≤ 64
                          · have r26 := q26
                            by_cases q28 : 0 ≤ m.er
                            · have r28 := q28
                              by_cases q30 : m.er ≤ 255
                              · have r30 := q30
                                by_cases q32 : (m.tx.size : Int) ≤ 262144
                                · have r32 := q32
                                  have HMF := Lib.hid (may_rest (m := m) HK6.out HOH.out ⟨⟨by omega, by omega⟩, ⟨by omega, by omega⟩, HOV.out, ⟨q20, q22⟩, ⟨q24, q26⟩, ⟨q28, q30⟩, by omega⟩)
                                  go_wp2_with fail
                                  go_ret
                                  exact ⟨ret_bool HMF.out.symm, HB.out⟩
                                · have HMF := Lib.hid (may_no (m := m) (fun h => q32 (by have := h.2.2.2.2.2.2; omega)))
                                  have HQ := Lib.hid q32
                                  go_wp2_with fail
                                  go_ret
                                  first | exact ⟨ret_bool HMF.out.symm, HB.out⟩ | exact ⟨ret_bool ((decide_eq_false (by have := HQ.out; omega)).trans HMF.out.symm), HB.out⟩
                              · have HMF := Lib.hid (may_no (m := m) (fun h => q30 h.2.2.2.2.2.1.2))
                                go_wp2_with fail
                                go_ret
                                exact ⟨ret_bool HMF.out.symm, HB.out⟩
                            · have HMF := Lib.hid (may_no (m := m) (fun h => q28 h.2.2.2.2.2.1.1))
                              go_wp2_with fail
                              go_ret
                              exact ⟨ret_bool HMF.out.symm, HB.out⟩
                          · have HMF := Lib.hid (may_no (m := m) (fun h => q26 h.2.2.2.2.1.2))
                            go_wp2_with fail
                            go_ret
                            exact ⟨ret_bool HMF.out.symm, HB.out⟩
                        · have HMF := Lib.hid (may_no (m := m) (fun h => q24 h.2.2.2.2.1.1))
                          go_wp2_with fail
                          go_ret
                          exact ⟨ret_bool HMF.out.symm, HB.out⟩
                      · have HMF := Lib.hid (may_no (m := m) (fun h => q22 h.2.2.2.1.2))
                        go_wp2_with fail
                        go_ret
                        exact ⟨ret_bool HMF.out.symm, HB.out⟩
                    · have HMF := Lib.hid (may_no (m := m) (fun h => q20 h.2.2.2.1.1))
                      go_wp2_with fail
                      go_ret
                      exact ⟨ret_bool HMF.out.symm, HB.out⟩
end Go.Proofs.YtcbkgcnajplagaaDoor.Po
