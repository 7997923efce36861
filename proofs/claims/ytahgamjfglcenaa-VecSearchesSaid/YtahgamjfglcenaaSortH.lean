/- partialInsertionSort_func of package sort. Conditions: the row as SortA says. -/
import Derived.Test.YtahgamjfglcenaaSortB
import Derived.Deep.LoopGhost
import Derived.Deep.CutRange
set_option linter.unusedVariables false
set_option linter.unusedSimpArgs false
namespace Go.Proofs.Ytahgamjfglcenaa
open Go Go.RowKit
section
variable {a b i j s : Nat} {d : Array Hit}
theorem scanS_go (h : i < b) (hv : hlt d[i]! d[i - 1]! = false) : Sort.scanSorted hlt d b i = Sort.scanSorted hlt d b (i + 1) := by
  rw [Sort.scanSorted, if_pos (by simp [h, hv])]
theorem scanS_end (h : ¬ i < b ∨ hlt d[i]! d[i - 1]! = true) : Sort.scanSorted hlt d b i = i := by
  rw [Sort.scanSorted, if_neg (by rcases h with h | h <;> simp [h])]
theorem shiftD_zero : Sort.shiftDown hlt 0 d = d := rfl
theorem shiftD_go (h : 0 < j) (hv : hlt d[j]! d[j - 1]! = true) : Sort.shiftDown hlt j d = Sort.shiftDown hlt (j - 1) (Sort.swp d j (j - 1)) := by
  obtain ⟨k, rfl⟩ : ∃ k, j = k + 1 := ⟨j - 1, by omega⟩
  rw [Sort.shiftDown, if_neg (by simpa using hv)]
  rfl
theorem shiftD_end (h : 0 < j) (hv : hlt d[j]! d[j - 1]! = false) : Sort.shiftDown hlt j d = d := by
  obtain ⟨k, rfl⟩ : ∃ k, j = k + 1 := ⟨j - 1, by omega⟩
  rw [Sort.shiftDown, if_pos (by simpa using hv)]
theorem shiftU_go (h : j < b) (hv : hlt d[j]! d[j - 1]! = true) : Sort.shiftUp hlt b j d = Sort.shiftUp hlt b (j + 1) (Sort.swp d j (j - 1)) := by
  rw [Sort.shiftUp, if_pos h, if_neg (by simpa using hv)]
theorem shiftU_stop (h : j < b) (hv : hlt d[j]! d[j - 1]! = false) : Sort.shiftUp hlt b j d = d := by
  rw [Sort.shiftUp, if_pos h, if_pos (by simpa using hv)]
theorem shiftU_end (h : ¬ j < b) : Sort.shiftUp hlt b j d = d := by
  rw [Sort.shiftUp, if_neg h]
end
theorem ret_bool2 {a b : Bool} (h : a = b) : (Ending.returned (.bool a)) = .returned (.bool b) := by rw [h]
set_option maxHeartbeats 16000000 in
set_option maxRecDepth 100000 in
theorem partial_any {c0 blk n cap : Nat} {sb : Array Value} (E : Env blk n sb) (a b : Nat) (d : Array Hit) (W : World) (hS : St c0 blk n cap d W) (hab : a < b) (hb : b ≤ n) :
    Calls Try.prog 52 #[.agg #[lessV c0, swapV sb], .int .i64 a, .int .i64 b] W (Now c0 blk n cap (Sort.partialInsertionSort hlt d a b).1 (.bool (Sort.partialInsertionSort hlt d a b).2) W) := by
  have hn := E.hn
  have h0 := At.start (sb := sb) hS
  have HE := Lib.hid E
  clear hS E
  go_enter Try.func52, Try.ntmps52
  go_wp2_with fail
  go_loopg [7, 8] 5 (fun gx s7 s8 wr => ∃ (i kx : Nat) (dk : Array Hit), kx ≤ gx ∧ s7 = .int .i64 i ∧ s8 = .int .i64 (5 - (kx : Int)) ∧ kx ≤ 5 ∧ a < i ∧ i ≤ b ∧ At c0 blk n cap sb W.heap.size W dk wr ∧ Hid (Sort.partialIns hlt a b kx i dk = Sort.partialIns hlt a b 5 (a + 1) d))
  case atStart => exact ⟨a + 1, 5, d, Nat.le_refl _, by go_num, rfl, by omega, by omega, by omega, h0, Lib.hid rfl⟩
  case round =>
    obtain ⟨i, kx, dk, hgx, rfl, rfl, hkx, hai, hib, hA, HO⟩ := hrel
    clear h0
    rcases kx with _ | s
    · have hF := hA.now (d' := (Sort.partialInsertionSort hlt d a b).1) (by unfold Sort.partialInsertionSort; rw [← HO.out]; rfl)
      have hV : (Sort.partialInsertionSort hlt d a b).2 = false := by unfold Sort.partialInsertionSort; rw [← HO.out]; rfl
      have HV := Lib.hid hV
      clear hA hV HO
      rw [show (5 - ((0 : Nat) : Int)) = 5 from rfl]
      go_wp2_with fail
      go_ret
      exact ⟨ret_bool2 HV.out.symm, hF⟩
    · have hsz : 5 - ((s + 1 : Nat) : Int) < 5 := by omega
      have hs5 : s ≤ 4 := by omega
      obtain ⟨jj, hjj⟩ : ∃ jj : Int, jj = 5 - ((s + 1 : Nat) : Int) := ⟨_, rfl⟩
      rw [← hjj] at hsz ⊢
      have hj2 : jj + 1 = 5 - (s : Int) := by omega
      have hj3 : -10 ≤ jj := by omega
      have HJ := Lib.hid hj2
      clear hj2 hjj
      go_wp2_with fail
      go_loopw [7] (fun v7 w2 => ∃ (i' : Nat), v7 = .int .i64 i' ∧ i ≤ i' ∧ i' ≤ b ∧ At c0 blk n cap sb W.heap.size W dk w2 ∧ Hid (Sort.scanSorted hlt dk b i' = Sort.scanSorted hlt dk b i)) (fun v7 _ => b + 1 - (intOf v7).toNat)
      case atStart => exact ⟨i, rfl, Nat.le_refl _, hib, hA, Lib.hid rfl⟩
      case round =>
        obtain ⟨i', rfl, hii, hib', hA2, hsc⟩ := hrel
        clear hA
        have k0 := hA2.cell0
        have k1 := hA2.cell1
        have HA2 := Lib.hid hA2
        by_cases hlt' : i' < b
        · have hltz : (i' : Int) < (b : Int) := by omega
          have hc := clo_any hA2.st i' (i' - 1) (by omega) (by omega) (by omega)
          rw [show ((i' - 1 : Nat) : Int) = (i' : Int) - 1 by omega] at hc
          have HC := Lib.hid hc
          clear hA2 hc
          cases hv : hlt dk[i']! dk[i' - 1]! with
          | false =>
            rw [hv] at HC
            have HV := Lib.hid hv
            clear hv
            go_wp2_with fail
            refine HC.out.mono ?_
            rintro e w3 ⟨rfl, hb3⟩
            have HA3 := Lib.hid (HA2.out.below hb3)
            clear hb3
            go_wp2_with fail
            go_roundw
            case rel => exact ⟨i' + 1, by go_num, by omega, by omega, HA3.out, Lib.hid ((scanS_go hlt' HV.out).symm.trans hsc.out)⟩
            case measure => simp [intOf]; omega
          | true =>
            rw [hv] at HC
            have hend : Hid (Sort.scanSorted hlt dk b i = i') := Lib.hid (hsc.out.symm.trans (scanS_end (.inr hv)))
            clear hv hsc
            have hne : ((i' : Int) == (b : Int)) = false := by rw [beq_eq_false_iff_ne]; omega
            by_cases h50 : b - a < 50
            · have h50z : (b : Int) - (a : Int) < 50 := by omega
              have e : Sort.partialInsertionSort hlt d a b = (dk, false) := by
                unfold Sort.partialInsertionSort
                rw [← HO.out, Sort.partialIns_succ, hend.out, if_neg (by omega), if_pos h50]
              have HV := Lib.hid e
              clear e
              go_wp2_with fail
              refine HC.out.mono ?_
              rintro e w3 ⟨rfl, hb3⟩
              have HF := Lib.hid ((HA2.out.below hb3).now (d' := (Sort.partialInsertionSort hlt d a b).1) (by rw [HV.out]))
              clear hb3
              go_wp2_with fail
              go_ret
              exact ⟨ret_bool2 (by rw [HV.out]), HF.out⟩
            · have h50z : ¬ (b : Int) - (a : Int) < 50 := by omega
              have e : Sort.partialIns hlt a b (s + 1) i dk = Sort.partialIns hlt a b s i' (Sort.fixUp hlt b i' (Sort.fixDown hlt a i' (Sort.swp dk i' (i' - 1)))) := by
                rw [Sort.partialIns_succ, hend.out, if_neg (by omega), if_neg h50]
              have HEQ := Lib.hid (e.symm.trans HO.out)
              clear e
              go_wp2_with fail
              refine HC.out.mono ?_
              rintro e w3 ⟨rfl, hb3⟩
              have hA3 := HA2.out.below hb3
              obtain ⟨w4, hs, hS4, hg4⟩ := hA3.st.swap HE.out i' (i' - 1) (by omega) (by omega)
              rw [show ((i' - 1 : Nat) : Int) = (i' : Int) - 1 by omega] at hs
              have k1' := hA3.cell1
              have HA4 := Lib.hid (hA3.step hS4 hg4)
              have HS := Lib.hid hs
              clear k0 k1 hA3 hS4 hg4 hs hb3
              go_wp2_with fail
              rw [HS.out, Oper.upon_value]
              obtain ⟨D, hD⟩ : ∃ D, D = Sort.swp dk i' (i' - 1) := ⟨_, rfl⟩
              rw [← hD] at HA4 HEQ
              clear hD
              go_upto_if 47 with fail
              go_cut [9] from 13 to 90 (fun s9 wc => At c0 blk n cap sb W.heap.size W (Sort.fixDown hlt a i' D) wc)
              case first =>
                by_cases h2 : 2 ≤ i' - a
                · have h2z : (2 : Int) ≤ (i' : Int) - (a : Int) := by omega
                  have hfix : Sort.fixDown hlt a i' D = Sort.shiftDown hlt (i' - 1) D := by unfold Sort.fixDown; rw [if_pos h2]
                  have HFIX := Lib.hid hfix
                  clear hfix HS HEQ HC hend k1'
                  rw [decide_eq_true h2z]
                  go_wp2_with fail
                  go_loopg [9] i' (fun gy v9 w2 => ∃ (j : Nat) (dj : Array Hit), j ≤ gy ∧ v9 = .int .i64 j ∧ j ≤ i' - 1 ∧ At c0 blk n cap sb W.heap.size W dj w2 ∧ Hid (Sort.shiftDown hlt j dj = Sort.shiftDown hlt (i' - 1) D))
                  case atStart => exact ⟨i' - 1, D, by omega, by go_num, Nat.le_refl _, HA4.out, Lib.hid rfl⟩
                  case round =>
                    obtain ⟨j, dj, hgy, rfl, hji, hA5, HI⟩ := hrel
                    have k0 := hA5.cell0
                    have k1 := hA5.cell1
                    have HA5 := Lib.hid hA5
                    by_cases hj : 0 < j
                    · have hjz : (1 : Int) ≤ (j : Int) := by omega
                      have hc := clo_any hA5.st j (j - 1) (by omega) (by omega) (by omega)
                      rw [show ((j - 1 : Nat) : Int) = (j : Int) - 1 by omega] at hc
                      have HC := Lib.hid hc
                      clear hA5 hc
                      cases hv : hlt dj[j]! dj[j - 1]! with
                      | true =>
                        rw [hv] at HC
                        have HV := Lib.hid hv
                        clear hv
                        go_wp2_with fail
                        refine HC.out.mono ?_
                        rintro e w5 ⟨rfl, hb5⟩
                        have hA6 := HA5.out.below hb5
                        obtain ⟨w6, hs, hS6, hg6⟩ := hA6.st.swap HE.out j (j - 1) (by omega) (by omega)
                        rw [show ((j - 1 : Nat) : Int) = (j : Int) - 1 by omega] at hs
                        have k1' := hA6.cell1
                        have HA7 := Lib.hid (hA6.step hS6 hg6)
                        have HS := Lib.hid hs
                        clear k0 k1 hA6 hS6 hg6 hs hb5
                        go_wp2_with fail
                        rw [HS.out, Oper.upon_value]
                        go_wp2_with fail
                        go_roundg (j - 1)
                        case measure => omega
                        case rel => exact ⟨j - 1, _, Nat.le_refl _, by go_num, by omega, HA7.out, Lib.hid ((shiftD_go hj HV.out).symm.trans HI.out)⟩
                      | false =>
                        rw [hv] at HC
                        have e := (shiftD_end hj hv).symm.trans HI.out
                        have HEND := Lib.hid e
                        clear hv e
                        go_wp2_with fail
                        refine HC.out.mono ?_
                        rintro e w5 ⟨rfl, hb5⟩
                        have HA6 := Lib.hid (HA5.out.below hb5)
                        clear hb5
                        go_wp2_with fail
                        go_meet
                        case rel =>
                          rw [HFIX.out, ← HEND.out]
                          exact HA6.out
                    · have hjz : ¬ (1 : Int) ≤ (j : Int) := by omega
                      have hj0 : j = 0 := by omega
                      subst hj0
                      have HEND := Lib.hid (shiftD_zero.symm.trans HI.out)
                      clear hA5
                      go_wp2_with fail
                      go_meet
                      case rel =>
                        rw [HFIX.out, ← HEND.out]
                        exact HA5.out
                · have h2z : ¬ (2 : Int) ≤ (i' : Int) - (a : Int) := by omega
                  have hfix : Sort.fixDown hlt a i' D = D := by unfold Sort.fixDown; rw [if_neg h2]
                  have HFIX := Lib.hid hfix
                  clear hfix
                  go_wp2_with fail
                  go_meet
                  case rel =>
                    rw [HFIX.out]
                    exact HA4.out
              case rest =>
                have HA8 := Lib.hid hcut
                obtain ⟨D2, hD2⟩ : ∃ D2, D2 = Sort.fixDown hlt a i' D := ⟨_, rfl⟩
                rw [← hD2] at HA8 HEQ
                clear hcut hD2 HS HC hend k1' HA4
                by_cases h2 : 2 ≤ b - i'
                · have h2z : (2 : Int) ≤ (b : Int) - (i' : Int) := by omega
                  have hfix : Sort.fixUp hlt b i' D2 = Sort.shiftUp hlt b (i' + 1) D2 := by unfold Sort.fixUp; rw [if_pos h2]
                  rw [hfix] at HEQ
                  clear hfix
                  go_wp2_with fail
                  go_loopw [10] (fun v10 w2 => ∃ (j : Nat) (dj : Array Hit), v10 = .int .i64 j ∧ i' < j ∧ j ≤ b ∧ At c0 blk n cap sb W.heap.size W dj w2 ∧ Hid (Sort.shiftUp hlt b j dj = Sort.shiftUp hlt b (i' + 1) D2)) (fun v10 _ => b + 1 - (intOf v10).toNat)
                  case atStart => exact ⟨i' + 1, D2, by go_num, by omega, by omega, HA8.out, Lib.hid rfl⟩
                  case round =>
                    obtain ⟨j, dj, rfl, hji, hjb, hA5, HI⟩ := hrel
                    have k0 := hA5.cell0
                    have k1 := hA5.cell1
                    have HA5 := Lib.hid hA5
                    by_cases hj : j < b
                    · have hjz : (j : Int) < (b : Int) := by omega
                      have hc := clo_any hA5.st j (j - 1) (by omega) (by omega) (by omega)
                      rw [show ((j - 1 : Nat) : Int) = (j : Int) - 1 by omega] at hc
                      have HC := Lib.hid hc
                      clear hA5 hc
                      cases hv : hlt dj[j]! dj[j - 1]! with
                      | true =>
                        rw [hv] at HC
                        have HV := Lib.hid hv
                        clear hv
                        go_wp2_with fail
                        refine HC.out.mono ?_
                        rintro e w5 ⟨rfl, hb5⟩
                        have hA6 := HA5.out.below hb5
                        obtain ⟨w6, hs, hS6, hg6⟩ := hA6.st.swap HE.out j (j - 1) (by omega) (by omega)
                        rw [show ((j - 1 : Nat) : Int) = (j : Int) - 1 by omega] at hs
                        have k1' := hA6.cell1
                        have HA7 := Lib.hid (hA6.step hS6 hg6)
                        have HS := Lib.hid hs
                        clear k0 k1 hA6 hS6 hg6 hs hb5
                        go_wp2_with fail
                        rw [HS.out, Oper.upon_value]
                        go_wp2_with fail
                        go_roundw
                        case rel => exact ⟨j + 1, _, by go_num, by omega, by omega, HA7.out, Lib.hid ((shiftU_go hj HV.out).symm.trans HI.out)⟩
                        case measure => simp [intOf]; omega
                      | false =>
                        rw [hv] at HC
                        have e := (shiftU_stop hj hv).symm.trans HI.out
                        have HEND := Lib.hid e
                        clear hv e
                        go_wp2_with fail
                        refine HC.out.mono ?_
                        rintro e w5 ⟨rfl, hb5⟩
                        have HA6 := Lib.hid (HA5.out.below hb5)
                        clear hb5
                        go_wp2_with fail
                        go_roundg s
                        case measure => omega
                        case rel => exact ⟨i', s, _, Nat.le_refl _, rfl, by rw [HJ.out], by omega, by omega, by omega, HA6.out, Lib.hid (by rw [HEND.out]; exact HEQ.out)⟩
                    · have hjz : ¬ (j : Int) < (b : Int) := by omega
                      have HEND := Lib.hid ((shiftU_end hj).symm.trans HI.out)
                      clear hA5
                      go_wp2_with fail
                      go_roundg s
                      case measure => omega
                      case rel => exact ⟨i', s, _, Nat.le_refl _, rfl, by rw [HJ.out], by omega, by omega, by omega, HA5.out, Lib.hid (by rw [HEND.out]; exact HEQ.out)⟩
                · have h2z : ¬ (2 : Int) ≤ (b : Int) - (i' : Int) := by omega
                  have hfix : Sort.fixUp hlt b i' D2 = D2 := by unfold Sort.fixUp; rw [if_neg h2]
                  rw [hfix] at HEQ
                  clear hfix
                  go_wp2_with fail
                  go_roundg s
                  case measure => omega
                  case rel => exact ⟨i', s, _, Nat.le_refl _, rfl, by rw [HJ.out], by omega, by omega, by omega, HA8.out, HEQ⟩
        · have hltz : ¬ (i' : Int) < (b : Int) := by omega
          have hib2 : i' = b := by omega
          subst hib2
          have e : Sort.partialInsertionSort hlt d a i' = (dk, true) := by
            unfold Sort.partialInsertionSort
            rw [← HO.out, Sort.partialIns_succ, ← hsc.out, scanS_end (.inl hlt'), if_pos rfl]
          have HF := Lib.hid (hA2.now (d' := (Sort.partialInsertionSort hlt d a i').1) (by rw [e]))
          have HV := Lib.hid e
          clear hA2 e k0 k1
          go_wp2_with fail
          go_ret
          exact ⟨ret_bool2 (by rw [HV.out]), HF.out⟩
end Go.Proofs.Ytahgamjfglcenaa
