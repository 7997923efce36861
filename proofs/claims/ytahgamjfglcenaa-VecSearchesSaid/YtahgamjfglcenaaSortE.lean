/- partitionEqual_func of package sort. Conditions: the row as SortA says. -/
import Derived.Test.YtahgamjfglcenaaSortB
set_option linter.unusedVariables false
set_option linter.unusedSimpArgs false
namespace Go.Proofs.Ytahgamjfglcenaa
open Go Go.RowKit
set_option maxHeartbeats 16000000 in
set_option maxRecDepth 100000 in
theorem partEq_any {c0 blk n cap : Nat} {sb : Array Value} (E : Env blk n sb) (a b pivot : Nat) (d : Array Hit) (W : World) (hS : St c0 blk n cap d W) (hap : a ≤ pivot) (hpb : pivot < b) (hb : b ≤ n) :
    Calls Try.prog 53 #[.agg #[lessV c0, swapV sb], .int .i64 a, .int .i64 b, .int .i64 pivot] W (Now c0 blk n cap (Sort.partitionEqual hlt d a b pivot).2 (.int .i64 (Sort.partitionEqual hlt d a b pivot).1) W) := by
  have hn := E.hn
  have h0 := At.start (sb := sb) hS
  obtain ⟨w1, hs0, hS1, hg1⟩ := h0.st.swap E a pivot (by omega) (by omega)
  have hA1 := Lib.hid (h0.step hS1 hg1)
  have HS0 := Lib.hid hs0
  have HE := Lib.hid E
  clear hS E h0 hs0 hS1 hg1
  go_enter Try.func53, Try.ntmps53
  go_wp2_with fail
  rw [HS0.out, Oper.upon_value]
  go_wp2_with fail
  go_loopw [9, 10] (fun vi vj wr => ∃ (i j : Nat) (dk : Array Hit), vi = .int .i64 i ∧ vj = .int .i64 j ∧ a < i ∧ i ≤ j + 1 ∧ j < b ∧ At c0 blk n cap sb W.heap.size W dk wr ∧ Hid (Sort.partEqLoop hlt a i j dk = Sort.partEqLoop hlt a (a + 1) (b - 1) (Sort.swp d a pivot))) (fun vi vj _ => (intOf vj).toNat + 1 - (intOf vi).toNat)
  case atStart => exact ⟨a + 1, b - 1, _, by go_num, by go_num, by omega, by omega, by omega, hA1.out, Lib.hid rfl⟩
  case round =>
    obtain ⟨i, j, dk, rfl, rfl, hai, hij, hjb, hA, HO⟩ := hrel
    clear hA1 HS0
    go_wp2_with fail
    go_loopw [9] (fun vi w1 => ∃ (i' : Nat), vi = .int .i64 i' ∧ i ≤ i' ∧ i' ≤ j + 1 ∧ At c0 blk n cap sb W.heap.size W dk w1 ∧ Hid (Sort.scanUp (fun x => !hlt dk[a]! x) dk j i' = Sort.scanUp (fun x => !hlt dk[a]! x) dk j i)) (fun vi _ => j + 1 - (intOf vi).toNat)
    case atStart => exact ⟨i, rfl, Nat.le_refl _, hij, hA, Lib.hid rfl⟩
    case round =>
      obtain ⟨i', rfl, hii, hij', hA2, hsc⟩ := hrel
      clear hA
      have k0 := hA2.cell0
      have HA2 := Lib.hid hA2
      by_cases hle : i' ≤ j
      · have hlez : (i' : Int) ≤ (j : Int) := by omega
        have hc := clo_any hA2.st a i' (by omega) (by omega) (by omega)
        have HC := Lib.hid hc
        clear hA2 hc
        cases hv : hlt dk[a]! dk[i']! with
        | false =>
          rw [hv] at HC
          have HV := Lib.hid hv
          clear hv
          go_wp2_with fail
          refine HC.out.mono ?_
          rintro e w4 ⟨rfl, hb4⟩
          have HA4 := Lib.hid (HA2.out.below hb4)
          clear hb4
          go_wp2_with fail
          go_roundw
          case rel => exact ⟨i' + 1, by go_num, by omega, by omega, HA4.out, Lib.hid ((scanUp_go (fun x => !hlt dk[a]! x) dk j i' hle (by simp [HV.out])).symm.trans hsc.out)⟩
          case measure => simp [intOf]; omega
        | true =>
          rw [hv] at HC
          have hi2 : Hid (i' = Sort.scanUp (fun x => !hlt dk[a]! x) dk j i) := (scanUp_end (fun x => !hlt dk[a]! x) dk j i' (Or.inr (by simp [hv]))).symm.trans hsc.out
          clear hv hsc
          go_wp2_with fail
          refine HC.out.mono ?_
          rintro e w4 ⟨rfl, hb4⟩
          have HAX := Lib.hid (HA2.out.below hb4)
          clear hb4 k0
          go_wp2_with fail
          go_loopw [10] (fun vj w2 => ∃ (j' : Nat), vj = .int .i64 j' ∧ j' ≤ j ∧ i' ≤ j' + 1 ∧ At c0 blk n cap sb W.heap.size W dk w2 ∧ Hid (Sort.scanDown (fun x => hlt dk[a]! x) dk i' j' = Sort.scanDown (fun x => hlt dk[a]! x) dk i' j)) (fun vj _ => (intOf vj).toNat)
          case atStart => exact ⟨j, rfl, Nat.le_refl _, by omega, HAX.out, Lib.hid rfl⟩
          case round =>
            obtain ⟨j', rfl, hjj, hij2, hA3, hsd⟩ := hrel
            have k0 := hA3.cell0
            have HA3 := Lib.hid hA3
            by_cases hle2 : i' ≤ j'
            · have hle2z : (i' : Int) ≤ (j' : Int) := by omega
              have hc := clo_any hA3.st a j' (by omega) (by omega) (by omega)
              have HC := Lib.hid hc
              clear hA3 hc
              cases hv2 : hlt dk[a]! dk[j']! with
              | true =>
                rw [hv2] at HC
                have HV2 := Lib.hid hv2
                clear hv2
                go_wp2_with fail
                refine HC.out.mono ?_
                rintro e w4 ⟨rfl, hb4⟩
                have HA4 := Lib.hid (HA3.out.below hb4)
                clear hb4
                go_wp2_with fail
                go_roundw
                case rel => exact ⟨j' - 1, by go_num, by omega, by omega, HA4.out, Lib.hid ((scanDown_go (fun x => hlt dk[a]! x) dk i' j' hle2 (by omega) HV2.out).symm.trans hsd.out)⟩
                case measure => simp [intOf]; omega
              | false =>
                rw [hv2] at HC
                have hj2 : Hid (j' = Sort.scanDown (fun x => hlt dk[a]! x) dk i' j) := (scanDown_end (fun x => hlt dk[a]! x) dk i' j' (Or.inr hv2)).symm.trans hsd.out
                have hlt3 := scans_lt hlt a i j dk (by omega) hi2.out hj2.out hle2
                have hgt : ¬ (j' : Int) < (i' : Int) := by omega
                clear hv2 hsd
                go_wp2_with fail
                refine HC.out.mono ?_
                rintro e w4 ⟨rfl, hb4⟩
                have hA4 := HA3.out.below hb4
                obtain ⟨w5, hs, hS5, hg5⟩ := hA4.st.swap HE.out i' j' (by omega) (by omega)
                have k1 := hA4.cell1
                have HA5 := Lib.hid (hA4.step hS5 hg5)
                have HS := Lib.hid hs
                clear k0 hA4 hS5 hg5 hs hb4
                go_wp2_with fail
                rw [HS.out, Oper.upon_value]
                go_wp2_with fail
                go_roundw
                case rel => exact ⟨i' + 1, j' - 1, _, by go_num, by go_num, by omega, by omega, by omega, HA5.out, Lib.hid ((partEq_go hlt a i j dk hi2.out hj2.out (by omega)).symm.trans HO.out)⟩
                case measure => simp [intOf]; omega
            · have hj2 : Hid (j' = Sort.scanDown (fun x => hlt dk[a]! x) dk i' j) := (scanDown_end (fun x => hlt dk[a]! x) dk i' j' (Or.inl hle2)).symm.trans hsd.out
              have hle2z : ¬ (i' : Int) ≤ (j' : Int) := by omega
              have hgt : (j' : Int) < (i' : Int) := by omega
              clear hA3 hsd
              have e := partEq_break hlt a i j dk hi2.out hj2.out (by omega)
              have hF := HA3.out.now (d' := (Sort.partitionEqual hlt d a b pivot).2) (by unfold Sort.partitionEqual; rw [← HO.out, e])
              have hV : (Sort.partitionEqual hlt d a b pivot).1 = i' := by unfold Sort.partitionEqual; rw [← HO.out, e]
              have HF := Lib.hid hF
              have HV := Lib.hid hV
              clear hF hV e
              go_wp2_with fail
              go_ret
              exact ⟨ret_int2 (by rw [HV.out]), HF.out⟩
      · have hlez : ¬ (i' : Int) ≤ (j : Int) := by omega
        have hi2 : Hid (i' = Sort.scanUp (fun x => !hlt dk[a]! x) dk j i) := (scanUp_end (fun x => !hlt dk[a]! x) dk j i' (Or.inl hle)).symm.trans hsc.out
        have HAX := HA2
        clear hsc hA2 k0
        go_wp2_with fail
        go_loopw [10] (fun vj w2 => ∃ (j' : Nat), vj = .int .i64 j' ∧ j' ≤ j ∧ i' ≤ j' + 1 ∧ At c0 blk n cap sb W.heap.size W dk w2 ∧ Hid (Sort.scanDown (fun x => hlt dk[a]! x) dk i' j' = Sort.scanDown (fun x => hlt dk[a]! x) dk i' j)) (fun vj _ => (intOf vj).toNat)
        case atStart => exact ⟨j, rfl, Nat.le_refl _, by omega, HAX.out, Lib.hid rfl⟩
        case round =>
          obtain ⟨j', rfl, hjj, hij2, hA3, hsd⟩ := hrel
          have k0 := hA3.cell0
          have HA3 := Lib.hid hA3
          by_cases hle2 : i' ≤ j'
          · exfalso; omega
          · have hj2 : Hid (j' = Sort.scanDown (fun x => hlt dk[a]! x) dk i' j) := (scanDown_end (fun x => hlt dk[a]! x) dk i' j' (Or.inl hle2)).symm.trans hsd.out
            have hle2z : ¬ (i' : Int) ≤ (j' : Int) := by omega
            have hgt : (j' : Int) < (i' : Int) := by omega
            clear hA3 hsd
            have e := partEq_break hlt a i j dk hi2.out hj2.out (by omega)
            have hF := HA3.out.now (d' := (Sort.partitionEqual hlt d a b pivot).2) (by unfold Sort.partitionEqual; rw [← HO.out, e])
            have hV : (Sort.partitionEqual hlt d a b pivot).1 = i' := by unfold Sort.partitionEqual; rw [← HO.out, e]
            have HF := Lib.hid hF
            have HV := Lib.hid hV
            clear hF hV e
            go_wp2_with fail
            go_ret
            exact ⟨ret_int2 (by rw [HV.out]), HF.out⟩
end Go.Proofs.Ytahgamjfglcenaa
