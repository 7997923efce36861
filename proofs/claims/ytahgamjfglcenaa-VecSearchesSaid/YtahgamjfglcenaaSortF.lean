/- partition_func of package sort. Conditions: the row as SortA says. -/
import Derived.Test.YtahgamjfglcenaaSortB
set_option linter.unusedVariables false
set_option linter.unusedSimpArgs false
namespace Go.Proofs.Ytahgamjfglcenaa
open Go Go.RowKit
set_option maxHeartbeats 32000000 in
set_option maxRecDepth 100000 in
theorem part_any {c0 blk n cap : Nat} {sb : Array Value} (E : Env blk n sb) (a b pivot : Nat) (d : Array Hit) (W : World) (hS : St c0 blk n cap d W) (hap : a ≤ pivot) (hpb : pivot < b) (hb : b ≤ n) :
    Calls Try.prog 54 #[.agg #[lessV c0, swapV sb], .int .i64 a, .int .i64 b, .int .i64 pivot] W (Now c0 blk n cap (Sort.partition hlt d a b pivot).2.2 (.tuple #[.int .i64 (Sort.partition hlt d a b pivot).1, .bool (Sort.partition hlt d a b pivot).2.1]) W) := by
  have hn := E.hn
  have h0 := At.start (sb := sb) hS
  obtain ⟨w1, hs0, hS1, hg1⟩ := h0.st.swap E a pivot (by omega) (by omega)
  have HA := Lib.hid (h0.step hS1 hg1)
  have HS0 := Lib.hid hs0
  have HE := Lib.hid E
  obtain ⟨i, hi⟩ : ∃ i : Nat, i = a + 1 := ⟨_, rfl⟩
  obtain ⟨j, hj⟩ : ∃ j : Nat, j = b - 1 := ⟨_, rfl⟩
  obtain ⟨dk, hdk⟩ : ∃ dk : Array Hit, dk = Sort.swp d a pivot := ⟨_, rfl⟩
  rw [← hdk] at HA
  have hai : a < i := by omega
  have hij : i ≤ j + 1 := by omega
  have hjb : j < b := by omega
  have Hi := Lib.hid hi
  have Hj := Lib.hid hj
  have Hdk := Lib.hid hdk
  have hiz : (a : Int) + 1 = (i : Int) := by omega
  have hjz : (b : Int) - 1 = (j : Int) := by omega
  clear hS E h0 hs0 hS1 hg1 hi hj hdk
  go_enter Try.func54, Try.ntmps54
  go_wp2_with fail
  rw [HS0.out, Oper.upon_value]
  go_wp2_with fail
  clear HS0 hiz hjz
  go_loopw [10] (fun vi w1 => ∃ (i' : Nat), vi = .int .i64 i' ∧ i ≤ i' ∧ i' ≤ j + 1 ∧ At c0 blk n cap sb W.heap.size W dk w1 ∧ Hid (Sort.scanUp (fun x => hlt x dk[a]!) dk j i' = Sort.scanUp (fun x => hlt x dk[a]!) dk j i)) (fun vi _ => j + 1 - (intOf vi).toNat)
  case atStart => exact ⟨i, rfl, Nat.le_refl _, hij, HA.out, Lib.hid rfl⟩
  case round =>
    obtain ⟨i', rfl, hii, hij', hA2, hsc⟩ := hrel
    clear HA
    have k0 := hA2.cell0
    have HA2 := Lib.hid hA2
    by_cases hle : i' ≤ j
    · have hlez : (i' : Int) ≤ (j : Int) := by omega
      have hc := clo_any hA2.st i' a (by omega) (by omega) (by omega)
      have HC := Lib.hid hc
      clear hA2 hc
      cases hv : hlt dk[i']! dk[a]! with
      | true =>
        rw [hv] at HC
        have HV := Lib.hid hv
        clear hv
        go_wp2_with fail
        refine HC.out.mono ?_
        rintro e w4 ⟨rfl, hb4⟩
        have HA4 := Lib.hid (HA2.out.below hb4)
        clear hb4
        go_wp2_with fail
        go_roundw
        case rel => exact ⟨i' + 1, by go_num, by omega, by omega, HA4.out, Lib.hid ((scanUp_go (fun x => hlt x dk[a]!) dk j i' hle HV.out).symm.trans hsc.out)⟩
        case measure => simp [intOf]; omega
      | false =>
        rw [hv] at HC
        have hi2 : Hid (i' = Sort.scanUp (fun x => hlt x dk[a]!) dk j i) := (scanUp_end (fun x => hlt x dk[a]!) dk j i' (Or.inr hv)).symm.trans hsc.out
        clear hv hsc
        go_wp2_with fail
        refine HC.out.mono ?_
        rintro e w4 ⟨rfl, hb4⟩
        have HAX := Lib.hid (HA2.out.below hb4)
        clear hb4 k0
        go_wp2_with fail
        go_loopw [11] (fun vj w2 => ∃ (j' : Nat), vj = .int .i64 j' ∧ j' ≤ j ∧ i' ≤ j' + 1 ∧ At c0 blk n cap sb W.heap.size W dk w2 ∧ Hid (Sort.scanDown (fun x => !hlt x dk[a]!) dk i' j' = Sort.scanDown (fun x => !hlt x dk[a]!) dk i' j)) (fun vj _ => (intOf vj).toNat)
        case atStart => exact ⟨j, rfl, Nat.le_refl _, by omega, HAX.out, Lib.hid rfl⟩
        case round =>
          obtain ⟨j', rfl, hjj, hij2, hA3, hsd⟩ := hrel
          have k0 := hA3.cell0
          have k1 := hA3.cell1
          have HA3 := Lib.hid hA3
          by_cases hle2 : i' ≤ j'
          · have hle2z : (i' : Int) ≤ (j' : Int) := by omega
            have hc := clo_any hA3.st j' a (by omega) (by omega) (by omega)
            have HC := Lib.hid hc
            clear hA3 hc
            cases hv2 : hlt dk[j']! dk[a]! with
            | false =>
              rw [hv2] at HC
              have HV2 := Lib.hid hv2
              clear hv2
              go_wp2_with fail
              refine HC.out.mono ?_
              rintro e w4 ⟨rfl, hb4⟩
              have HA4 := Lib.hid (HA3.out.below hb4)
              clear hb4
              go_wp2_with fail
              go_roundw
              case rel => exact ⟨j' - 1, by go_num, by omega, by omega, HA4.out, Lib.hid ((scanDown_go (fun x => !hlt x dk[a]!) dk i' j' hle2 (by omega) (by simp [HV2.out])).symm.trans hsd.out)⟩
              case measure => simp [intOf]; omega
            | true =>
              rw [hv2] at HC
              have hj2 : Hid (j' = Sort.scanDown (fun x => !hlt x dk[a]!) dk i' j) := (scanDown_end (fun x => !hlt x dk[a]!) dk i' j' (Or.inr (by simp [hv2]))).symm.trans hsd.out
              have hlt3 := part_scans_lt hlt a i j dk (by omega) hi2.out hj2.out hle2
              have hgt : ¬ (j' : Int) < (i' : Int) := by omega
              clear hv2 hsd
              go_wp2_with fail
              refine HC.out.mono ?_
              rintro e w4 ⟨rfl, hb4⟩
              have hA4 := HA3.out.below hb4
              obtain ⟨w5, hs, hS5, hg5⟩ := hA4.st.swap HE.out i' j' (by omega) (by omega)
              have k1' := hA4.cell1
              have HA5 := Lib.hid (hA4.step hS5 hg5)
              have HS := Lib.hid hs
              clear k0 k1 hA4 hS5 hg5 hs hb4
              go_wp2_with fail
              rw [HS.out, Oper.upon_value]
              go_wp2_with fail
              obtain ⟨I0, hI0⟩ : ∃ I0 : Nat, I0 = i' + 1 := ⟨_, rfl⟩
              obtain ⟨J0, hJ0⟩ : ∃ J0 : Nat, J0 = j' - 1 := ⟨_, rfl⟩
              obtain ⟨D0, hD0⟩ : ∃ D0 : Array Hit, D0 = Sort.swp dk i' j' := ⟨_, rfl⟩
              have PF : Hid (Sort.partition hlt d a b pivot = ((Sort.partLoop hlt a I0 J0 D0).1, false, Sort.swp (Sort.partLoop hlt a I0 J0 D0).2 (Sort.partLoop hlt a I0 J0 D0).1 a)) := Lib.hid (by
                rw [hI0, hJ0, hD0]; exact part_first_go hlt d a b pivot Hi.out Hj.out Hdk.out hi2.out hj2.out (by omega))
              rw [← hD0] at HA5
              go_loopw [10, 11] (fun vi vj wr => ∃ (i j : Nat) (dk : Array Hit), vi = .int .i64 i ∧ vj = .int .i64 j ∧ a < i ∧ i ≤ j + 1 ∧ j < b ∧ At c0 blk n cap sb W.heap.size W dk wr ∧ Hid (Sort.partLoop hlt a i j dk = Sort.partLoop hlt a I0 J0 D0)) (fun vi vj _ => (intOf vj).toNat + 1 - (intOf vi).toNat)
              case atStart => exact ⟨I0, J0, D0, by rw [hI0]; go_num, by rw [hJ0]; go_num, by omega, by omega, by omega, HA5.out, Lib.hid rfl⟩
              case round =>
                clear hI0 hJ0 hD0 HA5 HS HC HA3 HAX HA2 hj2 hi2 hlt3 hgt hle2z hle2 hlez hle Hi Hj Hdk
                obtain ⟨i, j, dk, rfl, rfl, hai, hij, hjb, hA, HO⟩ := hrel
                have HA := Lib.hid hA
                clear hA
                go_wp2_with fail
                go_loopw [10] (fun vi w1 => ∃ (i' : Nat), vi = .int .i64 i' ∧ i ≤ i' ∧ i' ≤ j + 1 ∧ At c0 blk n cap sb W.heap.size W dk w1 ∧ Hid (Sort.scanUp (fun x => hlt x dk[a]!) dk j i' = Sort.scanUp (fun x => hlt x dk[a]!) dk j i)) (fun vi _ => j + 1 - (intOf vi).toNat)
                case atStart => exact ⟨i, rfl, Nat.le_refl _, hij, HA.out, Lib.hid rfl⟩
                case round =>
                  obtain ⟨i', rfl, hii, hij', hA2, hsc⟩ := hrel
                  clear HA
                  have k0 := hA2.cell0
                  have HA2 := Lib.hid hA2
                  by_cases hle : i' ≤ j
                  · have hlez : (i' : Int) ≤ (j : Int) := by omega
                    have hc := clo_any hA2.st i' a (by omega) (by omega) (by omega)
                    have HC := Lib.hid hc
                    clear hA2 hc
                    cases hv : hlt dk[i']! dk[a]! with
                    | true =>
                      rw [hv] at HC
                      have HV := Lib.hid hv
                      clear hv
                      go_wp2_with fail
                      refine HC.out.mono ?_
                      rintro e w4 ⟨rfl, hb4⟩
                      have HA4 := Lib.hid (HA2.out.below hb4)
                      clear hb4
                      go_wp2_with fail
                      go_roundw
                      case rel => exact ⟨i' + 1, by go_num, by omega, by omega, HA4.out, Lib.hid ((scanUp_go (fun x => hlt x dk[a]!) dk j i' hle HV.out).symm.trans hsc.out)⟩
                      case measure => simp [intOf]; omega
                    | false =>
                      rw [hv] at HC
                      have hi2 : Hid (i' = Sort.scanUp (fun x => hlt x dk[a]!) dk j i) := (scanUp_end (fun x => hlt x dk[a]!) dk j i' (Or.inr hv)).symm.trans hsc.out
                      clear hv hsc
                      go_wp2_with fail
                      refine HC.out.mono ?_
                      rintro e w4 ⟨rfl, hb4⟩
                      have HAX := Lib.hid (HA2.out.below hb4)
                      clear hb4 k0
                      go_wp2_with fail
                      go_loopw [11] (fun vj w2 => ∃ (j' : Nat), vj = .int .i64 j' ∧ j' ≤ j ∧ i' ≤ j' + 1 ∧ At c0 blk n cap sb W.heap.size W dk w2 ∧ Hid (Sort.scanDown (fun x => !hlt x dk[a]!) dk i' j' = Sort.scanDown (fun x => !hlt x dk[a]!) dk i' j)) (fun vj _ => (intOf vj).toNat)
                      case atStart => exact ⟨j, rfl, Nat.le_refl _, by omega, HAX.out, Lib.hid rfl⟩
                      case round =>
                        obtain ⟨j', rfl, hjj, hij2, hA3, hsd⟩ := hrel
                        have k0 := hA3.cell0
                        have k1 := hA3.cell1
                        have HA3 := Lib.hid hA3
                        by_cases hle2 : i' ≤ j'
                        · have hle2z : (i' : Int) ≤ (j' : Int) := by omega
                          have hc := clo_any hA3.st j' a (by omega) (by omega) (by omega)
                          have HC := Lib.hid hc
                          clear hA3 hc
                          cases hv2 : hlt dk[j']! dk[a]! with
                          | false =>
                            rw [hv2] at HC
                            have HV2 := Lib.hid hv2
                            clear hv2
                            go_wp2_with fail
                            refine HC.out.mono ?_
                            rintro e w4 ⟨rfl, hb4⟩
                            have HA4 := Lib.hid (HA3.out.below hb4)
                            clear hb4
                            go_wp2_with fail
                            go_roundw
                            case rel => exact ⟨j' - 1, by go_num, by omega, by omega, HA4.out, Lib.hid ((scanDown_go (fun x => !hlt x dk[a]!) dk i' j' hle2 (by omega) (by simp [HV2.out])).symm.trans hsd.out)⟩
                            case measure => simp [intOf]; omega
                          | true =>
                            rw [hv2] at HC
                            have hj2 : Hid (j' = Sort.scanDown (fun x => !hlt x dk[a]!) dk i' j) := (scanDown_end (fun x => !hlt x dk[a]!) dk i' j' (Or.inr (by simp [hv2]))).symm.trans hsd.out
                            have hlt3 := part_scans_lt hlt a i j dk (by omega) hi2.out hj2.out hle2
                            have hgt : ¬ (j' : Int) < (i' : Int) := by omega
                            clear hv2 hsd
                            go_wp2_with fail
                            refine HC.out.mono ?_
                            rintro e w4 ⟨rfl, hb4⟩
                            have hA4 := HA3.out.below hb4
                            obtain ⟨w5, hs, hS5, hg5⟩ := hA4.st.swap HE.out i' j' (by omega) (by omega)
                            have k1' := hA4.cell1
                            have HA5 := Lib.hid (hA4.step hS5 hg5)
                            have HS := Lib.hid hs
                            clear k0 k1 hA4 hS5 hg5 hs hb4
                            go_wp2_with fail
                            rw [HS.out, Oper.upon_value]
                            go_wp2_with fail
                            go_roundw
                            case rel => exact ⟨i' + 1, j' - 1, _, by go_num, by go_num, by omega, by omega, by omega, HA5.out, Lib.hid ((part_go hlt a i j dk hi2.out hj2.out (by omega)).symm.trans HO.out)⟩
                            case measure => simp [intOf]; omega
                        · have hj2 : Hid (j' = Sort.scanDown (fun x => !hlt x dk[a]!) dk i' j) := (scanDown_end (fun x => !hlt x dk[a]!) dk i' j' (Or.inl hle2)).symm.trans hsd.out
                          have hle2z : ¬ (i' : Int) ≤ (j' : Int) := by omega
                          have hgt : (j' : Int) < (i' : Int) := by omega
                          clear hA3 hsd
                          have E : Hid (Sort.partition hlt d a b pivot = (j', false, Sort.swp dk j' a)) := Lib.hid (by rw [PF.out, ← HO.out, part_break hlt a i j dk hi2.out hj2.out (by omega)])
                          obtain ⟨w6, hs6, hS6, hg6⟩ := HA3.out.st.swap HE.out j' a (by omega) (by omega)
                          have HS6 := Lib.hid hs6
                          have HA6 := Lib.hid (HA3.out.step hS6 hg6)
                          clear hs6 hS6 hg6
                          go_wp2_with fail
                          rw [HS6.out, Oper.upon_value]
                          go_wp2_with fail
                          go_ret2
                          rw [E.out]
                          exact ⟨rfl, HA6.out.st, HA6.out.since⟩
                  · have hlez : ¬ (i' : Int) ≤ (j : Int) := by omega
                    have hi2 : Hid (i' = Sort.scanUp (fun x => hlt x dk[a]!) dk j i) := (scanUp_end (fun x => hlt x dk[a]!) dk j i' (Or.inl hle)).symm.trans hsc.out
                    have HAX := HA2
                    clear hsc hA2 k0
                    go_wp2_with fail
                    go_loopw [11] (fun vj w2 => ∃ (j' : Nat), vj = .int .i64 j' ∧ j' ≤ j ∧ i' ≤ j' + 1 ∧ At c0 blk n cap sb W.heap.size W dk w2 ∧ Hid (Sort.scanDown (fun x => !hlt x dk[a]!) dk i' j' = Sort.scanDown (fun x => !hlt x dk[a]!) dk i' j)) (fun vj _ => (intOf vj).toNat)
                    case atStart => exact ⟨j, rfl, Nat.le_refl _, by omega, HAX.out, Lib.hid rfl⟩
                    case round =>
                      obtain ⟨j', rfl, hjj, hij2, hA3, hsd⟩ := hrel
                      have k0 := hA3.cell0
                      have k1 := hA3.cell1
                      have HA3 := Lib.hid hA3
                      by_cases hle2 : i' ≤ j'
                      · exfalso; omega
                      · have hj2 : Hid (j' = Sort.scanDown (fun x => !hlt x dk[a]!) dk i' j) := (scanDown_end (fun x => !hlt x dk[a]!) dk i' j' (Or.inl hle2)).symm.trans hsd.out
                        have hle2z : ¬ (i' : Int) ≤ (j' : Int) := by omega
                        have hgt : (j' : Int) < (i' : Int) := by omega
                        clear hA3 hsd
                        have E : Hid (Sort.partition hlt d a b pivot = (j', false, Sort.swp dk j' a)) := Lib.hid (by rw [PF.out, ← HO.out, part_break hlt a i j dk hi2.out hj2.out (by omega)])
                        obtain ⟨w6, hs6, hS6, hg6⟩ := HA3.out.st.swap HE.out j' a (by omega) (by omega)
                        have HS6 := Lib.hid hs6
                        have HA6 := Lib.hid (HA3.out.step hS6 hg6)
                        clear hs6 hS6 hg6
                        go_wp2_with fail
                        rw [HS6.out, Oper.upon_value]
                        go_wp2_with fail
                        go_ret2
                        rw [E.out]
                        exact ⟨rfl, HA6.out.st, HA6.out.since⟩
          · have hj2 : Hid (j' = Sort.scanDown (fun x => !hlt x dk[a]!) dk i' j) := (scanDown_end (fun x => !hlt x dk[a]!) dk i' j' (Or.inl hle2)).symm.trans hsd.out
            have hle2z : ¬ (i' : Int) ≤ (j' : Int) := by omega
            have hgt : (j' : Int) < (i' : Int) := by omega
            clear hA3 hsd
            have E : Hid (Sort.partition hlt d a b pivot = (j', true, Sort.swp dk j' a)) := Lib.hid (part_first_break hlt d a b pivot Hi.out Hj.out Hdk.out hi2.out hj2.out (by omega))
            obtain ⟨w6, hs6, hS6, hg6⟩ := HA3.out.st.swap HE.out j' a (by omega) (by omega)
            have HS6 := Lib.hid hs6
            have HA6 := Lib.hid (HA3.out.step hS6 hg6)
            clear hs6 hS6 hg6
            go_wp2_with fail
            rw [HS6.out, Oper.upon_value]
            go_wp2_with fail
            go_ret2
            rw [E.out]
            exact ⟨rfl, HA6.out.st, HA6.out.since⟩
    · have hlez : ¬ (i' : Int) ≤ (j : Int) := by omega
      have hi2 : Hid (i' = Sort.scanUp (fun x => hlt x dk[a]!) dk j i) := (scanUp_end (fun x => hlt x dk[a]!) dk j i' (Or.inl hle)).symm.trans hsc.out
      have HAX := HA2
      clear hsc hA2 k0
      go_wp2_with fail
      go_loopw [11] (fun vj w2 => ∃ (j' : Nat), vj = .int .i64 j' ∧ j' ≤ j ∧ i' ≤ j' + 1 ∧ At c0 blk n cap sb W.heap.size W dk w2 ∧ Hid (Sort.scanDown (fun x => !hlt x dk[a]!) dk i' j' = Sort.scanDown (fun x => !hlt x dk[a]!) dk i' j)) (fun vj _ => (intOf vj).toNat)
      case atStart => exact ⟨j, rfl, Nat.le_refl _, by omega, HAX.out, Lib.hid rfl⟩
      case round =>
        obtain ⟨j', rfl, hjj, hij2, hA3, hsd⟩ := hrel
        have k0 := hA3.cell0
        have k1 := hA3.cell1
        have HA3 := Lib.hid hA3
        by_cases hle2 : i' ≤ j'
        · exfalso; omega
        · have hj2 : Hid (j' = Sort.scanDown (fun x => !hlt x dk[a]!) dk i' j) := (scanDown_end (fun x => !hlt x dk[a]!) dk i' j' (Or.inl hle2)).symm.trans hsd.out
          have hle2z : ¬ (i' : Int) ≤ (j' : Int) := by omega
          have hgt : (j' : Int) < (i' : Int) := by omega
          clear hA3 hsd
          have E : Hid (Sort.partition hlt d a b pivot = (j', true, Sort.swp dk j' a)) := Lib.hid (part_first_break hlt d a b pivot Hi.out Hj.out Hdk.out hi2.out hj2.out (by omega))
          obtain ⟨w6, hs6, hS6, hg6⟩ := HA3.out.st.swap HE.out j' a (by omega) (by omega)
          have HS6 := Lib.hid hs6
          have HA6 := Lib.hid (HA3.out.step hS6 hg6)
          clear hs6 hS6 hg6
          go_wp2_with fail
          rw [HS6.out, Oper.upon_value]
          go_wp2_with fail
          go_ret2
          rw [E.out]
          exact ⟨rfl, HA6.out.st, HA6.out.since⟩
end Go.Proofs.Ytahgamjfglcenaa
