/- insertionSort_func of package sort: a row of what was found is sorted between two places. Conditions: the row as SortA says. -/
import Derived.Test.YtahgamjfglcenaaSortA
set_option linter.unusedVariables false
set_option linter.unusedSimpArgs false
namespace Go.Proofs.Ytahgamjfglcenaa
open Go Go.RowKit
theorem ret_int2 {a b : Int} (h : a = b) : (Ending.returned (.int .i64 a)) = .returned (.int .i64 b) := by rw [h]
/-- The row holds d' now; nothing else that was there has changed. -/
def Now (c0 blk n cap : Nat) (d' : Array Hit) (v : Value) (W : World) (e : Ending) (w' : World) : Prop := e = .returned v ∧ St c0 blk n cap d' w' ∧ W.grownBy w' (some blk)
theorem At.now {c0 blk n cap b : Nat} {sb : Array Value} {W0 W : World} {d d' : Array Hit} (h : At c0 blk n cap sb b W0 d W) (he : d = d') : St c0 blk n cap d' W ∧ W0.grownBy W (some blk) := by
  subst he
  exact ⟨h.st, h.since⟩
set_option maxHeartbeats 4000000 in
set_option maxRecDepth 100000 in
theorem insertion_any {c0 blk n cap : Nat} {sb : Array Value} (E : Env blk n sb) (a b : Nat) (d : Array Hit) (W : World) (hS : St c0 blk n cap d W) (hab : a ≤ b) (hb : b ≤ n) :
    Calls Try.prog 47 #[.agg #[lessV c0, swapV sb], .int .i64 a, .int .i64 b] W (Now c0 blk n cap (Sort.insertionSort hlt d a b) (.tuple #[]) W) := by
  have hn := E.hn
  have h0 := At.start (sb := sb) hS
  have HE := Lib.hid E
  clear hS E
  go_enter Try.func47, Try.ntmps47
  go_wp2_with fail
  go_loopw [6] (fun vi wr => ∃ (i : Nat) (dk : Array Hit), vi = .int .i64 i ∧ a < i ∧ i ≤ b + 1 ∧ At c0 blk n cap sb W.heap.size W dk wr ∧ Hid (Sort.insOuter hlt a b i dk = Sort.insOuter hlt a b (a + 1) d)) (fun vi _ => b + 1 - (intOf vi).toNat)
  case atStart => exact ⟨a + 1, d, by go_num, by omega, by omega, h0, Lib.hid rfl⟩
  case round =>
    obtain ⟨i, dk, rfl, hai, hib, hA, HO⟩ := hrel
    clear h0
    by_cases hi : i < b
    · have hiz : (i : Int) < (b : Int) := by omega
      go_wp2_with fail
      go_loopw [7] (fun vj w2 => ∃ (j : Nat) (dj : Array Hit), vj = .int .i64 j ∧ a ≤ j ∧ j ≤ i ∧ At c0 blk n cap sb W.heap.size W dj w2 ∧ Hid (Sort.insInner hlt a j dj = Sort.insInner hlt a i dk)) (fun vj _ => (intOf vj).toNat)
      case atStart => exact ⟨i, dk, rfl, by omega, Nat.le_refl _, hA, Lib.hid rfl⟩
      case round =>
        obtain ⟨j, dj, rfl, haj, hji, hA2, HI⟩ := hrel
        clear hA
        have k0 := hA2.cell0
        have HA := Lib.hid hA2
        by_cases hja : a < j
        · have hjz : (a : Int) < (j : Int) := by omega
          have hc := clo_any hA2.st j (j - 1) (by omega) (by omega) (by omega)
          rw [show ((j - 1 : Nat) : Int) = (j : Int) - 1 by omega] at hc
          have HC := Lib.hid hc
          clear hA2 hc
          cases hv : hlt dj[j]! dj[j - 1]! with
          | true =>
            rw [hv] at HC
            have HV := Lib.hid hv
            clear hv
            go_wp2_with fail
            refine HC.out.mono ?_
            rintro e w3 ⟨rfl, hb3⟩
            have hA3 := HA.out.below hb3
            obtain ⟨w4, hs, hS4, hg4⟩ := hA3.st.swap HE.out j (j - 1) (by omega) (by omega)
            rw [show ((j - 1 : Nat) : Int) = (j : Int) - 1 by omega] at hs
            have hA4 := hA3.step hS4 hg4
            have k1 := hA3.cell1
            have HA4 := Lib.hid hA4
            have HS := Lib.hid hs
            clear k0 hA4 hS4 hg4 hs hA3 hb3
            go_wp2_with fail
            rw [HS.out, Oper.upon_value]
            go_wp2_with fail
            go_roundw
            case rel => exact ⟨j - 1, Sort.swp dj j (j - 1), by congr 1 <;> omega, by omega, by omega, HA4.out, Lib.hid (by rw [← insInner_go hlt a j dj hja HV.out]; exact HI.out)⟩
            case measure => simp [intOf]; omega
          | false =>
            rw [hv] at HC
            have HV := Lib.hid hv
            clear hv
            go_wp2_with fail
            refine HC.out.mono ?_
            rintro e w3 ⟨rfl, hb3⟩
            have hA3 := HA.out.below hb3
            go_wp2_with fail
            go_roundw
            case rel => exact ⟨i + 1, dj, by go_num, by omega, by omega, hA3, Lib.hid (by rw [← HO.out, insOuter_go hlt a b i dk hi, ← HI.out, insInner_stop hlt a j dj (.inr HV.out)])⟩
            case measure => simp [intOf]; omega
        · have hjz : ¬ (a : Int) < (j : Int) := by omega
          go_wp2_with fail
          go_roundw
          case rel => exact ⟨i + 1, dj, by go_num, by omega, by omega, HA.out, Lib.hid (by rw [← HO.out, insOuter_go hlt a b i dk hi, ← HI.out, insInner_stop hlt a j dj (.inl (by omega))])⟩
          case measure => simp [intOf]; omega
    · have hiz : ¬ (i : Int) < (b : Int) := by omega
      have hF := hA.now (d' := Sort.insertionSort hlt d a b) (by unfold Sort.insertionSort; rw [← HO.out, insOuter_stop hlt a b i dk hi])
      clear hA
      go_wp2_with fail
      go_end0
      exact ⟨rfl, hF⟩
end Go.Proofs.Ytahgamjfglcenaa
