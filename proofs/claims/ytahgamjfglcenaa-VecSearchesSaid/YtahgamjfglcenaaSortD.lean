/- heapSort_func of package sort. Conditions: the row as SortA says. -/
import Derived.Test.YtahgamjfglcenaaSortC
set_option linter.unusedVariables false
set_option linter.unusedSimpArgs false
namespace Go.Proofs.Ytahgamjfglcenaa
open Go Go.RowKit
theorem half (m : Nat) : ((m : Int) - 1).tdiv 2 = (((m - 1) / 2 + 1 : Nat) : Int) - 1 := by
  rcases m with _ | m
  · rfl
  · rw [show ((m + 1 : Nat) : Int) - 1 = (m : Int) by omega, Int.tdiv_eq_ediv_of_nonneg (by omega)]
    simp
set_option maxHeartbeats 8000000 in
set_option maxRecDepth 100000 in
theorem heap_any {c0 blk n cap : Nat} {sb : Array Value} (E : Env blk n sb) (a m : Nat) (d : Array Hit) (W : World) (hS : St c0 blk n cap d W) (hb : a + m ≤ n) :
    Calls Try.prog 48 #[.agg #[lessV c0, swapV sb], .int .i64 a, .int .i64 ((a + m : Nat) : Int)] W (Now c0 blk n cap (Sort.heapSort hlt d a (a + m)) (.tuple #[]) W) := by
  have hn := E.hn
  have h0 := At.start (sb := sb) hS
  have HE := Lib.hid E
  have hD : Sort.heapSort hlt d a (a + m) = Sort.heapPop hlt a m (Sort.heapBuild hlt m a ((m - 1) / 2 + 1) d) := by unfold Sort.heapSort; rw [Nat.add_sub_cancel_left]
  have HD := Lib.hid hD
  clear hS E hD
  have hmz : (a : Int) + (m : Int) - (a : Int) = (m : Int) := by omega
  rw [show ((a + m : Nat) : Int) = (a : Int) + (m : Int) by omega]
  go_enter Try.func48, Try.ntmps48
  go_wp2_with fail
  go_loopw [9] (fun vi wr => ∃ (k : Nat) (dk : Array Hit), vi = .int .i64 ((k : Int) - 1) ∧ k ≤ n + 1 ∧ At c0 blk n cap sb W.heap.size W dk wr ∧ Hid (Sort.heapBuild hlt m a k dk = Sort.heapBuild hlt m a ((m - 1) / 2 + 1) d)) (fun vi _ => (intOf vi + 1).toNat)
  case atStart => 
    exact ⟨(m - 1) / 2 + 1, d, by rw [half], by omega, h0, Lib.hid rfl⟩
  case round =>
    obtain ⟨k, dk, rfl, hk, hA, HO⟩ := hrel
    clear h0
    rcases k with _ | k
    · have hd : dk = Sort.heapBuild hlt m a ((m - 1) / 2 + 1) d := by rw [← HO.out]; rfl
      rw [← hd] at HD
      clear hd HO hk
      rw [show (((0 : Nat) : Int) - 1) = -1 from rfl]
      go_wp2_with fail
      go_loopw [10] (fun vi wr => ∃ (k : Nat) (dj : Array Hit), vi = .int .i64 ((k : Int) - 1) ∧ k ≤ m ∧ At c0 blk n cap sb W.heap.size W dj wr ∧ Hid (Sort.heapPop hlt a k dj = Sort.heapPop hlt a m dk)) (fun vi _ => (intOf vi + 1).toNat)
      case atStart => exact ⟨m, dk, rfl, Nat.le_refl _, hA, Lib.hid rfl⟩
      case round =>
        obtain ⟨k, dj, rfl, hk, hA2, HO⟩ := hrel
        clear hA
        rcases k with _ | k
        · have hF := hA2.now (d' := Sort.heapSort hlt d a (a + m)) (by rw [HD.out, ← HO.out]; rfl)
          clear hA2 HO hk
          rw [show (((0 : Nat) : Int) - 1) = -1 from rfl]
          go_wp2_with fail
          go_end0
          exact ⟨rfl, hF⟩
        · have k1 := hA2.cell1
          have hkz : ((k + 1 : Nat) : Int) - 1 = (k : Int) := by omega
          rw [hkz]
          obtain ⟨w4, hs, hS4, hg4⟩ := hA2.st.swap HE.out a (a + k) (by omega) (by omega)
          rw [show ((a + k : Nat) : Int) = (a : Int) + (k : Int) by omega] at hs
          have hA4 := hA2.step hS4 hg4
          have k0 := hA4.cell0
          have k1' := hA4.cell1
          have hsf := sift_any HE.out 0 k a _ w4 hA4.st (by omega) (by omega)
          rw [show ((0 : Nat) : Int) = 0 from rfl] at hsf
          have HSF := Lib.hid hsf
          have HA4 := Lib.hid hA4
          have HS := Lib.hid hs
          clear hA2 hsf hA4 hs hS4 hg4
          go_wp2_with fail
          rw [HS.out, Oper.upon_value]
          go_wp2_with fail
          refine HSF.out.mono ?_
          rintro e w3 ⟨rfl, hS3, hg3⟩
          have hA3 := HA4.out.step hS3 hg3
          go_wp2_with fail
          go_roundw
          case rel => exact ⟨k, _, rfl, by omega, hA3, Lib.hid (by rw [← HO.out]; rfl)⟩
          case measure => simp [intOf]
    · have k0 := hA.cell0
      have k1 := hA.cell1
      have hs := sift_any HE.out k m a dk wr hA.st (by omega) (by omega)
      have hkz : ((k + 1 : Nat) : Int) - 1 = (k : Int) := by omega
      rw [hkz]
      have HS := Lib.hid hs
      have HA := Lib.hid hA
      clear hs hA
      go_wp2_with fail
      refine HS.out.mono ?_
      rintro e w3 ⟨rfl, hS3, hg3⟩
      have hA3 := HA.out.step hS3 hg3
      go_wp2_with fail
      go_roundw
      case rel => exact ⟨k, _, rfl, by omega, hA3, Lib.hid (by rw [← HO.out]; rfl)⟩
      case measure => simp [intOf]
end Go.Proofs.Ytahgamjfglcenaa
