/- siftDown_func and heapSort_func of package sort. Conditions: the row as SortA says. -/
import Derived.Test.YtahgamjfglcenaaSortB
set_option linter.unusedVariables false
set_option linter.unusedSimpArgs false
namespace Go.Proofs.Ytahgamjfglcenaa
open Go Go.RowKit
section
variable {hi first root : Nat} {d : Array Hit}
theorem sift_end (h : hi ≤ 2 * root + 1) : Sort.siftDown hlt hi first root d = d := by rw [Sort.siftDown, dif_pos h]
theorem sift_left (h : ¬ hi ≤ 2 * root + 1) (hr : ¬ (2 * root + 1 + 1 < hi ∧ hlt d[first + (2 * root + 1)]! d[first + (2 * root + 1) + 1]! = true)) :
    Sort.siftDown hlt hi first root d = if hlt d[first + root]! d[first + (2 * root + 1)]! = true then Sort.siftDown hlt hi first (2 * root + 1) (Sort.swp d (first + root) (first + (2 * root + 1))) else d := by
  rw [Sort.siftDown, dif_neg h, if_neg (by simpa using hr)]
  cases hlt d[first + root]! d[first + (2 * root + 1)]! <;> simp
theorem sift_right (h : ¬ hi ≤ 2 * root + 1) (hr : 2 * root + 1 + 1 < hi ∧ hlt d[first + (2 * root + 1)]! d[first + (2 * root + 1) + 1]! = true) :
    Sort.siftDown hlt hi first root d = if hlt d[first + root]! d[first + (2 * root + 1 + 1)]! = true then Sort.siftDown hlt hi first (2 * root + 1 + 1) (Sort.swp d (first + root) (first + (2 * root + 1 + 1))) else d := by
  rw [Sort.siftDown, dif_neg h, if_pos (by simpa using hr)]
  show (if (!hlt d[first + root]! d[first + (2 * root + 1 + 1)]!) = true then d else if _h2 : 2 * root + 1 + 1 < hi then _ else _) = _
  rw [dif_pos hr.1]
  cases hlt d[first + root]! d[first + (2 * root + 1 + 1)]! <;> simp
end
set_option maxHeartbeats 8000000 in
set_option maxRecDepth 100000 in
theorem sift_any {c0 blk n cap : Nat} {sb : Array Value} (E : Env blk n sb) (lo hi first : Nat) (d : Array Hit) (W : World) (hS : St c0 blk n cap d W) (hb : first + hi ≤ n) (hlo : lo ≤ n) :
    Calls Try.prog 55 #[.agg #[lessV c0, swapV sb], .int .i64 lo, .int .i64 hi, .int .i64 first] W (Now c0 blk n cap (Sort.siftDown hlt hi first lo d) (.tuple #[]) W) := by
  have hn := E.hn
  have h0 := At.start (sb := sb) hS
  have HE := Lib.hid E
  clear hS E
  go_enter Try.func55, Try.ntmps55
  go_wp2_with fail
  go_loopw [8] (fun vi wr => ∃ (root : Nat) (dk : Array Hit), vi = .int .i64 root ∧ root ≤ n ∧ At c0 blk n cap sb W.heap.size W dk wr ∧ Hid (Sort.siftDown hlt hi first root dk = Sort.siftDown hlt hi first lo d)) (fun vi _ => n + 1 - (intOf vi).toNat)
  case atStart => exact ⟨lo, d, by go_num, hlo, h0, Lib.hid rfl⟩
  case round =>
    obtain ⟨root, dk, rfl, hrn, hA, HO⟩ := hrel
    clear h0
    obtain ⟨ch, hch⟩ : ∃ ch : Nat, ch = 2 * root + 1 := ⟨_, rfl⟩
    have hchz : 2 * (root : Int) + 1 = (ch : Int) := by omega
    by_cases he : hi ≤ ch
    · have hez : (hi : Int) ≤ (ch : Int) := by omega
      have hF := hA.now (d' := Sort.siftDown hlt hi first lo d) (by rw [← HO.out, sift_end (by omega)])
      clear hA hch
      go_wp2_with fail
      go_end0
      exact ⟨rfl, hF⟩
    · have hez : ¬ (hi : Int) ≤ (ch : Int) := by omega
      have k0 := hA.cell0
      have HA := Lib.hid hA
      have HCH := Lib.hid hch
      -- what is done from the child that is taken
      have fin : ∀ (c : Nat) (w1 : World), root < c → first + c < n → At c0 blk n cap sb W.heap.size W dk w1 → True := fun _ _ _ _ _ => trivial
      clear fin
      by_cases hr : ch + 1 < hi
      · have hrz : (ch : Int) + 1 < (hi : Int) := by omega
        have hc := clo_any hA.st (first + ch) (first + ch + 1) (by omega) (by omega) (by omega)
        rw [show ((first + ch + 1 : Nat) : Int) = (first : Int) + ch + 1 by omega, show ((first + ch : Nat) : Int) = (first : Int) + ch by omega] at hc
        have HC := Lib.hid hc
        clear hA hc hch
        cases hv : hlt dk[first + ch]! dk[first + ch + 1]! with
        | true =>
          rw [hv] at HC
          have hsr := sift_right (hi := hi) (first := first) (root := root) (d := dk) (by rw [← HCH.out]; exact he) (by rw [← HCH.out]; exact ⟨hr, hv⟩)
          rw [← HCH.out] at hsr
          have HSR := Lib.hid hsr
          clear hv hsr
          go_wp2_with fail
          refine HC.out.mono ?_
          rintro e w3 ⟨rfl, hb3⟩
          have hA3 := HA.out.below hb3
          have k3 := hA3.cell0
          have hc2 := clo_any hA3.st (first + root) (first + (ch + 1)) (by have := HCH.out; omega) (by omega) (by omega)
          rw [show ((first + (ch + 1) : Nat) : Int) = (first : Int) + ((ch : Int) + 1) by omega, show ((first + root : Nat) : Int) = (first : Int) + root by omega] at hc2
          have HC2 := Lib.hid hc2
          have HA3 := Lib.hid hA3
          clear hA3 hc2 hb3
          cases hv2 : hlt dk[first + root]! dk[first + (ch + 1)]! with
          | true =>
            rw [hv2] at HC2
            rw [if_pos hv2] at HSR
            clear hv2
            go_wp2_with fail
            refine HC2.out.mono ?_
            rintro e w4 ⟨rfl, hb4⟩
            have hA4 := HA3.out.below hb4
            obtain ⟨w5, hs, hS5, hg5⟩ := hA4.st.swap HE.out (first + root) (first + (ch + 1)) (by have := HCH.out; omega) (by omega)
            rw [show ((first + (ch + 1) : Nat) : Int) = (first : Int) + ((ch : Int) + 1) by omega, show ((first + root : Nat) : Int) = (first : Int) + root by omega] at hs
            have hA5 := hA4.step hS5 hg5
            have k1 := hA4.cell1
            have HA5 := Lib.hid hA5
            have HS := Lib.hid hs
            clear k0 k3 hA4 hA5 hS5 hg5 hs hb4
            go_wp2_with fail
            rw [HS.out, Oper.upon_value]
            go_wp2_with fail
            go_roundw
            case rel => exact ⟨ch + 1, _, by go_num, by omega, HA5.out, Lib.hid (by rw [← HSR.out]; exact HO.out)⟩
            case measure => have := HCH.out; simp [intOf]; omega
          | false =>
            rw [hv2] at HC2
            rw [if_neg (by rw [hv2]; simp)] at HSR
            clear hv2
            go_wp2_with fail
            refine HC2.out.mono ?_
            rintro e w4 ⟨rfl, hb4⟩
            have hF := (HA3.out.below hb4).now (d' := Sort.siftDown hlt hi first lo d) (by rw [← HO.out, HSR.out])
            clear hb4
            go_wp2_with fail
            go_end0
            exact ⟨rfl, hF⟩
        | false =>
          rw [hv] at HC
          have hsr := sift_left (hi := hi) (first := first) (root := root) (d := dk) (by rw [← HCH.out]; exact he) (by rw [← HCH.out, hv]; simp)
          rw [← HCH.out] at hsr
          have HSR := Lib.hid hsr
          clear hv hsr
          go_wp2_with fail
          refine HC.out.mono ?_
          rintro e w3 ⟨rfl, hb3⟩
          have hA3 := HA.out.below hb3
          have k3 := hA3.cell0
          have hc2 := clo_any hA3.st (first + root) (first + ch) (by have := HCH.out; omega) (by omega) (by omega)
          rw [show ((first + ch : Nat) : Int) = (first : Int) + ch by omega, show ((first + root : Nat) : Int) = (first : Int) + root by omega] at hc2
          have HC2 := Lib.hid hc2
          have HA3 := Lib.hid hA3
          clear hA3 hc2 hb3
          cases hv2 : hlt dk[first + root]! dk[first + ch]! with
          | true =>
            rw [hv2] at HC2
            rw [if_pos hv2] at HSR
            clear hv2
            go_wp2_with fail
            refine HC2.out.mono ?_
            rintro e w4 ⟨rfl, hb4⟩
            have hA4 := HA3.out.below hb4
            obtain ⟨w5, hs, hS5, hg5⟩ := hA4.st.swap HE.out (first + root) (first + ch) (by have := HCH.out; omega) (by omega)
            rw [show ((first + ch : Nat) : Int) = (first : Int) + ch by omega, show ((first + root : Nat) : Int) = (first : Int) + root by omega] at hs
            have hA5 := hA4.step hS5 hg5
            have k1 := hA4.cell1
            have HA5 := Lib.hid hA5
            have HS := Lib.hid hs
            clear k0 k3 hA4 hA5 hS5 hg5 hs hb4
            go_wp2_with fail
            rw [HS.out, Oper.upon_value]
            go_wp2_with fail
            go_roundw
            case rel => exact ⟨ch, _, by go_num, by omega, HA5.out, Lib.hid (by rw [← HSR.out]; exact HO.out)⟩
            case measure => have := HCH.out; simp [intOf]; omega
          | false =>
            rw [hv2] at HC2
            rw [if_neg (by rw [hv2]; simp)] at HSR
            clear hv2
            go_wp2_with fail
            refine HC2.out.mono ?_
            rintro e w4 ⟨rfl, hb4⟩
            have hF := (HA3.out.below hb4).now (d' := Sort.siftDown hlt hi first lo d) (by rw [← HO.out, HSR.out])
            clear hb4
            go_wp2_with fail
            go_end0
            exact ⟨rfl, hF⟩
      · have hrz : ¬ (ch : Int) + 1 < (hi : Int) := by omega
        have hsr := sift_left (hi := hi) (first := first) (root := root) (d := dk) (by rw [← HCH.out]; exact he) (by rw [← HCH.out]; exact fun h => hr h.1)
        rw [← HCH.out] at hsr
        have HSR := Lib.hid hsr
        have hc2 := clo_any hA.st (first + root) (first + ch) (by omega) (by omega) (by omega)
        rw [show ((first + ch : Nat) : Int) = (first : Int) + ch by omega, show ((first + root : Nat) : Int) = (first : Int) + root by omega] at hc2
        have HC2 := Lib.hid hc2
        clear hA hc2 hsr hch
        cases hv2 : hlt dk[first + root]! dk[first + ch]! with
        | true =>
          rw [hv2] at HC2
          rw [if_pos hv2] at HSR
          clear hv2
          go_wp2_with fail
          refine HC2.out.mono ?_
          rintro e w4 ⟨rfl, hb4⟩
          have hA4 := HA.out.below hb4
          obtain ⟨w5, hs, hS5, hg5⟩ := hA4.st.swap HE.out (first + root) (first + ch) (by have := HCH.out; omega) (by omega)
          rw [show ((first + ch : Nat) : Int) = (first : Int) + ch by omega, show ((first + root : Nat) : Int) = (first : Int) + root by omega] at hs
          have hA5 := hA4.step hS5 hg5
          have k1 := hA4.cell1
          have HA5 := Lib.hid hA5
          have HS := Lib.hid hs
          clear k0 hA4 hA5 hS5 hg5 hs hb4
          go_wp2_with fail
          rw [HS.out, Oper.upon_value]
          go_wp2_with fail
          go_roundw
          case rel => exact ⟨ch, _, by go_num, by omega, HA5.out, Lib.hid (by rw [← HSR.out]; exact HO.out)⟩
          case measure => have := HCH.out; simp [intOf]; omega
        | false =>
          rw [hv2] at HC2
          rw [if_neg (by rw [hv2]; simp)] at HSR
          clear hv2
          go_wp2_with fail
          refine HC2.out.mono ?_
          rintro e w4 ⟨rfl, hb4⟩
          have hF := (HA.out.below hb4).now (d' := Sort.siftDown hlt hi first lo d) (by rw [← HO.out, HSR.out])
          clear hb4
          go_wp2_with fail
          go_end0
          exact ⟨rfl, hF⟩
end Go.Proofs.Ytahgamjfglcenaa
