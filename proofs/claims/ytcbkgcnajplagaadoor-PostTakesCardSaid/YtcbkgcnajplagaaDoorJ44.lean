/- What Unhex of package crc and of the document's answers return: the number of six digits, or that they are none. Conditions: none. -/
import Derived.Test.YtcbkgcnajplagaaDoorJ17
import Derived.Test.YtcbkgcnajplagaaDoorJ16
set_option linter.unusedVariables false
set_option linter.unusedSimpArgs false
namespace Go.Proofs.YtcbkgcnajplagaaDoor
open Go Go.RowKit
theorem runhex_no (s : ByteArray) (h6 : ¬ s.size = 6) (w : World) : Calls Tryd.prog 68 #[.string s] w fun e w' => e = .returned (.tuple #[.int .i64 0, .int .i64 1]) ∧ w = w' := by
  have hz : ((s.size : Int) != 6) = true := by rw [bne_iff_ne]; omega
  go_enter Tryd.func68, Tryd.ntmps68
  go_wp2_with fail
  go_ret2
  exact ⟨rfl, rfl⟩
set_option maxHeartbeats 8000000 in
set_option maxRecDepth 100000 in
theorem runhex_six (s : ByteArray) (h6 : s.size = 6) (w : World) : Calls Tryd.prog 68 #[.string s] w (UPost s.data.toList w) := by
  have hz : (s.size : Int) = 6 := by omega
  have H6 := Lib.hid h6
  have hl : s.data.toList.length = 6 := by simpa using h6
  have HL := Lib.hid hl
  clear h6 hl
  go_enter Tryd.func68, Tryd.ntmps68
  go_wp2_with fail
  clear hz
  go_loopw [4, 5] (fun n i wr => ∃ k M : Nat, k ≤ 6 ∧ i = .int .i64 (k : Int) ∧ n = .int .i64 (M : Int) ∧ Hid (uh s.data.toList 0 = uh (s.data.toList.drop k) M) ∧ Hid (M < 16 ^ k) ∧ w = wr) (fun _ i _ => 6 - (intOf i).toNat)
  case atStart => exact ⟨0, 0, by omega, rfl, rfl, Lib.hid rfl, Lib.hid (by decide), rfl⟩
  case round =>
    obtain ⟨k, M, hk, rfl, rfl, HU, HM, rfl⟩ := hrel
    by_cases hk6 : k < 6
    · have hkz : (k : Int) < 6 := by omega
      have hks : (k : Int) < (s.size : Int) := by have := H6.out; omega
      have hkn : k < s.size := by have := H6.out; omega
      have hnx := uh_next (by rw [HL.out]; exact hk6) HU.out
      have hM := pow_small HM.out hk6
      have hbt : (s[k]'hkn).toNat < 256 := UInt8.toNat_lt _
      have hget : s.data.toList[k]'(by rw [HL.out]; exact hk6) = s[k]'hkn := by simp; rfl
      rw [hget] at hnx
      rw [hv_eq] at hnx
      have HN := Lib.hid hnx
      clear hget hnx
      by_cases c1 : 48 ≤ (s[k]'hkn).toNat ∧ (s[k]'hkn).toNat ≤ 57
      · have d1 : (48 : Int) ≤ ((s[k]'hkn).toNat : Int) := by omega
        have d2 : ((s[k]'hkn).toNat : Int) ≤ 57 := by omega
        have hnx := HN.out
        rw [if_pos c1, if_neg (by omega), show (((s[k]'hkn).toNat : Int) - 48).toNat = (s[k]'hkn).toNat - 48 by omega] at hnx
        have HU2 := Lib.hid hnx
        have hps := Lib.hid (pow_step HM.out (d := (s[k]'hkn).toNat - 48) (by omega))
        clear hnx c1
        go_wp2_with fail
        exact ⟨⟨k + 1, 16 * M + ((s[k]'hkn).toNat - 48), by omega, by go_num, congrArg _ (by omega), HU2, hps, by trivial⟩, by simp [intOf]; omega⟩
      · by_cases c2 : 97 ≤ (s[k]'hkn).toNat ∧ (s[k]'hkn).toNat ≤ 102
        · have d1 : (97 : Int) ≤ ((s[k]'hkn).toNat : Int) := by omega
          have d2 : ((s[k]'hkn).toNat : Int) ≤ 102 := by omega
          have hnx := HN.out
          rw [if_neg c1, if_pos c2, if_neg (by omega), show (((s[k]'hkn).toNat : Int) - 87).toNat = (s[k]'hkn).toNat - 87 by omega] at hnx
          have HU2 := Lib.hid hnx
          have hps := Lib.hid (pow_step HM.out (d := (s[k]'hkn).toNat - 87) (by omega))
          clear hnx c1 c2
          go_wp2_with fail
          exact ⟨⟨k + 1, 16 * M + ((s[k]'hkn).toNat - 87), by omega, by go_num, congrArg _ (by omega), HU2, hps, by trivial⟩, by simp [intOf]; omega⟩
        · have hres : uhRes s.data.toList = (0, 1) := by unfold uhRes; rw [HN.out, if_neg c1, if_neg c2]; rfl
          have HRES := Lib.hid hres
          clear hres
          rcases (show (s[k]'hkn).toNat < 48 ∨ (57 < (s[k]'hkn).toNat ∧ (s[k]'hkn).toNat < 97) ∨ 102 < (s[k]'hkn).toNat by omega) with c3 | ⟨c3, c4⟩ | c3
          · have d1 : ¬ (48 : Int) ≤ ((s[k]'hkn).toNat : Int) := by omega
            have d2 : ¬ (97 : Int) ≤ ((s[k]'hkn).toNat : Int) := by omega
            clear c1 c2 c3
            go_wp2_with fail
            go_ret2
            exact ⟨by rw [HRES.out]; rfl, rfl⟩
          · have d1 : (48 : Int) ≤ ((s[k]'hkn).toNat : Int) := by omega
            have d2 : ¬ ((s[k]'hkn).toNat : Int) ≤ 57 := by omega
            have d3 : ¬ (97 : Int) ≤ ((s[k]'hkn).toNat : Int) := by omega
            clear c1 c2 c3 c4
            go_wp2_with fail
            go_ret2
            exact ⟨by rw [HRES.out]; rfl, rfl⟩
          · have d1 : (48 : Int) ≤ ((s[k]'hkn).toNat : Int) := by omega
            have d2 : ¬ ((s[k]'hkn).toNat : Int) ≤ 57 := by omega
            have d3 : (97 : Int) ≤ ((s[k]'hkn).toNat : Int) := by omega
            have d4 : ¬ ((s[k]'hkn).toNat : Int) ≤ 102 := by omega
            clear c1 c2 c3
            go_wp2_with fail
            go_ret2
            exact ⟨by rw [HRES.out]; rfl, rfl⟩
    · obtain rfl : k = 6 := by omega
      have hu := HU.out
      rw [List.drop_eq_nil_of_le (by rw [HL.out]; exact Nat.le_refl _), uh] at hu
      have hres : uhRes s.data.toList = (M, 0) := by unfold uhRes; rw [hu]
      have HRES := Lib.hid hres
      clear hu hres
      go_wp2_with fail
      go_ret2
      exact ⟨by rw [HRES.out]; rfl, rfl⟩
theorem runhex_any (s : ByteArray) (w : World) : Calls Tryd.prog 68 #[.string s] w (UOut s w) := by
  unfold UOut uR
  by_cases h : s.size = 6
  · rw [if_pos h]
    exact runhex_six s h w
  · rw [if_neg h]
    exact runhex_no s h w
end Go.Proofs.YtcbkgcnajplagaaDoor
