/- What Sum of the document's answers and awake return, and that CrcSums returns true. Conditions: the table of four bits lies as start-up lays it. -/
import Derived.Test.YthogclpbbpfcoaaDoorSum
set_option linter.unusedVariables false
set_option linter.unusedSimpArgs false
namespace Go.Proofs.YthogclpbbpfcoaaDoor
open Go Go.RowKit

theorem Dn_one (j : Nat) (x : BitVec 24) : Dn (j + 1) x = D (Dn j x) := by
  rw [← Dn_add 1 j x]
  rfl
theorem xor_poly (N : Nat) (h : 2 * N < 9223372036854775808) : bits .xor .i64 (2 * (N : Int)) 25578747 = ((2 * N ^^^ 25578747 : Nat) : Int) := by
  have := i64_xor_nat (2 * N) 25578747 h (by omega)
  rw [Int.natCast_mul] at this
  exact this
set_option maxHeartbeats 4000000 in
set_option maxRecDepth 100000 in
theorem rsum_any (s : ByteArray) (w : World) (hs : s.size ≤ 100000) : Calls Tryd.prog 10 #[.string s] w fun e w' => e = .returned (.int .i64 ((crcS s).toNat : Int)) ∧ w = w' := by
  go_enter Tryd.func10, Tryd.ntmps10
  go_wp2_with fail
  go_loopw [3, 4] (fun c i wr => ∃ k : Nat, k ≤ s.size ∧ c = .int .i64 ((crcL 0xb704ce#24 (s.data.toList.take k)).toNat : Int) ∧ i = .int .i64 (k : Int) ∧ w = wr) (fun _ i _ => s.size - (intOf i).toNat)
  case atStart => exact ⟨0, Nat.zero_le _, rfl, rfl, rfl⟩
  case round =>
    obtain ⟨k, hk, rfl, rfl, rfl⟩ := hrel
    by_cases hlt : k < s.size
    · have hltz : (k : Int) < (s.size : Int) := by omega
      have hnx := Lib.hid (crcL_take 0xb704ce#24 s.data.toList k (by simpa using hlt))
      generalize hC : crcL 0xb704ce#24 (s.data.toList.take k) = C at *
      have hbt : (s[k]'hlt).toNat < 256 := UInt8.toNat_lt _
      have h1 := xor_byte C (s[k]'hlt)
      clear hC
      go_wp2_with fail
      obtain ⟨wo, rfl⟩ : ∃ wo : World, wo = w := ⟨_, rfl⟩
      go_loopw [3, 5] (fun c i wr => ∃ j : Nat, j ≤ 8 ∧ c = .int .i64 ((Dn j (C ^^^ BitVec.ofNat 24 ((s[k]'hlt).toNat * 65536))).toNat : Int) ∧ i = .int .i64 (j : Int) ∧ wo = wr) (fun _ i _ => 8 - (intOf i).toNat)
      case atStart => exact ⟨0, Nat.zero_le _, rfl, rfl, rfl⟩
      case round =>
        obtain ⟨j, hj, rfl, rfl, rfl⟩ := hrel
        by_cases hj8 : j < 8
        · have hjz : (j : Int) < 8 := by omega
          have hone := Dn_one j (C ^^^ BitVec.ofNat 24 ((s[k]'hlt).toNat * 65536))
          generalize hX : Dn j (C ^^^ BitVec.ofNat 24 ((s[k]'hlt).toNat * 65536)) = X at *
          have hd := D_nat X
          rw [← hone] at hd
          have hone' := Lib.hid hone
          have hXl := X.isLt
          have hp := xor_poly X.toNat (by omega)
          clear hX hone
          generalize X.toNat = N at *
          by_cases hge : 16777216 ≤ 2 * N
          · have hgez : (16777216 : Int) ≤ 2 * (N : Int) := by omega
            rw [if_pos hge] at hd
            rw [← hd] at hp
            clear hd
            go_wp2_with fail
            exact ⟨⟨j + 1, by omega, rfl, by go_num, by trivial⟩, by simp [intOf]; omega⟩
          · have hgez : ¬ (16777216 : Int) ≤ 2 * (N : Int) := by omega
            rw [if_neg hge] at hd
            have HD := Lib.hid hd
            clear hd hp
            go_wp2_with fail
            exact ⟨⟨j + 1, by omega, by rw [HD.out, Int.natCast_mul]; rfl, by go_num, by trivial⟩, by simp [intOf]; omega⟩
        · have hjz : ¬ (j : Int) < 8 := by omega
          obtain rfl : j = 8 := by omega
          go_wp2_with fail
          exact ⟨⟨k + 1, by omega, by rw [hnx.out]; rfl, by go_num, by trivial⟩, by simp [intOf]; omega⟩
    · obtain rfl : k = s.size := by omega
      have hnl : ¬ (s.size : Int) < (s.size : Int) := by omega
      have hall : crcL 0xb704ce#24 (s.data.toList.take s.size) = crcS s := by
        rw [List.take_of_length_le (by simp)]
        rfl
      rw [hall]
      go_wp2_with fail
      go_ret
      exact ⟨rfl, rfl⟩
theorem crc_known : (crcS ⟨#[49, 50, 51, 52, 53, 54, 55, 56, 57]⟩).toNat = 2215682 := by decide +kernel
theorem awake_any (w : World) (hT : TabW w) : Calls Tryd.prog 8 #[] w fun e w' => e = .returned (.bool true) ∧ w = w' := by
  have h1 := sum_any ⟨#[49, 50, 51, 52, 53, 54, 55, 56, 57]⟩ w (by decide) hT
  rw [crc_known] at h1
  go_enter Tryd.func8, Tryd.ntmps8
  go_wp2_with fail
  refine h1.mono ?_
  rintro e w1 ⟨rfl, rfl⟩
  go_wp2_with fail
  go_ret
  exact ⟨rfl, rfl⟩
/-- It returns v, and what was there is as it was. -/
def Gives (v : Value) (w : World) (e : Ending) (w' : World) : Prop := e = .returned v ∧ Below w.heap.size w w'
set_option maxHeartbeats 1000000 in
theorem crcSums_same (s : ByteArray) (w : World) (hT : TabW w) : Calls Tryd.prog 3 #[.string s] w fun e w' => e = .returned (.bool true) ∧ w = w' := by
  have HA := Lib.hid (awake_any w hT)
  by_cases hs : 8192 < s.size
  · have hz : (8192 : Int) < (s.size : Int) := by omega
    clear hT
    go_enter Tryd.func3, Tryd.ntmps3
    go_wp2_with fail
    refine HA.out.mono ?_
    rintro e w1 ⟨rfl, rfl⟩
    go_wp2_with fail
    go_ret
    exact ⟨rfl, rfl⟩
  · have hz : ¬ (8192 : Int) < (s.size : Int) := by omega
    have H1 := Lib.hid (sum_any s w (by omega) hT)
    have H2 := Lib.hid (rsum_any s w (by omega))
    clear hT
    go_enter Tryd.func3, Tryd.ntmps3
    go_wp2_with fail
    refine H1.out.mono ?_
    rintro e w1 ⟨rfl, rfl⟩
    go_wp2_with fail
    refine H2.out.mono ?_
    rintro e w1 ⟨rfl, rfl⟩
    go_wp2_with fail
    refine HA.out.mono ?_
    rintro e w1 ⟨rfl, rfl⟩
    go_wp2_with fail
    go_ret
    exact ⟨rfl, rfl⟩
theorem crcSums_walk (s : ByteArray) (w : World) (hT : TabW w) : Calls Tryd.prog 3 #[.string s] w (Gives (.bool true) w) :=
  (crcSums_same s w hT).mono (by rintro e w' ⟨rfl, rfl⟩; exact ⟨rfl, Below.refl _ _⟩)
end Go.Proofs.YthogclpbbpfcoaaDoor
