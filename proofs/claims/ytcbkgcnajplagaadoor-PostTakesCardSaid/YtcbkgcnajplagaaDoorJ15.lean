/- Sum, FRSum in one text. Conditions: as each part says. -/
import Derived.Test.YtcbkgcnajplagaaDoorJ14
import Derived.Test.YtcbkgcnajplagaaDoorChecked
import Derived.WalkKit
import Derived.WalkLawsBesides
import Derived.WalkSpells
import Derived.RegionTactic
import Derived.Below
import Derived.Laws.OwnMore
import Derived.Deep.AppendLies
import Derived.Deep.Draws
import Derived.OwnWalk
import Derived.Lib.OthersKept
import Derived.Maps.AppendAt
import Derived.BigQuiet
import Derived.Deep.QuietTactic
import Derived.LoopTactic
import Derived.Lib.LaidTab
import Derived.Lib.Hide
section
set_option linter.unusedVariables false
set_option linter.unusedSimpArgs false
namespace Go.Proofs.YtcbkgcnajplagaaDoor
open Go Go.RowKit

theorem ofInt_nat64 (a : Nat) (ha : a < 9223372036854775808) : (BitVec.ofInt 64 (a : Int)).toNat = a := by
  rw [BitVec.toNat_ofInt]
  omega
theorem i64_xor_nat (a b : Nat) (ha : a < 9223372036854775808) (hb : b < 9223372036854775808) : bits .xor .i64 (a : Int) (b : Int) = ((a ^^^ b : Nat) : Int) := by
  show IntKind.i64.wrap ((BitVec.ofInt 64 (a : Int) ^^^ BitVec.ofInt 64 (b : Int)).toNat : Nat) = _
  rw [BitVec.toNat_xor, ofInt_nat64 a ha, ofInt_nat64 b hb, IntKind.wrap_i64]
  have := Nat.xor_lt_two_pow (n := 63) ha hb
  omega
theorem i64_and24 (n : Int) : bits .and .i64 n 16777215 = n % 16777216 := by
  have hm : (BitVec.ofInt 64 16777215).toNat = 2 ^ 24 - 1 := by decide
  have key : (BitVec.ofInt 64 n &&& BitVec.ofInt 64 16777215).toNat = (n % ((2 ^ 64 : Nat) : Int)).toNat % 2 ^ 24 := by
    rw [BitVec.toNat_and, BitVec.toNat_ofInt, hm, Nat.and_two_pow_sub_one_eq_mod]
  show IntKind.i64.wrap ((BitVec.ofInt 64 n &&& BitVec.ofInt 64 16777215).toNat : Nat) = n % 16777216
  rw [key, IntKind.wrap_i64]
  omega
/-- The table lies in memory. -/
def TabW (w : World) : Prop := ∀ i : Nat, i < 16 → w.cell? ⟨0, i, none⟩ = some (.int .i64 ((tab.getD i 0 : Nat) : Int))
def tabI : List Int := [0, 8801531, 9098509, 825846, 9692897, 1419802, 1651692, 10452759, 10584377, 2608578, 2839604, 11344079, 3303384, 11807523, 12104405, 4128302]
theorem tabI_ok : ∀ i : Fin 16, tabI.getD i.val 0 = ((tab.getD i.val 0 : Nat) : Int) := by decide +kernel
theorem tabW_of {W : World} (h : Lib.TabIs Tryd.prog W "plover/crc.left" .i64 tabI) : TabW W := fun i hi => by
  have := h.cell (g := 0) (by kernel_rfl) i (by simpa [tabI] using hi)
  rw [this, tabI_ok ⟨i, hi⟩]
theorem TabW.size {w : World} (h : TabW w) : 0 < w.heap.size := by
  have := h 0 (by omega)
  rcases Nat.eq_zero_or_pos w.heap.size with h0 | h0
  · simp [World.cell?, Array.getElem?_eq_none (Nat.le_of_eq h0)] at this
  · exact h0
theorem TabW.below {w w' : World} {B : Nat} (h : TabW w) (hb : Below B w w') (hB : 0 < B) : TabW w' := fun i hi => (hb.cell hB).trans (h i hi)
theorem fourOn_any (x : BitVec 24) (w : World) (hT : TabW w) : Calls Tryd.prog 62 #[.int .i64 (x.toNat : Int)] w fun e w' => e = .returned (.int .i64 ((Dn 4 x).toNat : Int)) ∧ w = w' := by
  have hx := x.isLt
  have h4 := four_on x
  have hi : x.toNat / 1048576 < 16 := by omega
  have hc := hT _ hi
  have ht := tab_lt ⟨_, hi⟩
  have hxor := i64_xor_nat (x.toNat * 16 % 16777216) (tab.getD (x.toNat / 1048576) 0) (by omega) (by simp only at ht; omega)
  rw [← h4, Int.natCast_emod, Int.natCast_mul] at hxor
  have hand := i64_and24 ((x.toNat : Int) * 16)
  simp only at ht
  generalize hN : x.toNat = N at *
  generalize hR : (Dn 4 x).toNat = R at *
  generalize tab.getD (N / 1048576) 0 = T at *
  have hxor2 : bits .xor .i64 ((N : Int) * 16 % 16777216) (T : Int) = (R : Int) := hxor
  clear hT h4 hxor
  go_enter Tryd.func62, Tryd.ntmps62
  go_wp2_with fail
  go_ret
  exact ⟨rfl, rfl⟩
theorem xor_byte (c : BitVec 24) (b : UInt8) : bits .xor .i64 (c.toNat : Int) ((b.toNat : Int) * 65536) = ((c ^^^ BitVec.ofNat 24 (b.toNat * 65536)).toNat : Int) := by
  have hb := b.toNat_lt
  have hc := c.isLt
  have := i64_xor_nat c.toNat (b.toNat * 65536) (by omega) (by omega)
  rw [Int.natCast_mul] at this
  have e : (c ^^^ BitVec.ofNat 24 (b.toNat * 65536)).toNat = c.toNat ^^^ b.toNat * 65536 := by
    rw [BitVec.toNat_xor, BitVec.toNat_ofNat, Nat.mod_eq_of_lt (by omega)]
  rw [e]
  exact this
theorem step_four (c : BitVec 24) (b : UInt8) : Dn 4 (Dn 4 (c ^^^ BitVec.ofNat 24 (b.toNat * 65536))) = step c b := by rw [Dn_add]; rfl
theorem crcL_take (c : BitVec 24) (l : List UInt8) (k : Nat) (hk : k < l.length) : crcL c (l.take (k + 1)) = step (crcL c (l.take k)) l[k] := by
  rw [List.take_succ_eq_append_getElem hk, crcL_append]
  rfl
set_option maxHeartbeats 1000000 in
theorem sum_any (s : ByteArray) (w : World) (hs : s.size ≤ 300000) (hT : TabW w) : Calls Tryd.prog 40 #[.string s] w fun e w' => e = .returned (.int .i64 ((crcS s).toNat : Int)) ∧ w = w' := by
  have HT := Lib.hid hT
  clear hT
  go_enter Tryd.func40, Tryd.ntmps40
  go_wp2_with fail
  go_loopw [3, 7] (fun c i wr => ∃ k : Nat, k ≤ s.size ∧ c = .int .i64 ((crcL 0xb704ce#24 (s.data.toList.take k)).toNat : Int) ∧ i = .int .i64 (k : Int) ∧ w = wr) (fun _ i _ => s.size - (intOf i).toNat)
  case atStart => exact ⟨0, Nat.zero_le _, rfl, rfl, rfl⟩
  case round =>
    obtain ⟨k, hk, rfl, rfl, rfl⟩ := hrel
    by_cases hlt : k < s.size
    · have hltz : (k : Int) < (s.size : Int) := by omega
      have hnx := Lib.hid (crcL_take 0xb704ce#24 s.data.toList k (by simpa using hlt))
      generalize hC : crcL 0xb704ce#24 (s.data.toList.take k) = C at *
      have hbt : (s[k]'hlt).toNat < 256 := UInt8.toNat_lt _
      have h1 := fourOn_any (C ^^^ BitVec.ofNat 24 ((s[k]'hlt).toNat * 65536)) w HT.out
      rw [← xor_byte] at h1
      have h2 := fourOn_any (Dn 4 (C ^^^ BitVec.ofNat 24 ((s[k]'hlt).toNat * 65536))) w HT.out
      rw [step_four] at h2
      have H1 := Lib.hid h1
      have H2 := Lib.hid h2
      clear h1 h2 hC
      go_wp2_with fail
      refine H1.out.mono ?_
      rintro e w1 ⟨rfl, rfl⟩
      go_wp2_with fail
      refine H2.out.mono ?_
      rintro e w1 ⟨rfl, rfl⟩
      go_wp2_with fail
      go_roundw
      case rel => exact ⟨k + 1, by omega, by rw [hnx.out]; rfl, by go_num, by trivial⟩
      case measure => simp [intOf]; omega
    · obtain rfl : k = s.size := by omega
      have hnl : ¬ (s.size : Int) < (s.size : Int) := by omega
      have hall : crcL 0xb704ce#24 (s.data.toList.take s.size) = crcS s := by
        rw [List.take_of_length_le (by simp)]
        rfl
      rw [hall]
      go_wp2_with fail
      go_ret
      exact ⟨rfl, rfl⟩
end Go.Proofs.YtcbkgcnajplagaaDoor
end
section
set_option linter.unusedVariables false
set_option linter.unusedSimpArgs false
namespace Go.Proofs.YtcbkgcnajplagaaDoor
open Go Go.RowKit
theorem Dn_one (j : Nat) (x : BitVec 24) : Dn (j + 1) x = D (Dn j x) := by
  rw [← Dn_add 1 j x]
  rfl
theorem xor_poly (N : Nat) (h : 2 * N < 9223372036854775808) : bits .xor .i64 (2 * (N : Int)) 25578747 = ((2 * N ^^^ 25578747 : Nat) : Int) := by
  have := i64_xor_nat (2 * N) 25578747 h (by omega)
  rw [Int.natCast_mul] at this
  exact this
set_option maxHeartbeats 4000000 in
set_option maxRecDepth 100000 in
theorem rsum_any (s : ByteArray) (w : World) (hs : s.size ≤ 300000) : Calls Tryd.prog 46 #[.string s] w fun e w' => e = .returned (.int .i64 ((crcS s).toNat : Int)) ∧ w = w' := by
  go_enter Tryd.func46, Tryd.ntmps46
  go_wp2_with fail
  go_loopw [3, 4] (fun c i wr => ∃ k : Nat, k ≤ s.size ∧ c = .int .i64 ((crcL 0xb704ce#24 (s.data.toList.take k)).toNat : Int) ∧ i = .int .i64 (k : Int) ∧ w = wr) (fun _ i _ => s.size - (intOf i).toNat)
  case atStart => exact ⟨0, Nat.zero_le _, rfl, rfl, rfl⟩
  case round =>
    obtain ⟨k, hk, rfl, rfl, rfl⟩ := hrel
    by_cases hlt : k < s.size
    · have hltz : (k : Int) < (s.size : Int) := by omega
      have hnx := Lib.hid (crcL_take 0xb704ce#24 s.data.toList k (by simpa using hlt))
      generalize hC : crcL 0xb704ce#24 (s.data.toList.take k) = C at *
      have hbt : (s[k]'hlt).toNat < 256 := UInt8.toNat_lt _
      have h1 := xor_byte C (s[k]'hlt)
      clear hC
      go_wp2_with fail
      obtain ⟨wo, rfl⟩ : ∃ wo : World, wo = w := ⟨_, rfl⟩
      go_loopw [3, 5] (fun c i wr => ∃ j : Nat, j ≤ 8 ∧ c = .int .i64 ((Dn j (C ^^^ BitVec.ofNat 24 ((s[k]'hlt).toNat * 65536))).toNat : Int) ∧ i = .int .i64 (j : Int) ∧ wo = wr) (fun _ i _ => 8 - (intOf i).toNat)
      case atStart => exact ⟨0, Nat.zero_le _, rfl, rfl, rfl⟩
      case round =>
        obtain ⟨j, hj, rfl, rfl, rfl⟩ := hrel
        by_cases hj8 : j < 8
        · have hjz : (j : Int) < 8 := by omega
          have hone := Dn_one j (C ^^^ BitVec.ofNat 24 ((s[k]'hlt).toNat * 65536))
          generalize hX : Dn j (C ^^^ BitVec.ofNat 24 ((s[k]'hlt).toNat * 65536)) = X at *
          have hd := D_nat X
          rw [← hone] at hd
          have hone' := Lib.hid hone
          have hXl := X.isLt
          have hp := xor_poly X.toNat (by omega)
          clear hX hone
          generalize X.toNat = N at *
          by_cases hge : 16777216 ≤ 2 * N
          · have hgez : (16777216 : Int) ≤ 2 * (N : Int) := by omega
            rw [if_pos hge] at hd
            rw [← hd] at hp
            clear hd
            go_wp2_with fail
            exact ⟨⟨j + 1, by omega, rfl, by go_num, by trivial⟩, by simp [intOf]; omega⟩
          · have hgez : ¬ (16777216 : Int) ≤ 2 * (N : Int) := by omega
            rw [if_neg hge] at hd
            have HD := Lib.hid hd
            clear hd hp
            go_wp2_with fail
            exact ⟨⟨j + 1, by omega, by rw [HD.out, Int.natCast_mul]; rfl, by go_num, by trivial⟩, by simp [intOf]; omega⟩
        · have hjz : ¬ (j : Int) < 8 := by omega
          obtain rfl : j = 8 := by omega
          go_wp2_with fail
          exact ⟨⟨k + 1, by omega, by rw [hnx.out]; rfl, by go_num, by trivial⟩, by simp [intOf]; omega⟩
    · obtain rfl : k = s.size := by omega
      have hnl : ¬ (s.size : Int) < (s.size : Int) := by omega
      have hall : crcL 0xb704ce#24 (s.data.toList.take s.size) = crcS s := by
        rw [List.take_of_length_le (by simp)]
        rfl
      rw [hall]
      go_wp2_with fail
      go_ret
      exact ⟨rfl, rfl⟩
end Go.Proofs.YtcbkgcnajplagaaDoor
end
