/- What Unhex of package crc and of the document's answers return: the number of six digits, or that they are none. Conditions: none. -/
import Derived.Test.YtkehojgiappiiaaGreatDoorHex
import Derived.Test.YtkehojgiappiiaaGreatDoorShelf
import Derived.Lib.Bytealg
set_option linter.unusedVariables false
set_option linter.unusedSimpArgs false
namespace Go.Proofs.YtkehojgiappiiaaGreatDoor
open Go Go.RowKit

def hv (c : UInt8) : Int := Lib.indexByte DIG.data.toList c
theorem hv_fin : ∀ k : Fin 256, hv (UInt8.ofNat k.val) = if 48 ≤ k.val ∧ k.val ≤ 57 then (k.val : Int) - 48 else if 97 ≤ k.val ∧ k.val ≤ 102 then (k.val : Int) - 87 else -1 := by decide +kernel
theorem hv_eq (c : UInt8) : hv c = if 48 ≤ c.toNat ∧ c.toNat ≤ 57 then (c.toNat : Int) - 48 else if 97 ≤ c.toNat ∧ c.toNat ≤ 102 then (c.toNat : Int) - 87 else -1 := by
  have := hv_fin ⟨c.toNat, UInt8.toNat_lt c⟩
  simp only [UInt8.ofNat_toNat] at this
  exact this
theorem hv_lt (c : UInt8) : hv c < 16 ∧ -1 ≤ hv c := by
  rw [hv_eq]
  split
  · omega
  · split <;> omega
/-- The number that digits go on to, behind a number so far. -/
def uh : List UInt8 → Nat → Option Nat
  | [], a => some a
  | c :: l, a => if hv c < 0 then none else uh l (16 * a + (hv c).toNat)
def uhRes (l : List UInt8) : Nat × Nat := match uh l 0 with
  | some n => (n, 0)
  | none => (0, 1)
theorem uh_next {l : List UInt8} {k M : Nat} (hk : k < l.length) (h : uh l 0 = uh (l.drop k) M) : uh l 0 = if hv l[k] < 0 then none else uh (l.drop (k + 1)) (16 * M + (hv l[k]).toNat) := by
  rw [h, List.drop_eq_getElem_cons hk, uh]
theorem or_add (M d : Nat) (hd : d < 16) : 16 * M ||| d = 16 * M + d := by
  have := Nat.two_pow_add_eq_or_of_lt (i := 4) hd M
  exact this.symm
theorem pow_step {M k d : Nat} (h : M < 16 ^ k) (hd : d < 16) : 16 * M + d < 16 ^ (k + 1) := by
  rw [Nat.pow_succ]
  omega
theorem pow_small {M k : Nat} (h : M < 16 ^ k) (hk : k < 6) : M < 1048576 := by
  have : 16 ^ k ≤ 16 ^ 5 := Nat.pow_le_pow_right (by omega) (by omega)
  omega
def UPost (l : List UInt8) (w : World) (e : Ending) (w' : World) : Prop := e = .returned (.tuple #[.int .i64 ((uhRes l).1 : Int), .int .i64 ((uhRes l).2 : Int)]) ∧ w = w'
set_option maxHeartbeats 4000000 in
set_option maxRecDepth 100000 in
theorem unhex_six (s : ByteArray) (h6 : s.size = 6) (w : World) : Calls Tryz.prog 79 #[.string s] w (UPost s.data.toList w) := by
  have hz : (s.size : Int) = 6 := by omega
  have H6 := Lib.hid h6
  have hl : s.data.toList.length = 6 := by simpa using h6
  have HL := Lib.hid hl
  clear h6 hl
  go_enter Tryz.func79, Tryz.ntmps79
  go_wp2_with fail
  clear hz
  go_loopw [4, 10] (fun n i wr => ∃ k M : Nat, k ≤ 6 ∧ i = .int .i64 (k : Int) ∧ n = .int .i64 (M : Int) ∧ Hid (uh s.data.toList 0 = uh (s.data.toList.drop k) M) ∧ Hid (M < 16 ^ k) ∧ w = wr) (fun _ i _ => 6 - (intOf i).toNat)
  case atStart => exact ⟨0, 0, by omega, rfl, rfl, Lib.hid rfl, Lib.hid (by decide), rfl⟩
  case round =>
    obtain ⟨k, M, hk, rfl, rfl, HU, HM, rfl⟩ := hrel
    by_cases hk6 : k < 6
    · have hkz : (k : Int) < 6 := by omega
      have hks : (k : Int) < (s.size : Int) := by have := H6.out; omega
      have hkn : k < s.size := by have := H6.out; omega
      have hnx := uh_next (by rw [HL.out]; exact hk6) HU.out
      have hM := pow_small HM.out hk6
      have hbt : (s[k]'hkn).toNat < 256 := UInt8.toNat_lt _
      have hget : s.data.toList[k]'(by rw [HL.out]; exact hk6) = s[k]'hkn := by simp; rfl
      rw [hget] at hnx
      have hcall := fun w => (Tryz.strings_IndexByte DIG ((s[k]'hkn).toNat : Int) w).mono (P := Tryz.prog) (fun e w' h => show e = .returned (.int .i64 (hv (s[k]'hkn))) ∧ w = w' by
        refine ⟨?_, h.2.symm⟩
        rw [h.1]
        simp [hv])
      have hvl := hv_lt (s[k]'hkn)
      have HC := Lib.hid hcall
      have HN := Lib.hid hnx
      generalize hv (s[k]'hkn) = V at *
      clear hget hcall hnx
      unfold DIG at HC
      by_cases hneg : V < 0
      · have hres : uhRes s.data.toList = (0, 1) := by unfold uhRes; rw [HN.out, if_pos hneg]
        have HRES := Lib.hid hres
        clear hres
        go_wp2_with fail
        refine (HC.out w).mono ?_
        rintro e w1 ⟨rfl, rfl⟩
        go_wp2_with fail
        go_ret2
        exact ⟨by rw [HRES.out]; rfl, rfl⟩
      · obtain ⟨d, rfl⟩ : ∃ d : Nat, V = (d : Int) := ⟨V.toNat, by omega⟩
        have hd : d < 16 := by omega
        have hor := i64_or_nat (16 * M) d (by omega) (by omega)
        rw [or_add M d hd] at hor
        have hor2 : bits .or .i64 ((M : Int) * 16) (d : Int) = ((16 * M + d : Nat) : Int) := by
          rw [show (M : Int) * 16 = ((16 * M : Nat) : Int) by omega]
          exact hor
        have hnx := HN.out
        rw [if_neg hneg, show ((d : Int)).toNat = d from rfl] at hnx
        have HU2 := Lib.hid hnx
        have hps := Lib.hid (pow_step HM.out hd)
        obtain ⟨M2, hM2⟩ : ∃ M2 : Nat, M2 = 16 * M + d := ⟨_, rfl⟩
        rw [← hM2] at hor2 HU2 hps
        clear hnx hor hM2 hneg
        go_wp2_with fail
        refine (HC.out w).mono ?_
        rintro e w1 ⟨rfl, rfl⟩
        go_wp2_with fail
        exact ⟨⟨k + 1, M2, by omega, by go_num, rfl, HU2, hps, by trivial⟩, by simp [intOf]; omega⟩
    · obtain rfl : k = 6 := by omega
      have hu := HU.out
      rw [List.drop_eq_nil_of_le (by rw [HL.out]; exact Nat.le_refl _), uh] at hu
      have hres : uhRes s.data.toList = (M, 0) := by unfold uhRes; rw [hu]
      have HRES := Lib.hid hres
      clear hu hres
      go_wp2_with fail
      go_ret2
      exact ⟨by rw [HRES.out]; rfl, rfl⟩
theorem unhex_no (s : ByteArray) (h6 : ¬ s.size = 6) (w : World) : Calls Tryz.prog 79 #[.string s] w fun e w' => e = .returned (.tuple #[.int .i64 0, .int .i64 1]) ∧ w = w' := by
  have hz : ((s.size : Int) != 6) = true := by rw [bne_iff_ne]; omega
  go_enter Tryz.func79, Tryz.ntmps79
  go_wp2_with fail
  go_ret2
  exact ⟨rfl, rfl⟩
def uR (s : ByteArray) : Nat × Nat := if s.size = 6 then uhRes s.data.toList else (0, 1)
def UOut (s : ByteArray) (w : World) (e : Ending) (w' : World) : Prop := e = .returned (.tuple #[.int .i64 ((uR s).1 : Int), .int .i64 ((uR s).2 : Int)]) ∧ w = w'
theorem unhex_any (s : ByteArray) (w : World) : Calls Tryz.prog 79 #[.string s] w (UOut s w) := by
  unfold UOut uR
  by_cases h : s.size = 6
  · rw [if_pos h]
    exact unhex_six s h w
  · rw [if_neg h]
    exact unhex_no s h w
theorem hv_hexD : ∀ k : Fin 16, hv (hexD k.val) = (k.val : Int) := by decide +kernel
theorem uh_digit (k : Nat) (hk : k < 16) (l : List UInt8) (a : Nat) : uh (hexD k :: l) a = uh l (16 * a + k) := by
  have h := hv_hexD ⟨k, hk⟩
  simp only at h
  rw [uh, h, if_neg (by omega)]
  rfl
theorem uh_hexL (N : Nat) (hN : N < 16777216) : uhRes (hexL N) = (N, 0) := by
  have h : uh (hexL N) 0 = some N := by
    unfold hexL
    rw [uh_digit _ (by omega), uh_digit _ (by omega), uh_digit _ (by omega), uh_digit _ (by omega), uh_digit _ (by omega), uh_digit _ (by omega), uh]
    congr 1
    omega
  unfold uhRes
  rw [h]
theorem uR_hexL (N : Nat) (hN : N < 16777216) : uR ⟨(hexL N).toArray⟩ = (N, 0) := by
  unfold uR
  rw [if_pos (by rfl)]
  exact uh_hexL N hN
end Go.Proofs.YtkehojgiappiiaaGreatDoor
