/- What Hex of package crc and of the document's answers return: six digits, or that the number is none. Conditions: none. -/
import Derived.Test.YtkehojgiappiiaaGreatDoorKit
set_option linter.unusedVariables false
set_option linter.unusedSimpArgs false
namespace Go.Proofs.YtkehojgiappiiaaGreatDoor
open Go Go.RowKit

def hexD (k : Nat) : UInt8 := UInt8.ofNat (if k < 10 then 48 + k else 87 + k)
def DIG : ByteArray := ⟨#[48, 49, 50, 51, 52, 53, 54, 55, 56, 57, 97, 98, 99, 100, 101, 102]⟩
theorem dig_fin : ∀ k : Fin 16, DIG.data.toList.getD k.val 0 = hexD k.val := by decide +kernel
theorem dig_at (k : Nat) (h : k < 16) (h2 : k < DIG.size) : DIG[k]'h2 = hexD k := by
  rw [← dig_fin ⟨k, h⟩]
  rw [List.getD_eq_getElem?_getD, List.getElem?_eq_getElem (by simpa using h2)]
  rfl
/-- The six digits. -/
def hexL (N : Nat) : List UInt8 := [hexD (N / 16 ^ 5 % 16), hexD (N / 16 ^ 4 % 16), hexD (N / 16 ^ 3 % 16), hexD (N / 16 ^ 2 % 16), hexD (N / 16 ^ 1 % 16), hexD (N / 16 ^ 0 % 16)]
/-- The row behind so many rounds. -/
def hrow (N : Nat) : Nat → List UInt8
  | 0 => [0, 0, 0, 0, 0, 0]
  | 1 => [0, 0, 0, 0, 0, hexD (N / 16 ^ 0 % 16)]
  | 2 => [0, 0, 0, 0, hexD (N / 16 ^ 1 % 16), hexD (N / 16 ^ 0 % 16)]
  | 3 => [0, 0, 0, hexD (N / 16 ^ 2 % 16), hexD (N / 16 ^ 1 % 16), hexD (N / 16 ^ 0 % 16)]
  | 4 => [0, 0, hexD (N / 16 ^ 3 % 16), hexD (N / 16 ^ 2 % 16), hexD (N / 16 ^ 1 % 16), hexD (N / 16 ^ 0 % 16)]
  | 5 => [0, hexD (N / 16 ^ 4 % 16), hexD (N / 16 ^ 3 % 16), hexD (N / 16 ^ 2 % 16), hexD (N / 16 ^ 1 % 16), hexD (N / 16 ^ 0 % 16)]
  | _ => hexL N
theorem hrow_len (N : Nat) (j : Nat) (h : j ≤ 6) : (hrow N j).length = 6 := by
  rcases (show j = 0 ∨ j = 1 ∨ j = 2 ∨ j = 3 ∨ j = 4 ∨ j = 5 ∨ j = 6 by omega) with rfl | rfl | rfl | rfl | rfl | rfl | rfl <;> rfl
theorem hrow_set (N : Nat) (j : Nat) (h : j < 6) : (hrow N j).set (5 - j) (hexD (N / 16 ^ j % 16)) = hrow N (j + 1) := by
  rcases (show j = 0 ∨ j = 1 ∨ j = 2 ∨ j = 3 ∨ j = 4 ∨ j = 5 by omega) with rfl | rfl | rfl | rfl | rfl | rfl <;> rfl
set_option maxHeartbeats 4000000 in
set_option maxRecDepth 100000 in
theorem hex_ok (N : Nat) (hN : N < 16777216) (w : World) : Calls Tryz.prog 57 #[.int .i64 (N : Int)] w fun e w' => e = .returned (.tuple #[.string ⟨(hexL N).toArray⟩, .int .i64 0]) ∧ Below w.heap.size w w' := by
  have h1 : ¬ (N : Int) < 0 := by omega
  have h2 : ¬ (16777215 : Int) < (N : Int) := by omega
  have hr0 : RowB (w.alloc (.cells #[.int .u8 0, .int .u8 0, .int .u8 0, .int .u8 0, .int .u8 0, .int .u8 0] 107)) w.heap.size (hrow N 0) :=
    RowB.new w _ 107 0 0 _ (.inr rfl) (fun j hj => by
      have hj2 : j < 6 := hj
      rcases (show j = 0 ∨ j = 1 ∨ j = 2 ∨ j = 3 ∨ j = 4 ∨ j = 5 by omega) with rfl | rfl | rfl | rfl | rfl | rfl <;> rfl)
  have hb0 : Below w.heap.size w (w.alloc (.cells #[.int .u8 0, .int .u8 0, .int .u8 0, .int .u8 0, .int .u8 0, .int .u8 0] 107)) := (Below.refl _ w).alloc (Nat.le_refl _) _
  have HR0 := Lib.hid hr0
  have HB0 := Lib.hid hb0
  clear hr0 hb0
  go_enter Tryz.func57, Tryz.ntmps57
  go_wp2_with fail
  generalize w.alloc (.cells #[.int .u8 0, .int .u8 0, .int .u8 0, .int .u8 0, .int .u8 0, .int .u8 0] 107) = W0 at *
  generalize hg : w.heap.size = g at *
  have HG := Lib.hid hg
  clear hg
  go_loopw [0, 12] (fun n i wr => ∃ j M : Nat, j ≤ 6 ∧ i = .int .i64 (j : Int) ∧ n = .int .i64 (M : Int) ∧ Hid (M = N / 16 ^ j) ∧ M < 16777216 ∧ RowB wr g (hrow N j) ∧ Below g w wr) (fun _ i _ => 6 - (intOf i).toNat)
  case atStart => exact ⟨0, N, by omega, rfl, rfl, Lib.hid (by simp), hN, HR0.out, HB0.out⟩
  case round =>
    obtain ⟨j, M, hj, rfl, rfl, HM, hM, hr, hb⟩ := hrel
    by_cases hj6 : j < 6
    · have hjz : (j : Int) < 6 := by omega
      have hln := hrow_len N j hj
      obtain ⟨d, hd⟩ : ∃ d : Nat, d = 5 - j := ⟨_, rfl⟩
      have hdz : 5 - (j : Int) = (d : Int) := by omega
      have hd6 : (d : Int) < 6 := by omega
      have hfz : wr.frozen? ⟨g, d, none⟩ = false := hr.frozen (by omega)
      obtain ⟨c0, hc⟩ : ∃ c0 : Int, wr.cell? ⟨g, d, none⟩ = some (.int .u8 c0) := ⟨_, hr.cell (by omega)⟩
      obtain ⟨q, hq⟩ : ∃ q : Nat, q = M % 16 := ⟨_, rfl⟩
      have hq16 : q < 16 := by omega
      have hand : bits .and .i64 (M : Int) 15 = (q : Int) := by rw [i64_and4]; omega
      have hst := hr.set (j := d) (by omega) (hexD (N / 16 ^ j % 16))
      rw [hd, hrow_set N j hj6, ← hd] at hst
      have hdv := dig_at q hq16 hq16
      have hqn : Hid (N / 16 ^ j % 16 = q) := Lib.hid (by rw [← HM.out]; exact hq.symm)
      have HST := Lib.hid hst
      have HDV := Lib.hid hdv
      have hlt := hr.lt
      clear hst hdv hq hd
      unfold DIG at HDV
      go_wp2_with fail
      have hrow2 := HST.out
      rw [hqn.out] at hrow2
      refine ⟨⟨j + 1, M / 16, by omega, by go_num, by go_num, Lib.hid (by rw [HM.out, Nat.div_div_eq_div_mul, Nat.pow_succ]), by omega, ?_, below_setCell hb (p := ⟨g, d, none⟩) (Nat.le_refl _) _⟩, by simp [intOf]; omega⟩
      rw [HDV.out]
      exact hrow2
    · obtain rfl : j = 6 := by omega
      have hnl : ¬ ((6 : Nat) : Int) < 6 := by omega
      have hcv := hr.conv 6 55 9 Tryz.underlying55 Tryz.underlying9
      rw [hrow_len N 6 (by omega)] at hcv
      go_wp2_with fail
      go_ret2
      exact ⟨rfl, HG.out ▸ hb⟩
theorem hex_no (n : Int) (h : n < 0 ∨ 16777216 ≤ n) (w : World) : Calls Tryz.prog 57 #[.int .i64 n] w fun e w' => e = .returned (.tuple #[.string ⟨#[]⟩, .int .i64 1]) ∧ w = w' := by
  by_cases h1 : n < 0
  · go_enter Tryz.func57, Tryz.ntmps57
    go_wp2_with fail
    go_ret2
    exact ⟨rfl, rfl⟩
  · have h2 : 16777215 < n := by omega
    go_enter Tryz.func57, Tryz.ntmps57
    go_wp2_with fail
    go_ret2
    exact ⟨rfl, rfl⟩
theorem hex_take (N j : Nat) (h : j < 6) : (hexL N).take (j + 1) = (hexL N).take j ++ [hexD (N / 16 ^ (5 - j) % 16)] := by
  rcases (show j = 0 ∨ j = 1 ∨ j = 2 ∨ j = 3 ∨ j = 4 ∨ j = 5 by omega) with rfl | rfl | rfl | rfl | rfl | rfl <;> rfl
theorem own_digit {w : World} {B : Nat} {v : Value} {N j : Nat} {z : Int} (hj : j < 6) (hz : z = ((hexD (N / 16 ^ (5 - j) % 16)).toNat : Int)) (h : w.ownsRow B 5 1 v (j + 1) (Lib.byteCells ((hexL N).take j) ++ [.int .u8 z])) : w.ownsRow B 5 1 v (j + 1) (Lib.byteCells ((hexL N).take (j + 1))) := by
  subst hz
  rw [hex_take N j hj, Lib.byteCells_append]
  exact h
end Go.Proofs.YtkehojgiappiiaaGreatDoor
