/- The walk of CrcOrder: it returns true. Conditions: none. -/
import Derived.Test.YthogclpbbpfcoaaDigits
set_option linter.unusedVariables false
set_option linter.unusedSimpArgs false
namespace Go.Proofs.Ythogclpbbpfcoaa
open Go Go.RowKit

theorem ret_bool {a b : Bool} (h : a = b) : Ending.returned (.bool a) = .returned (.bool b) := by rw [h]
theorem hexD_lt : ∀ i j : Fin 16, decide (hexD i.val < hexD j.val) = decide (i.val < j.val) := by decide +kernel
theorem hexD_eq : ∀ i j : Fin 16, (hexD i.val == hexD j.val) = decide (i.val = j.val) := by decide +kernel
def tl : Nat → Nat → List UInt8
  | 0, _ => []
  | k + 1, N => hexD (N / 16 ^ k % 16) :: tl k N
theorem tl_hexL (N : Nat) : tl 6 N = hexL N := rfl
theorem lex_step (B i r j s : Nat) (hr : r < B) (hs : s < B) : decide (r + B * i < s + B * j) = (decide (i < j) || (decide (i = j) && decide (r < s))) := by
  rcases Nat.lt_trichotomy i j with h | h | h
  · have := Nat.mul_le_mul_left B h
    rw [Nat.mul_succ] at this
    rw [decide_eq_true h, decide_eq_true (by omega)]
    rfl
  · subst h
    rw [decide_eq_false (Nat.lt_irrefl i), decide_eq_true (rfl : i = i)]
    simp
  · have := Nat.mul_le_mul_left B h
    rw [Nat.mul_succ] at this
    rw [decide_eq_false (by omega : ¬ i < j), decide_eq_false (by omega : ¬ i = j), decide_eq_false (by omega)]
    rfl
theorem tl_less (a b : Nat) : ∀ k, Op.bytesLess (tl k a) (tl k b) = decide (a % 16 ^ k < b % 16 ^ k)
  | 0 => by simp [tl, Op.bytesLess, Nat.mod_one]
  | k + 1 => by
    have hp : 0 < 16 ^ k := Nat.pow_pos (by omega)
    rw [tl, tl, Op.bytesLess, tl_less a b k, Nat.mod_pow_succ, Nat.mod_pow_succ, lex_step _ _ _ _ _ (Nat.mod_lt _ hp) (Nat.mod_lt _ hp)]
    have h1 := hexD_lt ⟨a / 16 ^ k % 16, Nat.mod_lt _ (by omega)⟩ ⟨b / 16 ^ k % 16, Nat.mod_lt _ (by omega)⟩
    have h2 := hexD_eq ⟨a / 16 ^ k % 16, Nat.mod_lt _ (by omega)⟩ ⟨b / 16 ^ k % 16, Nat.mod_lt _ (by omega)⟩
    simp only at h1 h2
    rw [h1, h2]
theorem hex_less (a b : Nat) (ha : a < 16777216) (hb : b < 16777216) : Op.bytesLess (hexL a) (hexL b) = decide (a < b) := by
  rw [← tl_hexL, ← tl_hexL, tl_less, Nat.mod_eq_of_lt (by omega), Nat.mod_eq_of_lt (by omega)]
theorem hex_eq (a b : Nat) (ha : a < 16777216) (hb : b < 16777216) : (hexL a == hexL b) = decide (a = b) := by
  rw [Bool.eq_iff_iff, beq_iff_eq, decide_eq_true_iff]
  refine ⟨fun h => ?_, fun h => by rw [h]⟩
  have h1 := uh_hexL a ha
  have h2 := uh_hexL b hb
  rw [h, h2] at h1
  injection h1 with h3
  exact h3.symm
set_option maxHeartbeats 8000000 in
set_option maxRecDepth 100000 in
theorem crcOrder_walk (a b : Int) (w : World) : Calls Try.prog 4 #[.int .i64 a, .int .i64 b] w (Gives (.bool true) w) := by
  obtain ⟨M, hM⟩ : ∃ M : Nat, a % 16777216 = (M : Int) := ⟨(a % 16777216).toNat, by omega⟩
  obtain ⟨N, hN⟩ : ∃ N : Nat, b % 16777216 = (N : Int) := ⟨(b % 16777216).toNat, by omega⟩
  have hM2 : M < 16777216 := by omega
  have hN2 : N < 16777216 := by omega
  have ha := i64_and24 a
  have hb := i64_and24 b
  rw [hM] at ha
  rw [hN] at hb
  have H1 := Lib.hid (hex_ok M hM2)
  have H2 := Lib.hid (hex_ok N hN2)
  have hl := hex_less M N hM2 hN2
  have he := hex_eq M N hM2 hN2
  have hs : (⟨(hexL M).toArray⟩ : ByteArray).size = 6 := rfl
  have h1 : (⟨(hexL M).toArray⟩ : ByteArray).toList = hexL M := by rw [ByteArray.toList_eq]
  have h2 : (⟨(hexL N).toArray⟩ : ByteArray).toList = hexL N := by rw [ByteArray.toList_eq]
  rw [← h1, ← h2] at hl he
  clear hM hN hM2 hN2 h1 h2
  generalize (⟨(hexL M).toArray⟩ : ByteArray) = S at *
  generalize (⟨(hexL N).toArray⟩ : ByteArray) = T at *
  rcases (show M < N ∨ M = N ∨ N < M by omega) with h | h | h
  · rw [decide_eq_true h] at hl
    rw [decide_eq_false (by omega)] at he
    have hz : (M : Int) < (N : Int) := by omega
    have hne : ((M : Int) == (N : Int)) = false := by simp; omega
    clear h
    go_enter Try.func4, Try.ntmps4
    go_wp2_with fail
    refine (H1.out w).mono ?_
    rintro e w1 ⟨rfl, hb1⟩
    go_wp2_with fail
    refine (H2.out w1).mono ?_
    rintro e w2 ⟨rfl, hb2⟩
    have hb12 := below_then' hb1 hb2
    go_wp2_with fail
    refine (digits_any w2).mono ?_
    rintro e w3 ⟨rfl, hb3⟩
    go_wp2_with fail
    go_ret
    first | exact ⟨rfl, below_then' hb12 hb3⟩ | exact ⟨ret_bool (by simp; omega), below_then' hb12 hb3⟩
  · rw [decide_eq_false (by omega)] at hl
    rw [decide_eq_true h] at he
    have hz : ¬ (M : Int) < (N : Int) := by omega
    have hne : ((M : Int) == (N : Int)) = true := by simp; omega
    clear h
    go_enter Try.func4, Try.ntmps4
    go_wp2_with fail
    refine (H1.out w).mono ?_
    rintro e w1 ⟨rfl, hb1⟩
    go_wp2_with fail
    refine (H2.out w1).mono ?_
    rintro e w2 ⟨rfl, hb2⟩
    have hb12 := below_then' hb1 hb2
    go_wp2_with fail
    refine (digits_any w2).mono ?_
    rintro e w3 ⟨rfl, hb3⟩
    go_wp2_with fail
    go_ret
    first | exact ⟨rfl, below_then' hb12 hb3⟩ | exact ⟨ret_bool (by simp; omega), below_then' hb12 hb3⟩
  · rw [decide_eq_false (by omega)] at hl
    rw [decide_eq_false (by omega)] at he
    have hz : ¬ (M : Int) < (N : Int) := by omega
    have hne : ((M : Int) == (N : Int)) = false := by simp; omega
    clear h
    go_enter Try.func4, Try.ntmps4
    go_wp2_with fail
    refine (H1.out w).mono ?_
    rintro e w1 ⟨rfl, hb1⟩
    go_wp2_with fail
    refine (H2.out w1).mono ?_
    rintro e w2 ⟨rfl, hb2⟩
    have hb12 := below_then' hb1 hb2
    go_wp2_with fail
    refine (digits_any w2).mono ?_
    rintro e w3 ⟨rfl, hb3⟩
    go_wp2_with fail
    go_ret
    first | exact ⟨rfl, below_then' hb12 hb3⟩ | exact ⟨ret_bool (by simp; omega), below_then' hb12 hb3⟩
end Go.Proofs.Ythogclpbbpfcoaa
