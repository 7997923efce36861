/- Digits of numbers, there and back: plain. Conditions: none. -/
import Derived.Test.YtoakhndbjggboaaDoorApp
set_option linter.unusedVariables false
set_option linter.unusedSimpArgs false
namespace Go.Proofs.YtoakhndbjggboaaDoor
open Go Go.RowKit
def isDig (c : UInt8) : Bool := decide (48 ≤ c.toNat) && decide (c.toNat ≤ 57)
/-- Digits up to the byte stop: the number, and how many bytes with the stop. -/
def dg (most : Nat) (stop : UInt8) (over : Int) : Bool → Nat → List UInt8 → Except Int (Nat × Nat)
  | _, _, [] => .error 21
  | first, m, c :: r =>
    if c = stop ∧ first = false then .ok (m, 1)
    else if isDig c = false ∨ (first = false ∧ m = 0) then .error 20
    else if most < 10 * m + (c.toNat - 48) then .error over
    else match dg most stop over false (10 * m + (c.toNat - 48)) r with
      | .error e => .error e
      | .ok (n, k) => .ok (n, k + 1)
theorem u8_ofNat {n : Nat} (h : n < 256) : (UInt8.ofNat n).toNat = n := by simp [UInt8.toNat_ofNat']; omega
theorem isDig_of {d : Nat} (h : d < 10) : isDig (UInt8.ofNat (48 + d)) = true := by
  simp only [isDig, u8_ofNat (show 48 + d < 256 by omega), Bool.and_eq_true, decide_eq_true_eq]; omega
theorem isDig_iff {c : UInt8} : isDig c = true ↔ 48 ≤ c.toNat ∧ c.toNat ≤ 57 := by simp [isDig]
theorem dec_small {n : Nat} (h : n < 10) : Lib.decDigits n = [UInt8.ofNat (48 + n)] := by rw [Lib.decDigits, dif_pos h]
theorem dec_big {n : Nat} (h : ¬ n < 10) : Lib.decDigits n = Lib.decDigits (n / 10) ++ [UInt8.ofNat (48 + n % 10)] := by rw [Lib.decDigits, dif_neg h]
theorem dec_pos (n : Nat) : 1 ≤ (Lib.decDigits n).length := by
  by_cases h : n < 10
  · simp [dec_small h]
  · simp [dec_big h]
theorem dec_snoc {m d : Nat} (hm : m ≠ 0) (hd : d < 10) : Lib.decDigits (10 * m + d) = Lib.decDigits m ++ [UInt8.ofNat (48 + d)] := by
  rw [dec_big (by omega), show (10 * m + d) / 10 = m by omega, show (10 * m + d) % 10 = d by omega]
theorem dec_len (k : Nat) : ∀ n : Nat, n < 10 ^ k → 1 ≤ k → (Lib.decDigits n).length ≤ k := by
  induction k with
  | zero => intro n _ h; omega
  | succ k ih =>
    intro n hn _
    by_cases h : n < 10
    · simp [dec_small h]
    · rw [dec_big h]
      have hk : 1 ≤ k := by
        rcases k with _ | k
        · simp at hn; omega
        · omega
      have := ih (n / 10) (by rw [Nat.pow_succ] at hn; omega) hk
      simp; omega
theorem itoa_len (n : Int) (h0 : -9223372036854775808 ≤ n) (h1 : n ≤ 9223372036854775807) : (Lib.itoa n).length ≤ 20 := by
  unfold Lib.itoa
  split
  · have := dec_len 19 n.natAbs (by omega) (by omega)
    simp; omega
  · have := dec_len 19 n.toNat (by omega) (by omega)
    omega
theorem itoa_pos (n : Int) : 1 ≤ (Lib.itoa n).length := by
  unfold Lib.itoa
  split
  · simp
  · exact dec_pos _
theorem itoa_nat (n : Nat) : Lib.itoa (n : Int) = Lib.decDigits n := by
  unfold Lib.itoa
  rw [if_neg (by omega)]
  rfl
/-- A count is added to what was read. -/
def more {α : Type} (k : Nat) : Except Int (α × Nat) → Except Int (α × Nat)
  | .error e => .error e
  | .ok (n, j) => .ok (n, j + k)
theorem more_zero {α : Type} (r : Except Int (α × Nat)) : more 0 r = r := by rcases r with e | ⟨n, j⟩ <;> rfl
theorem more_more {α : Type} (a b : Nat) (r : Except Int (α × Nat)) : more a (more b r) = more (b + a) r := by rcases r with e | ⟨n, j⟩ <;> simp [more, Nat.add_assoc]
theorem dg_step (most : Nat) (stop : UInt8) (over : Int) (first : Bool) (m : Nat) (d : Nat) (hd : d < 10) (hs : isDig stop = false) (hm : first = true ∨ m ≠ 0) (hle : 10 * m + d ≤ most) (tail : List UInt8) :
    dg most stop over first m (UInt8.ofNat (48 + d) :: tail) = more 1 (dg most stop over false (10 * m + d) tail) := by
  have hdig := isDig_of hd
  have hne : UInt8.ofNat (48 + d) ≠ stop := by rintro rfl; rw [hdig] at hs; cases hs
  have hv : (UInt8.ofNat (48 + d)).toNat - 48 = d := by rw [u8_ofNat (by omega)]; omega
  generalize UInt8.ofNat (48 + d) = c at hdig hne hv
  rw [dg, if_neg (fun h => hne h.1), if_neg (by rcases hm with h | h <;> simp [hdig, h]), hv, if_neg (by omega)]
  rcases dg most stop over false (10 * m + d) tail with e | ⟨n, k⟩ <;> rfl
theorem dg_dec (most : Nat) (stop : UInt8) (over : Int) (hs : isDig stop = false) : ∀ (n : Nat), n ≤ most → ∀ tail, dg most stop over true 0 (Lib.decDigits n ++ tail) = more (Lib.decDigits n).length (dg most stop over false n tail) := by
  intro n
  induction n using Nat.strongRecOn with
  | _ n ih =>
    intro hn tail
    by_cases h : n < 10
    · rw [dec_small h, List.singleton_append, dg_step most stop over true 0 n h hs (.inl rfl) (by omega)]
      simp
    · rw [dec_big h, List.append_assoc, List.singleton_append, ih (n / 10) (by omega) (by omega), dg_step most stop over false (n / 10) (n % 10) (by omega) hs (.inr (by omega)) (by omega), more_more]
      rw [show 10 * (n / 10) + n % 10 = n by omega]
      simp [Nat.add_comm]
theorem dg_put (most : Nat) (stop : UInt8) (over : Int) (hs : isDig stop = false) (n : Nat) (hn : n ≤ most) (rest : List UInt8) : dg most stop over true 0 (Lib.decDigits n ++ stop :: rest) = .ok (n, (Lib.decDigits n).length + 1) := by
  rw [dg_dec most stop over hs n hn, dg, if_pos ⟨rfl, rfl⟩]
  simp [more, Nat.add_comm]
theorem dec_head (n : Nat) : ∃ c r, Lib.decDigits n = c :: r ∧ isDig c = true ∧ (c = 48 → n = 0) := by
  induction n using Nat.strongRecOn with
  | _ n ih =>
    by_cases h : n < 10
    · refine ⟨_, [], dec_small h, isDig_of h, fun e => ?_⟩
      have := congrArg UInt8.toNat e
      rw [u8_ofNat (by omega)] at this
      simp at this; omega
    · obtain ⟨c, r, e, hd, h0⟩ := ih (n / 10) (by omega)
      refine ⟨c, r ++ [UInt8.ofNat (48 + n % 10)], by rw [dec_big h, e]; rfl, hd, fun e => ?_⟩
      have := h0 e
      omega
theorem nd101 : isDig 101 = false := by decide
theorem grown_drewN {a w : World} {row : Option Nat} (h : a.grownBy w row) (n : Nat) : a.grownBy (w.drewN n) row := ⟨h.os, h.tape, h.output, h.size, h.block⟩
theorem grown_setCell {a w : World} {R : Nat} (h : a.grownBy w (some R)) (p : Addr) (hp : p.block = R) (u : Value) : a.grownBy (w.setCell p u) (some R) :=
  ⟨h.os, h.tape, h.output, by simpa using h.size, fun i hi hne => by
    rw [Below.heap_setCell w p u i (by rintro rfl; exact hne (by rw [hp]))]
    exact h.block i hi hne⟩
end Go.Proofs.YtoakhndbjggboaaDoor
