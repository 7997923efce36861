/- The walk of CrcDigits: it returns true. Conditions: none. -/
import Derived.Test.YthogclpbbpfcoaaUnhex
set_option linter.unusedVariables false
set_option linter.unusedSimpArgs false
namespace Go.Proofs.Ythogclpbbpfcoaa
open Go Go.RowKit

def uR (s : ByteArray) : Nat × Nat := if s.size = 6 then uhRes s.data.toList else (0, 1)
def UOut (s : ByteArray) (w : World) (e : Ending) (w' : World) : Prop := e = .returned (.tuple #[.int .i64 ((uR s).1 : Int), .int .i64 ((uR s).2 : Int)]) ∧ w = w'
theorem unhex_any (s : ByteArray) (w : World) : Calls Try.prog 7 #[.string s] w (UOut s w) := by
  unfold UOut uR
  by_cases h : s.size = 6
  · rw [if_pos h]
    exact unhex_six s h w
  · rw [if_neg h]
    exact unhex_no s h w
theorem runhex_any (s : ByteArray) (w : World) : Calls Try.prog 8 #[.string s] w (UOut s w) := by
  unfold UOut uR
  by_cases h : s.size = 6
  · rw [if_pos h]
    exact runhex_six s h w
  · rw [if_neg h]
    exact runhex_no s h w
theorem hv_hexD : ∀ k : Fin 16, hv (hexD k.val) = (k.val : Int) := by decide +kernel
theorem uh_digit (k : Nat) (hk : k < 16) (l : List UInt8) (a : Nat) : uh (hexD k :: l) a = uh l (16 * a + k) := by
  have h := hv_hexD ⟨k, hk⟩
  simp only at h
  rw [uh, h, if_neg (by omega)]
  rfl
theorem uh_hexL (N : Nat) (hN : N < 16777216) : uhRes (hexL N) = (N, 0) := by
  have h : uh (hexL N) 0 = some N := by
    unfold hexL
    rw [uh_digit _ (by omega), uh_digit _ (by omega), uh_digit _ (by omega), uh_digit _ (by omega), uh_digit _ (by omega), uh_digit _ (by omega), uh]
    congr 1
    omega
  unfold uhRes
  rw [h]
theorem uR_hexL (N : Nat) (hN : N < 16777216) : uR ⟨(hexL N).toArray⟩ = (N, 0) := by
  unfold uR
  rw [if_pos (by rfl)]
  exact uh_hexL N hN
theorem below_then' {w w1 w2 : World} (h : Below w.heap.size w w1) (k : Below w1.heap.size w1 w2) : Below w.heap.size w w2 := h.trans (k.mono h.size)
theorem hex_known : hexL 2215682 = [50, 49, 99, 102, 48, 50] := by decide
theorem unhex_known : uR ⟨#[48, 48, 48, 48, 102, 102]⟩ = (255, 0) := by decide +kernel
set_option maxHeartbeats 2000000 in
theorem digits_any (w : World) : Calls Try.prog 9 #[] w (Gives (.bool true) w) := by
  have h1 := hex_ok 2215682 (by omega)
  rw [hex_known] at h1
  have h2 := unhex_any ⟨#[48, 48, 48, 48, 102, 102]⟩
  unfold UOut at h2
  rw [unhex_known] at h2
  have H1 := Lib.hid h1
  have H2 := Lib.hid h2
  clear h1 h2
  go_enter Try.func9, Try.ntmps9
  go_wp2_with fail
  refine (H1.out w).mono ?_
  rintro e w1 ⟨rfl, hb1⟩
  go_wp2_with fail
  refine (H2.out w1).mono ?_
  rintro e w2 ⟨rfl, rfl⟩
  go_wp2_with fail
  go_ret
  exact ⟨rfl, hb1⟩
set_option maxHeartbeats 4000000 in
set_option maxRecDepth 100000 in
theorem digits_in (N : Nat) (hN : N < 16777216) (s : ByteArray) (w : World) : Calls Try.prog 3 #[.int .i64 (N : Int), .string s] w (Gives (.bool true) w) := by
  have H1 := Lib.hid (hex_ok N hN)
  have H2 := Lib.hid (rhex_ok N hN)
  have h5 := unhex_any ⟨(hexL N).toArray⟩
  unfold UOut at h5
  rw [uR_hexL N hN] at h5
  have H3 := Lib.hid (unhex_any s)
  have H4 := Lib.hid (runhex_any s)
  have H5 := Lib.hid h5
  clear h5 hN
  unfold UOut at H3 H4
  generalize uR s = R at *
  obtain ⟨r1, r2⟩ := R
  generalize hS : (⟨(hexL N).toArray⟩ : ByteArray) = S at *
  clear hS
  go_enter Try.func3, Try.ntmps3
  go_wp2_with fail
  refine (H1.out w).mono ?_
  rintro e w1 ⟨rfl, hb1⟩
  go_wp2_with fail
  refine (H2.out w1).mono ?_
  rintro e w2 ⟨rfl, hb2⟩
  have hb12 := below_then' hb1 hb2
  go_wp2_with fail
  refine (H3.out w2).mono ?_
  rintro e w3 ⟨rfl, rfl⟩
  go_wp2_with fail
  refine (H4.out w2).mono ?_
  rintro e w3 ⟨rfl, rfl⟩
  go_wp2_with fail
  refine (H5.out w2).mono ?_
  rintro e w3 ⟨rfl, rfl⟩
  go_wp2_with fail
  refine (digits_any w2).mono ?_
  rintro e w3 ⟨rfl, hb3⟩
  go_wp2_with fail
  go_ret
  exact ⟨rfl, below_then' hb12 hb3⟩
set_option maxHeartbeats 4000000 in
set_option maxRecDepth 100000 in
theorem digits_out (n : Int) (hn : n < 0 ∨ 16777216 ≤ n) (s : ByteArray) (w : World) : Calls Try.prog 3 #[.int .i64 n, .string s] w (Gives (.bool true) w) := by
  have H1 := Lib.hid (hex_no n hn)
  have H2 := Lib.hid (rhex_no n hn)
  have H3 := Lib.hid (unhex_any s)
  have H4 := Lib.hid (runhex_any s)
  clear hn
  unfold UOut at H3 H4
  generalize uR s = R at *
  obtain ⟨r1, r2⟩ := R
  go_enter Try.func3, Try.ntmps3
  go_wp2_with fail
  refine (H1.out w).mono ?_
  rintro e w1 ⟨rfl, rfl⟩
  go_wp2_with fail
  refine (H2.out w).mono ?_
  rintro e w2 ⟨rfl, rfl⟩
  go_wp2_with fail
  refine (H3.out w).mono ?_
  rintro e w3 ⟨rfl, rfl⟩
  go_wp2_with fail
  refine (H4.out w).mono ?_
  rintro e w3 ⟨rfl, rfl⟩
  go_wp2_with fail
  refine (digits_any w).mono ?_
  rintro e w3 ⟨rfl, hb3⟩
  go_wp2_with fail
  go_ret
  exact ⟨rfl, hb3⟩
theorem crcDigits_walk (n : Int) (s : ByteArray) (w : World) : Calls Try.prog 3 #[.int .i64 n, .string s] w (Gives (.bool true) w) := by
  by_cases h : n < 0 ∨ 16777216 ≤ n
  · exact digits_out n h s w
  · obtain ⟨N, rfl⟩ : ∃ N : Nat, n = (N : Int) := ⟨n.toNat, by omega⟩
    exact digits_in N (by omega) s w
end Go.Proofs.Ythogclpbbpfcoaa
