/- Frames one behind the other: where each ends, how many are whole within so many bytes: plain. Conditions: none. -/
import Derived.Test.YtdcinfomgldalaaDoorLawB
set_option linter.unusedVariables false
set_option linter.unusedSimpArgs false
namespace Go.Proofs.YtdcinfomgldalaaDoor
open Go Go.RowKit

/-- How long texts are together, each counted up to 4096. -/
def sl : List (List UInt8) → Nat
  | [] => 0
  | t :: ts => min t.length 4096 + sl ts
theorem sl_append (a b : List (List UInt8)) : sl (a ++ b) = sl a + sl b := by
  induction a with
  | nil => simp [sl]
  | cons t a ih => rw [List.cons_append, sl, sl, ih]; omega
theorem sl_take (ts : List (List UInt8)) (k : Nat) (hk : k < ts.length) : sl (ts.take (k + 1)) = sl (ts.take k) + min (ts.getD k []).length 4096 := by
  rw [List.take_succ_eq_append_getElem hk, sl_append, List.getD_eq_getElem?_getD, List.getElem?_eq_getElem hk]
  rfl
theorem sl_le (ts : List (List UInt8)) : sl ts ≤ ts.length * 4096 := by
  induction ts with
  | nil => simp [sl]
  | cons t ts ih => rw [sl, List.length_cons]; omega
theorem sl_mem {ts : List (List UInt8)} (h : sl ts ≤ 2048) : ∀ t ∈ ts, t.length ≤ 2048 := by
  induction ts with
  | nil => simp
  | cons t ts ih =>
    rw [sl] at h
    intro u hu
    rcases List.mem_cons.1 hu with rfl | hu
    · omega
    · exact ih (by omega) u hu
theorem sl_encs {ts : List (List UInt8)} (h : sl ts ≤ 2048) : (encs ts).length = sl ts + 14 * ts.length := by
  induction ts with
  | nil => simp [encs, sl]
  | cons t ts ih =>
    have hm := sl_mem h t (List.mem_cons_self ..)
    rw [sl] at h
    rw [encs_cons, List.length_append, enc_len, sl, List.length_cons, ih (by omega)]
    omega
/-- Where each of the first k frames ends. -/
def endsL (ts : List (List UInt8)) (k : Nat) : List Int := (List.range k).map fun j => ((encs (ts.take (j + 1))).length : Int)
theorem endsL_len (ts : List (List UInt8)) (k : Nat) : (endsL ts k).length = k := by simp [endsL]
theorem endsL_next (ts : List (List UInt8)) (k : Nat) : endsL ts (k + 1) = endsL ts k ++ [((encs (ts.take (k + 1))).length : Int)] := by
  unfold endsL
  rw [List.range_succ, List.map_append]
  rfl
theorem endsL_at (ts : List (List UInt8)) (k j : Nat) (h : j < k) : (endsL ts k).getD j 0 = ((encs (ts.take (j + 1))).length : Int) := by
  unfold endsL
  rw [List.getD_eq_getElem?_getD, List.getElem?_map, List.getElem?_range h]
  rfl
theorem wh_iff : ∀ (ts : List (List UInt8)) (K j : Nat), j < wh ts K ↔ j < ts.length ∧ (encs (ts.take (j + 1))).length ≤ K
  | [], K, j => by simp [wh]
  | t :: ts, K, j => by
    rw [wh, List.take_succ_cons, encs_cons, List.length_append, enc_len, List.length_cons]
    by_cases h : t.length + 14 ≤ K
    · rw [if_pos h]
      cases j with
      | zero => rw [List.take_zero, encs_nil, List.length_nil]; omega
      | succ j =>
        have := wh_iff ts (K - (t.length + 14)) j
        omega
    · rw [if_neg h]
      omega
theorem wh_le (ts : List (List UInt8)) (K : Nat) : wh ts K ≤ ts.length := by
  rcases Nat.eq_zero_or_pos (wh ts K) with h | h
  · omega
  · have := ((wh_iff ts K (wh ts K - 1)).1 (by omega)).1
    omega
end Go.Proofs.YtdcinfomgldalaaDoor
