/- What Take tells of six to nine lists within each other: plain. Conditions: none. -/
import Derived.Test.YtcgcocnbjijdaaaDoorLawB
set_option linter.unusedVariables false
set_option linter.unusedSimpArgs false
namespace Go.Proofs.YtcgcocnbjijdaaaDoor
open Go Go.RowKit

/-- So many lists within each other, the innermost empty. -/
def chainT : Nat → T
  | 0 => .mk 3 0 .empty []
  | m + 1 => .mk 3 0 .empty [chainT m]
theorem chain_kinds : ∀ m, kindsOk (chainT m) = true
  | 0 => rfl
  | m + 1 => by simp [chainT, kindsOk, kindsOkL, chain_kinds m]
theorem chain_wf : ∀ m, wfT (chainT m) = true
  | 0 => by simp [chainT, wfT, wfL]
  | m + 1 => by simp [chainT, wfT, wfL, chain_wf m]
theorem chain_tidy : ∀ m, tidy (chainT m) = chainT m
  | 0 => by simp [chainT, tidy, tidyL]
  | m + 1 => by simp [chainT, tidy, tidyL, chain_tidy m]
theorem chain_enc : ∀ m, enc (chainT m) = List.replicate (m + 1) 108 ++ List.replicate (m + 1) 101
  | 0 => by simp [chainT, enc_list, encL, List.replicate]
  | m + 1 => by
    rw [chainT, enc_list, encL, encL, chain_enc m]
    have e : List.replicate m (101 : UInt8) ++ [101] = 101 :: List.replicate m 101 := by rw [← List.replicate_succ, ← List.replicate_succ']
    simp [List.replicate_succ, e]
theorem chain_deep : ∀ m, deepT (chainT m) = m + 1
  | 0 => by simp [chainT, deepT, deepL]
  | m + 1 => by simp [chainT, deepT, deepL, chain_deep m]
theorem chain_take (m : Nat) (h : m ≤ 7) : takeRes (List.replicate (m + 1) 108 ++ List.replicate (m + 1) 101) = .ok (chainT m, 2 * (m + 1)) := by
  have he := chain_enc m
  have h1 := rd_enc (chainT m) 0 [] (chain_kinds m) (chain_wf m) (by rw [chain_deep]; omega) (by rw [he]; simp; omega)
  rw [List.append_nil, he, chain_tidy] at h1
  unfold takeRes
  rw [h1]
  simp only [List.length_append, List.length_replicate]
  rw [if_neg (by omega), show m + 1 + (m + 1) = 2 * (m + 1) by omega]
theorem rd_down (r : List UInt8) (w : Nat) (h : rd (108 :: r) (w + 1) = .error 22) (hw : w < 8) : rd (108 :: 108 :: r) w = .error 22 := by
  rw [rd]
  rw [if_neg (by decide), if_neg (by decide), if_pos rfl]
  rw [if_neg (by omega), rdL, if_neg (by decide), h]
theorem rd_stop (r : List UInt8) : rd (108 :: r) 8 = .error 22 := by
  rw [rd]
  rw [if_neg (by decide), if_neg (by decide), if_pos rfl, if_pos (by omega)]
theorem chain_no : takeRes (List.replicate 9 108 ++ List.replicate 9 101) = .error 22 := by
  have h : ∀ r, rd (108 :: 108 :: 108 :: 108 :: 108 :: 108 :: 108 :: 108 :: 108 :: r) 0 = .error 22 := fun r =>
    rd_down _ 0 (rd_down _ 1 (rd_down _ 2 (rd_down _ 3 (rd_down _ 4 (rd_down _ 5 (rd_down _ 6 (rd_down _ 7 (rd_stop r) (by omega)) (by omega)) (by omega)) (by omega)) (by omega)) (by omega)) (by omega)) (by omega)
  unfold takeRes
  rw [show List.replicate 9 (108 : UInt8) ++ List.replicate 9 101 = 108 :: 108 :: 108 :: 108 :: 108 :: 108 :: 108 :: 108 :: 108 :: List.replicate 9 101 from rfl, h]
end Go.Proofs.YtcgcocnbjijdaaaDoor
