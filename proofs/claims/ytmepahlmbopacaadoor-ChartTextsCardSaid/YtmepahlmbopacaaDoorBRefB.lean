/- What Same and Clean of the document's answers return, whatever the values. Conditions: the values read as trees. -/
import Derived.Test.YtmepahlmbopacaaDoorBRefA
set_option linter.unusedVariables false
set_option linter.unusedSimpArgs false
namespace Go.Proofs.YtmepahlmbopacaaDoor.Be
open Go Go.RowKit

theorem sameL_step (l m : List T) (k : Nat) (hl : k < l.length) (hm : k < m.length) : sameL (l.drop k) (m.drop k) = (sameT l[k] m[k] && sameL (l.drop (k + 1)) (m.drop (k + 1))) := by
  rw [List.drop_eq_getElem_cons hl, List.drop_eq_getElem_cons hm, sameL]
theorem sameL_end (l m : List T) (k : Nat) (hl : l.length ≤ k) (hm : m.length ≤ k) : sameL (l.drop k) (m.drop k) = true := by
  rw [List.drop_eq_nil_of_le hl, List.drop_eq_nil_of_le hm, sameL]
  rfl
theorem sameL_len : ∀ l m : List T, l.length ≠ m.length → sameL l m = false
  | [], [], h => by simp at h
  | [], u :: us, _ => by simp [sameL]
  | t :: ts, [], _ => by simp [sameL]
  | t :: ts, u :: us, h => by
    rw [sameL, sameL_len ts us (by simpa using h), Bool.and_false]

theorem str_eq_dec (s s' : ByteArray) : (s.toList == s'.toList) = decide (s = s') := by
  rw [Bool.eq_iff_iff, beq_iff_eq, decide_eq_true_iff, Lib.toList_data, Lib.toList_data]
  constructor
  · intro h
    exact ByteArray.ext (Array.toList_inj.1 h)
  · rintro rfl; rfl
end Go.Proofs.YtmepahlmbopacaaDoor.Be
