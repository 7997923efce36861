/- What Clean of the document's answers returns of a clean value. Conditions: the value reads as a tree of the three kinds with no other fields. -/
import Derived.Test.YtmepahlmbopacaaDoorBRefB
set_option linter.unusedVariables false
set_option linter.unusedSimpArgs false
namespace Go.Proofs.YtmepahlmbopacaaDoor.Be
open Go Go.RowKit

theorem cleanL_get : ∀ {l : List T} {k : Nat}, cleanL l = true → (hk : k < l.length) → cleanT l[k] = true
  | t :: ts, 0, h, _ => by simp only [cleanL, Bool.and_eq_true] at h; exact h.1
  | t :: ts, k + 1, h, hk => by
    simp only [cleanL, Bool.and_eq_true] at h
    exact cleanL_get h.2 (by simp at hk; omega : k < ts.length)
theorem kindsOkL_get : ∀ {l : List T} {k : Nat}, kindsOkL l = true → (hk : k < l.length) → kindsOk l[k] = true
  | t :: ts, 0, h, _ => by simp only [kindsOkL, Bool.and_eq_true] at h; exact h.1
  | t :: ts, k + 1, h, hk => by
    simp only [kindsOkL, Bool.and_eq_true] at h
    exact kindsOkL_get h.2 (by simp at hk; omega : k < ts.length)
theorem empty_of_size {s : ByteArray} (h : s.size = 0) : s = ⟨#[]⟩ := by
  apply ByteArray.ext
  exact Array.eq_empty_of_size_eq_zero h

end Go.Proofs.YtmepahlmbopacaaDoor.Be
