/- What Less of package vec, and that of the document's answers, return; and Same. Conditions: none. -/
import Derived.Test.YtkgapieikgniiaaVHits
set_option linter.unusedVariables false
set_option linter.unusedSimpArgs false
namespace Go.Proofs.Ytkgapieikgniiaa
open Go Go.RowKit
theorem hlt_far {a b : Hit} (h : (a.2 != b.2) = true) : hlt a b = decide (a.2 < b.2) := by
  rw [bne_iff_ne] at h
  rw [Bool.eq_iff_iff, hlt_iff, decide_eq_true_iff]
  omega
theorem hlt_near {a b : Hit} (h : (a.2 != b.2) = false) : hlt a b = decide (a.1 < b.1) := by
  rw [bne_eq_false_iff_eq] at h
  rw [Bool.eq_iff_iff, hlt_iff, decide_eq_true_iff]
  omega
set_option maxHeartbeats 1000000 in
theorem less_any (a b : Hit) (w : World) : Calls Try.prog 53 #[hitV a, hitV b] w (Gives (.bool (hlt a b)) w) := by
  have HB : Hid (Below w.heap.size w ((w.alloc (.cells #[.int .i64 a.1, .int .i64 a.2] 57)).alloc (.cells #[.int .i64 b.1, .int .i64 b.2] 57))) := Lib.hid (((Below.refl _ w).alloc (Nat.le_refl _) _).alloc (by simp) _)
  unfold hitV
  cases hd : a.2 != b.2 with
  | true =>
    have HL := Lib.hid (hlt_far hd)
    go_enter Try.func53, Try.ntmps53
    go_wp2
    go_ret
    exact ⟨ret_bool HL.out.symm, HB.out⟩
  | false =>
    have HL := Lib.hid (hlt_near hd)
    go_enter Try.func53, Try.ntmps53
    go_wp2
    go_ret
    exact ⟨ret_bool HL.out.symm, HB.out⟩
set_option maxHeartbeats 1000000 in
theorem rless_any (a b : Hit) (w : World) : Calls Try.prog 60 #[hitV a, hitV b] w (Gives (.bool (hlt a b)) w) := by
  have HB : Hid (Below w.heap.size w ((w.alloc (.cells #[.int .i64 a.1, .int .i64 a.2] 57)).alloc (.cells #[.int .i64 b.1, .int .i64 b.2] 57))) := Lib.hid (((Below.refl _ w).alloc (Nat.le_refl _) _).alloc (by simp) _)
  unfold hitV
  cases hd : a.2 != b.2 with
  | true =>
    have HL := Lib.hid (hlt_far hd)
    go_enter Try.func60, Try.ntmps60
    go_wp2
    go_ret
    exact ⟨ret_bool HL.out.symm, HB.out⟩
  | false =>
    have HL := Lib.hid (hlt_near hd)
    go_enter Try.func60, Try.ntmps60
    go_wp2
    go_ret
    exact ⟨ret_bool HL.out.symm, HB.out⟩
end Go.Proofs.Ytkgapieikgniiaa
