/- A wheel that nobody made. Conditions: none. -/
import Derived.Test.YtfojempmgonahaaWhAwk
set_option linter.unusedVariables false
set_option linter.unusedSimpArgs false
set_option maxRecDepth 100000
namespace Go.Proofs.Ytfojempmgonahaa.Wh
open Go Go.RowKit Go.Maps
set_option maxHeartbeats 8000000 in
theorem nobody_walk (x n : Int) (w : World) : Calls Try.prog 7 #[.int .i64 x, .int .i64 n] w (Gives (.bool true) w) := by
  obtain ⟨W, hW⟩ : ∃ W, W = (w.alloc (.cells #[.pointer none, .int .i64 0, .map none, .map none] 53)).alloc (.cells #[.pointer none, .pointer (some ⟨w.heap.size, 0, none⟩)] 23) := ⟨_, rfl⟩
  have hb0 : Below w.heap.size w W := by rw [hW]; exact ((Below.refl _ w).alloc (Nat.le_refl _) _).alloc (by simp) _
  have r1 : Row W w.heap.size 53 [.pointer none, .int .i64 0, .map none, .map none] := by
    rw [hW]
    exact (Row.new w 53 [.pointer none, .int .i64 0, .map none, .map none]).keep (heap_alloc_lt _ _ (by simp))
  have r2 : Row W (w.heap.size + 1) 23 [.pointer none, .pointer (some ⟨w.heap.size, 0, none⟩)] := by
    have h := Row.new (w.alloc (.cells #[.pointer none, .int .i64 0, .map none, .map none] 53)) 23 [.pointer none, .pointer (some ⟨w.heap.size, 0, none⟩)]
    rw [World.size_alloc] at h
    rw [hW]
    exact h
  have v0 := r2.cell (j := 0) rfl
  have v1 := r2.cell (j := 1) rfl
  have vl := r2.lt
  have G0 := given_nil W
  have G1 := given_not r1
  have HW := Lib.hid hW
  have HB := Lib.hid hb0
  have HA := Lib.hid (awake_any W)
  have X0 := Lib.hid (And.intro (left_no G0 x) (And.intro (set_no G0 x n) (And.intro (cancel_no G0 x) (And.intro (len_no G0) (tick_no G0)))))
  have X1 := Lib.hid (And.intro (left_no G1 x) (And.intro (set_no G1 x n) (And.intro (cancel_no G1 x) (And.intro (len_no G1) (tick_no G1)))))
  clear hW hb0 r1 r2 G0 G1
  go_enter Try.func7, Try.ntmps7
  go_wp2_with fail
  rw [← HW.out]
  go_loopw [6] (fun s wr => ∃ k : Nat, s = .int .i64 (k : Int) ∧ k ≤ 2 ∧ wr = W) (fun s _ => (2 - intOf s).toNat)
  case atStart => exact ⟨0, rfl, by omega, rfl⟩
  case round =>
    obtain ⟨k, rfl, hk, hwr⟩ := hrel
    subst hwr
    rcases (show k = 0 ∨ k = 1 ∨ k = 2 by omega) with rfl | rfl | rfl
    · go_wp2_with (first
        | (go_at_call 14; refine X0.out.1.mono ?_; rintro e w1 ⟨rfl, rfl⟩)
        | (go_at_call 11; refine X0.out.2.1.mono ?_; rintro e w1 ⟨rfl, rfl⟩)
        | (go_at_call 13; refine X0.out.2.2.1.mono ?_; rintro e w1 ⟨rfl, rfl⟩)
        | (go_at_call 19; refine X0.out.2.2.2.1.mono ?_; rintro e w1 ⟨rfl, rfl⟩)
        | (go_at_call 18; refine X0.out.2.2.2.2.mono ?_; rintro e w1 ⟨rfl, rfl⟩))
      exact ⟨⟨1, by rfl, by omega, trivial⟩, by simp [intOf]⟩
    · go_wp2_with (first
        | (go_at_call 14; refine X1.out.1.mono ?_; rintro e w1 ⟨rfl, rfl⟩)
        | (go_at_call 11; refine X1.out.2.1.mono ?_; rintro e w1 ⟨rfl, rfl⟩)
        | (go_at_call 13; refine X1.out.2.2.1.mono ?_; rintro e w1 ⟨rfl, rfl⟩)
        | (go_at_call 19; refine X1.out.2.2.2.1.mono ?_; rintro e w1 ⟨rfl, rfl⟩)
        | (go_at_call 18; refine X1.out.2.2.2.2.mono ?_; rintro e w1 ⟨rfl, rfl⟩))
      exact ⟨⟨2, by rfl, by omega, trivial⟩, by simp [intOf]⟩
    · go_wp2_with fail
      refine HA.out.mono ?_
      rintro e w1 ⟨rfl, hb⟩
      go_wp2
      go_ret
      exact ⟨rfl, HB.out.trans (hb.mono HB.out.size)⟩
end Go.Proofs.Ytfojempmgonahaa.Wh
