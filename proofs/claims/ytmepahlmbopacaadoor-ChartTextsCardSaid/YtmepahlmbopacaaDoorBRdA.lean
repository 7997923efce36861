/- What the reader's small methods return: more, is, isDigit. Conditions: the reader's block is a reader. -/
import Derived.Test.YtmepahlmbopacaaDoorChecked
import Derived.Test.YtmepahlmbopacaaDoorBMem
import Derived.Test.YtmepahlmbopacaaDoorBMathD
import Derived.WalkKit
import Derived.BigQuiet
import Derived.Deep.QuietTactic
import Derived.LoopTactic
import Derived.Lib.Hide
import Derived.WalkSpells
import Derived.WalkLawsBesides
set_option linter.unusedVariables false
set_option linter.unusedSimpArgs false
namespace Go.Proofs.YtmepahlmbopacaaDoor.Be
open Go Go.RowKit

theorem ret_bool {a b : Bool} (h : a = b) : Ending.returned (.bool a) = .returned (.bool b) := by rw [h]
theorem ret_int {k : IntKind} {a b : Int} (h : a = b) : Ending.returned (.int k a) = .returned (.int k b) := by rw [h]
/-- A block that is a reader: its bytes, the next byte's place, how many lists are open. -/
def IsRd (w : World) (R : Nat) (s : ByteArray) (p d : Nat) : Prop := w.heap[R]? = some (.cells #[.string s, .int .i64 (p : Int), .int .i64 (d : Int)] 103 (0, 0))
section
variable {w w' : World} {R : Nat} {s : ByteArray} {p d : Nat}
theorem IsRd.lt (h : IsRd w R s p d) : R < w.heap.size := (Array.getElem?_eq_some_iff.1 h).1
theorem IsRd.c0 (h : IsRd w R s p d) : w.cell? ⟨R, 0, none⟩ = some (.string s) := by unfold IsRd at h; simp [World.cell?, h]
theorem IsRd.c1 (h : IsRd w R s p d) : w.cell? ⟨R, 1, none⟩ = some (.int .i64 (p : Int)) := by unfold IsRd at h; simp [World.cell?, h]
theorem IsRd.c2 (h : IsRd w R s p d) : w.cell? ⟨R, 2, none⟩ = some (.int .i64 (d : Int)) := by unfold IsRd at h; simp [World.cell?, h]
theorem IsRd.f (h : IsRd w R s p d) (j : Nat) : w.frozen? ⟨R, j, none⟩ = false := by unfold IsRd at h; simp [World.frozen?, h]
theorem IsRd.drewN (h : IsRd w R s p d) (n : Nat) : IsRd (w.drewN n) R s p d := h
theorem IsRd.drew (h : IsRd w R s p d) : IsRd w.drew R s p d := h
theorem IsRd.set1 (h : IsRd w R s p d) (p' : Nat) : IsRd (w.setCell ⟨R, 1, none⟩ (.int .i64 (p' : Int))) R s p' d := by
  have hl := h.lt
  unfold IsRd at h ⊢
  simp only [World.setCell, Array.getElem?_modify, h]
  simp
theorem IsRd.set2 (h : IsRd w R s p d) (d' : Nat) : IsRd (w.setCell ⟨R, 2, none⟩ (.int .i64 (d' : Int))) R s p d' := by
  have hl := h.lt
  unfold IsRd at h ⊢
  simp only [World.setCell, Array.getElem?_modify, h]
  simp
theorem IsRd.sc1 (h : IsRd w R s p d) (q : Nat) (v : Value) : ((w.drewN q).setCell ⟨R, 1, none⟩ v).cell? ⟨R, 1, none⟩ = some v := World.cell?_setCell_same _ _ _ (h.drewN q).c1
theorem IsRd.of (h : IsRd w R s p d) (e : w'.heap[R]? = w.heap[R]?) : IsRd w' R s p d := by unfold IsRd at *; rw [e]; exact h
end
/-- It only computes and draws. -/
def Quiet (v : Value) (w : World) (e : Ending) (w' : World) : Prop := e = .returned v ∧ ∃ q, w' = w.drewN q
theorem more_any (R : Nat) (s : ByteArray) (p d : Nat) (w : World) (h : IsRd w R s p d) : Calls Tryd.prog 86 #[.pointer (some ⟨R, 0, none⟩)] w (Quiet (.bool (decide (p < s.size))) w) := by
  have h0 := h.c0
  have h1 := h.c1
  go_enter Tryd.func86, Tryd.ntmps86
  go_wp2
  go_quiet (fail)
  go_wp2
  go_ret
  exact ⟨ret_bool (by simp), _, rfl⟩
theorem more_yes (R : Nat) (s : ByteArray) (p d : Nat) (w : World) (h : IsRd w R s p d) (hp : p < s.size) : Calls Tryd.prog 86 #[.pointer (some ⟨R, 0, none⟩)] w (Quiet (.bool true) w) := by
  have := more_any R s p d w h
  rwa [decide_eq_true hp] at this
theorem more_no (R : Nat) (s : ByteArray) (p d : Nat) (w : World) (h : IsRd w R s p d) (hp : ¬ p < s.size) : Calls Tryd.prog 86 #[.pointer (some ⟨R, 0, none⟩)] w (Quiet (.bool false) w) := by
  have := more_any R s p d w h
  rwa [decide_eq_false hp] at this
theorem isDigit_any (c : UInt8) (w : World) : Calls Tryd.prog 90 #[.int .u8 (c.toNat : Int)] w fun e w' => e = .returned (.bool (isDig c)) ∧ w = w' := by
  by_cases h0 : (48 : Int) ≤ (c.toNat : Int)
  · by_cases h1 : (c.toNat : Int) ≤ 57
    · have e : isDig c = true := isDig_iff.2 (by omega)
      rw [e]
      go_enter Tryd.func90, Tryd.ntmps90
      go_wp2
      go_ret
      exact ⟨rfl, rfl⟩
    · have e : isDig c = false := by rw [Bool.eq_false_iff, Ne, isDig_iff]; omega
      rw [e]
      go_enter Tryd.func90, Tryd.ntmps90
      go_wp2
      go_ret
      exact ⟨rfl, rfl⟩
  · have e : isDig c = false := by rw [Bool.eq_false_iff, Ne, isDig_iff]; omega
    rw [e]
    go_enter Tryd.func90, Tryd.ntmps90
    go_wp2
    go_ret
    exact ⟨rfl, rfl⟩
theorem is_no (R : Nat) (s : ByteArray) (p d : Nat) (c : UInt8) (w : World) (h : IsRd w R s p d) (hp : ¬ p < s.size) : Calls Tryd.prog 87 #[.pointer (some ⟨R, 0, none⟩), .int .u8 (c.toNat : Int)] w (Quiet (.bool false) w) := by
  have h0 := h.c0
  have h1 := h.c1
  have hd : decide (p < s.size) = false := decide_eq_false hp
  go_enter Tryd.func87, Tryd.ntmps87
  go_wp2_with fail
  go_quiet ((go_at_call 86; refine Calls.quiet_of (more_no R s p d _ h hp)))
  go_wp2
  go_ret
  exact ⟨rfl, _, rfl⟩
theorem u8_eq_cast {a b : UInt8} : ((a.toNat : Int) == (b.toNat : Int)) = (a == b) := by
  rw [Bool.eq_iff_iff, beq_iff_eq, beq_iff_eq, Int.ofNat_inj, UInt8.toNat_inj]
theorem is_in (R : Nat) (s : ByteArray) (p d : Nat) (c x : UInt8) (w : World) (h : IsRd w R s p d) (hp : p < s.size) (hs : s.size ≤ 1000000000) (hx : s[p] = x) : Calls Tryd.prog 87 #[.pointer (some ⟨R, 0, none⟩), .int .u8 (c.toNat : Int)] w (Quiet (.bool (x == c)) w) := by
  have h0 := h.c0
  have h1 := h.c1
  have hd : decide (p < s.size) = true := decide_eq_true hp
  have hpz : (p : Int) < (s.size : Int) := by omega
  have HX := Lib.hid hx
  clear hx
  go_enter Tryd.func87, Tryd.ntmps87
  go_wp2_with fail
  go_quiet ((go_at_call 86; refine Calls.quiet_of (more_yes R s p d _ h hp)))
  go_wp2
  go_ret
  refine ⟨ret_bool ?_, _, rfl⟩
  rw [← HX.out]
  first | exact u8_eq_cast | simp [u8_eq_cast]
end Go.Proofs.YtmepahlmbopacaaDoor.Be
