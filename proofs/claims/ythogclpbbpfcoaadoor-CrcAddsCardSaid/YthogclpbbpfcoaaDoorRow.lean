/- A row of bytes of the call's own, and bits of numbers. Conditions: none. -/
import Derived.Test.YthogclpbbpfcoaaDoorRef
import Derived.Laws.IdiomStrings
import Derived.Laws.BitsAllLaws
set_option linter.unusedVariables false
set_option linter.unusedSimpArgs false
namespace Go.Proofs.YthogclpbbpfcoaaDoor
open Go Go.RowKit

theorem sum_q (s : ByteArray) (w : World) (hs : s.size ≤ 100000) (hT : TabW w) (n : Nat) : Calls Tryd.prog 9 #[.string s] (w.drewN n) fun e w'' => e = .returned (.int .i64 ((crcS s).toNat : Int)) ∧ ∃ m, w'' = w.drewN m :=
  Calls.quiet_of_same ((sum_any s (w.drewN n) hs (show TabW (w.drewN n) from hT)).mono (fun _ _ h => ⟨h.1, h.2.symm⟩))
theorem awake_q (w : World) (hT : TabW w) (n : Nat) : Calls Tryd.prog 8 #[] (w.drewN n) fun e w'' => e = .returned (.bool true) ∧ ∃ m, w'' = w.drewN m :=
  Calls.quiet_of_same ((awake_any (w.drewN n) (show TabW (w.drewN n) from hT)).mono (fun _ _ h => ⟨h.1, h.2.symm⟩))
/-- The block g holds the bytes l, and may be written there. -/
def RowB (w : World) (g : Nat) (l : List UInt8) : Prop := ∃ (C : Array Value) (lo hi : Nat), w.heap[g]? = some (.cells C 5 (lo, hi)) ∧ (l.length ≤ lo ∨ hi = 0) ∧ ∀ j (hj : j < l.length), C[j]? = some (.int .u8 (l[j].toNat : Int))
section
variable {w : World} {g : Nat} {l : List UInt8}
theorem RowB.lt (h : RowB w g l) : g < w.heap.size := by
  obtain ⟨C, lo, hi, hh, _⟩ := h
  exact (Array.getElem?_eq_some_iff.1 hh).1
theorem RowB.cell (h : RowB w g l) {j : Nat} (hj : j < l.length) : w.cell? ⟨g, j, none⟩ = some (.int .u8 (l[j].toNat : Int)) := by
  obtain ⟨C, lo, hi, hh, _, hc⟩ := h
  simp only [World.cell?, hh]
  exact hc j hj
theorem RowB.frozen (h : RowB w g l) {j : Nat} (hj : j < l.length) : w.frozen? ⟨g, j, none⟩ = false := by
  obtain ⟨C, lo, hi, hh, hlo, hc⟩ := h
  simp only [World.frozen?, hh]
  rcases hlo with hlo | rfl
  · simp; omega
  · simp
theorem RowB.drewN (h : RowB w g l) (n : Nat) : RowB (w.drewN n) g l := h
theorem RowB.set (h : RowB w g l) {j : Nat} (hj : j < l.length) (b : UInt8) : RowB (w.setCell ⟨g, j, none⟩ (.int .u8 (b.toNat : Int))) g (l.set j b) := by
  obtain ⟨C, lo, hi, hh, hlo, hc⟩ := h
  refine ⟨C.setIfInBounds j (.int .u8 (b.toNat : Int)), lo, hi, ?_, by simpa using hlo, fun i hi' => ?_⟩
  · simp only [World.setCell, Array.getElem?_modify, hh]
    simp
  · have hi2 : i < l.length := by simpa using hi'
    have hCj := hc j hj
    have hjC : j < C.size := (Array.getElem?_eq_some_iff.1 hCj).1
    rw [Array.getElem?_setIfInBounds]
    by_cases hji : j = i
    · subst hji
      rw [if_pos rfl, if_pos hjC]
      simp
    · rw [if_neg hji, hc i hi2]
      simp [List.getElem_set, hji]
theorem RowB.conv (h : RowB w g l) (cap : Nat) (src dst : TypeId) (hs : Tryd.prog.underlying src = some (.slice 5)) (hd : Tryd.prog.underlying dst = some .string) : (convert src dst (.slice (some ⟨g, 0, none⟩) l.length cap)).run Tryd.prog w = .ok (.string ⟨l.toArray⟩) w :=
  run_convert_bytes_back w src dst 5 ⟨g, 0, none⟩ cap l hs Tryd.underlying5 hd (fun j hj => by
    rw [show (⟨g, 0, none⟩ : Addr).add j = ⟨g, j, none⟩ by unfold Addr.add; split <;> simp_all]
    exact h.cell hj)
end
theorem RowB.new (w : World) (C : Array Value) (lo hi : Nat) (l : List UInt8) (hlo : l.length ≤ lo ∨ hi = 0) (hc : ∀ j (hj : j < l.length), C[j]? = some (.int .u8 (l[j].toNat : Int))) : RowB (w.alloc (.cells C 5 (lo, hi))) w.heap.size l :=
  ⟨C, lo, hi, by show (w.heap.push _)[w.heap.size]? = _; simp, hlo, hc⟩
/-- What stands below is as it was where the row is written. -/
theorem below_setCell {B : Nat} {a w : World} (h : Below B a w) {p : Addr} (hp : B ≤ p.block) (v : Value) : Below B a (w.setCell p v) := by
  refine ⟨h.os, h.tape, h.output, by simpa using h.size, fun b hb => ?_⟩
  rw [← h.block b hb]
  simp only [World.setCell, Array.getElem?_modify]
  rw [if_neg (by omega)]
theorem below_drewN {B : Nat} {a w : World} (h : Below B a w) (n : Nat) : Below B a (w.drewN n) := ⟨h.os, h.tape, h.output, h.size, h.block⟩

theorem i64_and8 (n : Int) : bits .and .i64 n 255 = n % 256 := by
  have hm : (BitVec.ofInt 64 255).toNat = 2 ^ 8 - 1 := by decide
  have key : (BitVec.ofInt 64 n &&& BitVec.ofInt 64 255).toNat = (n % ((2 ^ 64 : Nat) : Int)).toNat % 2 ^ 8 := by
    rw [BitVec.toNat_and, BitVec.toNat_ofInt, hm, Nat.and_two_pow_sub_one_eq_mod]
  show IntKind.i64.wrap ((BitVec.ofInt 64 n &&& BitVec.ofInt 64 255).toNat : Nat) = n % 256
  rw [key, IntKind.wrap_i64]
  omega
theorem i64_and16 (n : Int) : bits .and .i64 n 65535 = n % 65536 := by
  have hm : (BitVec.ofInt 64 65535).toNat = 2 ^ 16 - 1 := by decide
  have key : (BitVec.ofInt 64 n &&& BitVec.ofInt 64 65535).toNat = (n % ((2 ^ 64 : Nat) : Int)).toNat % 2 ^ 16 := by
    rw [BitVec.toNat_and, BitVec.toNat_ofInt, hm, Nat.and_two_pow_sub_one_eq_mod]
  show IntKind.i64.wrap ((BitVec.ofInt 64 n &&& BitVec.ofInt 64 65535).toNat : Nat) = n % 65536
  rw [key, IntKind.wrap_i64]
  omega
theorem u8_xor_bytes (a b : UInt8) : bits .xor .u8 (a.toNat : Int) (b.toNat : Int) = ((a ^^^ b).toNat : Int) := by
  rw [u8_xor_nat _ _ (UInt8.toNat_lt a) (UInt8.toNat_lt b), UInt8.toNat_xor]
end Go.Proofs.YthogclpbbpfcoaaDoor
