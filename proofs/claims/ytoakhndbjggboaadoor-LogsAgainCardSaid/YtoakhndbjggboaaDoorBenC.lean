/- A number of a reader, a byte that is the next one. Conditions: the reader's block is a reader. -/
import Derived.Test.YtoakhndbjggboaaDoorBenB
set_option linter.unusedVariables false
set_option linter.unusedSimpArgs false
namespace Go.Proofs.YtoakhndbjggboaaDoor
open Go Go.RowKit
theorem digits_ok (R : Nat) (s : ByteArray) (p d : Nat) (most : Nat) (M : Int) (hM : M = (most : Int)) (stop : UInt8) (z : Int) (hz : z = (stop.toNat : Int)) (over : Int) (w : World) (h : IsRd w R s p d) (hs : s.size ≤ 1000000000) (hm0 : 9 ≤ most) (hm1 : most ≤ 9223372036854775808) (hst : isDig stop = false)
    (n k : Nat) (hx : dg most stop over true 0 (s.data.toList.drop p) = .ok (n, k)) :
    Calls Tryd.prog 90 #[.pointer (some ⟨R, 0, none⟩), .int .u64 M, .int .u8 z, .int .i64 over] w fun e w' => e = .returned (.tuple #[.int .u64 n, .int .i64 0]) ∧ IsRd w' R s (p + k) d ∧ w.grownBy w' (some R) := by
  subst hM hz
  have := digits_any R s p d most stop over w h hs hm0 hm1 hst
  rw [hx] at this
  exact this
theorem is_z (R : Nat) (s : ByteArray) (p d : Nat) (c : UInt8) (z : Int) (hz : z = (c.toNat : Int)) (b : Bool) (w : World) (h : IsRd w R s p d) (hs : s.size ≤ 1000000000) (hb : b = ((s.data.toList.drop p).head? == some c)) : Calls Tryd.prog 81 #[.pointer (some ⟨R, 0, none⟩), .int .u8 z] w (Quiet (.bool b) w) := by
  subst hz
  by_cases hp : p < s.size
  · rw [drop_cons s p hp] at hb
    have := is_in R s p d c s[p] w h hp hs rfl
    rw [hb]
    simpa using this
  · rw [drop_nil s p hp] at hb
    have := is_no R s p d c w h hp
    rw [hb]
    simpa using this
end Go.Proofs.YtoakhndbjggboaaDoor
