/- An argument that is a pair of numbers, by value. Conditions: none. -/
import Derived.Test.YtahgamjfglcenaaOpenB
import Derived.Lib.SmallJoins
set_option linter.unusedVariables false
set_option linter.unusedSimpArgs false
namespace Go.Proofs.Ytahgamjfglcenaa
open Go Go.ChangeShapes Go.WideShapes Go.ChangeAt Go.RowKit
section
variable {H : Type} {enc : TypeId × Value → H} {W : World} {spare : Nat → Bool} {d : DataW H} {p : List MemPlace} {hd : Bool}
theorem open_h {r : Reach} {b0 : Nat} {v : Value} (hv : Value.okWide Try.prog W r b0 37 v) (h : DataW.Trod enc Try.prog W 0 spare hd 37 v d p) : ∃ x y : Int, v = .agg #[.int .i64 x, .int .i64 y] := by
  obtain ⟨v0, v1, y0, y1, n, e, _, _, h0, h1⟩ := Go.Joins.open_agg2 Try.underlying37 (by kernel_rfl) cells37 hv h
  obtain ⟨z0, g0, _⟩ := DataW.trod_int Try.underlying3 h0
  obtain ⟨z1, g1, _⟩ := DataW.trod_int Try.underlying3 h1
  simp at g0 g1
  subst g0 g1
  exact ⟨z0, z1, e⟩
end
end Go.Proofs.Ytahgamjfglcenaa
