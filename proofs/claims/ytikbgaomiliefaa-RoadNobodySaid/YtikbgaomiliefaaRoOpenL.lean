/- A letter that comes in. Conditions: none. -/
import Derived.Test.YtikbgaomiliefaaRoOpen
import Derived.Lib.SmallJoins
set_option linter.unusedVariables false
set_option linter.unusedSimpArgs false
namespace Go.Proofs.Ytikbgaomiliefaa.Ro
open Go Go.RowKit
section
variable {H : Type} {enc : TypeId × Value → H} {W : World} {spare : Nat → Bool} {d : DataW H} {p : List MemPlace} {hd : Bool}
theorem open_L {r : Reach} {b0 : Nat} {v : Value} (hv : Value.okWide Try.prog W r b0 34 v) (h : DataW.Trod enc Try.prog W 0 spare hd 34 v d p) :
    ∃ l : Lt, v = .agg #[.int .i64 l.1, .int .i64 l.2.1, .string l.2.2] := by
  obtain ⟨v0, v1, v2, y0, y1, y2, n, e, _, _, h0, h1, h2⟩ := Go.Joins.open_agg3 Try.underlying34 (by kernel_rfl) (by kernel_rfl) hv h
  obtain ⟨z0, g0, _, _⟩ := DataW.trod_int Try.underlying3 h0
  obtain ⟨z1, g1, _, _⟩ := DataW.trod_int Try.underlying3 h1
  obtain ⟨z2, g2, _, _⟩ := DataW.trod_string Try.underlying9 h2
  simp at g0 g1 g2
  subst g0 g1 g2
  exact ⟨(z0, z1, z2), e⟩
end
end Go.Proofs.Ytikbgaomiliefaa.Ro
