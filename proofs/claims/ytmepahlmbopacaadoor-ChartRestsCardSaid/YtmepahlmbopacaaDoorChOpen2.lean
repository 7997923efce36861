/- Arguments as they come in: pairs of numbers. Conditions: none. -/
import Derived.Test.YtmepahlmbopacaaDoorChOpen
set_option linter.unusedVariables false
set_option linter.unusedSimpArgs false
set_option maxRecDepth 100000
namespace Go.Proofs.YtmepahlmbopacaaDoor.Ct
open Go Go.ChangeShapes Go.WideShapes Go.ChangeAt Go.RowKit
theorem okWide_ary {P : Program} {w : World} {r : Reach} {base : Nat} {t e : TypeId} {n : Nat} {v : Value} (ht : P.underlying t = some (.array n e)) (h : Value.okWide P w r base t v) : ∃ cs, v = .agg cs ∧ cs.size = P.cellsOf t := by
  simp only [Value.okWide, ht] at h
  obtain ⟨cs, h1, h2, _⟩ := h
  exact ⟨cs, h1, h2⟩
theorem cells_i : Tryd.prog.cellsOf 3 = 1 := by kernel_rfl
theorem cells_2 : Tryd.prog.cellsOf 25 = 2 := by kernel_rfl
section
variable {H : Type} {enc : TypeId × Value → H} {W : World} {spare : Nat → Bool} {d : DataW H} {p : List MemPlace} {hd : Bool}
theorem open_2 {r : Reach} {b0 : Nat} {v : Value} (hv : Value.okWide Tryd.prog W r b0 25 v) (h : DataW.Trod enc Tryd.prog W 0 spare hd 25 v d p) :
    ∃ x y : Int, v = .agg #[.int .i64 x, .int .i64 y] := by
  obtain ⟨cs, rfl, hsz⟩ := okWide_ary Tryd.underlying25 hv
  obtain ⟨c0, c1, rfl⟩ := Go.Joins.array2 (hsz.trans cells_2)
  obtain ⟨fuel, hf⟩ := h
  obtain ⟨xs, m', _, _, _, hxl, he⟩ := DataW.trod_array Tryd.underlying25 hf
  rw [cells_i] at he
  have e0 := he 0 (by decide)
  have e1 := he 1 (by decide)
  rw [List.getElem?_eq_getElem (by omega)] at e0 e1
  obtain ⟨z0, g0, _, w0⟩ := DataW.trod_int Tryd.underlying3 e0
  obtain ⟨z1, g1, _, w1⟩ := DataW.trod_int Tryd.underlying3 e1
  simp [Value.cells] at g0 g1
  subst g0 g1
  exact ⟨z0, z1, rfl⟩
end
end Go.Proofs.YtmepahlmbopacaaDoor.Ct
