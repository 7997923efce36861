/- Loads of what lies in a list. Conditions: none. -/
import Derived.Test.YtbjjgjifaomdlaaMvLs
import Derived.Test.YtbjjgjifaomdlaaMvOpen
set_option linter.unusedVariables false
set_option linter.unusedSimpArgs false
set_option maxRecDepth 100000
namespace Go.Proofs.Ytbjjgjifaomdlaa.Mv
open Go Go.RowKit
open Po (M msgV)
/-- Cells from an address on. -/
def NC (g : Addr) (xs : List Value) (W : World) : Prop := ∀ (j : Nat) u, xs[j]? = some u → W.cell? (g.add j) = some u
theorem add_zero (g : Addr) : g.add 0 = g := by simp [Addr.add]
theorem NC.below {g : Addr} {xs : List Value} {w w2 : World} {B : Nat} (h : NC g xs w) (hg : g.block < B) (hb : Below B w w2) : NC g xs w2 := fun j u hj => (hb.cell (by rw [block_of_add]; exact hg)).trans (h j u hj)
theorem NC.heap {g : Addr} {xs : List Value} {w w2 : World} (h : NC g xs w) (e : w2.heap[g.block]? = w.heap[g.block]?) : NC g xs w2 := fun j u hj => by
  rw [← h j u hj]
  have : (g.add j).block = g.block := block_of_add g j
  simp only [World.cell?, this, e]
theorem act18 : (Try.prog.info? 44).map (·.size) = some 18 := by kernel_rfl
theorem run_at (w : World) (g : Addr) (ty : TypeId) (cs : List Value) (d : TypeDesc) (hc : NC g cs w) (hu : Try.prog.underlying ty = some d) (hd : d.isRow = true) (hi : (Try.prog.info? ty).map (·.size) = some cs.length) :
    (loadVar ty g).run Try.prog w = .ok (.agg cs.toArray) w := by
  have hl : (loadCells g cs.length).run Try.prog w = .ok cs.toArray w := run_loadCells_list (P := Try.prog) w g cs hc
  cases hq : Try.prog.info? ty with
  | none => simp [hq] at hi
  | some i =>
    have hs : i.size = cs.length := by simpa [hq] using hi
    have hagg : (isAgg ty).run Try.prog w = .ok true w := by
      unfold isAgg
      rw [Sem.run_bind, run_underlying hu w]
      cases d <;> simp_all
    simp [loadVar, Sem.run_bind, hagg, sizeOf, typeInfo, hq, hs, hl]
section
variable {ops : Array Oper} {rest : List Oper} {o : Oper} {a : Act} {Q : Exit → Act → World → Prop} {W : World}
theorem ld_act {g : Addr} {cs : List Value} (hc : NC g cs W) (hl : cs.length = 18) (hgd : o.guard = none) (x : Operand) (ho : o.op = .load 44 x) (hx : a.eval x = .pointer (some g))
    (h : wpList Try.prog ops Q rest (a.put o.dst (.agg cs.toArray)) W) : wpList Try.prog ops Q (o :: rest) a W := by
  refine wpList_plain hgd fun K hK => ?_
  unfold Oper.wp execOp
  simp only [ho, hx, Instr.loadAt, Instr.sureAddr, Sem.run_bind, Sem.run_pure, Result.andThen_ok, run_at W g _ cs _ hc Try.underlying44 rfl (by rw [hl]; exact act18)]
  exact hK _ _ h
end
theorem yields_at {o : Oper} {ρ : Operand → Value} {g : Addr} {xs : List Value} {w : World} (h : NC g xs w) (hl : xs.length = 16) (x : Operand) (ho : o.op = .load 42 x) (hx : ρ x = .pointer (some g)) : (execOp ρ o).run Try.prog w = .ok (.value (.agg xs.toArray)) w := by
  unfold execOp
  simp only [ho, hx, Instr.loadAt, Instr.sureAddr, Sem.run_bind, Sem.run_pure, Result.andThen_ok, run_at w g _ xs _ h Try.underlying42 rfl (by rw [hl]; exact Po.msg16)]
end Go.Proofs.Ytbjjgjifaomdlaa.Mv
