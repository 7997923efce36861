/- Arguments as they come in: charts, moves, lists of numbers, pairs of numbers. Conditions: none. -/
import Derived.Test.YtmepahlmbopacaaDoorChCheck
import Derived.Test.YtmepahlmbopacaaDoorChecked
import Derived.ProofKit
import Derived.OpenShut
import Derived.Lib.SmallJoins
import Derived.Deep.Slices
set_option linter.unusedVariables false
set_option linter.unusedSimpArgs false
set_option maxRecDepth 100000
namespace Go.Proofs.YtmepahlmbopacaaDoor.Ct
open Go Go.ChangeShapes Go.WideShapes Go.ChangeAt Go.RowKit
theorem lt_of_cell {w : World} {p : Addr} {v : Value} (h : w.cell? p = some v) : p.block < w.heap.size := by
  rcases Nat.lt_or_ge p.block w.heap.size with h' | h'
  · exact h'
  · simp [World.cell?, Array.getElem?_eq_none h'] at h
theorem reads_arg {w : World} {a : Addr} {len : Nat} {zs : List Int} (hl : len ≤ zs.length) (hc : ∀ i, i < zs.length → w.cell? (a.add i) = some (.int .i64 (zs.getD i 0))) : Reads w w.heap.size 1 (some a) len (ints (zs.take len)) := by
  refine ⟨by simp [ints]; omega, fun h0 => ⟨a, rfl, ?_, fun j u hj => ?_⟩⟩
  · have := lt_of_cell (hc 0 (by omega))
    rwa [block_of_add] at this
  · have hj' := (List.getElem?_eq_some_iff.1 hj).1
    simp [ints] at hj'
    rw [hc j (by omega), ← hj]
    unfold ints
    simp only [List.getElem?_map]
    rw [List.getElem?_take, if_pos (by omega), List.getD_eq_getElem?_getD, List.getElem?_eq_getElem (by omega)]
    rfl
section
variable {H : Type} {enc : TypeId × Value → H} {W : World} {spare : Nat → Bool} {hd : Bool}
theorem open_lf {fuel : Nat} {cs : List Value} {x : DataW H × List MemPlace} (hf : DataW.trod enc Tryd.prog W 0 spare hd fuel 22 cs = some x) :
    ∃ a len cap l, cs = [.slice a len cap] ∧ Reads W W.heap.size 1 a len (ints l) ∧ len ≤ cap ∧ cap ≤ maxLen := by
  rcases open_ints Tryd.underlying22 Tryd.underlying3 (by kernel_rfl) hf with ⟨hcs, _⟩ | ⟨x, l, c, zs, hcs, _, hl, hm, hz, _, hcell, hwz⟩
  · exact ⟨none, 0, 0, [], hcs, Reads.none_, Nat.le_refl _, by decide⟩
  · refine ⟨some x, l, c, zs.take l, hcs, reads_arg ?_ hcell, hl, hm⟩
    rw [hz]
    split <;> omega
theorem open_cl {a : Option Addr} {len cap : Nat} {d : DataW H} {p : List MemPlace} (h : DataW.Trod enc Tryd.prog W 0 spare hd 22 (.slice a len cap) d p) : ∃ l, Reads W W.heap.size 1 a len (ints l) ∧ len ≤ maxLen := by
  obtain ⟨fuel, hf⟩ := h
  obtain ⟨a', len', cap', l, hcs, hR, h1, h2⟩ := open_lf hf
  simp [Value.cells] at hcs
  obtain ⟨rfl, rfl, rfl⟩ := hcs
  exact ⟨l, hR, Nat.le_trans h1 h2⟩
theorem cells_ch : Tryd.prog.cellsOf 24 = 2 := by kernel_rfl
theorem cells_mv : Tryd.prog.cellsOf 39 = 3 := by kernel_rfl
theorem open_C {r : Reach} {b0 : Nat} {v : Value} {d : DataW H} {p : List MemPlace} (hv : Value.okWide Tryd.prog W r b0 24 v) (h : DataW.Trod enc Tryd.prog W 0 spare hd 24 v d p) :
    ∃ (x : Int) (A : Option Addr) (n c : Nat) (l : List Int), v = .agg #[.int .i64 x, .slice A n c] ∧ Reads W W.heap.size 1 A n (ints l) ∧ n ≤ c ∧ c ≤ maxLen := by
  obtain ⟨v0, v1, y0, y1, n, e, _, _, h0, h1⟩ := Go.Joins.open_agg2 Tryd.underlying24 (by kernel_rfl) cells_ch hv h
  obtain ⟨z0, g0, _, wz⟩ := DataW.trod_int Tryd.underlying3 h0
  simp at g0
  subst g0
  obtain ⟨a, len, cap, l, hcs, hR, q1, q2⟩ := open_lf (cs := [v1]) (by simpa using h1)
  simp at hcs
  subst hcs
  exact ⟨z0, a, len, cap, l, e, hR, q1, q2⟩
theorem open_M {r : Reach} {b0 : Nat} {v : Value} {d : DataW H} {p : List MemPlace} (hv : Value.okWide Tryd.prog W r b0 39 v) (h : DataW.Trod enc Tryd.prog W 0 spare hd 39 v d p) :
    ∃ m : Mv, v = .agg #[.int .i64 m.s, .int .i64 m.f, .int .i64 m.t] := by
  obtain ⟨v0, v1, v2, y0, y1, y2, n, e, _, _, h0, h1, h2⟩ := Go.Joins.open_agg3 Tryd.underlying39 (by kernel_rfl) cells_mv hv h
  obtain ⟨z0, g0, _, _⟩ := DataW.trod_int Tryd.underlying3 h0
  obtain ⟨z1, g1, _, _⟩ := DataW.trod_int Tryd.underlying3 h1
  obtain ⟨z2, g2, _, _⟩ := DataW.trod_int Tryd.underlying3 h2
  simp at g0 g1 g2
  subst g0 g1 g2
  exact ⟨⟨z0, z1, z2⟩, e⟩
end
end Go.Proofs.YtmepahlmbopacaaDoor.Ct
