/- Arguments as they come in: slices of numbers read as lists. Conditions: none. -/
import Derived.Test.YtahgamjfglcenaaKit
import Derived.Test.YtahgamjfglcenaaChecked
import Derived.ProofKit
import Derived.OpenShut
set_option linter.unusedVariables false
set_option linter.unusedSimpArgs false
namespace Go.Proofs.Ytahgamjfglcenaa
open Go Go.ChangeShapes Go.WideShapes Go.ChangeAt Go.RowKit
theorem lt_of_cell {w : World} {p : Addr} {v : Value} (h : w.cell? p = some v) : p.block < w.heap.size := by
  rcases Nat.lt_or_ge p.block w.heap.size with h' | h'
  · exact h'
  · simp [World.cell?, Array.getElem?_eq_none h'] at h
theorem reads_arg {w : World} {a : Addr} {len : Nat} {zs : List Int} (hl : len ≤ zs.length) (hc : ∀ i, i < zs.length → w.cell? (a.add i) = some (.int .i64 (zs.getD i 0))) : Reads w w.heap.size 1 (some a) len (ints (zs.take len)) := by
  refine ⟨by simp [ints]; omega, fun h0 => ⟨a, rfl, ?_, fun j u hj => ?_⟩⟩
  · have := lt_of_cell (hc 0 (by omega))
    rwa [block_of_add] at this
  · have hj' := (List.getElem?_eq_some_iff.1 hj).1
    simp [ints] at hj'
    rw [hc j (by omega), ← hj]
    unfold ints
    simp only [List.getElem?_map]
    rw [List.getElem?_take, if_pos (by omega), List.getD_eq_getElem?_getD, List.getElem?_eq_getElem (by omega)]
    rfl
theorem open_l {H : Type} {enc : TypeId × Value → H} {W : World} {spare : Nat → Bool} {a : Option Addr} {len cap : Nat} {d : DataW H} {p : List MemPlace} {hd : Bool}
    (h : DataW.Trod enc Try.prog W 0 spare hd 22 (.slice a len cap) d p) : ∃ l, Reads W W.heap.size 1 a len (ints l) ∧ len ≤ maxLen := by
  obtain ⟨fuel, hf⟩ := h
  rcases open_ints Try.underlying22 Try.underlying3 (by kernel_rfl) hf with ⟨hcs, _⟩ | ⟨x, l, c, zs, hcs, _, hl, hm, hz, _, hcell, hwz⟩
  · simp [Value.cells] at hcs
    obtain ⟨rfl, rfl, rfl⟩ := hcs
    exact ⟨[], Reads.none_, by decide⟩
  · simp [Value.cells] at hcs
    obtain ⟨rfl, rfl, rfl⟩ := hcs
    refine ⟨zs.take len, reads_arg ?_ hcell, by omega⟩
    rw [hz]
    split <;> omega
end Go.Proofs.Ytahgamjfglcenaa
