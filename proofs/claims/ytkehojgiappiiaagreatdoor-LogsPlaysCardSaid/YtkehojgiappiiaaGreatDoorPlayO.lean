/- LogsPlays' argument as it comes in: a slice of calls. Conditions: none. -/
import Derived.Test.YtkehojgiappiiaaGreatDoorPlayI
import Derived.ProofKit
import Derived.OpenShut
import Derived.Lib.SmallJoins
import Derived.Deep.Slices
import Derived.SliceStrings
import Derived.DataShut
set_option linter.unusedVariables false
set_option linter.unusedSimpArgs false
set_option maxRecDepth 100000
namespace Go.Proofs.YtkehojgiappiiaaGreatDoor
open Go Go.ChangeShapes Go.WideShapes Go.ChangeAt Go.RowKit
theorem plt_of_cell {w : World} {p : Addr} {v : Value} (h : w.cell? p = some v) : p.block < w.heap.size := by
  rcases Nat.lt_or_ge p.block w.heap.size with h' | h'
  · exact h'
  · simp [World.cell?, Array.getElem?_eq_none h'] at h
theorem preads_arg {w : World} {a : Addr} {len : Nat} {ss : List ByteArray} (hl : len ≤ ss.length) (hc : ∀ i, i < ss.length → w.cell? (a.add i) = some (.string (ss.getD i ByteArray.empty))) : Reads w w.heap.size 1 (some a) len (strL ((ss.take len).map fun s => s.data.toList)) := by
  refine ⟨by rw [strL_len, List.length_map, List.length_take]; omega, fun h0 => ⟨a, rfl, ?_, fun j u hj => ?_⟩⟩
  · have := plt_of_cell (hc 0 (by omega))
    rwa [block_of_add] at this
  · have hj' := (List.getElem?_eq_some_iff.1 hj).1
    rw [strL_len, List.length_map, List.length_take] at hj'
    rw [hc j (by omega), ← hj]
    unfold strL
    rw [List.getElem?_map, List.getElem?_map, List.getElem?_take, if_pos (by omega), List.getD_eq_getElem?_getD, List.getElem?_eq_getElem (by omega)]
    rfl
theorem pbounds {n : Int} (h : (Lit.int .i64 n).wf = true) : -9223372036854775808 ≤ n ∧ n ≤ 9223372036854775807 := by
  have := (Lit.wf_int_iff .i64 n).1 h
  have h1 : IntKind.i64.min = -9223372036854775808 := by decide
  have h2 : IntKind.i64.max = 9223372036854775807 := by decide
  rw [h1, h2] at this
  exact this
theorem ptrod_struct5 {H : Type} {P : Program} {w : World} {base : Nat} {enc : TypeId × Value → H} {spare : Nat → Bool} {held : Bool} {t : TypeId} {f0 f1 f2 f3 f4 : Field} {fuel : Nat} {cs : List Value} {x : DataW H × List MemPlace} (ht : P.underlying t = some (.struct #[f0, f1, f2, f3, f4])) (h : DataW.trod enc P w base spare held fuel t cs = some x) :
    ∃ y0 y1 y2 y3 y4 n, DataW.trod enc P w base spare held n f0.type ((cs.drop f0.offset).take (P.cellsOf f0.type)) = some y0 ∧
      DataW.trod enc P w base spare held n f1.type ((cs.drop f1.offset).take (P.cellsOf f1.type)) = some y1 ∧ DataW.trod enc P w base spare held n f2.type ((cs.drop f2.offset).take (P.cellsOf f2.type)) = some y2 ∧
      DataW.trod enc P w base spare held n f3.type ((cs.drop f3.offset).take (P.cellsOf f3.type)) = some y3 ∧ DataW.trod enc P w base spare held n f4.type ((cs.drop f4.offset).take (P.cellsOf f4.type)) = some y4 := by
  obtain ⟨xs, n, _, rfl, hl, hlen, hf⟩ := DataW.trod_struct ht h
  match xs, hlen with
  | [y0, y1, y2, y3, y4], _ => exact ⟨y0, y1, y2, y3, y4, n, by simpa using hf 0 f0 rfl, by simpa using hf 1 f1 rfl, by simpa using hf 2 f2 rfl, by simpa using hf 3 f3 rfl, by simpa using hf 4 f4 rfl⟩
theorem cells31 : Tryz.prog.cellsOf 31 = 5 := by kernel_rfl
theorem pcells3 : Tryz.prog.cellsOf 3 = 1 := by kernel_rfl
theorem pcells9 : Tryz.prog.cellsOf 9 = 1 := by kernel_rfl
theorem pcellsL : Tryz.prog.cellsOf 23 = 1 := by kernel_rfl
section
variable {H : Type} {enc : TypeId × Value → H} {W : World} {spare : Nat → Bool} {a : Option Addr} {len cap : Nat} {d : DataW H} {p : List MemPlace} {hd : Bool}
theorem open_L {A : Option Addr} {n c fuel : Nat} {x : DataW H × List MemPlace} (hf : DataW.trod enc Tryz.prog W 0 spare hd fuel 23 [.slice A n c] = some x) :
    ∃ zs, Reads W W.heap.size 1 A n (strL zs) ∧ n ≤ c ∧ c ≤ maxLen ∧ (A = none → c = 0) := by
  rcases open_strings Tryz.underlying23 Tryz.underlying9 (by kernel_rfl) hf with ⟨hcs, _⟩ | ⟨x, l, c, zs, hcs, _, hl, hm, hz, _, hcell, hwz⟩
  · simp at hcs
    obtain ⟨rfl, rfl, rfl⟩ := hcs
    exact ⟨[], Reads.none_, Nat.le_refl _, Nat.zero_le _, fun _ => rfl⟩
  · simp at hcs
    obtain ⟨rfl, rfl, rfl⟩ := hcs
    exact ⟨_, preads_arg (by rw [hz]; split <;> omega) hcell, hl, hm, fun e => (by cases e)⟩
theorem open_O (h : DataW.Trod enc Tryz.prog W 0 spare hd 22 (.slice a len cap) d p) : OpsAt W W.heap.size a len ∧ len ≤ maxLen := by
  obtain ⟨fuel, hf⟩ := h
  rcases Go.Deep.open_slice Tryz.underlying22 hf with ⟨hcs, _⟩ | ⟨x, l, c, m, n, D, Pl, hcs, _, hl, hm, hmm, _, hx⟩
  · simp [Value.cells] at hcs
    obtain ⟨rfl, rfl, rfl⟩ := hcs
    exact ⟨fun i hi => absurd hi (by omega), by decide⟩
  · simp [Value.cells] at hcs
    obtain ⟨rfl, rfl, rfl⟩ := hcs
    have hml : len ≤ m := by rw [hmm]; split <;> omega
    refine ⟨fun i hi => ?_, by omega⟩
    obtain ⟨cs', h1, h2⟩ := hx i (by omega)
    rw [cells31] at h1
    obtain ⟨_, hl3, hc⟩ := World.cells?_some h1
    obtain ⟨y0, y1, y2, y3, y4, m', e0, e1, e2, e3, e4⟩ := ptrod_struct5 Tryz.underlying31 h2
    obtain ⟨z0, g0, _, wz0⟩ := DataW.trod_int Tryz.underlying3 e0
    obtain ⟨z1, g1, _, wz1⟩ := DataW.trod_int Tryz.underlying3 e1
    obtain ⟨z2, g2, _, wz2⟩ := DataW.trod_int Tryz.underlying3 e2
    obtain ⟨z3, g3, _, wz3⟩ := DataW.trod_string Tryz.underlying9 e3
    rw [pcells3] at g0 g1 g2
    rw [pcells9] at g3
    match cs', hl3 with
    | [c0, c1, c2, c3, c4], _ =>
      simp at g0 g1 g2 g3
      subst g0 g1 g2 g3
      simp only [pcellsL] at e4
      have f4 : DataW.trod enc Tryz.prog W 0 spare hd m' 23 [c4] = some y4 := e4
      obtain ⟨b, k, cc, hc4⟩ : ∃ b k cc, c4 = .slice b k cc := by
        rcases Go.Deep.open_slice Tryz.underlying23 f4 with ⟨hcs, _⟩ | ⟨x, l, c, m, n, D, Pl, hcs, _⟩
        · exact ⟨none, 0, 0, by simpa using hcs⟩
        · exact ⟨some x, l, c, by simpa using hcs⟩
      subst hc4
      obtain ⟨L, r1, r2, r3, r4⟩ := open_L f4
      have k0 := hc 0 (by omega)
      have k1 := hc 1 (by omega)
      have k2 := hc 2 (by omega)
      have k3 := hc 3 (by omega)
      have k4 := hc 4 (by omega)
      refine ⟨x, z0, z1, z2, z3.data.toList, b, k, cc, L, rfl, ?_⟩
      have hq : ((x.add (i * 5)).add 0) = x.add (i * 5) := by unfold Addr.add; simp
      rw [hq] at k0
      exact ⟨k0, k1, k2, (by rw [show (⟨z3.data.toList.toArray⟩ : ByteArray) = z3 from by simp]; exact k3), k4, plt_of_cell k0, r1, by omega, r2, r3, r4, by simpa using wz3, pbounds wz1, pbounds wz2⟩
end
end Go.Proofs.YtkehojgiappiiaaGreatDoor
