/- Arguments of the statements as they come in: numbers, pairs, replies, calls. Conditions: none. -/
import Derived.Test.YtbijaipoifpngaaDoorDLawO
import Derived.Test.YtbijaipoifpngaaDoorChecked
import Derived.ProofKit
import Derived.OpenShut
import Derived.Lib.SmallJoins
import Derived.Deep.Slices
import Derived.DataShut
set_option linter.unusedVariables false
set_option linter.unusedSimpArgs false
set_option maxRecDepth 100000
namespace Go.Proofs.YtbijaipoifpngaaDoor.Be
open Go Go.ChangeShapes Go.WideShapes Go.ChangeAt Go.RowKit
theorem lt_of_cell {w : World} {p : Addr} {v : Value} (h : w.cell? p = some v) : p.block < w.heap.size := by
  rcases Nat.lt_or_ge p.block w.heap.size with h' | h'
  · exact h'
  · simp [World.cell?, Array.getElem?_eq_none h'] at h
theorem i64_of_wf {n : Int} (h : (Lit.int .i64 n).wf = true) : -9223372036854775808 ≤ n ∧ n ≤ 9223372036854775807 := by
  have := (Lit.wf_int_iff .i64 n).1 h
  have h1 : IntKind.i64.min = -9223372036854775808 := by decide
  have h2 : IntKind.i64.max = 9223372036854775807 := by decide
  rw [h1, h2] at this
  exact this
/-- A slice of numbers, as it came in. -/
def IntsAt (w : World) (B : Nat) (A : Option Addr) (n : Nat) : Prop := ∀ i, i < n → ∃ ad x, A = some ad ∧ ad.block < B ∧ w.cell? (ad.add i) = some (.int .i64 x)
theorem IntsAt.at_ {w w' : World} {B n : Nat} {A : Option Addr} (h : IntsAt w B A n) (hb : Below B w w') : IntsAt w' B A n := fun i hi => by
  obtain ⟨ad, x, h1, h2, h3⟩ := h i hi
  exact ⟨ad, x, h1, h2, (hb.cell (by rw [block_of_add]; exact h2)).trans h3⟩
theorem cells52 : Tryd.prog.cellsOf 52 = 2 := by kernel_rfl
theorem cells3 : Tryd.prog.cellsOf 3 = 1 := by kernel_rfl
section
variable {H : Type} {enc : TypeId × Value → H} {W : World} {spare : Nat → Bool} {a : Option Addr} {len cap : Nat} {d : DataW H} {p : List MemPlace} {hd : Bool}
theorem open_I (h : DataW.Trod enc Tryd.prog W 0 spare hd 51 (.slice a len cap) d p) : IntsAt W W.heap.size a len ∧ len ≤ maxLen := by
  obtain ⟨fuel, hf⟩ := h
  rcases open_ints Tryd.underlying51 Tryd.underlying3 (by kernel_rfl) hf with ⟨hcs, _⟩ | ⟨x, l, c, zs, hcs, _, hl, hm, hz, _, hcell, hwz⟩
  · simp [Value.cells] at hcs
    obtain ⟨rfl, rfl, rfl⟩ := hcs
    exact ⟨fun i hi => absurd hi (by omega), by decide⟩
  · simp [Value.cells] at hcs
    obtain ⟨rfl, rfl, rfl⟩ := hcs
    refine ⟨fun i hi => ?_, by omega⟩
    have hi2 : i < zs.length := by rw [hz]; split <;> omega
    have hc := hcell i hi2
    have := lt_of_cell hc
    rw [block_of_add] at this
    exact ⟨x, _, rfl, this, hc⟩
theorem open_D (h : DataW.Trod enc Tryd.prog W 0 spare hd 50 (.slice a len cap) d p) : PairsAt W W.heap.size a len ∧ len ≤ maxLen := by
  obtain ⟨fuel, hf⟩ := h
  rcases Go.Deep.open_slice Tryd.underlying50 hf with ⟨hcs, _⟩ | ⟨x, l, c, m, n, D, Pl, hcs, _, hl, hm, hmm, _, hx⟩
  · simp [Value.cells] at hcs
    obtain ⟨rfl, rfl, rfl⟩ := hcs
    exact ⟨fun i hi => absurd hi (by omega), by decide⟩
  · simp [Value.cells] at hcs
    obtain ⟨rfl, rfl, rfl⟩ := hcs
    have hml : len ≤ m := by rw [hmm]; split <;> omega
    refine ⟨fun i hi => ?_, by omega⟩
    obtain ⟨cs', h1, h2⟩ := hx i (by omega)
    rw [cells52] at h1
    obtain ⟨_, hl3, hc⟩ := World.cells?_some h1
    obtain ⟨xs, m', _, _, _, hxl, he⟩ := DataW.trod_array Tryd.underlying52 h2
    have g : ∀ i, i < 2 → ∃ z : Int, (cs'.drop i).take 1 = [.int .i64 z] := by
      intro i hi
      have := he i hi
      rw [cells3, Nat.mul_one, List.getElem?_eq_getElem (by omega)] at this
      obtain ⟨z, hz, _⟩ := DataW.trod_int Tryd.underlying3 this
      exact ⟨z, hz⟩
    obtain ⟨z0, g0⟩ := g 0 (by omega)
    obtain ⟨z1, g1⟩ := g 1 (by omega)
    match cs', hl3 with
    | [c0, c1], _ =>
      simp at g0 g1
      subst g0 g1
      have k0 := hc 0 (by omega)
      have k1 := hc 1 (by omega)
      have hq : ((x.add (i * 2)).add 0) = x.add (i * 2) := by unfold Addr.add; simp
      rw [hq] at k0
      have hlt := lt_of_cell k0
      rw [block_of_add] at hlt
      exact ⟨x, z0, z1, rfl, hlt, k0, k1⟩
theorem open_R {r : Reach} {b0 : Nat} {v : Value} (hv : Value.okWide Tryd.prog W r b0 32 v) (h : DataW.Trod enc Tryd.prog W 0 spare hd 32 v d p) :
    ∃ (e : Int) (b : Bool) (A : Option Addr) (n c : Nat), v = .agg #[.int .i64 e, .bool b, .slice A n c] := by
  obtain ⟨v0, v1, v2, y0, y1, y2, n, e, _, _, h0, h1, h2⟩ := Go.Joins.open_agg3 Tryd.underlying32 (by kernel_rfl) (by kernel_rfl) hv h
  obtain ⟨z0, g0, _, _⟩ := DataW.trod_int Tryd.underlying25 h0
  obtain ⟨z1, g1, _⟩ := DataW.trod_bool Tryd.underlying4 h1
  rcases Go.Deep.open_slice Tryd.underlying30 h2 with ⟨hcs, _⟩ | ⟨x, l, c, m, n, D, Pl, hcs, _⟩
  · simp at g0 g1 hcs
    subst g0 g1 hcs
    exact ⟨_, _, _, _, _, e⟩
  · simp at g0 g1 hcs
    subst g0 g1 hcs
    exact ⟨_, _, _, _, _, e⟩
end
end Go.Proofs.YtbijaipoifpngaaDoor.Be
