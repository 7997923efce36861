/- A slice of calls as it comes in. Conditions: none. -/
import Derived.Test.YtfojempmgonahaaWhOpen
import Derived.DataShut
set_option linter.unusedVariables false
set_option linter.unusedSimpArgs false
set_option maxRecDepth 100000
namespace Go.Proofs.Ytfojempmgonahaa.Wh
open Go Go.ChangeShapes Go.WideShapes Go.ChangeAt Go.RowKit
/-- A call, in memory. -/
structure OpAt (w : World) (B : Nat) (ad : Addr) (k x t : Int) : Prop where
  c0 : w.cell? ad = some (.int .i64 k)
  c1 : w.cell? ⟨ad.block, ad.off + 1, none⟩ = some (.int .i64 x)
  c2 : w.cell? ⟨ad.block, ad.off + 2, none⟩ = some (.int .i64 t)
  lt : ad.block < B
theorem OpAt.below {w w' : World} {B : Nat} {ad : Addr} {k x t : Int} (h : OpAt w B ad k x t) (hb : Below B w w') : OpAt w' B ad k x t :=
  ⟨(hb.cell h.lt).trans h.c0, (hb.cell (p := ⟨ad.block, ad.off + 1, none⟩) h.lt).trans h.c1, (hb.cell (p := ⟨ad.block, ad.off + 2, none⟩) h.lt).trans h.c2, h.lt⟩
def OpsAt (w : World) (B : Nat) (A : Option Addr) (n : Nat) : Prop := ∀ i, i < n → ∃ ad k x t, A = some ad ∧ OpAt w B (ad.add (i * 3)) k x t ∧ (Lit.int .i64 x).wf = true
section
variable {H : Type} {enc : TypeId × Value → H} {W : World} {spare : Nat → Bool} {a : Option Addr} {len cap : Nat} {d : DataW H} {p : List MemPlace} {hd : Bool}
theorem open_O (h : DataW.Trod enc Try.prog W 0 spare hd 22 (.slice a len cap) d p) : OpsAt W W.heap.size a len ∧ len ≤ maxLen := by
  obtain ⟨fuel, hf⟩ := h
  rcases Go.Deep.open_slice Try.underlying22 hf with ⟨hcs, _⟩ | ⟨x, l, c, m, n, D, Pl, hcs, _, hl, hm, hmm, _, hx⟩
  · simp [Value.cells] at hcs
    obtain ⟨rfl, rfl, rfl⟩ := hcs
    exact ⟨fun i hi => absurd hi (by omega), by decide⟩
  · simp [Value.cells] at hcs
    obtain ⟨rfl, rfl, rfl⟩ := hcs
    have hml : len ≤ m := by rw [hmm]; split <;> omega
    refine ⟨fun i hi => ?_, by omega⟩
    obtain ⟨cs', h1, h2⟩ := hx i (by omega)
    rw [cellsO] at h1
    obtain ⟨_, hl3, hc⟩ := World.cells?_some h1
    obtain ⟨y0, y1, y2, m', e0, e1, e2⟩ := trod_struct3 Try.underlying29 h2
    obtain ⟨z0, g0, _, wz0⟩ := DataW.trod_int Try.underlying3 e0
    obtain ⟨z1, g1, _, wz1⟩ := DataW.trod_int Try.underlying3 e1
    obtain ⟨z2, g2, _, wz2⟩ := DataW.trod_int Try.underlying3 e2
    rw [cells3] at g0 g1 g2
    match cs', hl3 with
    | [c0, c1, c2], _ =>
      simp at g0 g1 g2
      subst g0 g1 g2
      have k0 := hc 0 (by omega)
      have k1 := hc 1 (by omega)
      have k2 := hc 2 (by omega)
      rw [add_of_add] at k0 k1 k2
      have a0 : x.add (i * 3 + 0) = x.add (i * 3) := rfl
      refine ⟨x, z0, z1, z2, rfl, ⟨?_, ?_, ?_, ?_⟩, wz1⟩
      · rw [← a0]; exact k0
      · show W.cell? ((x.add (i * 3)).add 1) = _
        rw [add_of_add]; exact k1
      · show W.cell? ((x.add (i * 3)).add 2) = _
        rw [add_of_add]; exact k2
      · have := lt_of_cell k0
        rwa [block_of_add] at this ⊢
end
end Go.Proofs.Ytfojempmgonahaa.Wh
