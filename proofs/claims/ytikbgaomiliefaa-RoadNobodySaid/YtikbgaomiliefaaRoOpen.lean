/- Arguments as they come in: numbers, calls with letters, and slices of them. Conditions: none. -/
import Derived.Test.YtikbgaomiliefaaRoMem
import Derived.Test.YtikbgaomiliefaaChecked
import Derived.ProofKit
import Derived.OpenShut
import Derived.DataShut
import Derived.Deep.Strs
import Derived.Lib.SmallJoins
import Derived.Deep.Slices
set_option linter.unusedVariables false
set_option linter.unusedSimpArgs false
set_option maxRecDepth 100000
namespace Go.Proofs.Ytikbgaomiliefaa.Ro
open Go Go.ChangeShapes Go.WideShapes Go.ChangeAt Go.RowKit
theorem lt_of_cell {w : World} {p : Addr} {v : Value} (h : w.cell? p = some v) : p.block < w.heap.size := by
  rcases Nat.lt_or_ge p.block w.heap.size with h' | h'
  · exact h'
  · simp [World.cell?, Array.getElem?_eq_none h'] at h
theorem reads_arg {w : World} {a : Addr} {len : Nat} {zs : List Int} (hl : len ≤ zs.length) (hc : ∀ i, i < zs.length → w.cell? (a.add i) = some (.int .i64 (zs.getD i 0))) : Reads w w.heap.size 1 (some a) len (ints (zs.take len)) := by
  refine ⟨by simp [ints]; omega, fun h0 => ⟨a, rfl, ?_, fun j u hj => ?_⟩⟩
  · have := lt_of_cell (hc 0 (by omega))
    rwa [block_of_add] at this
  · have hj' := (List.getElem?_eq_some_iff.1 hj).1
    simp [ints] at hj'
    rw [hc j (by omega), ← hj]
    unfold ints
    simp only [List.getElem?_map]
    rw [List.getElem?_take, if_pos (by omega), List.getD_eq_getElem?_getD, List.getElem?_eq_getElem (by omega)]
    rfl
theorem open_l {H : Type} {enc : TypeId × Value → H} {W : World} {spare : Nat → Bool} {a : Option Addr} {len cap : Nat} {d : DataW H} {p : List MemPlace} {hd : Bool}
    (h : DataW.Trod enc Try.prog W 0 spare hd 50 (.slice a len cap) d p) : ∃ l, Reads W W.heap.size 1 a len (ints l) ∧ len ≤ maxLen := by
  obtain ⟨fuel, hf⟩ := h
  rcases open_ints Try.underlying50 Try.underlying3 (by kernel_rfl) hf with ⟨hcs, _⟩ | ⟨x, l, c, zs, hcs, _, hl, hm, hz, _, hcell, hwz⟩
  · simp [Value.cells] at hcs
    obtain ⟨rfl, rfl, rfl⟩ := hcs
    exact ⟨[], Reads.none_, by decide⟩
  · simp [Value.cells] at hcs
    obtain ⟨rfl, rfl, rfl⟩ := hcs
    refine ⟨zs.take len, reads_arg ?_ hcell, by omega⟩
    rw [hz]
    split <;> omega
theorem trod_struct3 {H : Type} {P : Program} {w : World} {base : Nat} {enc : TypeId × Value → H} {spare : Nat → Bool} {held : Bool} {t : TypeId} {f0 f1 f2 : Field} {fuel : Nat} {cs : List Value} {x : DataW H × List MemPlace} (ht : P.underlying t = some (.struct #[f0, f1, f2])) (h : DataW.trod enc P w base spare held fuel t cs = some x) :
    ∃ y0 y1 y2 n, DataW.trod enc P w base spare held n f0.type ((cs.drop f0.offset).take (P.cellsOf f0.type)) = some y0 ∧
      DataW.trod enc P w base spare held n f1.type ((cs.drop f1.offset).take (P.cellsOf f1.type)) = some y1 ∧ DataW.trod enc P w base spare held n f2.type ((cs.drop f2.offset).take (P.cellsOf f2.type)) = some y2 := by
  obtain ⟨xs, n, _, rfl, hl, hlen, hf⟩ := DataW.trod_struct ht h
  match xs, hlen with
  | [y0, y1, y2], _ => exact ⟨y0, y1, y2, n, by simpa using hf 0 f0 rfl, by simpa using hf 1 f1 rfl, by simpa using hf 2 f2 rfl⟩
theorem trod_struct4 {H : Type} {P : Program} {w : World} {base : Nat} {enc : TypeId × Value → H} {spare : Nat → Bool} {held : Bool} {t : TypeId} {f0 f1 f2 f3 : Field} {fuel : Nat} {cs : List Value} {x : DataW H × List MemPlace} (ht : P.underlying t = some (.struct #[f0, f1, f2, f3])) (h : DataW.trod enc P w base spare held fuel t cs = some x) :
    ∃ y0 y1 y2 y3 n, DataW.trod enc P w base spare held n f0.type ((cs.drop f0.offset).take (P.cellsOf f0.type)) = some y0 ∧
      DataW.trod enc P w base spare held n f1.type ((cs.drop f1.offset).take (P.cellsOf f1.type)) = some y1 ∧ DataW.trod enc P w base spare held n f2.type ((cs.drop f2.offset).take (P.cellsOf f2.type)) = some y2 ∧ DataW.trod enc P w base spare held n f3.type ((cs.drop f3.offset).take (P.cellsOf f3.type)) = some y3 := by
  obtain ⟨xs, n, _, rfl, hl, hlen, hf⟩ := DataW.trod_struct ht h
  match xs, hlen with
  | [y0, y1, y2, y3], _ => exact ⟨y0, y1, y2, y3, n, by simpa using hf 0 f0 rfl, by simpa using hf 1 f1 rfl, by simpa using hf 2 f2 rfl, by simpa using hf 3 f3 rfl⟩
theorem cells3 : Try.prog.cellsOf 3 = 1 := by kernel_rfl
theorem cells9 : Try.prog.cellsOf 9 = 1 := by kernel_rfl
theorem cellsO : Try.prog.cellsOf 36 = 6 := by kernel_rfl
theorem cellsLt : Try.prog.cellsOf 34 = 3 := by kernel_rfl
/-- A call with its letter, in memory. -/
structure OpAt (w : World) (B : Nat) (ad : Addr) (k x t : Int) (l : Lt) : Prop where
  c0 : w.cell? ad = some (.int .i64 k)
  c1 : w.cell? ⟨ad.block, ad.off + 1, none⟩ = some (.int .i64 x)
  c2 : w.cell? ⟨ad.block, ad.off + 2, none⟩ = some (.int .i64 t)
  c3 : w.cell? ⟨ad.block, ad.off + 3, none⟩ = some (.int .i64 l.1)
  c4 : w.cell? ⟨ad.block, ad.off + 4, none⟩ = some (.int .i64 l.2.1)
  c5 : w.cell? ⟨ad.block, ad.off + 5, none⟩ = some (.string l.2.2)
  lt : ad.block < B
theorem OpAt.below {w w' : World} {B : Nat} {ad : Addr} {k x t : Int} {l : Lt} (h : OpAt w B ad k x t l) (hb : Below B w w') : OpAt w' B ad k x t l :=
  ⟨(hb.cell h.lt).trans h.c0, (hb.cell (p := ⟨ad.block, ad.off + 1, none⟩) h.lt).trans h.c1, (hb.cell (p := ⟨ad.block, ad.off + 2, none⟩) h.lt).trans h.c2, (hb.cell (p := ⟨ad.block, ad.off + 3, none⟩) h.lt).trans h.c3, (hb.cell (p := ⟨ad.block, ad.off + 4, none⟩) h.lt).trans h.c4, (hb.cell (p := ⟨ad.block, ad.off + 5, none⟩) h.lt).trans h.c5, h.lt⟩
def OpsAt (w : World) (B : Nat) (A : Option Addr) (n : Nat) : Prop := ∀ i, i < n → ∃ ad k x t l, A = some ad ∧ OpAt w B (ad.add (i * 6)) k x t l ∧ (Lit.int .i64 x).wf = true ∧ (Lit.int .i64 t).wf = true ∧ (Lit.int .i64 l.1).wf = true ∧ (Lit.int .i64 l.2.1).wf = true ∧ l.2.2.size ≤ maxLen
section
variable {H : Type} {enc : TypeId × Value → H} {W : World} {spare : Nat → Bool} {a : Option Addr} {len cap : Nat} {d : DataW H} {p : List MemPlace} {hd : Bool}
theorem open_O (h : DataW.Trod enc Try.prog W 0 spare hd 22 (.slice a len cap) d p) : OpsAt W W.heap.size a len ∧ len ≤ maxLen := by
  obtain ⟨fuel, hf⟩ := h
  rcases Go.Deep.open_slice Try.underlying22 hf with ⟨hcs, _⟩ | ⟨x, l, c, m, n, D, Pl, hcs, _, hl, hm, hmm, _, hx⟩
  · simp [Value.cells] at hcs
    obtain ⟨rfl, rfl, rfl⟩ := hcs
    exact ⟨fun i hi => absurd hi (by omega), by decide⟩
  · simp [Value.cells] at hcs
    obtain ⟨rfl, rfl, rfl⟩ := hcs
    have hml : len ≤ m := by rw [hmm]; split <;> omega
    refine ⟨fun i hi => ?_, by omega⟩
    obtain ⟨cs', h1, h2⟩ := hx i (by omega)
    rw [cellsO] at h1
    obtain ⟨_, hl3, hc⟩ := World.cells?_some h1
    obtain ⟨y0, y1, y2, y3, m', e0, e1, e2, e3⟩ := Ro.trod_struct4 Try.underlying36 h2
    obtain ⟨z0, g0, _, wz0⟩ := DataW.trod_int Try.underlying3 e0
    obtain ⟨z1, g1, _, wz1⟩ := DataW.trod_int Try.underlying3 e1
    obtain ⟨z2, g2, _, wz2⟩ := DataW.trod_int Try.underlying3 e2
    obtain ⟨u0, u1, u2, m2, e4, e5, e6⟩ := Ro.trod_struct3 Try.underlying34 e3
    obtain ⟨z3, g3, _, wz3⟩ := DataW.trod_int Try.underlying3 e4
    obtain ⟨z4, g4, _, wz4⟩ := DataW.trod_int Try.underlying3 e5
    obtain ⟨z5, g5, _, wz5⟩ := DataW.trod_string Try.underlying9 e6
    rw [cells3] at g0 g1 g2
    simp only [cells3, cells9, cellsLt] at g3 g4 g5
    match cs', hl3 with
    | [c0, c1, c2, c3, c4, c5], _ =>
      simp at g0 g1 g2 g3 g4 g5
      subst g0 g1 g2 g3 g4 g5
      have k0 := hc 0 (by omega)
      have k1 := hc 1 (by omega)
      have k2 := hc 2 (by omega)
      have k3 := hc 3 (by omega)
      have k4 := hc 4 (by omega)
      have k5 := hc 5 (by omega)
      have hq : ((x.add (i * 6)).add 0) = x.add (i * 6) := by unfold Addr.add; simp
      rw [hq] at k0
      exact ⟨x, z0, z1, z2, (z3, z4, z5), rfl, ⟨k0, k1, k2, k3, k4, k5, lt_of_cell k0⟩, wz1, wz2, wz3, wz4, by simpa using wz5⟩
end
end Go.Proofs.Ytikbgaomiliefaa.Ro
