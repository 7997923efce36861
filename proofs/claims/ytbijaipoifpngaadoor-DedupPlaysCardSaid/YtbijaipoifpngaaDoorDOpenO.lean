/- DedupPlays' argument as it comes in: a slice of calls. Conditions: none. -/
import Derived.Test.YtbijaipoifpngaaDoorDOpen
set_option linter.unusedVariables false
set_option linter.unusedSimpArgs false
set_option maxRecDepth 100000
namespace Go.Proofs.YtbijaipoifpngaaDoor.Be
open Go Go.ChangeShapes Go.WideShapes Go.ChangeAt Go.RowKit
theorem trod_struct4 {H : Type} {P : Program} {w : World} {base : Nat} {enc : TypeId × Value → H} {spare : Nat → Bool} {held : Bool} {t : TypeId} {f0 f1 f2 f3 : Field} {fuel : Nat} {cs : List Value} {x : DataW H × List MemPlace} (ht : P.underlying t = some (.struct #[f0, f1, f2, f3])) (h : DataW.trod enc P w base spare held fuel t cs = some x) :
    ∃ y0 y1 y2 y3 n, DataW.trod enc P w base spare held n f0.type ((cs.drop f0.offset).take (P.cellsOf f0.type)) = some y0 ∧
      DataW.trod enc P w base spare held n f1.type ((cs.drop f1.offset).take (P.cellsOf f1.type)) = some y1 ∧ DataW.trod enc P w base spare held n f2.type ((cs.drop f2.offset).take (P.cellsOf f2.type)) = some y2 ∧
      DataW.trod enc P w base spare held n f3.type ((cs.drop f3.offset).take (P.cellsOf f3.type)) = some y3 := by
  obtain ⟨xs, n, _, rfl, hl, hlen, hf⟩ := DataW.trod_struct ht h
  match xs, hlen with
  | [y0, y1, y2, y3], _ => exact ⟨y0, y1, y2, y3, n, by simpa using hf 0 f0 rfl, by simpa using hf 1 f1 rfl, by simpa using hf 2 f2 rfl, by simpa using hf 3 f3 rfl⟩
theorem trod_struct3 {H : Type} {P : Program} {w : World} {base : Nat} {enc : TypeId × Value → H} {spare : Nat → Bool} {held : Bool} {t : TypeId} {f0 f1 f2 : Field} {fuel : Nat} {cs : List Value} {x : DataW H × List MemPlace} (ht : P.underlying t = some (.struct #[f0, f1, f2])) (h : DataW.trod enc P w base spare held fuel t cs = some x) :
    ∃ y0 y1 y2 n, DataW.trod enc P w base spare held n f0.type ((cs.drop f0.offset).take (P.cellsOf f0.type)) = some y0 ∧
      DataW.trod enc P w base spare held n f1.type ((cs.drop f1.offset).take (P.cellsOf f1.type)) = some y1 ∧ DataW.trod enc P w base spare held n f2.type ((cs.drop f2.offset).take (P.cellsOf f2.type)) = some y2 := by
  obtain ⟨xs, n, _, rfl, hl, hlen, hf⟩ := DataW.trod_struct ht h
  match xs, hlen with
  | [y0, y1, y2], _ => exact ⟨y0, y1, y2, n, by simpa using hf 0 f0 rfl, by simpa using hf 1 f1 rfl, by simpa using hf 2 f2 rfl⟩
/-- A call, in memory. -/
structure OpAt (w : World) (B : Nat) (ad : Addr) (k c s e : Int) (b : Bool) (A : Option Addr) (n m : Nat) : Prop where
  c0 : w.cell? ad = some (.int .i64 k)
  c1 : w.cell? ⟨ad.block, ad.off + 1, none⟩ = some (.int .i64 c)
  c2 : w.cell? ⟨ad.block, ad.off + 2, none⟩ = some (.int .i64 s)
  c3 : w.cell? ⟨ad.block, ad.off + 3, none⟩ = some (.int .i64 e)
  c4 : w.cell? ⟨ad.block, ad.off + 4, none⟩ = some (.bool b)
  c5 : w.cell? ⟨ad.block, ad.off + 5, none⟩ = some (.slice A n m)
  lt : ad.block < B
theorem OpAt.below {w w' : World} {B : Nat} {ad : Addr} {k c s e : Int} {b : Bool} {A : Option Addr} {n m : Nat} (h : OpAt w B ad k c s e b A n m) (hb : Below B w w') : OpAt w' B ad k c s e b A n m :=
  ⟨(hb.cell h.lt).trans h.c0, (hb.cell (p := ⟨ad.block, ad.off + 1, none⟩) h.lt).trans h.c1, (hb.cell (p := ⟨ad.block, ad.off + 2, none⟩) h.lt).trans h.c2, (hb.cell (p := ⟨ad.block, ad.off + 3, none⟩) h.lt).trans h.c3, (hb.cell (p := ⟨ad.block, ad.off + 4, none⟩) h.lt).trans h.c4, (hb.cell (p := ⟨ad.block, ad.off + 5, none⟩) h.lt).trans h.c5, h.lt⟩
def OpsAt (w : World) (B : Nat) (A : Option Addr) (n : Nat) : Prop := ∀ i, i < n → ∃ ad k c s e b A1 n1 m1, A = some ad ∧ OpAt w B (ad.add (i * 6)) k c s e b A1 n1 m1
theorem cells34 : Tryd.prog.cellsOf 34 = 6 := by kernel_rfl
theorem cells32 : Tryd.prog.cellsOf 32 = 3 := by kernel_rfl
theorem cells4 : Tryd.prog.cellsOf 4 = 1 := by kernel_rfl
theorem cellsEn : Tryd.prog.cellsOf 25 = 1 := by kernel_rfl
theorem cellsHits : Tryd.prog.cellsOf 30 = 1 := by kernel_rfl
section
variable {H : Type} {enc : TypeId × Value → H} {W : World} {spare : Nat → Bool} {a : Option Addr} {len cap : Nat} {d : DataW H} {p : List MemPlace} {hd : Bool}
theorem open_O (h : DataW.Trod enc Tryd.prog W 0 spare hd 22 (.slice a len cap) d p) : OpsAt W W.heap.size a len ∧ len ≤ maxLen := by
  obtain ⟨fuel, hf⟩ := h
  rcases Go.Deep.open_slice Tryd.underlying22 hf with ⟨hcs, _⟩ | ⟨x, l, c, m, n, D, Pl, hcs, _, hl, hm, hmm, _, hx⟩
  · simp [Value.cells] at hcs
    obtain ⟨rfl, rfl, rfl⟩ := hcs
    exact ⟨fun i hi => absurd hi (by omega), by decide⟩
  · simp [Value.cells] at hcs
    obtain ⟨rfl, rfl, rfl⟩ := hcs
    have hml : len ≤ m := by rw [hmm]; split <;> omega
    refine ⟨fun i hi => ?_, by omega⟩
    obtain ⟨cs', h1, h2⟩ := hx i (by omega)
    rw [cells34] at h1
    obtain ⟨_, hl3, hc⟩ := World.cells?_some h1
    obtain ⟨y0, y1, y2, y3, m', e0, e1, e2, e3⟩ := trod_struct4 Tryd.underlying34 h2
    obtain ⟨z0, g0, _, wz0⟩ := DataW.trod_int Tryd.underlying3 e0
    obtain ⟨z1, g1, _, wz1⟩ := DataW.trod_int Tryd.underlying3 e1
    obtain ⟨z2, g2, _, wz2⟩ := DataW.trod_int Tryd.underlying3 e2
    obtain ⟨u0, u1, u2, m2, e4, e5, e6⟩ := trod_struct3 Tryd.underlying32 e3
    obtain ⟨z3, g3, _, wz3⟩ := DataW.trod_int Tryd.underlying25 e4
    obtain ⟨z4, g4, _⟩ := DataW.trod_bool Tryd.underlying4 e5
    rw [cells3] at g0 g1 g2
    simp only [cellsEn] at g3
    simp only [cells4] at g4
    simp only [cells32] at g3 g4 e6
    match cs', hl3 with
    | [c0, c1, c2, c3, c4, c5], _ =>
      simp at g0 g1 g2 g3 g4
      subst g0 g1 g2 g3 g4
      simp only [cellsHits] at e6
      have f5 : DataW.trod enc Tryd.prog W 0 spare hd m2 30 [c5] = some u2 := e6
      obtain ⟨b, k, cc, hc5⟩ : ∃ b k cc, c5 = .slice b k cc := by
        rcases Go.Deep.open_slice Tryd.underlying30 f5 with ⟨hcs, _⟩ | ⟨x, l, c, m, n, D, Pl, hcs, _⟩
        · exact ⟨none, 0, 0, by simpa using hcs⟩
        · exact ⟨some x, l, c, by simpa using hcs⟩
      subst hc5
      have k0 := hc 0 (by omega)
      have k1 := hc 1 (by omega)
      have k2 := hc 2 (by omega)
      have k3 := hc 3 (by omega)
      have k4 := hc 4 (by omega)
      have k5 := hc 5 (by omega)
      have hq : ((x.add (i * 6)).add 0) = x.add (i * 6) := by unfold Addr.add; simp
      rw [hq] at k0
      exact ⟨x, z0, z1, z2, z3, z4, b, k, cc, rfl, k0, k1, k2, k3, k4, k5, lt_of_cell k0⟩
end
end Go.Proofs.YtbijaipoifpngaaDoor.Be
