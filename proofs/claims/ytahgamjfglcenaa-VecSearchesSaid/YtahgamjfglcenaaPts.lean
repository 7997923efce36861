/- Points: a number and a vector each; slices of them as they come in. Conditions: none. -/
import Derived.Test.YtahgamjfglcenaaOpenB
import Derived.Test.YtahgamjfglcenaaLawA
import Derived.Test.YtahgamjfglcenaaRTop
set_option linter.unusedVariables false
set_option linter.unusedSimpArgs false
namespace Go.Proofs.Ytahgamjfglcenaa
open Go Go.ChangeShapes Go.WideShapes Go.ChangeAt Go.RowKit
/-- A point: its number, its vector's slice (address, length, room), its vector. -/
abbrev Pt := Int × (Option Addr × Nat × Nat) × List Int
def pcell (p : Pt) : List Value := [.int .i64 p.1, .slice p.2.1.1 p.2.1.2.1 p.2.1.2.2]
def pts (l : List Pt) : List Value := l.flatMap pcell
instance : Inhabited Pt := ⟨(0, (none, 0, 0), [])⟩
def GoodP (w : World) (B : Nat) (p : Pt) : Prop := (Reads w B 1 p.2.1.1 p.2.1.2.1 (ints p.2.2) ∧ p.2.1.2.1 ≤ maxLen) ∧ (Lit.int .i64 p.1).wf = true
structure Pts (w : World) (B : Nat) (A : Option Addr) (n : Nat) (l : List Pt) : Prop where
  row : Reads w B 2 A n (pts l)
  good : ∀ p ∈ l, GoodP w B p
theorem Pts.below {w w' : World} {B n : Nat} {A : Option Addr} {l : List Pt} (h : Pts w B A n l) (hb : Below B w w') : Pts w' B A n l := ⟨h.row.below hb, fun p hp => ⟨⟨(h.good p hp).1.1.below hb, (h.good p hp).1.2⟩, (h.good p hp).2⟩⟩
theorem Pts.more {w : World} {B B' n : Nat} {A : Option Addr} {l : List Pt} (h : Pts w B A n l) (hb : B ≤ B') : Pts w B' A n l := ⟨h.row.more hb, fun p hp => ⟨⟨(h.good p hp).1.1.more hb, (h.good p hp).1.2⟩, (h.good p hp).2⟩⟩
theorem Pts.len {w : World} {B n : Nat} {A : Option Addr} {l : List Pt} (h : Pts w B A n l) : n = l.length := by
  have := h.row.1
  unfold pts at this
  rw [flat_len pcell 2 (fun _ => rfl)] at this
  omega
def ptAt (l : List Pt) (k : Nat) : Pt := l.getD k (0, (none, 0, 0), [])
theorem pts_at (l : List Pt) (k : Nat) (hk : k < l.length) : (pts l)[2 * k]? = some (.int .i64 (ptAt l k).1) ∧ (pts l)[2 * k + 1]? = some (.slice (ptAt l k).2.1.1 (ptAt l k).2.1.2.1 (ptAt l k).2.1.2.2) := by
  unfold ptAt
  induction l generalizing k with
  | nil => simp at hk
  | cons t r ih =>
    have e : pts (t :: r) = .int .i64 t.1 :: .slice t.2.1.1 t.2.1.2.1 t.2.1.2.2 :: pts r := by simp [pts, pcell]
    rw [e]
    rcases k with _ | k
    · simp
    · have := ih k (by simpa using hk)
      rw [show 2 * (k + 1) = 2 * k + 1 + 1 by omega]
      simpa using this
theorem ptAt_mem {l : List Pt} {k : Nat} (hk : k < l.length) : ptAt l k ∈ l := by
  unfold ptAt
  rw [List.getD_eq_getElem?_getD, List.getElem?_eq_getElem hk]
  exact List.getElem_mem hk
theorem Pts.at_ {w : World} {B n k : Nat} {A : Option Addr} {l : List Pt} (h : Pts w B A n l) (hk : k < n) : ∃ ad, A = some ad ∧ ad.block < B ∧ k < l.length ∧
    w.cell? (ad.add (k * 2)) = some (.int .i64 (ptAt l k).1) ∧ w.cell? ⟨(ad.add (k * 2)).block, (ad.add (k * 2)).off + 1, none⟩ = some (.slice (ptAt l k).2.1.1 (ptAt l k).2.1.2.1 (ptAt l k).2.1.2.2) ∧ GoodP w B (ptAt l k) := by
  have hl := h.len
  have hk' : k < l.length := by omega
  obtain ⟨ad, e, hb, hc⟩ := h.row.2 (by omega)
  obtain ⟨t1, t2⟩ := pts_at l k hk'
  refine ⟨ad, e, hb, hk', ?_, ?_, h.good _ (ptAt_mem hk')⟩
  · rw [Nat.mul_comm]
    exact hc _ _ t1
  · show w.cell? ((ad.add (k * 2)).add 1) = _
    rw [add_of_add, Nat.mul_comm]
    exact hc _ _ t2
section
variable {H : Type} {enc : TypeId × Value → H} {W : World} {spare : Nat → Bool} {a : Option Addr} {len cap : Nat} {d : DataW H} {p : List MemPlace} {hd : Bool}
theorem open_P (h : DataW.Trod enc Try.prog W 0 spare hd 40 (.slice a len cap) d p) : ∃ l : List Pt, Pts W W.heap.size a len l ∧ len ≤ maxLen := by
  obtain ⟨fuel, hf⟩ := h
  rcases Go.Deep.open_slice Try.underlying40 hf with ⟨hcs, _⟩ | ⟨x, l, c, m, n, D, Pl, hcs, _, hl, hm, hmm, _, hx⟩
  · simp [Value.cells] at hcs
    obtain ⟨rfl, rfl, rfl⟩ := hcs
    exact ⟨[], ⟨Reads.none_, fun h hm => by simp at hm⟩, by decide⟩
  · simp [Value.cells] at hcs
    obtain ⟨rfl, rfl, rfl⟩ := hcs
    have hml : len ≤ m := by rw [hmm]; split <;> omega
    obtain ⟨ls, _, hwf, hr⟩ := reads_flat (α := Pt) pcell 2 (by omega) (fun _ => rfl) (fun q => GoodP W W.heap.size q) W x len (fun i hi => by
      obtain ⟨cs', h1, h2⟩ := hx i (by omega)
      rw [cells54] at h1
      obtain ⟨_, hl3, _⟩ := World.cells?_some h1
      obtain ⟨y0, y1, m', _, _, e0, e1⟩ := trod_struct2 Try.underlying54 h2
      obtain ⟨z0, g0, _, wz0⟩ := DataW.trod_int Try.underlying3 e0
      rw [cells3] at g0
      match cs', hl3 with
      | [c0, c1], _ =>
        simp at g0
        subst g0
        simp only [cells22] at e1
        have e2 : DataW.trod enc Try.prog W 0 spare hd m' 22 [c1] = some y1 := e1
        obtain ⟨b, k, cc, hc1⟩ : ∃ b k cc, c1 = .slice b k cc := by
          rcases Go.Deep.open_slice Try.underlying22 e2 with ⟨hcs, _⟩ | ⟨x, l, c, m, n, D, Pl, hcs, _⟩
          · exact ⟨none, 0, 0, by simpa using hcs⟩
          · exact ⟨some x, l, c, by simpa using hcs⟩
        subst hc1
        obtain ⟨L, hL⟩ := open_l (d := y1.1) (p := y1.2) ⟨m', e2⟩
        exact ⟨(z0, (b, k, cc), L), ⟨hL, wz0⟩, h1⟩)
    exact ⟨ls, ⟨hr, hwf⟩, by omega⟩
end
end Go.Proofs.Ytahgamjfglcenaa
