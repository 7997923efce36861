/- Arguments as they come in: slices of triples, of what was found, of points. Conditions: none. -/
import Derived.Test.YtahgamjfglcenaaOpen
import Derived.Test.YtahgamjfglcenaaShift
import Derived.Test.YtahgamjfglcenaaOnce
import Derived.Deep.Slices
set_option linter.unusedVariables false
set_option linter.unusedSimpArgs false
namespace Go.Proofs.Ytahgamjfglcenaa
open Go Go.ChangeShapes Go.WideShapes Go.ChangeAt Go.RowKit
theorem flat_len {α : Type} (enc : α → List Value) (s : Nat) (he : ∀ x, (enc x).length = s) (l : List α) : (l.flatMap enc).length = l.length * s := by
  induction l with
  | nil => simp
  | cons x r ih => simp only [List.flatMap_cons, List.length_append, ih, he, List.length_cons, Nat.add_mul]; omega
theorem flat_at {α : Type} (enc : α → List Value) (s : Nat) (hs : 0 < s) (he : ∀ x, (enc x).length = s) (l : List α) (j : Nat) (u : Value) (h : (l.flatMap enc)[j]? = some u) : ∃ x, l[j / s]? = some x ∧ (enc x)[j % s]? = some u := by
  induction l generalizing j with
  | nil => simp at h
  | cons x r ih =>
    rw [List.flatMap_cons] at h
    by_cases hj : j < s
    · rw [List.getElem?_append_left (by rw [he]; exact hj)] at h
      refine ⟨x, ?_, ?_⟩
      · rw [Nat.div_eq_of_lt hj]
        rfl
      · rw [Nat.mod_eq_of_lt hj]
        exact h
    · rw [List.getElem?_append_right (by rw [he]; omega), he] at h
      obtain ⟨y, h1, h2⟩ := ih _ h
      have e : j = (j - s) + s := by omega
      refine ⟨y, ?_, ?_⟩
      · rw [e, Nat.add_div_right _ hs]
        exact h1
      · rw [e, Nat.add_mod_right]
        exact h2
theorem reads_flat {α : Type} [Inhabited α] (enc : α → List Value) (s : Nat) (hs : 0 < s) (he : ∀ x, (enc x).length = s) (G : α → Prop) (w : World) (a : Addr) (len : Nat) (h : ∀ i, i < len → ∃ x, G x ∧ w.cells? 0 (a.add (i * s)) s = some (enc x)) :
    ∃ l : List α, l.length = len ∧ (∀ x ∈ l, G x) ∧ Reads w w.heap.size s (some a) len (l.flatMap enc) := by
  obtain ⟨f, hf⟩ := Go.Deep.choose_lt (p := fun i x => G x ∧ w.cells? 0 (a.add (i * s)) s = some (enc x)) h
  have hget : ∀ i, i < len → ((List.range len).map f)[i]? = some (f i) := by
    intro i hi
    rw [List.getElem?_map, List.getElem?_range hi]
    rfl
  refine ⟨(List.range len).map f, by simp, fun x hx => ?_, by rw [flat_len enc s he]; simp, fun h0 => ⟨a, rfl, ?_, fun j u hj => ?_⟩⟩
  · obtain ⟨i, hi, rfl⟩ := List.mem_map.1 hx
    exact (hf i (by simpa using hi)).1
  · obtain ⟨_, hl, hc⟩ := World.cells?_some (hf 0 h0).2
    have := hc 0 hs
    rw [List.getElem?_eq_getElem (by omega)] at this
    have := lt_of_cell this
    rwa [block_of_add, block_of_add] at this
  · obtain ⟨x, h1, h2⟩ := flat_at enc s hs he _ j u hj
    have hi : j / s < len := by
      have := (List.getElem?_eq_some_iff.1 h1).1
      simpa using this
    rw [hget _ hi] at h1
    injection h1 with h1
    subst h1
    obtain ⟨_, hl, hc⟩ := World.cells?_some (hf _ hi).2
    have := hc (j % s) (Nat.mod_lt _ hs)
    rw [add_of_add, h2] at this
    rw [← this]
    congr 2
    rw [Nat.mul_comm]
    exact (Nat.div_add_mod j s).symm
theorem cells45 : Try.prog.cellsOf 45 = 3 := by kernel_rfl
theorem cells37 : Try.prog.cellsOf 37 = 2 := by kernel_rfl
theorem cells54 : Try.prog.cellsOf 54 = 2 := by kernel_rfl
theorem cells3 : Try.prog.cellsOf 3 = 1 := by kernel_rfl
theorem cells22 : Try.prog.cellsOf 22 = 1 := by kernel_rfl
section
variable {H : Type} {enc : TypeId × Value → H} {W : World} {spare : Nat → Bool} {a : Option Addr} {len cap : Nat} {d : DataW H} {p : List MemPlace} {hd : Bool}
theorem open_A (h : DataW.Trod enc Try.prog W 0 spare hd 44 (.slice a len cap) d p) : ∃ l : List Tri, Reads W W.heap.size 3 a len (tris l) ∧ len ≤ maxLen := by
  obtain ⟨fuel, hf⟩ := h
  rcases Go.Deep.open_slice Try.underlying44 hf with ⟨hcs, _⟩ | ⟨x, l, c, m, n, D, Pl, hcs, _, hl, hm, hmm, _, hx⟩
  · simp [Value.cells] at hcs
    obtain ⟨rfl, rfl, rfl⟩ := hcs
    exact ⟨[], Reads.none_, by decide⟩
  · simp [Value.cells] at hcs
    obtain ⟨rfl, rfl, rfl⟩ := hcs
    have hml : len ≤ m := by rw [hmm]; split <;> omega
    obtain ⟨ls, _, _, hr⟩ := reads_flat (α := Tri) (fun t => [.int .i64 t.1, .int .i64 t.2.1, .int .i64 t.2.2]) 3 (by omega) (fun _ => rfl) (fun _ => True) W x len (fun i hi => by
      obtain ⟨cs', h1, h2⟩ := hx i (by omega)
      rw [cells45] at h1
      obtain ⟨_, hl3, _⟩ := World.cells?_some h1
      obtain ⟨xs, m', _, _, _, hxl, he⟩ := DataW.trod_array Try.underlying45 h2
      have g : ∀ i, i < 3 → ∃ z : Int, (cs'.drop i).take 1 = [.int .i64 z] := by
        intro i hi
        have := he i hi
        rw [cells3, Nat.mul_one, List.getElem?_eq_getElem (by omega)] at this
        obtain ⟨z, hz, _⟩ := DataW.trod_int Try.underlying3 this
        exact ⟨z, hz⟩
      obtain ⟨z0, g0⟩ := g 0 (by omega)
      obtain ⟨z1, g1⟩ := g 1 (by omega)
      obtain ⟨z2, g2⟩ := g 2 (by omega)
      match cs', hl3 with
      | [c0, c1, c2], _ =>
        simp at g0 g1 g2
        subst g0 g1 g2
        exact ⟨(z0, z1, z2), trivial, h1⟩)
    exact ⟨ls, hr, by omega⟩
theorem open_H (h : DataW.Trod enc Try.prog W 0 spare hd 31 (.slice a len cap) d p) : ∃ l : List Hit, (Reads W W.heap.size 2 a len (hits l) ∧ WF l) ∧ len ≤ maxLen := by
  obtain ⟨fuel, hf⟩ := h
  rcases Go.Deep.open_slice Try.underlying31 hf with ⟨hcs, _⟩ | ⟨x, l, c, m, n, D, Pl, hcs, _, hl, hm, hmm, _, hx⟩
  · simp [Value.cells] at hcs
    obtain ⟨rfl, rfl, rfl⟩ := hcs
    exact ⟨[], ⟨Reads.none_, fun h hm => by simp at hm⟩, by decide⟩
  · simp [Value.cells] at hcs
    obtain ⟨rfl, rfl, rfl⟩ := hcs
    have hml : len ≤ m := by rw [hmm]; split <;> omega
    obtain ⟨ls, _, hwf, hr⟩ := reads_flat (α := Hit) hcell 2 (by omega) (fun _ => rfl) (fun h => (Lit.int .i64 h.1).wf = true) W x len (fun i hi => by
      obtain ⟨cs', h1, h2⟩ := hx i (by omega)
      rw [cells37] at h1
      obtain ⟨_, hl3, _⟩ := World.cells?_some h1
      obtain ⟨y0, y1, m', _, _, e0, e1⟩ := trod_struct2 Try.underlying37 h2
      obtain ⟨z0, g0, _, wz0⟩ := DataW.trod_int Try.underlying3 e0
      obtain ⟨z1, g1, _⟩ := DataW.trod_int Try.underlying3 e1
      rw [cells3] at g0 g1
      match cs', hl3 with
      | [c0, c1], _ =>
        simp at g0 g1
        subst g0 g1
        exact ⟨(z0, z1), wz0, h1⟩)
    exact ⟨ls, ⟨hr, hwf⟩, by omega⟩
end
end Go.Proofs.Ytahgamjfglcenaa
