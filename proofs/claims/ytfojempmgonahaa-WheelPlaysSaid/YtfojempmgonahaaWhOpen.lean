/- Arguments as they come in: numbers, pairs, three numbers, calls, and slices of them. Conditions: none. -/
import Derived.Test.YtfojempmgonahaaWhLawL
import Derived.Test.YtfojempmgonahaaChecked
import Derived.ProofKit
import Derived.OpenShut
import Derived.Lib.SmallJoins
import Derived.Deep.Slices
set_option linter.unusedVariables false
set_option linter.unusedSimpArgs false
set_option maxRecDepth 100000
namespace Go.Proofs.Ytfojempmgonahaa.Wh
open Go Go.ChangeShapes Go.WideShapes Go.ChangeAt Go.RowKit
theorem lt_of_cell {w : World} {p : Addr} {v : Value} (h : w.cell? p = some v) : p.block < w.heap.size := by
  rcases Nat.lt_or_ge p.block w.heap.size with h' | h'
  · exact h'
  · simp [World.cell?, Array.getElem?_eq_none h'] at h
theorem reads_arg {w : World} {a : Addr} {len : Nat} {zs : List Int} (hl : len ≤ zs.length) (hc : ∀ i, i < zs.length → w.cell? (a.add i) = some (.int .i64 (zs.getD i 0))) : Reads w w.heap.size 1 (some a) len (ints (zs.take len)) := by
  refine ⟨by simp [ints]; omega, fun h0 => ⟨a, rfl, ?_, fun j u hj => ?_⟩⟩
  · have := lt_of_cell (hc 0 (by omega))
    rwa [block_of_add] at this
  · have hj' := (List.getElem?_eq_some_iff.1 hj).1
    simp [ints] at hj'
    rw [hc j (by omega), ← hj]
    unfold ints
    simp only [List.getElem?_map]
    rw [List.getElem?_take, if_pos (by omega), List.getD_eq_getElem?_getD, List.getElem?_eq_getElem (by omega)]
    rfl
theorem open_l {H : Type} {enc : TypeId × Value → H} {W : World} {spare : Nat → Bool} {a : Option Addr} {len cap : Nat} {d : DataW H} {p : List MemPlace} {hd : Bool}
    (h : DataW.Trod enc Try.prog W 0 spare hd 25 (.slice a len cap) d p) : ∃ l, Reads W W.heap.size 1 a len (ints l) ∧ len ≤ maxLen := by
  obtain ⟨fuel, hf⟩ := h
  rcases open_ints Try.underlying25 Try.underlying3 (by kernel_rfl) hf with ⟨hcs, _⟩ | ⟨x, l, c, zs, hcs, _, hl, hm, hz, _, hcell, hwz⟩
  · simp [Value.cells] at hcs
    obtain ⟨rfl, rfl, rfl⟩ := hcs
    exact ⟨[], Reads.none_, by decide⟩
  · simp [Value.cells] at hcs
    obtain ⟨rfl, rfl, rfl⟩ := hcs
    refine ⟨zs.take len, reads_arg ?_ hcell, by omega⟩
    rw [hz]
    split <;> omega
theorem flat_len {α : Type} (enc : α → List Value) (s : Nat) (he : ∀ x, (enc x).length = s) (l : List α) : (l.flatMap enc).length = l.length * s := by
  induction l with
  | nil => simp
  | cons x r ih => simp only [List.flatMap_cons, List.length_append, ih, he, List.length_cons, Nat.add_mul]; omega
theorem flat_at {α : Type} (enc : α → List Value) (s : Nat) (hs : 0 < s) (he : ∀ x, (enc x).length = s) (l : List α) (j : Nat) (u : Value) (h : (l.flatMap enc)[j]? = some u) : ∃ x, l[j / s]? = some x ∧ (enc x)[j % s]? = some u := by
  induction l generalizing j with
  | nil => simp at h
  | cons x r ih =>
    rw [List.flatMap_cons] at h
    by_cases hj : j < s
    · rw [List.getElem?_append_left (by rw [he]; exact hj)] at h
      refine ⟨x, ?_, ?_⟩
      · rw [Nat.div_eq_of_lt hj]
        rfl
      · rw [Nat.mod_eq_of_lt hj]
        exact h
    · rw [List.getElem?_append_right (by rw [he]; omega), he] at h
      obtain ⟨y, h1, h2⟩ := ih _ h
      have e : j = (j - s) + s := by omega
      refine ⟨y, ?_, ?_⟩
      · rw [e, Nat.add_div_right _ hs]
        exact h1
      · rw [e, Nat.add_mod_right]
        exact h2
theorem reads_flat {α : Type} [Inhabited α] (enc : α → List Value) (s : Nat) (hs : 0 < s) (he : ∀ x, (enc x).length = s) (G : α → Prop) (w : World) (a : Addr) (len : Nat) (h : ∀ i, i < len → ∃ x, G x ∧ w.cells? 0 (a.add (i * s)) s = some (enc x)) :
    ∃ l : List α, l.length = len ∧ (∀ x ∈ l, G x) ∧ Reads w w.heap.size s (some a) len (l.flatMap enc) := by
  obtain ⟨f, hf⟩ := Go.Deep.choose_lt (p := fun i x => G x ∧ w.cells? 0 (a.add (i * s)) s = some (enc x)) h
  have hget : ∀ i, i < len → ((List.range len).map f)[i]? = some (f i) := by
    intro i hi
    rw [List.getElem?_map, List.getElem?_range hi]
    rfl
  refine ⟨(List.range len).map f, by simp, fun x hx => ?_, by rw [flat_len enc s he]; simp, fun h0 => ⟨a, rfl, ?_, fun j u hj => ?_⟩⟩
  · obtain ⟨i, hi, rfl⟩ := List.mem_map.1 hx
    exact (hf i (by simpa using hi)).1
  · obtain ⟨_, hl, hc⟩ := World.cells?_some (hf 0 h0).2
    have := hc 0 hs
    rw [List.getElem?_eq_getElem (by omega)] at this
    have := lt_of_cell this
    rwa [block_of_add, block_of_add] at this
  · obtain ⟨x, h1, h2⟩ := flat_at enc s hs he _ j u hj
    have hi : j / s < len := by
      have := (List.getElem?_eq_some_iff.1 h1).1
      simpa using this
    rw [hget _ hi] at h1
    injection h1 with h1
    subst h1
    obtain ⟨_, hl, hc⟩ := World.cells?_some (hf _ hi).2
    have := hc (j % s) (Nat.mod_lt _ hs)
    rw [add_of_add, h2] at this
    rw [← this]
    congr 2
    rw [Nat.mul_comm]
    exact (Nat.div_add_mod j s).symm
theorem cells3 : Try.prog.cellsOf 3 = 1 := by kernel_rfl
theorem cells57 : Try.prog.cellsOf 57 = 2 := by kernel_rfl
theorem cellsT : Try.prog.cellsOf 48 = 3 := by kernel_rfl
theorem cellsO : Try.prog.cellsOf 29 = 3 := by kernel_rfl
theorem okWide_ary {P : Program} {w : World} {r : Reach} {base : Nat} {t e : TypeId} {n : Nat} {v : Value} (ht : P.underlying t = some (.array n e)) (h : Value.okWide P w r base t v) : ∃ cs, v = .agg cs ∧ cs.size = P.cellsOf t := by
  simp only [Value.okWide, ht] at h
  obtain ⟨cs, h1, h2, _⟩ := h
  exact ⟨cs, h1, h2⟩
theorem trod_struct3 {H : Type} {P : Program} {w : World} {base : Nat} {enc : TypeId × Value → H} {spare : Nat → Bool} {held : Bool} {t : TypeId} {f0 f1 f2 : Field} {fuel : Nat} {cs : List Value} {x : DataW H × List MemPlace} (ht : P.underlying t = some (.struct #[f0, f1, f2])) (h : DataW.trod enc P w base spare held fuel t cs = some x) :
    ∃ y0 y1 y2 n, DataW.trod enc P w base spare held n f0.type ((cs.drop f0.offset).take (P.cellsOf f0.type)) = some y0 ∧
      DataW.trod enc P w base spare held n f1.type ((cs.drop f1.offset).take (P.cellsOf f1.type)) = some y1 ∧ DataW.trod enc P w base spare held n f2.type ((cs.drop f2.offset).take (P.cellsOf f2.type)) = some y2 := by
  obtain ⟨xs, n, _, rfl, hl, hlen, hf⟩ := DataW.trod_struct ht h
  match xs, hlen with
  | [y0, y1, y2], _ => exact ⟨y0, y1, y2, n, by simpa using hf 0 f0 rfl, by simpa using hf 1 f1 rfl, by simpa using hf 2 f2 rfl⟩
section
variable {H : Type} {enc : TypeId × Value → H} {W : World} {spare : Nat → Bool} {a : Option Addr} {len cap : Nat} {d : DataW H} {p : List MemPlace} {hd : Bool}
theorem open_D (h : DataW.Trod enc Try.prog W 0 spare hd 56 (.slice a len cap) d p) : ∃ l : List (Int × Int), Reads W W.heap.size 2 a len (twos l) ∧ len ≤ maxLen := by
  obtain ⟨fuel, hf⟩ := h
  rcases Go.Deep.open_slice Try.underlying56 hf with ⟨hcs, _⟩ | ⟨x, l, c, m, n, D, Pl, hcs, _, hl, hm, hmm, _, hx⟩
  · simp [Value.cells] at hcs
    obtain ⟨rfl, rfl, rfl⟩ := hcs
    exact ⟨[], Reads.none_, by decide⟩
  · simp [Value.cells] at hcs
    obtain ⟨rfl, rfl, rfl⟩ := hcs
    have hml : len ≤ m := by rw [hmm]; split <;> omega
    obtain ⟨ls, _, _, hr⟩ := reads_flat (α := Int × Int) (fun t => [.int .i64 t.1, .int .i64 t.2]) 2 (by omega) (fun _ => rfl) (fun _ => True) W x len (fun i hi => by
      obtain ⟨cs', h1, h2⟩ := hx i (by omega)
      rw [cells57] at h1
      obtain ⟨_, hl3, _⟩ := World.cells?_some h1
      obtain ⟨xs, m', _, _, _, hxl, he⟩ := DataW.trod_array Try.underlying57 h2
      have g : ∀ i, i < 2 → ∃ z : Int, (cs'.drop i).take 1 = [.int .i64 z] := by
        intro i hi
        have := he i hi
        rw [cells3, Nat.mul_one, List.getElem?_eq_getElem (by omega)] at this
        obtain ⟨z, hz, _⟩ := DataW.trod_int Try.underlying3 this
        exact ⟨z, hz⟩
      obtain ⟨z0, g0⟩ := g 0 (by omega)
      obtain ⟨z1, g1⟩ := g 1 (by omega)
      match cs', hl3 with
      | [c0, c1], _ =>
        simp at g0 g1
        subst g0 g1
        exact ⟨(z0, z1), trivial, h1⟩)
    exact ⟨ls, hr, by omega⟩
theorem open_3 {r : Reach} {b0 : Nat} {v : Value} (hv : Value.okWide Try.prog W r b0 48 v) (h : DataW.Trod enc Try.prog W 0 spare hd 48 v d p) :
    ∃ x y z : Int, v = .agg #[.int .i64 x, .int .i64 y, .int .i64 z] := by
  obtain ⟨cs, rfl, hsz⟩ := okWide_ary Try.underlying48 hv
  obtain ⟨c0, c1, c2, rfl⟩ := Go.Joins.array3 (hsz.trans cellsT)
  obtain ⟨fuel, hf⟩ := h
  obtain ⟨xs, m', _, _, _, hxl, he⟩ := DataW.trod_array Try.underlying48 hf
  rw [cells3] at he
  have e0 := he 0 (by decide)
  have e1 := he 1 (by decide)
  have e2 := he 2 (by decide)
  rw [List.getElem?_eq_getElem (by omega)] at e0 e1 e2
  obtain ⟨z0, g0, _, w0⟩ := DataW.trod_int Try.underlying3 e0
  obtain ⟨z1, g1, _, w1⟩ := DataW.trod_int Try.underlying3 e1
  obtain ⟨z2, g2, _, w2⟩ := DataW.trod_int Try.underlying3 e2
  simp [Value.cells] at g0 g1 g2
  subst g0 g1 g2
  exact ⟨z0, z1, z2, rfl⟩
end
end Go.Proofs.Ytfojempmgonahaa.Wh
