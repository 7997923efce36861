/- Rows that a sort turns: what they hold ahead of it and behind it. Conditions: none. -/
import Derived.Test.YtkgapieikgniiaaVOpen
import Derived.Test.YtkgapieikgniiaaVTr
import Derived.Shelf.SlSortCmp.WholeK
set_option linter.unusedVariables false
set_option linter.unusedSimpArgs false
namespace Go.Proofs.Ytkgapieikgniiaa
open Go Go.RowKit Go.Maps
open Go.Sort (HoldsK grow flatK get_flatK size_flatK PermIn SortedIn SWO)
section
variable {α : Type} [Inhabited α] {enc : α → List Value} {k : Nat} {w w' : World} {g off : Nat} {d d' : Array α}
theorem holdsK_of (h : ∀ i c, i < d.size → c < k → w.cell? ⟨g, off + i * k + c, none⟩ = some (enc d[i]!)[c]! ∧ w.frozen? ⟨g, off + i * k + c, none⟩ = false) : HoldsK enc k w g off d := by
  intro t ht
  rw [size_flatK] at ht
  have k0 : 0 < k := Nat.pos_of_ne_zero (by rintro rfl; simp at ht)
  have e : t / k * k + t % k = t := by rw [Nat.mul_comm]; exact Nat.div_add_mod t k
  have := h (t / k) (t % k) (Nat.div_lt_of_lt_mul (by rwa [Nat.mul_comm])) (Nat.mod_lt _ k0)
  rw [Nat.add_assoc, e] at this
  rw [get_flatK _ _ _ _ ht]
  exact this
theorem holdsK_keep (h : HoldsK enc k w g off d) (hk : ∀ o, off ≤ o → o < off + d.size * k → w'.cell? ⟨g, o, none⟩ = w.cell? ⟨g, o, none⟩ ∧ w'.frozen? ⟨g, o, none⟩ = w.frozen? ⟨g, o, none⟩) : HoldsK enc k w' g off d := by
  intro t ht
  have ht' := ht
  rw [size_flatK] at ht'
  obtain ⟨h1, h2⟩ := hk (off + t) (by omega) (by omega)
  rw [h1, h2]
  exact h t ht
theorem holdsK_block (h : HoldsK enc k w g off d) (hb : w'.heap[g]? = w.heap[g]?) : HoldsK enc k w' g off d :=
  holdsK_keep h fun o _ _ => ⟨World.cell?_of_block hb, World.frozen?_of_block hb⟩
/-- Its elements from a to b. -/
theorem holdsK_part (h : HoldsK enc k w g off d) {a b : Nat} (hab : a ≤ b) (hb : b ≤ d.size) : HoldsK enc k w g (off + a * k) (d.extract a b) := by
  refine holdsK_of fun i c hi hc => ?_
  have hs : (d.extract a b).size = b - a := by simp; omega
  rw [hs] at hi
  have e : (d.extract a b)[i]! = d[a + i]! := by
    rw [getElem!_pos _ i (by rw [hs]; exact hi), getElem!_pos d (a + i) (by omega), Array.getElem_extract]
  have := h.cell (i := a + i) (c := c) (by omega) hc
  rw [e, show off + a * k + i * k + c = off + (a + i) * k + c by rw [Nat.add_mul]; omega]
  exact this
/-- What a sort leaves behind it. -/
theorem sorted_world (hH : HoldsK enc k w g off d) (hg : g < w.heap.size) (hs : d'.size = d.size) (m : Nat) (os : Array Obj) :
    HoldsK enc k (sortWorldK enc k w g off m d' os) g off d' ∧ Turn (fun b => b = g) w (fun b => b = g) (sortWorldK enc k w g off m d' os) ∧
    (∀ p : Addr, (p.off < off ∨ off + d.size * k ≤ p.off) → p.block < w.heap.size → (sortWorldK enc k w g off m d' os).cell? p = w.cell? p) ∧
    (∀ p : Addr, p.block < w.heap.size → (sortWorldK enc k w g off m d' os).frozen? p = w.frozen? p) := by
  have h1 := holdsK_sortWorldK_c enc k w g off d d' m os hH hg hs
  refine ⟨h1, ⟨rfl, rfl, rfl, size_sortWorldK_c enc k w g off m d' os, fun b hb hne => ?_, fun b hb => .inl hb⟩, fun p hp hb => ?_, fun p hb => ?_⟩
  · unfold sortWorldK
    rw [Go.Sort.heap_grow_old _ _ (by rw [Go.Sort.size_putRowK]; exact hb)]
    show (w.heap.modify g _)[b]? = _
    rw [Array.getElem?_modify, if_neg (fun e => hne e.symm)]
  · unfold sortWorldK
    rw [Go.Sort.cell?_grow _ _ _ (by rw [Go.Sort.size_putRowK]; exact hb)]
    exact Go.Sort.cell?_putRow_other id _ g off _ p (.inr (by rw [size_flatK, hs]; exact hp))
  · unfold sortWorldK
    rw [Go.Sort.frozen?_grow _ _ _ (by rw [Go.Sort.size_putRowK]; exact hb)]
    exact Go.Sort.frozen?_putRow id _ g off _ p
theorem perm_in (h : PermIn 0 d.size d d') : d'.size = d.size ∧ d'.toList.Perm d.toList := by
  refine ⟨h.1, ?_⟩
  have := h.2.2
  rwa [show d'.extract 0 d.size = d' by rw [← h.1]; simp, show d.extract 0 d.size = d by simp] at this
theorem get_list (d : Array α) (i : Nat) : d[i]! = d.toList.getD i default := by
  rw [List.getD_eq_getElem?_getD, Array.getElem?_toList]
  by_cases hi : i < d.size
  · rw [getElem!_pos d i hi, Array.getElem?_eq_getElem hi]
    rfl
  · rw [getElem!_neg d i hi, Array.getElem?_eq_none (by omega)]
    rfl
/-- A row of the call's own holds its elements. -/
theorem holdsK_own {base : Nat} {e : TypeId} {c n : Nat} (hk : ∀ x, (enc x).length = k) (h : w.ownsRow base e k (.slice (some ⟨g, 0, none⟩) n c) n (d.toList.flatMap enc)) : HoldsK enc k w g 0 d := by
  have hlen := h.1
  rw [flat_len enc k hk] at hlen
  refine holdsK_of fun i c hi hc => ?_
  have hlt : i * k + c < (d.toList.flatMap enc).length := by
    rw [flat_len enc k hk, Array.length_toList]
    have := Nat.mul_le_mul_right k (show i + 1 ≤ d.size from hi)
    rw [Nat.add_mul] at this
    omega
  obtain ⟨x, h1, h2⟩ := flat_at enc k (by omega) hk d.toList (i * k + c) _ (List.getElem?_eq_getElem hlt)
  have e1 : (i * k + c) / k = i := by rw [Nat.mul_comm, Nat.mul_add_div (by omega), Nat.div_eq_of_lt hc]; rfl
  have e2 : (i * k + c) % k = c := by rw [Nat.mul_comm, Nat.mul_add_mod, Nat.mod_eq_of_lt hc]
  rw [e1] at h1
  rw [e2] at h2
  have hx : d[i]! = x := by
    rw [getElem!_pos d i hi]
    rw [Array.getElem?_toList, Array.getElem?_eq_getElem hi] at h1
    injection h1
  have hc2 := h.cells (g := g) rfl (i * k + c) _ (List.getElem?_eq_getElem hlt)
  rw [add_flat] at hc2
  have hf := h.frozenAt (i * k + c)
  refine ⟨?_, ?_⟩
  · have hcx : c < (enc x).length := by rw [hk]; exact hc
    have hv : (enc x)[c]! = (d.toList.flatMap enc)[i * k + c] := by
      rw [getElem!_pos _ c hcx]
      rw [List.getElem?_eq_getElem hcx] at h2
      exact Option.some.inj h2
    rw [show 0 + i * k + c = 0 + (i * k + c) by omega, hc2, hx, hv]
  · rw [show 0 + i * k + c = i * k + c by omega]
    exact hf
/-- One cell of one element is set. -/
theorem holdsK_set (h : HoldsK enc k w g off d) {i c0 : Nat} (hi : i < d.size) (hc0 : c0 < k) (x : α) (u : Value) (h1 : (enc x)[c0]! = u) (h2 : ∀ c, c < k → c ≠ c0 → (enc x)[c]! = (enc d[i]!)[c]!) :
    HoldsK enc k (w.setCell ⟨g, off + i * k + c0, none⟩ u) g off (d.setIfInBounds i x) := by
  refine holdsK_of fun j c hj hc => ?_
  have hj' : j < d.size := by simpa using hj
  obtain ⟨e1, e2⟩ := h.cell hj' hc
  refine ⟨?_, by rw [World.frozen?_setCell]; exact e2⟩
  by_cases hji : j = i
  · subst hji
    rw [Go.Sort.getElem!_set_same d j x hj']
    by_cases hcc : c = c0
    · subst hcc
      rw [World.cell?_setCell_same _ _ _ e1, h1]
    · rw [World.cell?_setCell_other _ _ _ _ (fun e => hcc (by injection e; omega)), h2 c hc hcc]
      exact e1
  · have hne : off + j * k + c ≠ off + i * k + c0 := by
      intro e
      have e' : j * k + c = i * k + c0 := by omega
      have d1 : (j * k + c) / k = j := by rw [Nat.mul_comm, Nat.mul_add_div (by omega), Nat.div_eq_of_lt hc]; rfl
      have d2 : (i * k + c0) / k = i := by rw [Nat.mul_comm, Nat.mul_add_div (by omega), Nat.div_eq_of_lt hc0]; rfl
      rw [e', d2] at d1
      exact hji d1.symm
    have hx : (d.setIfInBounds i x)[j]! = d[j]! := by
      rw [getElem!_pos _ j hj, getElem!_pos d j hj', Array.getElem_setIfInBounds, if_neg (fun e => hji e.symm)]
    rw [hx, World.cell?_setCell_other _ _ _ _ (fun e => hne (by injection e; omega))]
    exact e1
theorem reads_holds (hk : ∀ x, (enc x).length = k) (h : HoldsK enc k w g 0 d) (hg : g < w.heap.size) : Reads w w.heap.size k (some ⟨g, 0, none⟩) d.size (d.toList.flatMap enc) := by
  refine ⟨by rw [flat_len enc k hk, Array.length_toList], fun h0 => ⟨_, rfl, hg, fun j u hj => ?_⟩⟩
  have hlt := (List.getElem?_eq_some_iff.1 hj).1
  rw [flat_len enc k hk, Array.length_toList] at hlt
  have k0 : 0 < k := Nat.pos_of_ne_zero (by rintro rfl; simp at hlt)
  obtain ⟨x, h1, h2⟩ := flat_at enc k k0 hk d.toList j u hj
  have hq : j / k < d.size := Nat.div_lt_of_lt_mul (by rwa [Nat.mul_comm])
  have hx : d[j / k]! = x := by
    rw [getElem!_pos d _ hq]
    rw [Array.getElem?_toList, Array.getElem?_eq_getElem hq] at h1
    injection h1
  have := (h j (by rw [size_flatK]; exact hlt)).1
  rw [get_flatK _ _ _ _ hlt, hx] at this
  rw [add_flat, this]
  obtain ⟨hjk, hju⟩ := List.getElem?_eq_some_iff.1 h2
  show some (enc x)[j % k]! = some u
  rw [getElem!_pos (enc x) (j % k) hjk]
  exact congrArg some hju
end
end Go.Proofs.Ytkgapieikgniiaa
