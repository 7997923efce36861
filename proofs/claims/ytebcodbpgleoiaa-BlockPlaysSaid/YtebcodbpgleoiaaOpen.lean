/- Arguments as they come in: lists of calls, arrays of numbers and of texts by value. Conditions: none. -/
import Derived.Test.YtebcodbpgleoiaaKit
import Derived.Test.YtebcodbpgleoiaaChecked
import Derived.ProofKit
import Derived.OpenShut
import Derived.Deep.Slices
import Derived.Lib.SmallJoins
import Derived.Laws.IdiomArrays
set_option linter.unusedVariables false
set_option linter.unusedSimpArgs false
namespace Go.Proofs.Ytebcodbpgleoiaa
open Go Go.ChangeShapes Go.WideShapes Go.ChangeAt Go.RowKit
theorem lt_of_cell {w : World} {p : Addr} {v : Value} (h : w.cell? p = some v) : p.block < w.heap.size := by
  rcases Nat.lt_or_ge p.block w.heap.size with h' | h'
  · exact h'
  · simp [World.cell?, Array.getElem?_eq_none h'] at h
theorem flat_len {α : Type} (enc : α → List Value) (s : Nat) (he : ∀ x, (enc x).length = s) (l : List α) : (l.flatMap enc).length = l.length * s := by
  induction l with
  | nil => simp
  | cons x r ih => simp only [List.flatMap_cons, List.length_append, ih, he, List.length_cons, Nat.add_mul]; omega
theorem flat_at {α : Type} (enc : α → List Value) (s : Nat) (hs : 0 < s) (he : ∀ x, (enc x).length = s) (l : List α) (j : Nat) (u : Value) (h : (l.flatMap enc)[j]? = some u) : ∃ x, l[j / s]? = some x ∧ (enc x)[j % s]? = some u := by
  induction l generalizing j with
  | nil => simp at h
  | cons x r ih =>
    rw [List.flatMap_cons] at h
    by_cases hj : j < s
    · rw [List.getElem?_append_left (by rw [he]; exact hj)] at h
      refine ⟨x, ?_, ?_⟩
      · rw [Nat.div_eq_of_lt hj]
        rfl
      · rw [Nat.mod_eq_of_lt hj]
        exact h
    · rw [List.getElem?_append_right (by rw [he]; omega), he] at h
      obtain ⟨y, h1, h2⟩ := ih _ h
      have e : j = (j - s) + s := by omega
      refine ⟨y, ?_, ?_⟩
      · rw [e, Nat.add_div_right _ hs]
        exact h1
      · rw [e, Nat.add_mod_right]
        exact h2
/-- Element k of such a row, cell by cell. -/
theorem flat_get {α : Type} (enc : α → List Value) (s : Nat) (he : ∀ x, (enc x).length = s) (l : List α) (k j : Nat) (x : α) (hk : l[k]? = some x) (hj : j < s) : (l.flatMap enc)[k * s + j]? = (enc x)[j]? := by
  induction l generalizing k with
  | nil => simp at hk
  | cons y r ih =>
    rw [List.flatMap_cons]
    rcases k with _ | k
    · simp at hk
      subst hk
      rw [Nat.zero_mul, Nat.zero_add, List.getElem?_append_left (by rw [he]; exact hj)]
    · rw [List.getElem?_append_right (by rw [he, Nat.add_mul]; omega), he, show (k + 1) * s + j - s = k * s + j by rw [Nat.add_mul]; omega]
      exact ih k (by simpa using hk)
theorem reads_flat {α : Type} [Inhabited α] (enc : α → List Value) (s : Nat) (hs : 0 < s) (he : ∀ x, (enc x).length = s) (G : α → Prop) (w : World) (a : Addr) (len : Nat) (h : ∀ i, i < len → ∃ x, G x ∧ w.cells? 0 (a.add (i * s)) s = some (enc x)) :
    ∃ l : List α, l.length = len ∧ (∀ x ∈ l, G x) ∧ Reads w w.heap.size s (some a) len (l.flatMap enc) := by
  obtain ⟨f, hf⟩ := Go.Deep.choose_lt (p := fun i x => G x ∧ w.cells? 0 (a.add (i * s)) s = some (enc x)) h
  have hget : ∀ i, i < len → ((List.range len).map f)[i]? = some (f i) := by
    intro i hi
    rw [List.getElem?_map, List.getElem?_range hi]
    rfl
  refine ⟨(List.range len).map f, by simp, fun x hx => ?_, by rw [flat_len enc s he]; simp, fun h0 => ⟨a, rfl, ?_, fun j u hj => ?_⟩⟩
  · obtain ⟨i, hi, rfl⟩ := List.mem_map.1 hx
    exact (hf i (by simpa using hi)).1
  · obtain ⟨_, hl, hc⟩ := World.cells?_some (hf 0 h0).2
    have := hc 0 hs
    rw [List.getElem?_eq_getElem (by omega)] at this
    have := lt_of_cell this
    rwa [block_of_add, block_of_add] at this
  · obtain ⟨x, h1, h2⟩ := flat_at enc s hs he _ j u hj
    have hi : j / s < len := by
      have := (List.getElem?_eq_some_iff.1 h1).1
      simpa using this
    rw [hget _ hi] at h1
    injection h1 with h1
    subst h1
    obtain ⟨_, hl, hc⟩ := World.cells?_some (hf _ hi).2
    have := hc (j % s) (Nat.mod_lt _ hs)
    rw [add_of_add, h2] at this
    rw [← this]
    congr 2
    rw [Nat.mul_comm]
    exact (Nat.div_add_mod j s).symm
/-- A call: its kind, two numbers, a text. -/
structure OpT where
  kind : Int
  a : Int
  b : Int
  s : ByteArray
instance : Inhabited OpT := ⟨⟨0, 0, 0, ⟨#[]⟩⟩⟩
def ocell (o : OpT) : List Value := [.int .i64 o.kind, .int .i64 o.a, .int .i64 o.b, .string o.s]
def OpT.good (o : OpT) : Prop := (-9223372036854775808 ≤ o.a ∧ o.a ≤ 9223372036854775807) ∧ (-9223372036854775808 ≤ o.b ∧ o.b ≤ 9223372036854775807) ∧ o.s.size ≤ maxLen
theorem cells35 : Try.prog.cellsOf 35 = 4 := by kernel_rfl
theorem cells3 : Try.prog.cellsOf 3 = 1 := by kernel_rfl
theorem cells9 : Try.prog.cellsOf 9 = 1 := by kernel_rfl
theorem cells47 : Try.prog.cellsOf 47 = 4 := by kernel_rfl
theorem cells48 : Try.prog.cellsOf 48 = 2 := by kernel_rfl
section
variable {H : Type} {enc : TypeId × Value → H} {W : World} {spare : Nat → Bool} {a : Option Addr} {len cap : Nat} {d : DataW H} {p : List MemPlace} {hd : Bool}
theorem open_O (h : DataW.Trod enc Try.prog W 0 spare hd 22 (.slice a len cap) d p) : ∃ l : List OpT, (Reads W W.heap.size 4 a len (l.flatMap ocell) ∧ ∀ o ∈ l, o.good) ∧ len ≤ maxLen := by
  obtain ⟨fuel, hf⟩ := h
  rcases Go.Deep.open_slice Try.underlying22 hf with ⟨hcs, _⟩ | ⟨x, l, c, m, n, D, Pl, hcs, _, hl, hm, hmm, _, hx⟩
  · simp [Value.cells] at hcs
    obtain ⟨rfl, rfl, rfl⟩ := hcs
    exact ⟨[], ⟨Reads.none_, fun h hm => by simp at hm⟩, by decide⟩
  · simp [Value.cells] at hcs
    obtain ⟨rfl, rfl, rfl⟩ := hcs
    have hml : len ≤ m := by rw [hmm]; split <;> omega
    obtain ⟨ls, _, hwf, hr⟩ := reads_flat (α := OpT) ocell 4 (by omega) (fun _ => rfl) OpT.good W x len (fun i hi => by
      obtain ⟨cs', h1, h2⟩ := hx i (by omega)
      rw [cells35] at h1
      obtain ⟨_, hl3, _⟩ := World.cells?_some h1
      obtain ⟨y0, y1, y2, y3, m', _, _, e0, e1, e2, e3⟩ := Go.Joins.trod_struct4 Try.underlying35 h2
      obtain ⟨z0, g0, _, wz0⟩ := DataW.trod_int Try.underlying3 e0
      obtain ⟨z1, g1, _, wz1⟩ := DataW.trod_int Try.underlying3 e1
      obtain ⟨z2, g2, _, wz2⟩ := DataW.trod_int Try.underlying3 e2
      obtain ⟨z3, g3, _, wz3⟩ := DataW.trod_string Try.underlying9 e3
      rw [cells3] at g0 g1 g2
      rw [cells9] at g3
      match cs', hl3 with
      | [c0, c1, c2, c3], _ =>
        simp at g0 g1 g2 g3
        subst g0 g1 g2 g3
        exact ⟨⟨z0, z1, z2, z3⟩, ⟨bounds_i64 wz1, bounds_i64 wz2, wz3⟩, h1⟩)
    exact ⟨ls, ⟨hr, hwf⟩, by omega⟩
theorem okWide_ary {P : Program} {w : World} {r : Reach} {base : Nat} {t e : TypeId} {n : Nat} {v : Value} (ht : P.underlying t = some (.array n e)) (h : Value.okWide P w r base t v) : ∃ cs, v = .agg cs ∧ cs.size = P.cellsOf t := by
  simp only [Value.okWide, ht] at h
  obtain ⟨cs, h1, h2, _⟩ := h
  exact ⟨cs, h1, h2⟩
theorem open_2 {r : Reach} {b0 : Nat} {v : Value} (hv : Value.okWide Try.prog W r b0 48 v) (h : DataW.Trod enc Try.prog W 0 spare hd 48 v d p) :
    ∃ x y : Int, v = .agg #[.int .i64 x, .int .i64 y] ∧ (-9223372036854775808 ≤ x ∧ x ≤ 9223372036854775807) ∧ (-9223372036854775808 ≤ y ∧ y ≤ 9223372036854775807) := by
  obtain ⟨cs, rfl, hsz⟩ := okWide_ary Try.underlying48 hv
  obtain ⟨c0, c1, rfl⟩ := Go.Joins.array2 (hsz.trans cells48)
  obtain ⟨fuel, hf⟩ := h
  obtain ⟨xs, m', _, _, _, hxl, he⟩ := DataW.trod_array Try.underlying48 hf
  rw [cells3] at he
  have e0 := he 0 (by decide)
  have e1 := he 1 (by decide)
  rw [List.getElem?_eq_getElem (by omega)] at e0 e1
  obtain ⟨z0, g0, _, w0⟩ := DataW.trod_int Try.underlying3 e0
  obtain ⟨z1, g1, _, w1⟩ := DataW.trod_int Try.underlying3 e1
  simp [Value.cells] at g0 g1
  subst g0 g1
  exact ⟨z0, z1, rfl, bounds_i64 w0, bounds_i64 w1⟩
theorem open_4 {r : Reach} {b0 : Nat} {v : Value} (hv : Value.okWide Try.prog W r b0 47 v) (h : DataW.Trod enc Try.prog W 0 spare hd 47 v d p) :
    ∃ x0 x1 x2 x3 : ByteArray, v = .agg #[.string x0, .string x1, .string x2, .string x3] ∧ x0.size ≤ maxLen ∧ x1.size ≤ maxLen ∧ x2.size ≤ maxLen ∧ x3.size ≤ maxLen := by
  obtain ⟨cs, rfl, hsz⟩ := okWide_ary Try.underlying47 hv
  obtain ⟨c0, c1, c2, c3, rfl⟩ := Go.Joins.array4 (hsz.trans cells47)
  obtain ⟨fuel, hf⟩ := h
  obtain ⟨xs, m', _, _, _, hxl, he⟩ := DataW.trod_array Try.underlying47 hf
  rw [cells9] at he
  have e0 := he 0 (by decide)
  have e1 := he 1 (by decide)
  have e2 := he 2 (by decide)
  have e3 := he 3 (by decide)
  rw [List.getElem?_eq_getElem (by omega)] at e0 e1 e2 e3
  obtain ⟨z0, g0, _, w0⟩ := DataW.trod_string Try.underlying9 e0
  obtain ⟨z1, g1, _, w1⟩ := DataW.trod_string Try.underlying9 e1
  obtain ⟨z2, g2, _, w2⟩ := DataW.trod_string Try.underlying9 e2
  obtain ⟨z3, g3, _, w3⟩ := DataW.trod_string Try.underlying9 e3
  simp [Value.cells] at g0 g1 g2 g3
  subst g0 g1 g2 g3
  exact ⟨z0, z1, z2, z3, rfl, w0, w1, w2, w3⟩
end
/-- A list of calls in memory. -/
structure Ops (w : World) (B : Nat) (A : Option Addr) (n : Nat) (l : List OpT) : Prop where
  row : Reads w B 4 A n (l.flatMap ocell)
  good : ∀ o ∈ l, o.good
section
variable {w w' : World} {B n : Nat} {A : Option Addr} {l : List OpT}
theorem Ops.below (h : Ops w B A n l) (hb : Below B w w') : Ops w' B A n l := ⟨h.row.below hb, h.good⟩
theorem Ops.len (h : Ops w B A n l) : n = l.length := by
  have := h.row.1
  rw [flat_len ocell 4 (fun _ => rfl)] at this
  omega
theorem Ops.at_ (h : Ops w B A n l) {k : Nat} (hk : k < n) : ∃ ad o, A = some ad ∧ l[k]? = some o ∧ o.good ∧ ad.block < B ∧ w.cell? (ad.add (k * 4)) = some (.int .i64 o.kind) ∧ w.cell? ⟨(ad.add (k * 4)).block, (ad.add (k * 4)).off + 1, none⟩ = some (.int .i64 o.a) ∧
    w.cell? ⟨(ad.add (k * 4)).block, (ad.add (k * 4)).off + 2, none⟩ = some (.int .i64 o.b) ∧ w.cell? ⟨(ad.add (k * 4)).block, (ad.add (k * 4)).off + 3, none⟩ = some (.string o.s) := by
  have hl := h.len
  have hk' : k < l.length := by omega
  obtain ⟨ad, e, hb, hc⟩ := h.row.2 (by omega)
  have hg : l[k]? = some l[k] := List.getElem?_eq_getElem hk'
  have g := fun j (hj : j < 4) => flat_get ocell 4 (fun _ => rfl) l k j l[k] hg hj
  refine ⟨ad, l[k], e, hg, h.good _ (List.getElem_mem _), hb, ?_, ?_, ?_, ?_⟩
  · exact hc _ _ (g 0 (by decide))
  · show w.cell? ((ad.add (k * 4)).add 1) = _
    rw [add_of_add]
    exact hc _ _ (g 1 (by decide))
  · show w.cell? ((ad.add (k * 4)).add 2) = _
    rw [add_of_add]
    exact hc _ _ (g 2 (by decide))
  · show w.cell? ((ad.add (k * 4)).add 3) = _
    rw [add_of_add]
    exact hc _ _ (g 3 (by decide))
end
end Go.Proofs.Ytebcodbpgleoiaa
