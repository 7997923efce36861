/- Arguments as they come in: numbers, pairs, points, and slices of them. Conditions: none. -/
import Derived.Test.YtkgapieikgniiaaVAwk
import Derived.Test.YtkgapieikgniiaaChecked
import Derived.ProofKit
import Derived.OpenShut
import Derived.Lib.SmallJoins
import Derived.Deep.Slices
set_option linter.unusedVariables false
set_option linter.unusedSimpArgs false
set_option maxRecDepth 100000
namespace Go.Proofs.Ytkgapieikgniiaa
open Go Go.ChangeShapes Go.WideShapes Go.ChangeAt Go.RowKit
theorem lt_of_cell {w : World} {p : Addr} {v : Value} (h : w.cell? p = some v) : p.block < w.heap.size := by
  rcases Nat.lt_or_ge p.block w.heap.size with h' | h'
  · exact h'
  · simp [World.cell?, Array.getElem?_eq_none h'] at h
theorem reads_arg {w : World} {a : Addr} {len : Nat} {zs : List Int} (hl : len ≤ zs.length) (hc : ∀ i, i < zs.length → w.cell? (a.add i) = some (.int .i64 (zs.getD i 0))) : Reads w w.heap.size 1 (some a) len (ints (zs.take len)) := by
  refine ⟨by simp [ints]; omega, fun h0 => ⟨a, rfl, ?_, fun j u hj => ?_⟩⟩
  · have := lt_of_cell (hc 0 (by omega))
    rwa [block_of_add] at this
  · have hj' := (List.getElem?_eq_some_iff.1 hj).1
    simp [ints] at hj'
    rw [hc j (by omega), ← hj]
    unfold ints
    simp only [List.getElem?_map]
    rw [List.getElem?_take, if_pos (by omega), List.getD_eq_getElem?_getD, List.getElem?_eq_getElem (by omega)]
    rfl
theorem open_l {H : Type} {enc : TypeId × Value → H} {W : World} {spare : Nat → Bool} {a : Option Addr} {len cap : Nat} {d : DataW H} {p : List MemPlace} {hd : Bool}
    (h : DataW.Trod enc Try.prog W 0 spare hd 35 (.slice a len cap) d p) : ∃ l, Reads W W.heap.size 1 a len (ints l) ∧ len ≤ maxLen := by
  obtain ⟨fuel, hf⟩ := h
  rcases open_ints Try.underlying35 Try.underlying3 (by kernel_rfl) hf with ⟨hcs, _⟩ | ⟨x, l, c, zs, hcs, _, hl, hm, hz, _, hcell, hwz⟩
  · simp [Value.cells] at hcs
    obtain ⟨rfl, rfl, rfl⟩ := hcs
    exact ⟨[], Reads.none_, by decide⟩
  · simp [Value.cells] at hcs
    obtain ⟨rfl, rfl, rfl⟩ := hcs
    refine ⟨zs.take len, reads_arg ?_ hcell, by omega⟩
    rw [hz]
    split <;> omega
theorem flat_len {α : Type} (enc : α → List Value) (s : Nat) (he : ∀ x, (enc x).length = s) (l : List α) : (l.flatMap enc).length = l.length * s := by
  induction l with
  | nil => simp
  | cons x r ih => simp only [List.flatMap_cons, List.length_append, ih, he, List.length_cons, Nat.add_mul]; omega
theorem flat_at {α : Type} (enc : α → List Value) (s : Nat) (hs : 0 < s) (he : ∀ x, (enc x).length = s) (l : List α) (j : Nat) (u : Value) (h : (l.flatMap enc)[j]? = some u) : ∃ x, l[j / s]? = some x ∧ (enc x)[j % s]? = some u := by
  induction l generalizing j with
  | nil => simp at h
  | cons x r ih =>
    rw [List.flatMap_cons] at h
    by_cases hj : j < s
    · rw [List.getElem?_append_left (by rw [he]; exact hj)] at h
      refine ⟨x, ?_, ?_⟩
      · rw [Nat.div_eq_of_lt hj]
        rfl
      · rw [Nat.mod_eq_of_lt hj]
        exact h
    · rw [List.getElem?_append_right (by rw [he]; omega), he] at h
      obtain ⟨y, h1, h2⟩ := ih _ h
      have e : j = (j - s) + s := by omega
      refine ⟨y, ?_, ?_⟩
      · rw [e, Nat.add_div_right _ hs]
        exact h1
      · rw [e, Nat.add_mod_right]
        exact h2
theorem reads_flat {α : Type} [Inhabited α] (enc : α → List Value) (s : Nat) (hs : 0 < s) (he : ∀ x, (enc x).length = s) (G : α → Prop) (w : World) (a : Addr) (len : Nat) (h : ∀ i, i < len → ∃ x, G x ∧ w.cells? 0 (a.add (i * s)) s = some (enc x)) :
    ∃ l : List α, l.length = len ∧ (∀ x ∈ l, G x) ∧ Reads w w.heap.size s (some a) len (l.flatMap enc) := by
  obtain ⟨f, hf⟩ := Go.Deep.choose_lt (p := fun i x => G x ∧ w.cells? 0 (a.add (i * s)) s = some (enc x)) h
  have hget : ∀ i, i < len → ((List.range len).map f)[i]? = some (f i) := by
    intro i hi
    rw [List.getElem?_map, List.getElem?_range hi]
    rfl
  refine ⟨(List.range len).map f, by simp, fun x hx => ?_, by rw [flat_len enc s he]; simp, fun h0 => ⟨a, rfl, ?_, fun j u hj => ?_⟩⟩
  · obtain ⟨i, hi, rfl⟩ := List.mem_map.1 hx
    exact (hf i (by simpa using hi)).1
  · obtain ⟨_, hl, hc⟩ := World.cells?_some (hf 0 h0).2
    have := hc 0 hs
    rw [List.getElem?_eq_getElem (by omega)] at this
    have := lt_of_cell this
    rwa [block_of_add, block_of_add] at this
  · obtain ⟨x, h1, h2⟩ := flat_at enc s hs he _ j u hj
    have hi : j / s < len := by
      have := (List.getElem?_eq_some_iff.1 h1).1
      simpa using this
    rw [hget _ hi] at h1
    injection h1 with h1
    subst h1
    obtain ⟨_, hl, hc⟩ := World.cells?_some (hf _ hi).2
    have := hc (j % s) (Nat.mod_lt _ hs)
    rw [add_of_add, h2] at this
    rw [← this]
    congr 2
    rw [Nat.mul_comm]
    exact (Nat.div_add_mod j s).symm
theorem cells57 : Try.prog.cellsOf 57 = 2 := by kernel_rfl
theorem cells37 : Try.prog.cellsOf 37 = 2 := by kernel_rfl
theorem cells3 : Try.prog.cellsOf 3 = 1 := by kernel_rfl
theorem cells35 : Try.prog.cellsOf 35 = 1 := by kernel_rfl
theorem cells44 : Try.prog.cellsOf 44 = 2 := by kernel_rfl
/-- A point: its number, its vector's slice (address, length, room), its vector. -/
abbrev Pt := Int × (Option Addr × Nat × Nat) × List Int
def pcell (p : Pt) : List Value := [.int .i64 p.1, .slice p.2.1.1 p.2.1.2.1 p.2.1.2.2]
def pts (l : List Pt) : List Value := l.flatMap pcell
instance : Inhabited Pt := ⟨(0, (none, 0, 0), [])⟩
def GoodP (w : World) (B : Nat) (p : Pt) : Prop := (Reads w B 1 p.2.1.1 p.2.1.2.1 (ints p.2.2) ∧ p.2.1.2.1 ≤ maxLen) ∧ (Lit.int .i64 p.1).wf = true
structure Pts (w : World) (B : Nat) (A : Option Addr) (n : Nat) (l : List Pt) : Prop where
  row : Reads w B 2 A n (pts l)
  good : ∀ p ∈ l, GoodP w B p
theorem Pts.below {w w' : World} {B n : Nat} {A : Option Addr} {l : List Pt} (h : Pts w B A n l) (hb : Below B w w') : Pts w' B A n l := ⟨h.row.below hb, fun p hp => ⟨⟨(h.good p hp).1.1.below hb, (h.good p hp).1.2⟩, (h.good p hp).2⟩⟩
theorem Pts.more {w : World} {B B' n : Nat} {A : Option Addr} {l : List Pt} (h : Pts w B A n l) (hb : B ≤ B') : Pts w B' A n l := ⟨h.row.more hb, fun p hp => ⟨⟨(h.good p hp).1.1.more hb, (h.good p hp).1.2⟩, (h.good p hp).2⟩⟩
theorem Pts.len {w : World} {B n : Nat} {A : Option Addr} {l : List Pt} (h : Pts w B A n l) : n = l.length := by
  have := h.row.1
  unfold pts at this
  rw [flat_len pcell 2 (fun _ => rfl)] at this
  omega
def ptAt (l : List Pt) (k : Nat) : Pt := l.getD k (0, (none, 0, 0), [])
theorem pts_at (l : List Pt) (k : Nat) (hk : k < l.length) : (pts l)[2 * k]? = some (.int .i64 (ptAt l k).1) ∧ (pts l)[2 * k + 1]? = some (.slice (ptAt l k).2.1.1 (ptAt l k).2.1.2.1 (ptAt l k).2.1.2.2) := by
  unfold ptAt
  induction l generalizing k with
  | nil => simp at hk
  | cons t r ih =>
    have e : pts (t :: r) = .int .i64 t.1 :: .slice t.2.1.1 t.2.1.2.1 t.2.1.2.2 :: pts r := by simp [pts, pcell]
    rw [e]
    rcases k with _ | k
    · simp
    · have := ih k (by simpa using hk)
      rw [show 2 * (k + 1) = 2 * k + 1 + 1 by omega]
      simpa using this
theorem ptAt_mem {l : List Pt} {k : Nat} (hk : k < l.length) : ptAt l k ∈ l := by
  unfold ptAt
  rw [List.getD_eq_getElem?_getD, List.getElem?_eq_getElem hk]
  exact List.getElem_mem hk
theorem Pts.at_ {w : World} {B n k : Nat} {A : Option Addr} {l : List Pt} (h : Pts w B A n l) (hk : k < n) : ∃ ad, A = some ad ∧ ad.block < B ∧ k < l.length ∧
    w.cell? (ad.add (k * 2)) = some (.int .i64 (ptAt l k).1) ∧ w.cell? ⟨(ad.add (k * 2)).block, (ad.add (k * 2)).off + 1, none⟩ = some (.slice (ptAt l k).2.1.1 (ptAt l k).2.1.2.1 (ptAt l k).2.1.2.2) ∧ GoodP w B (ptAt l k) := by
  have hl := h.len
  have hk' : k < l.length := by omega
  obtain ⟨ad, e, hb, hc⟩ := h.row.2 (by omega)
  obtain ⟨t1, t2⟩ := pts_at l k hk'
  refine ⟨ad, e, hb, hk', ?_, ?_, h.good _ (ptAt_mem hk')⟩
  · rw [Nat.mul_comm]
    exact hc _ _ t1
  · show w.cell? ((ad.add (k * 2)).add 1) = _
    rw [add_of_add, Nat.mul_comm]
    exact hc _ _ t2
section
variable {H : Type} {enc : TypeId × Value → H} {W : World} {spare : Nat → Bool} {a : Option Addr} {len cap : Nat} {d : DataW H} {p : List MemPlace} {hd : Bool}
theorem open_P (h : DataW.Trod enc Try.prog W 0 spare hd 27 (.slice a len cap) d p) : ∃ l : List Pt, Pts W W.heap.size a len l ∧ len ≤ maxLen := by
  obtain ⟨fuel, hf⟩ := h
  rcases Go.Deep.open_slice Try.underlying27 hf with ⟨hcs, _⟩ | ⟨x, l, c, m, n, D, Pl, hcs, _, hl, hm, hmm, _, hx⟩
  · simp [Value.cells] at hcs
    obtain ⟨rfl, rfl, rfl⟩ := hcs
    exact ⟨[], ⟨Reads.none_, fun h hm => by simp at hm⟩, by decide⟩
  · simp [Value.cells] at hcs
    obtain ⟨rfl, rfl, rfl⟩ := hcs
    have hml : len ≤ m := by rw [hmm]; split <;> omega
    obtain ⟨ls, _, hwf, hr⟩ := reads_flat (α := Pt) pcell 2 (by omega) (fun _ => rfl) (fun q => GoodP W W.heap.size q) W x len (fun i hi => by
      obtain ⟨cs', h1, h2⟩ := hx i (by omega)
      rw [cells37] at h1
      obtain ⟨_, hl3, _⟩ := World.cells?_some h1
      obtain ⟨y0, y1, m', _, _, e0, e1⟩ := trod_struct2 Try.underlying37 h2
      obtain ⟨z0, g0, _, wz0⟩ := DataW.trod_int Try.underlying3 e0
      rw [cells3] at g0
      match cs', hl3 with
      | [c0, c1], _ =>
        simp at g0
        subst g0
        simp only [cells35] at e1
        have e2 : DataW.trod enc Try.prog W 0 spare hd m' 35 [c1] = some y1 := e1
        obtain ⟨b, k, cc, hc1⟩ : ∃ b k cc, c1 = .slice b k cc := by
          rcases Go.Deep.open_slice Try.underlying35 e2 with ⟨hcs, _⟩ | ⟨x, l, c, m, n, D, Pl, hcs, _⟩
          · exact ⟨none, 0, 0, by simpa using hcs⟩
          · exact ⟨some x, l, c, by simpa using hcs⟩
        subst hc1
        obtain ⟨L, hL⟩ := open_l (d := y1.1) (p := y1.2) ⟨m', e2⟩
        exact ⟨(z0, (b, k, cc), L), ⟨hL, wz0⟩, h1⟩)
    exact ⟨ls, ⟨hr, hwf⟩, by omega⟩
end
/-- Pairs as cells. -/
def twos (l : List (Int × Int)) : List Value := l.flatMap fun t => [.int .i64 t.1, .int .i64 t.2]
theorem okWide_ary {P : Program} {w : World} {r : Reach} {base : Nat} {t e : TypeId} {n : Nat} {v : Value} (ht : P.underlying t = some (.array n e)) (h : Value.okWide P w r base t v) : ∃ cs, v = .agg cs ∧ cs.size = P.cellsOf t := by
  simp only [Value.okWide, ht] at h
  obtain ⟨cs, h1, h2, _⟩ := h
  exact ⟨cs, h1, h2⟩
section
variable {H : Type} {enc : TypeId × Value → H} {W : World} {spare : Nat → Bool} {a : Option Addr} {len cap : Nat} {d : DataW H} {p : List MemPlace} {hd : Bool}
theorem open_2 {r : Reach} {b0 : Nat} {v : Value} (hv : Value.okWide Try.prog W r b0 44 v) (h : DataW.Trod enc Try.prog W 0 spare hd 44 v d p) :
    ∃ x y : Int, v = .agg #[.int .i64 x, .int .i64 y] ∧ (-9223372036854775808 ≤ x ∧ x ≤ 9223372036854775807) ∧ (-9223372036854775808 ≤ y ∧ y ≤ 9223372036854775807) := by
  obtain ⟨cs, rfl, hsz⟩ := okWide_ary Try.underlying44 hv
  obtain ⟨c0, c1, rfl⟩ := Go.Joins.array2 (hsz.trans cells44)
  obtain ⟨fuel, hf⟩ := h
  obtain ⟨xs, m', _, _, _, hxl, he⟩ := DataW.trod_array Try.underlying44 hf
  rw [cells3] at he
  have e0 := he 0 (by decide)
  have e1 := he 1 (by decide)
  rw [List.getElem?_eq_getElem (by omega)] at e0 e1
  obtain ⟨z0, g0, _, w0⟩ := DataW.trod_int Try.underlying3 e0
  obtain ⟨z1, g1, _, w1⟩ := DataW.trod_int Try.underlying3 e1
  simp [Value.cells] at g0 g1
  subst g0 g1
  exact ⟨z0, z1, rfl, bounds_i64 w0, bounds_i64 w1⟩
theorem open_D (h : DataW.Trod enc Try.prog W 0 spare hd 59 (.slice a len cap) d p) : ∃ l : List (Int × Int), Reads W W.heap.size 2 a len (twos l) ∧ len ≤ maxLen := by
  obtain ⟨fuel, hf⟩ := h
  rcases Go.Deep.open_slice Try.underlying59 hf with ⟨hcs, _⟩ | ⟨x, l, c, m, n, D, Pl, hcs, _, hl, hm, hmm, _, hx⟩
  · simp [Value.cells] at hcs
    obtain ⟨rfl, rfl, rfl⟩ := hcs
    exact ⟨[], Reads.none_, by decide⟩
  · simp [Value.cells] at hcs
    obtain ⟨rfl, rfl, rfl⟩ := hcs
    have hml : len ≤ m := by rw [hmm]; split <;> omega
    obtain ⟨ls, _, _, hr⟩ := reads_flat (α := Int × Int) (fun t => [.int .i64 t.1, .int .i64 t.2]) 2 (by omega) (fun _ => rfl) (fun _ => True) W x len (fun i hi => by
      obtain ⟨cs', h1, h2⟩ := hx i (by omega)
      rw [cells44] at h1
      obtain ⟨_, hl3, _⟩ := World.cells?_some h1
      obtain ⟨xs, m', _, _, _, hxl, he⟩ := DataW.trod_array Try.underlying44 h2
      have g : ∀ i, i < 2 → ∃ z : Int, (cs'.drop i).take 1 = [.int .i64 z] := by
        intro i hi
        have := he i hi
        rw [cells3, Nat.mul_one, List.getElem?_eq_getElem (by omega)] at this
        obtain ⟨z, hz, _⟩ := DataW.trod_int Try.underlying3 this
        exact ⟨z, hz⟩
      obtain ⟨z0, g0⟩ := g 0 (by omega)
      obtain ⟨z1, g1⟩ := g 1 (by omega)
      match cs', hl3 with
      | [c0, c1], _ =>
        simp at g0 g1
        subst g0 g1
        exact ⟨(z0, z1), trivial, h1⟩)
    exact ⟨ls, hr, by omega⟩
theorem open_p {r : Reach} {b0 : Nat} {v : Value} (hv : Value.okWide Try.prog W r b0 37 v) (h : DataW.Trod enc Try.prog W 0 spare hd 37 v d p) :
    ∃ (x : Int) (A : Option Addr) (n c : Nat) (l : List Int), v = .agg #[.int .i64 x, .slice A n c] ∧ Reads W W.heap.size 1 A n (ints l) ∧ n ≤ maxLen ∧ (Lit.int .i64 x).wf = true := by
  obtain ⟨v0, v1, y0, y1, n, e, _, _, h0, h1⟩ := Go.Joins.open_agg2 Try.underlying37 (by kernel_rfl) cells37 hv h
  obtain ⟨z0, g0, _, wz⟩ := DataW.trod_int Try.underlying3 h0
  simp at g0
  subst g0
  have e2 : DataW.trod enc Try.prog W 0 spare hd n 35 [v1] = some y1 := by simpa using h1
  obtain ⟨b, k, cc, hc1⟩ : ∃ b k cc, v1 = .slice b k cc := by
    rcases Go.Deep.open_slice Try.underlying35 e2 with ⟨hcs, _⟩ | ⟨x, l, c, m, n, D, Pl, hcs, _⟩
    · exact ⟨none, 0, 0, by simpa using hcs⟩
    · exact ⟨some x, l, c, by simpa using hcs⟩
  subst hc1
  obtain ⟨L, hL, hm⟩ := open_l (d := y1.1) (p := y1.2) ⟨n, e2⟩
  exact ⟨z0, b, k, cc, L, e, hL, hm, wz⟩
end
end Go.Proofs.Ytkgapieikgniiaa
