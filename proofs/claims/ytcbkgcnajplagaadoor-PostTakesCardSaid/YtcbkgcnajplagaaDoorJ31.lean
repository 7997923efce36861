/- Arguments as they come in: messages. Conditions: none. -/
import Derived.Test.YtcbkgcnajplagaaDoorJ29
import Derived.Test.YtcbkgcnajplagaaDoorChecked
import Derived.ProofKit
import Derived.OpenShut
import Derived.Deep.Strs
import Derived.DataShut
import Derived.Lib.SmallJoins
import Derived.Deep.Slices
set_option linter.unusedVariables false
set_option linter.unusedSimpArgs false
set_option maxRecDepth 100000
namespace Go.Proofs.YtcbkgcnajplagaaDoor.Po
open Go Go.ChangeShapes Go.WideShapes Go.ChangeAt Go.RowKit
theorem lt_of_cell {w : World} {p : Addr} {v : Value} (h : w.cell? p = some v) : p.block < w.heap.size := by
  rcases Nat.lt_or_ge p.block w.heap.size with h' | h'
  · exact h'
  · simp [World.cell?, Array.getElem?_eq_none h'] at h
theorem flat_len {α : Type} (enc : α → List Value) (s : Nat) (he : ∀ x, (enc x).length = s) (l : List α) : (l.flatMap enc).length = l.length * s := by
  induction l with
  | nil => simp
  | cons x r ih => simp only [List.flatMap_cons, List.length_append, ih, he, List.length_cons, Nat.add_mul]; omega
theorem flat_at {α : Type} (enc : α → List Value) (s : Nat) (hs : 0 < s) (he : ∀ x, (enc x).length = s) (l : List α) (j : Nat) (u : Value) (h : (l.flatMap enc)[j]? = some u) : ∃ x, l[j / s]? = some x ∧ (enc x)[j % s]? = some u := by
  induction l generalizing j with
  | nil => simp at h
  | cons x r ih =>
    rw [List.flatMap_cons] at h
    by_cases hj : j < s
    · rw [List.getElem?_append_left (by rw [he]; exact hj)] at h
      refine ⟨x, ?_, ?_⟩
      · rw [Nat.div_eq_of_lt hj]
        rfl
      · rw [Nat.mod_eq_of_lt hj]
        exact h
    · rw [List.getElem?_append_right (by rw [he]; omega), he] at h
      obtain ⟨y, h1, h2⟩ := ih _ h
      have e : j = (j - s) + s := by omega
      refine ⟨y, ?_, ?_⟩
      · rw [e, Nat.add_div_right _ hs]
        exact h1
      · rw [e, Nat.add_mod_right]
        exact h2
theorem reads_flat {α : Type} [Inhabited α] (enc : α → List Value) (s : Nat) (hs : 0 < s) (he : ∀ x, (enc x).length = s) (G : α → Prop) (w : World) (a : Addr) (len : Nat) (h : ∀ i, i < len → ∃ x, G x ∧ w.cells? 0 (a.add (i * s)) s = some (enc x)) :
    ∃ l : List α, l.length = len ∧ (∀ x ∈ l, G x) ∧ Reads w w.heap.size s (some a) len (l.flatMap enc) := by
  obtain ⟨f, hf⟩ := Go.Deep.choose_lt (p := fun i x => G x ∧ w.cells? 0 (a.add (i * s)) s = some (enc x)) h
  have hget : ∀ i, i < len → ((List.range len).map f)[i]? = some (f i) := by
    intro i hi
    rw [List.getElem?_map, List.getElem?_range hi]
    rfl
  refine ⟨(List.range len).map f, by simp, fun x hx => ?_, by rw [flat_len enc s he]; simp, fun h0 => ⟨a, rfl, ?_, fun j u hj => ?_⟩⟩
  · obtain ⟨i, hi, rfl⟩ := List.mem_map.1 hx
    exact (hf i (by simpa using hi)).1
  · obtain ⟨_, hl, hc⟩ := World.cells?_some (hf 0 h0).2
    have := hc 0 hs
    rw [List.getElem?_eq_getElem (by omega)] at this
    have := lt_of_cell this
    rwa [block_of_add, block_of_add] at this
  · obtain ⟨x, h1, h2⟩ := flat_at enc s hs he _ j u hj
    have hi : j / s < len := by
      have := (List.getElem?_eq_some_iff.1 h1).1
      simpa using this
    rw [hget _ hi] at h1
    injection h1 with h1
    subst h1
    obtain ⟨_, hl, hc⟩ := World.cells?_some (hf _ hi).2
    have := hc (j % s) (Nat.mod_lt _ hs)
    rw [add_of_add, h2] at this
    rw [← this]
    congr 2
    rw [Nat.mul_comm]
    exact (Nat.div_add_mod j s).symm
theorem reads_arg {w : World} {a : Addr} {len : Nat} {zs : List Int} (hl : len ≤ zs.length) (hc : ∀ i, i < zs.length → w.cell? (a.add i) = some (.int .i64 (zs.getD i 0))) : Reads w w.heap.size 1 (some a) len (ints (zs.take len)) := by
  refine ⟨by simp [ints]; omega, fun h0 => ⟨a, rfl, ?_, fun j u hj => ?_⟩⟩
  · have := lt_of_cell (hc 0 (by omega))
    rwa [block_of_add] at this
  · have hj' := (List.getElem?_eq_some_iff.1 hj).1
    simp [ints] at hj'
    rw [hc j (by omega), ← hj]
    unfold ints
    simp only [List.getElem?_map]
    rw [List.getElem?_take, if_pos (by omega), List.getD_eq_getElem?_getD, List.getElem?_eq_getElem (by omega)]
    rfl
theorem i64_of_wf {n : Int} (h : (Lit.int .i64 n).wf = true) : -9223372036854775808 ≤ n ∧ n ≤ 9223372036854775807 := by
  have := (Lit.wf_int_iff .i64 n).1 h
  have h1 : IntKind.i64.min = -9223372036854775808 := by decide
  have h2 : IntKind.i64.max = 9223372036854775807 := by decide
  rw [h1, h2] at this
  exact this
theorem cells3 : Tryd.prog.cellsOf 3 = 1 := by kernel_rfl
theorem cells4 : Tryd.prog.cellsOf 4 = 1 := by kernel_rfl
theorem cells9 : Tryd.prog.cellsOf 9 = 1 := by kernel_rfl
theorem cellsE : Tryd.prog.cellsOf 25 = 1 := by kernel_rfl
theorem cellsI : Tryd.prog.cellsOf 22 = 1 := by kernel_rfl
theorem cellsL : Tryd.prog.cellsOf 26 = 1 := by kernel_rfl
theorem cellsH : Tryd.prog.cellsOf 52 = 2 := by kernel_rfl
theorem cellsO : Tryd.prog.cellsOf 24 = 4 := by kernel_rfl
theorem cellsR : Tryd.prog.cellsOf 28 = 3 := by kernel_rfl
theorem cellsM : Tryd.prog.cellsOf 30 = 16 := by kernel_rfl
theorem sixteen {α : Type} {l : List α} (h : l.length = 16) : ∃ c0 c1 c2 c3 c4 c5 c6 c7 c8 c9 c10 c11 c12 c13 c14 c15, l = [c0, c1, c2, c3, c4, c5, c6, c7, c8, c9, c10, c11, c12, c13, c14, c15] := by
  match l, h with
  | [c0, c1, c2, c3, c4, c5, c6, c7, c8, c9, c10, c11, c12, c13, c14, c15], _ => exact ⟨c0, c1, c2, c3, c4, c5, c6, c7, c8, c9, c10, c11, c12, c13, c14, c15, rfl⟩
section
variable {H : Type} {enc : TypeId × Value → H} {W : World} {spare : Nat → Bool} {hd : Bool}
theorem open_lf {fuel : Nat} {cs : List Value} {x : DataW H × List MemPlace} (hf : DataW.trod enc Tryd.prog W 0 spare hd fuel 22 cs = some x) :
    ∃ a len cap l, cs = [.slice a len cap] ∧ Reads W W.heap.size 1 a len (ints l) ∧ len ≤ cap ∧ cap ≤ maxLen := by
  rcases open_ints Tryd.underlying22 Tryd.underlying3 (by kernel_rfl) hf with ⟨hcs, _⟩ | ⟨x, l, c, zs, hcs, _, hl, hm, hz, _, hcell, hwz⟩
  · exact ⟨none, 0, 0, [], hcs, Reads.none_, Nat.le_refl _, by decide⟩
  · refine ⟨some x, l, c, zs.take l, hcs, reads_arg ?_ hcell, hl, hm⟩
    rw [hz]
    split <;> omega
theorem open_hf {fuel : Nat} {cs : List Value} {y : DataW H × List MemPlace} (hf : DataW.trod enc Tryd.prog W 0 spare hd fuel 26 cs = some y) :
    ∃ a len cap l, cs = [.slice a len cap] ∧ Reads W W.heap.size 2 a len (hits l) ∧ (∀ h ∈ l, S64 h.1) ∧ len ≤ maxLen := by
  rcases Go.Deep.open_slice Tryd.underlying26 hf with ⟨hcs, _⟩ | ⟨x, l, c, m, n, D, Pl, hcs, _, hl, hm, hmm, _, hx⟩
  · exact ⟨none, 0, 0, [], hcs, Reads.none_, fun h hm => by simp at hm, by decide⟩
  · have hml : l ≤ m := by rw [hmm]; split <;> omega
    obtain ⟨ls, _, hwf, hr⟩ := reads_flat (α := Hit) hcell 2 (by omega) (fun _ => rfl) (fun h => S64 h.1) W x l (fun i hi => by
      obtain ⟨cs', h1, h2⟩ := hx i (by omega)
      rw [cellsH] at h1
      obtain ⟨_, hl3, _⟩ := World.cells?_some h1
      obtain ⟨y0, y1, m', _, _, e0, e1⟩ := trod_struct2 Tryd.underlying52 h2
      obtain ⟨z0, g0, _, wz0⟩ := DataW.trod_int Tryd.underlying3 e0
      obtain ⟨z1, g1, _⟩ := DataW.trod_int Tryd.underlying3 e1
      rw [cells3] at g0 g1
      match cs', hl3 with
      | [c0, c1], _ =>
        simp at g0 g1
        subst g0 g1
        exact ⟨(z0, z1), i64_of_wf wz0, h1⟩)
    exact ⟨some x, l, c, ls, hcs, hr, hwf, by omega⟩
theorem get_is {α : Type} {xs : List α} {i n : Nat} (hl : xs.length = n) (hi : i < n) : ∃ y, xs[i]? = some y := ⟨xs[i]'(by omega), List.getElem?_eq_getElem _⟩
set_option maxHeartbeats 8000000 in
theorem open_M {r : Reach} {b0 : Nat} {v : Value} {d : DataW H} {p : List MemPlace} (hv : Value.okWide Tryd.prog W r b0 30 v) (h : DataW.Trod enc Tryd.prog W 0 spare hd 30 v d p) :
    ∃ (m : M) (A : Option Addr) (n c : Nat) (A' : Option Addr) (n' c' : Nat), v = .agg (msgV m A n c A' n' c').toArray ∧ Reads W W.heap.size 1 A n (ints m.vs) ∧ Reads W W.heap.size 2 A' n' (hits m.hs) ∧ FitM m := by
  obtain ⟨cs, rfl, hsz⟩ := okWide_struct Tryd.underlying30 hv
  obtain ⟨fuel, hf⟩ := h
  obtain ⟨xs, n, _, _, hl, hlen, hfl⟩ := DataW.trod_struct Tryd.underlying30 hf
  have hl11 : xs.length = 11 := hlen
  obtain ⟨cl, rfl⟩ : ∃ cl : List Value, cs = cl.toArray := ⟨cs.toList, by simp⟩
  rw [cellsM] at hsz
  obtain ⟨c0, c1, c2, c3, c4, c5, c6, c7, c8, c9, c10, c11, c12, c13, c14, c15, rfl⟩ := sixteen (show cl.length = 16 by simpa using hsz)
  clear hl hsz hlen hv
  obtain ⟨y0, hy0⟩ := get_is hl11 (i := 0) (by omega)
  have f0 := hfl 0 _ rfl
  rw [hy0] at f0
  obtain ⟨z0, g0, _, w0⟩ := DataW.trod_int Tryd.underlying3 f0
  simp [Value.cells, cells3] at g0
  subst g0
  obtain ⟨y1, hy1⟩ := get_is hl11 (i := 1) (by omega)
  have f1 := hfl 1 _ rfl
  rw [hy1] at f1
  obtain ⟨z1, g1, _, w1⟩ := DataW.trod_int Tryd.underlying3 f1
  simp [Value.cells, cells3] at g1
  subst g1
  obtain ⟨y2, hy2⟩ := get_is hl11 (i := 2) (by omega)
  have f2 := hfl 2 _ rfl
  rw [hy2] at f2
  obtain ⟨z2, g2, _, w2⟩ := DataW.trod_int Tryd.underlying3 f2
  simp [Value.cells, cells3] at g2
  subst g2
  obtain ⟨y3, hy3⟩ := get_is hl11 (i := 3) (by omega)
  have f3 := hfl 3 _ rfl
  rw [hy3] at f3
  obtain ⟨z3, g3, _, w3⟩ := DataW.trod_int Tryd.underlying3 f3
  simp [Value.cells, cells3] at g3
  subst g3
  obtain ⟨y4, hy4⟩ := get_is hl11 (i := 4) (by omega)
  have f4 := hfl 4 _ rfl
  rw [hy4] at f4
  obtain ⟨z4, g4, _, w4⟩ := DataW.trod_int Tryd.underlying3 f4
  simp [Value.cells, cells3] at g4
  subst g4
  obtain ⟨y5, hy5⟩ := get_is hl11 (i := 5) (by omega)
  have f5 := hfl 5 _ rfl
  rw [hy5] at f5
  obtain ⟨z5, g5, _, w5⟩ := DataW.trod_int Tryd.underlying3 f5
  simp [Value.cells, cells3] at g5
  subst g5
  obtain ⟨y6, hy6⟩ := get_is hl11 (i := 6) (by omega)
  have f6 := hfl 6 _ rfl
  rw [hy6] at f6
  obtain ⟨z6, g6, _, w6⟩ := DataW.trod_int Tryd.underlying3 f6
  simp [Value.cells, cells3] at g6
  subst g6
  obtain ⟨y7, hy7⟩ := get_is hl11 (i := 7) (by omega)
  have f7 := hfl 7 _ rfl
  rw [hy7] at f7
  obtain ⟨z7, g7, _, w7⟩ := DataW.trod_int Tryd.underlying3 f7
  simp [Value.cells, cells3] at g7
  subst g7
  obtain ⟨y8, hy8⟩ := get_is hl11 (i := 8) (by omega)
  have f8 := hfl 8 _ rfl
  rw [hy8] at f8
  simp [Value.cells, cellsO] at f8
  obtain ⟨x8, n8, _, _, _, hlen8, hfl8⟩ := DataW.trod_struct Tryd.underlying24 f8
  have hl8 : x8.length = 4 := hlen8
  obtain ⟨o0, ho0⟩ := get_is hl8 (i := 0) (by omega)
  have q0 := hfl8 0 _ rfl
  rw [ho0] at q0
  obtain ⟨z8, g8, _, w8⟩ := DataW.trod_int Tryd.underlying3 q0
  simp [Value.cells, cells3] at g8
  subst g8
  obtain ⟨o1, ho1⟩ := get_is hl8 (i := 1) (by omega)
  have q1 := hfl8 1 _ rfl
  rw [ho1] at q1
  obtain ⟨z9, g9, _, w9⟩ := DataW.trod_int Tryd.underlying3 q1
  simp [Value.cells, cells3] at g9
  subst g9
  obtain ⟨o2, ho2⟩ := get_is hl8 (i := 2) (by omega)
  have q2 := hfl8 2 _ rfl
  rw [ho2] at q2
  obtain ⟨A, nv, cv, lv, gA, hR, _, _⟩ := open_lf q2
  simp [Value.cells, cellsI] at gA
  subst gA
  obtain ⟨o3, ho3⟩ := get_is hl8 (i := 3) (by omega)
  have q3 := hfl8 3 _ rfl
  rw [ho3] at q3
  obtain ⟨z11, g11, _, w11⟩ := DataW.trod_int Tryd.underlying3 q3
  simp [Value.cells, cells3] at g11
  subst g11
  obtain ⟨y9, hy9⟩ := get_is hl11 (i := 9) (by omega)
  have f9 := hfl 9 _ rfl
  rw [hy9] at f9
  simp [Value.cells, cellsR] at f9
  obtain ⟨x9, n9, _, _, _, hlen9, hfl9⟩ := DataW.trod_struct Tryd.underlying28 f9
  have hl9 : x9.length = 3 := hlen9
  obtain ⟨p0, hp0⟩ := get_is hl9 (i := 0) (by omega)
  have s0 := hfl9 0 _ rfl
  rw [hp0] at s0
  obtain ⟨z12, g12, _, w12⟩ := DataW.trod_int Tryd.underlying25 s0
  simp [Value.cells, cellsE] at g12
  subst g12
  obtain ⟨p1, hp1⟩ := get_is hl9 (i := 1) (by omega)
  have s1 := hfl9 1 _ rfl
  rw [hp1] at s1
  obtain ⟨z13, g13, _⟩ := DataW.trod_bool Tryd.underlying4 s1
  simp [Value.cells, cells4] at g13
  subst g13
  obtain ⟨p2, hp2⟩ := get_is hl9 (i := 2) (by omega)
  have s2 := hfl9 2 _ rfl
  rw [hp2] at s2
  obtain ⟨A', nh, ch, lh, gH, hH, hfit, _⟩ := open_hf s2
  simp [Value.cells, cellsL] at gH
  subst gH
  obtain ⟨y10, hy10⟩ := get_is hl11 (i := 10) (by omega)
  have f10 := hfl 10 _ rfl
  rw [hy10] at f10
  obtain ⟨z15, g15, _, w15⟩ := DataW.trod_string Tryd.underlying9 f10
  simp [Value.cells, cells9] at g15
  subst g15
  exact ⟨⟨z0, z1, z2, z3, z4, z5, z6, z7, z8, z9, z11, lv, z12, z13, lh, z15⟩, A, nv, cv, A', nh, ch, rfl, hR, hH, i64_of_wf w9, hfit⟩
end
end Go.Proofs.YtcbkgcnajplagaaDoor.Po
