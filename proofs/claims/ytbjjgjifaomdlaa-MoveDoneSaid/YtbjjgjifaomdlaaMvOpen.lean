/- Arguments as they come in: two numbers, a way, messages, a script. Conditions: none. -/
import Derived.Test.YtbjjgjifaomdlaaMvW
import Derived.Test.YtbjjgjifaomdlaaChecked
import Derived.ProofKit
import Derived.OpenShut
import Derived.DataShut
import Derived.Lib.SmallJoins
import Derived.Deep.Slices
import Derived.Deep.Strs
set_option linter.unusedVariables false
set_option linter.unusedSimpArgs false
set_option maxRecDepth 100000
namespace Go.Proofs.Ytbjjgjifaomdlaa.Mv
open Go Go.ChangeShapes Go.WideShapes Go.ChangeAt Go.RowKit
open Po (M msgV)
theorem lt_of_cell {w : World} {p : Addr} {v : Value} (h : w.cell? p = some v) : p.block < w.heap.size := by
  rcases Nat.lt_or_ge p.block w.heap.size with h' | h'
  · exact h'
  · simp [World.cell?, Array.getElem?_eq_none h'] at h
theorem i64_of_wf {n : Int} (h : (Lit.int .i64 n).wf = true) : -9223372036854775808 ≤ n ∧ n ≤ 9223372036854775807 := by
  have := (Lit.wf_int_iff .i64 n).1 h
  have h1 : IntKind.i64.min = -9223372036854775808 := by decide
  have h2 : IntKind.i64.max = 9223372036854775807 := by decide
  rw [h1, h2] at this
  exact this
theorem cells3 : Try.prog.cellsOf 3 = 1 := by kernel_rfl
theorem cells4 : Try.prog.cellsOf 4 = 1 := by kernel_rfl
theorem cells9 : Try.prog.cellsOf 9 = 1 := by kernel_rfl
theorem cellsE : Try.prog.cellsOf 27 = 1 := by kernel_rfl
theorem cellsI : Try.prog.cellsOf 35 = 1 := by kernel_rfl
theorem cellsL : Try.prog.cellsOf 38 = 1 := by kernel_rfl
theorem cellsH : Try.prog.cellsOf 80 = 2 := by kernel_rfl
theorem cellsO : Try.prog.cellsOf 37 = 4 := by kernel_rfl
theorem cellsR : Try.prog.cellsOf 40 = 3 := by kernel_rfl
theorem cellsM : Try.prog.cellsOf 42 = 16 := by kernel_rfl
theorem sixteen {α : Type} {l : List α} (h : l.length = 16) : ∃ c0 c1 c2 c3 c4 c5 c6 c7 c8 c9 c10 c11 c12 c13 c14 c15, l = [c0, c1, c2, c3, c4, c5, c6, c7, c8, c9, c10, c11, c12, c13, c14, c15] := by
  match l, h with
  | [c0, c1, c2, c3, c4, c5, c6, c7, c8, c9, c10, c11, c12, c13, c14, c15], _ => exact ⟨c0, c1, c2, c3, c4, c5, c6, c7, c8, c9, c10, c11, c12, c13, c14, c15, rfl⟩
theorem get_is {α : Type} {xs : List α} {i n : Nat} (hl : xs.length = n) (hi : i < n) : ∃ y, xs[i]? = some y := ⟨xs[i]'(by omega), List.getElem?_eq_getElem _⟩
section
variable {H : Type} {enc : TypeId × Value → H} {W : World} {spare : Nat → Bool} {hd : Bool}
theorem slice_f {t e : TypeId} (ht : Try.prog.underlying t = some (.slice e)) {fuel : Nat} {cs : List Value} {x : DataW H × List MemPlace} (hf : DataW.trod enc Try.prog W 0 spare hd fuel t cs = some x) : ∃ a len cap, cs = [.slice a len cap] := by
  rcases Go.Deep.open_slice ht hf with ⟨hcs, _⟩ | ⟨x, l, c, m, n, D, Pl, hcs, _⟩
  · exact ⟨none, 0, 0, hcs⟩
  · exact ⟨some x, l, c, hcs⟩
set_option maxHeartbeats 8000000 in
/-- A message's cells; its last part is its text. -/
theorem msg_f {fuel : Nat} {cl : List Value} {x : DataW H × List MemPlace} (hf : DataW.trod enc Try.prog W 0 spare hd fuel 42 cl = some x) (hsz : cl.length = 16) :
    ∃ (m : M) (A : Option Addr) (n c : Nat) (A' : Option Addr) (n' c' : Nat), cl = msgV m A n c A' n' c' := by
  obtain ⟨xs, n, _, _, hl, hlen, hfl⟩ := DataW.trod_struct Try.underlying42 hf
  have hl11 : xs.length = 11 := hlen
  obtain ⟨c0, c1, c2, c3, c4, c5, c6, c7, c8, c9, c10, c11, c12, c13, c14, c15, rfl⟩ := sixteen hsz
  clear hl hsz hlen
  obtain ⟨y0, hy0⟩ := get_is hl11 (i := 0) (by omega)
  have f0 := hfl 0 _ rfl
  rw [hy0] at f0
  obtain ⟨z0, g0, _, w0⟩ := DataW.trod_int Try.underlying3 f0
  simp [Value.cells, cells3] at g0
  subst g0
  obtain ⟨y1, hy1⟩ := get_is hl11 (i := 1) (by omega)
  have f1 := hfl 1 _ rfl
  rw [hy1] at f1
  obtain ⟨z1, g1, _, w1⟩ := DataW.trod_int Try.underlying3 f1
  simp [Value.cells, cells3] at g1
  subst g1
  obtain ⟨y2, hy2⟩ := get_is hl11 (i := 2) (by omega)
  have f2 := hfl 2 _ rfl
  rw [hy2] at f2
  obtain ⟨z2, g2, _, w2⟩ := DataW.trod_int Try.underlying3 f2
  simp [Value.cells, cells3] at g2
  subst g2
  obtain ⟨y3, hy3⟩ := get_is hl11 (i := 3) (by omega)
  have f3 := hfl 3 _ rfl
  rw [hy3] at f3
  obtain ⟨z3, g3, _, w3⟩ := DataW.trod_int Try.underlying3 f3
  simp [Value.cells, cells3] at g3
  subst g3
  obtain ⟨y4, hy4⟩ := get_is hl11 (i := 4) (by omega)
  have f4 := hfl 4 _ rfl
  rw [hy4] at f4
  obtain ⟨z4, g4, _, w4⟩ := DataW.trod_int Try.underlying3 f4
  simp [Value.cells, cells3] at g4
  subst g4
  obtain ⟨y5, hy5⟩ := get_is hl11 (i := 5) (by omega)
  have f5 := hfl 5 _ rfl
  rw [hy5] at f5
  obtain ⟨z5, g5, _, w5⟩ := DataW.trod_int Try.underlying3 f5
  simp [Value.cells, cells3] at g5
  subst g5
  obtain ⟨y6, hy6⟩ := get_is hl11 (i := 6) (by omega)
  have f6 := hfl 6 _ rfl
  rw [hy6] at f6
  obtain ⟨z6, g6, _, w6⟩ := DataW.trod_int Try.underlying3 f6
  simp [Value.cells, cells3] at g6
  subst g6
  obtain ⟨y7, hy7⟩ := get_is hl11 (i := 7) (by omega)
  have f7 := hfl 7 _ rfl
  rw [hy7] at f7
  obtain ⟨z7, g7, _, w7⟩ := DataW.trod_int Try.underlying3 f7
  simp [Value.cells, cells3] at g7
  subst g7
  obtain ⟨y8, hy8⟩ := get_is hl11 (i := 8) (by omega)
  have f8 := hfl 8 _ rfl
  rw [hy8] at f8
  simp [Value.cells, cellsO] at f8
  obtain ⟨x8, n8, _, _, _, hlen8, hfl8⟩ := DataW.trod_struct Try.underlying37 f8
  have hl8 : x8.length = 4 := hlen8
  obtain ⟨o0, ho0⟩ := get_is hl8 (i := 0) (by omega)
  have q0 := hfl8 0 _ rfl
  rw [ho0] at q0
  obtain ⟨z8, g8, _, w8⟩ := DataW.trod_int Try.underlying3 q0
  simp [Value.cells, cells3] at g8
  subst g8
  obtain ⟨o1, ho1⟩ := get_is hl8 (i := 1) (by omega)
  have q1 := hfl8 1 _ rfl
  rw [ho1] at q1
  obtain ⟨z9, g9, _, w9⟩ := DataW.trod_int Try.underlying3 q1
  simp [Value.cells, cells3] at g9
  subst g9
  obtain ⟨o2, ho2⟩ := get_is hl8 (i := 2) (by omega)
  have q2 := hfl8 2 _ rfl
  rw [ho2] at q2
  obtain ⟨A, nv, cv, gA⟩ := slice_f Try.underlying35 q2
  simp [Value.cells, cellsI] at gA
  subst gA
  obtain ⟨o3, ho3⟩ := get_is hl8 (i := 3) (by omega)
  have q3 := hfl8 3 _ rfl
  rw [ho3] at q3
  obtain ⟨z11, g11, _, w11⟩ := DataW.trod_int Try.underlying3 q3
  simp [Value.cells, cells3] at g11
  subst g11
  obtain ⟨y9, hy9⟩ := get_is hl11 (i := 9) (by omega)
  have f9 := hfl 9 _ rfl
  rw [hy9] at f9
  simp [Value.cells, cellsR] at f9
  obtain ⟨x9, n9, _, _, _, hlen9, hfl9⟩ := DataW.trod_struct Try.underlying40 f9
  have hl9 : x9.length = 3 := hlen9
  obtain ⟨p0, hp0⟩ := get_is hl9 (i := 0) (by omega)
  have s0 := hfl9 0 _ rfl
  rw [hp0] at s0
  obtain ⟨z12, g12, _, w12⟩ := DataW.trod_int Try.underlying27 s0
  simp [Value.cells, cellsE] at g12
  subst g12
  obtain ⟨p1, hp1⟩ := get_is hl9 (i := 1) (by omega)
  have s1 := hfl9 1 _ rfl
  rw [hp1] at s1
  obtain ⟨z13, g13, _⟩ := DataW.trod_bool Try.underlying4 s1
  simp [Value.cells, cells4] at g13
  subst g13
  obtain ⟨p2, hp2⟩ := get_is hl9 (i := 2) (by omega)
  have s2 := hfl9 2 _ rfl
  rw [hp2] at s2
  obtain ⟨A', nh, ch, gH⟩ := slice_f Try.underlying38 s2
  simp [Value.cells, cellsL] at gH
  subst gH
  obtain ⟨y10, hy10⟩ := get_is hl11 (i := 10) (by omega)
  have f10 := hfl 10 _ rfl
  rw [hy10] at f10
  obtain ⟨z15, g15, _, w15⟩ := DataW.trod_string Try.underlying9 f10
  simp [Value.cells, cells9] at g15
  subst g15
  exact ⟨⟨z0, z1, z2, z3, z4, z5, z6, z7, z8, z9, z11, [], z12, z13, [], z15⟩, A, nv, cv, A', nh, ch, rfl⟩

theorem open_M {r : Reach} {b0 : Nat} {v : Value} {d : DataW H} {p : List MemPlace} (hv : Value.okWide Try.prog W r b0 42 v) (h : DataW.Trod enc Try.prog W 0 spare hd 42 v d p) :
    ∃ (m : M) (A : Option Addr) (n c : Nat) (A' : Option Addr) (n' c' : Nat), v = .agg (msgV m A n c A' n' c').toArray := by
  obtain ⟨cs, rfl, hsz⟩ := okWide_struct Try.underlying42 hv
  obtain ⟨fuel, hf⟩ := h
  rw [cellsM] at hsz
  obtain ⟨m, A, n, c, A', n', c', e⟩ := msg_f hf (by simpa [Value.cells] using hsz)
  refine ⟨m, A, n, c, A', n', c', ?_⟩
  have : cs = (msgV m A n c A' n' c').toArray := by
    have e' : cs.toList = msgV m A n c A' n' c' := by simpa [Value.cells] using e
    rw [← e']
  rw [this]
theorem open_V {r : Reach} {b0 : Nat} {v : Value} {d : DataW H} {p : List MemPlace} (hv : Value.okWide Try.prog W r b0 24 v) (h : DataW.Trod enc Try.prog W 0 spare hd 24 v d p) :
    ∃ x y z : Int, v = .agg #[.int .i64 x, .int .i64 y, .int .i64 z] := by
  obtain ⟨v0, v1, v2, y0, y1, y2, n, e, _, _, h0, h1, h2⟩ := Go.Joins.open_agg3 Try.underlying24 (by kernel_rfl) (by kernel_rfl) hv h
  obtain ⟨z0, g0, _, _⟩ := DataW.trod_int Try.underlying3 h0
  obtain ⟨z1, g1, _, _⟩ := DataW.trod_int Try.underlying3 h1
  obtain ⟨z2, g2, _, _⟩ := DataW.trod_int Try.underlying3 h2
  simp at g0 g1 g2
  subst g0 g1 g2
  exact ⟨z0, z1, z2, e⟩
theorem okWide_ary {P : Program} {w : World} {r : Reach} {base : Nat} {t e : TypeId} {n : Nat} {v : Value} (ht : P.underlying t = some (.array n e)) (h : Value.okWide P w r base t v) : ∃ cs, v = .agg cs ∧ cs.size = P.cellsOf t := by
  simp only [Value.okWide, ht] at h
  obtain ⟨cs, h1, h2, _⟩ := h
  exact ⟨cs, h1, h2⟩
theorem cells_2 : Try.prog.cellsOf 22 = 2 := by kernel_rfl
theorem open_2 {r : Reach} {b0 : Nat} {v : Value} {d : DataW H} {p : List MemPlace} (hv : Value.okWide Try.prog W r b0 22 v) (h : DataW.Trod enc Try.prog W 0 spare hd 22 v d p) :
    ∃ x y : Int, v = .agg #[.int .i64 x, .int .i64 y] ∧ (Lit.int .i64 x).wf = true ∧ (Lit.int .i64 y).wf = true := by
  obtain ⟨cs, rfl, hsz⟩ := okWide_ary Try.underlying22 hv
  obtain ⟨c0, c1, rfl⟩ := Go.Joins.array2 (hsz.trans cells_2)
  obtain ⟨fuel, hf⟩ := h
  obtain ⟨xs, m', _, _, _, hxl, he⟩ := DataW.trod_array Try.underlying22 hf
  rw [cells3] at he
  have e0 := he 0 (by decide)
  have e1 := he 1 (by decide)
  rw [List.getElem?_eq_getElem (by omega)] at e0 e1
  obtain ⟨z0, g0, _, w0⟩ := DataW.trod_int Try.underlying3 e0
  obtain ⟨z1, g1, _, w1⟩ := DataW.trod_int Try.underlying3 e1
  simp [Value.cells] at g0 g1
  subst g0 g1
  exact ⟨z0, z1, rfl, w0, w1⟩
/-- A list of messages in memory: each has its sixteen cells. -/
def MsgsAt (w : World) (B : Nat) (A : Option Addr) (n : Nat) : Prop := ∀ i, i < n → ∃ ad m A1 n1 c1 A2 n2 c2, A = some ad ∧ ad.block < B ∧ ∀ (j : Nat) u, (msgV m A1 n1 c1 A2 n2 c2)[j]? = some u → w.cell? ((ad.add (i * 16)).add j) = some u
theorem open_n {a : Option Addr} {len cap : Nat} {d : DataW H} {p : List MemPlace} (h : DataW.Trod enc Try.prog W 0 spare hd 54 (.slice a len cap) d p) : MsgsAt W W.heap.size a len ∧ len ≤ maxLen := by
  obtain ⟨fuel, hf⟩ := h
  rcases Go.Deep.open_slice Try.underlying54 hf with ⟨hcs, _⟩ | ⟨x, l, c, m, n, D, Pl, hcs, _, hl, hm, hmm, _, hx⟩
  · simp [Value.cells] at hcs
    obtain ⟨rfl, rfl, rfl⟩ := hcs
    exact ⟨fun i hi => absurd hi (by omega), by decide⟩
  · simp [Value.cells] at hcs
    obtain ⟨rfl, rfl, rfl⟩ := hcs
    have hml : len ≤ m := by rw [hmm]; split <;> omega
    refine ⟨fun i hi => ?_, by omega⟩
    obtain ⟨cs', h1, h2⟩ := hx i (by omega)
    rw [cellsM] at h1
    obtain ⟨_, hl3, hc⟩ := World.cells?_some h1
    obtain ⟨mm, A1, n1, c1, A2, n2, c2, rfl⟩ := msg_f h2 hl3
    have hb : x.block < W.heap.size := by
      have := lt_of_cell (hc 0 (by omega))
      rwa [block_of_add, block_of_add] at this
    refine ⟨x, mm, A1, n1, c1, A2, n2, c2, rfl, hb, fun j u hj => ?_⟩
    have hj' := (List.getElem?_eq_some_iff.1 hj).1
    rw [hc j (by rw [← hl3]; exact hj'), hj]
end
end Go.Proofs.Ytbjjgjifaomdlaa.Mv
