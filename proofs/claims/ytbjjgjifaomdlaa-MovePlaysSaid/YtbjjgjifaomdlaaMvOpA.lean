/- A script of calls as it comes in, with its texts' lengths. Conditions: the form's reach. -/
import Derived.Test.YtbjjgjifaomdlaaMvLd
import Derived.SizedLaws
set_option linter.unusedVariables false
set_option linter.unusedSimpArgs false
set_option maxRecDepth 100000
namespace Go.Proofs.Ytbjjgjifaomdlaa.Mv
open Go Go.ChangeShapes Go.WideShapes Go.ChangeAt Go.RowKit
open Po (M msgV)
theorem cellsAct : Try.prog.cellsOf 44 = 18 := by kernel_rfl
theorem mem_all {H : Type} {P : Program} {e : TypeId} {n : Nat} : ∀ {l : List (DataW H)} {d : DataW H}, d ∈ l → n ∈ d.weights P e → n ∈ DataW.weightsAll P e l
  | [], _, h, _ => by simp at h
  | d0 :: r, d, h, hn => by
    simp only [DataW.weightsAll, List.mem_append]
    rcases List.mem_cons.1 h with rfl | h
    · exact .inl hn
    · exact .inr (mem_all h hn)
section
variable {H : Type} {enc : TypeId × Value → H} {W : World} {spare : Nat → Bool} {hd : Bool}
set_option maxHeartbeats 8000000 in
/-- A message's cells; its last part is its text. -/
theorem msg_fs {fuel : Nat} {cl : List Value} {x : DataW H × List MemPlace} (hf : DataW.trod enc Try.prog W 0 spare hd fuel 42 cl = some x) (hsz : cl.length = 16) :
    ∃ (m : M) (A : Option Addr) (n c : Nat) (A' : Option Addr) (n' c' : Nat), cl = msgV m A n c A' n' c' ∧ m.tx.size ∈ x.1.weights Try.prog 42 := by
  obtain ⟨xs, n, _, hxx, hl, hlen, hfl⟩ := DataW.trod_struct Try.underlying42 hf
  have hl11 : xs.length = 11 := hlen
  obtain ⟨c0, c1, c2, c3, c4, c5, c6, c7, c8, c9, c10, c11, c12, c13, c14, c15, rfl⟩ := sixteen hsz
  clear hl hsz hlen
  obtain ⟨y0, hy0⟩ := get_is hl11 (i := 0) (by omega)
  have f0 := hfl 0 _ rfl
  rw [hy0] at f0
  obtain ⟨z0, g0, _, w0⟩ := DataW.trod_int Try.underlying3 f0
  simp [Value.cells, cells3] at g0
  subst g0
  obtain ⟨y1, hy1⟩ := get_is hl11 (i := 1) (by omega)
  have f1 := hfl 1 _ rfl
  rw [hy1] at f1
  obtain ⟨z1, g1, _, w1⟩ := DataW.trod_int Try.underlying3 f1
  simp [Value.cells, cells3] at g1
  subst g1
  obtain ⟨y2, hy2⟩ := get_is hl11 (i := 2) (by omega)
  have f2 := hfl 2 _ rfl
  rw [hy2] at f2
  obtain ⟨z2, g2, _, w2⟩ := DataW.trod_int Try.underlying3 f2
  simp [Value.cells, cells3] at g2
  subst g2
  obtain ⟨y3, hy3⟩ := get_is hl11 (i := 3) (by omega)
  have f3 := hfl 3 _ rfl
  rw [hy3] at f3
  obtain ⟨z3, g3, _, w3⟩ := DataW.trod_int Try.underlying3 f3
  simp [Value.cells, cells3] at g3
  subst g3
  obtain ⟨y4, hy4⟩ := get_is hl11 (i := 4) (by omega)
  have f4 := hfl 4 _ rfl
  rw [hy4] at f4
  obtain ⟨z4, g4, _, w4⟩ := DataW.trod_int Try.underlying3 f4
  simp [Value.cells, cells3] at g4
  subst g4
  obtain ⟨y5, hy5⟩ := get_is hl11 (i := 5) (by omega)
  have f5 := hfl 5 _ rfl
  rw [hy5] at f5
  obtain ⟨z5, g5, _, w5⟩ := DataW.trod_int Try.underlying3 f5
  simp [Value.cells, cells3] at g5
  subst g5
  obtain ⟨y6, hy6⟩ := get_is hl11 (i := 6) (by omega)
  have f6 := hfl 6 _ rfl
  rw [hy6] at f6
  obtain ⟨z6, g6, _, w6⟩ := DataW.trod_int Try.underlying3 f6
  simp [Value.cells, cells3] at g6
  subst g6
  obtain ⟨y7, hy7⟩ := get_is hl11 (i := 7) (by omega)
  have f7 := hfl 7 _ rfl
  rw [hy7] at f7
  obtain ⟨z7, g7, _, w7⟩ := DataW.trod_int Try.underlying3 f7
  simp [Value.cells, cells3] at g7
  subst g7
  obtain ⟨y8, hy8⟩ := get_is hl11 (i := 8) (by omega)
  have f8 := hfl 8 _ rfl
  rw [hy8] at f8
  simp [Value.cells, cellsO] at f8
  obtain ⟨x8, n8, _, _, _, hlen8, hfl8⟩ := DataW.trod_struct Try.underlying37 f8
  have hl8 : x8.length = 4 := hlen8
  obtain ⟨o0, ho0⟩ := get_is hl8 (i := 0) (by omega)
  have q0 := hfl8 0 _ rfl
  rw [ho0] at q0
  obtain ⟨z8, g8, _, w8⟩ := DataW.trod_int Try.underlying3 q0
  simp [Value.cells, cells3] at g8
  subst g8
  obtain ⟨o1, ho1⟩ := get_is hl8 (i := 1) (by omega)
  have q1 := hfl8 1 _ rfl
  rw [ho1] at q1
  obtain ⟨z9, g9, _, w9⟩ := DataW.trod_int Try.underlying3 q1
  simp [Value.cells, cells3] at g9
  subst g9
  obtain ⟨o2, ho2⟩ := get_is hl8 (i := 2) (by omega)
  have q2 := hfl8 2 _ rfl
  rw [ho2] at q2
  obtain ⟨A, nv, cv, gA⟩ := slice_f Try.underlying35 q2
  simp [Value.cells, cellsI] at gA
  subst gA
  obtain ⟨o3, ho3⟩ := get_is hl8 (i := 3) (by omega)
  have q3 := hfl8 3 _ rfl
  rw [ho3] at q3
  obtain ⟨z11, g11, _, w11⟩ := DataW.trod_int Try.underlying3 q3
  simp [Value.cells, cells3] at g11
  subst g11
  obtain ⟨y9, hy9⟩ := get_is hl11 (i := 9) (by omega)
  have f9 := hfl 9 _ rfl
  rw [hy9] at f9
  simp [Value.cells, cellsR] at f9
  obtain ⟨x9, n9, _, _, _, hlen9, hfl9⟩ := DataW.trod_struct Try.underlying40 f9
  have hl9 : x9.length = 3 := hlen9
  obtain ⟨p0, hp0⟩ := get_is hl9 (i := 0) (by omega)
  have s0 := hfl9 0 _ rfl
  rw [hp0] at s0
  obtain ⟨z12, g12, _, w12⟩ := DataW.trod_int Try.underlying27 s0
  simp [Value.cells, cellsE] at g12
  subst g12
  obtain ⟨p1, hp1⟩ := get_is hl9 (i := 1) (by omega)
  have s1 := hfl9 1 _ rfl
  rw [hp1] at s1
  obtain ⟨z13, g13, _⟩ := DataW.trod_bool Try.underlying4 s1
  simp [Value.cells, cells4] at g13
  subst g13
  obtain ⟨p2, hp2⟩ := get_is hl9 (i := 2) (by omega)
  have s2 := hfl9 2 _ rfl
  rw [hp2] at s2
  obtain ⟨A', nh, ch, gH⟩ := slice_f Try.underlying38 s2
  simp [Value.cells, cellsL] at gH
  subst gH
  obtain ⟨y10, hy10⟩ := get_is hl11 (i := 10) (by omega)
  have f10 := hfl 10 _ rfl
  rw [hy10] at f10
  obtain ⟨z15, g15, h15, w15⟩ := DataW.trod_string Try.underlying9 f10
  simp [Value.cells, cells9] at g15
  subst g15
  refine ⟨⟨z0, z1, z2, z3, z4, z5, z6, z7, z8, z9, z11, [], z12, z13, [], z15⟩, A, nv, cv, A', nh, ch, rfl, ?_⟩

  show z15.size ∈ _
  rw [hxx]
  simp only [DataW.weights, Try.underlying42]
  refine DataW.weights_mem_each (j := 10) (t := 9) (d := .lit (.string z15.data.toList)) rfl ?_ _ ?_
  · rw [List.getElem?_map, hy10, h15]
    rfl
  · simp [DataW.weights]

theorem open_A {a : Option Addr} {len cap : Nat} {d : DataW H} {p : List MemPlace} (h : DataW.Trod enc Try.prog W 0 spare hd 25 (.slice a len cap) d p) (hz : ∀ n ∈ d.weights Try.prog 25, n ≤ reachBytes) :
    (∀ i, i < len → ∃ ad k f x A1 n1 c1 A2 n2 c2, a = some ad ∧ ad.block < W.heap.size ∧ NC (ad.add (i * 18)) (.int .i64 k :: .int .i64 f :: msgV x A1 n1 c1 A2 n2 c2) W ∧ x.tx.size ≤ 281474976710656) ∧ len ≤ maxLen := by
  obtain ⟨fuel, hf⟩ := h
  rcases Go.Deep.open_slice Try.underlying25 hf with ⟨hcs, _⟩ | ⟨x, l, c, m, n, D, Pl, hcs, _, hl, hm, hmm, hxd, hx⟩
  · simp [Value.cells] at hcs
    obtain ⟨rfl, rfl, rfl⟩ := hcs
    exact ⟨fun i hi => absurd hi (by omega), by decide⟩
  · simp [Value.cells] at hcs
    obtain ⟨rfl, rfl, rfl⟩ := hcs
    have hml : len ≤ m := by rw [hmm]; split <;> omega
    refine ⟨fun i hi => ?_, by omega⟩
    obtain ⟨cs', h1, h2⟩ := hx i (by omega)
    rw [cellsAct] at h1
    obtain ⟨_, hl3, hc⟩ := World.cells?_some h1
    obtain ⟨xs, n', _, hxx, hl', hlen, hfl⟩ := DataW.trod_struct Try.underlying44 h2
    have hl11 : xs.length = 3 := hlen
    obtain ⟨y0, hy0⟩ := get_is hl11 (i := 0) (by omega)
    have f0 := hfl 0 _ rfl
    rw [hy0] at f0
    obtain ⟨z0, g0, _, w0⟩ := DataW.trod_int Try.underlying3 f0
    obtain ⟨y1, hy1⟩ := get_is hl11 (i := 1) (by omega)
    have f1 := hfl 1 _ rfl
    rw [hy1] at f1
    obtain ⟨z1, g1, _, w1⟩ := DataW.trod_int Try.underlying3 f1
    obtain ⟨y2, hy2⟩ := get_is hl11 (i := 2) (by omega)
    have f2 := hfl 2 _ rfl
    rw [hy2] at f2
    have g0' : (cs'.drop 0).take (Try.prog.cellsOf 3) = [.int .i64 z0] := g0
    have g1' : (cs'.drop 1).take (Try.prog.cellsOf 3) = [.int .i64 z1] := g1
    have f2' : DataW.trod enc Try.prog W 0 spare hd n' 42 ((cs'.drop 2).take (Try.prog.cellsOf 42)) = some y2 := f2
    rw [cells3] at g0' g1'
    rw [cellsM] at f2'
    clear g0 g1 f2
    obtain ⟨mm, A1, n1, c1, A2, n2, c2, g2, hsz⟩ := msg_fs f2' (by simp [hl3])
    have hcs : cs' = .int .i64 z0 :: .int .i64 z1 :: msgV mm A1 n1 c1 A2 n2 c2 := by
      match cs', hl3 with
      | c0 :: c1' :: rest, hl3 =>
        simp at g0' g1' g2
        have hr : rest.length = 16 := by simpa using hl3
        rw [List.take_of_length_le (by omega)] at g2
        rw [g0', g1', g2]
    have hb : x.block < W.heap.size := by
      have h00 := hc 0 (by omega)
      rw [hcs] at h00
      have := lt_of_cell (v := .int .i64 z0) h00
      rwa [block_of_add, block_of_add] at this
    refine ⟨x, z0, z1, mm, A1, n1, c1, A2, n2, c2, rfl, hb, fun j u hj => ?_, ?_⟩
    · rw [← hcs] at hj
      have hj' := (List.getElem?_eq_some_iff.1 hj).1
      rw [hc j (by omega), hj]
    · have hd : d = .slice ((List.range len).map D) ((List.range (m - len)).map fun j => D (len + j)) := by injection hxd
      have h3 : mm.tx.size ∈ (D i).weights Try.prog 44 := by
        have hD : D i = .agg (xs.map (·.1)) := by injection hxx
        rw [hD]
        simp only [DataW.weights, Try.underlying44]
        exact DataW.weights_mem_each (j := 2) (t := 42) (d := y2.1) rfl (by rw [List.getElem?_map, hy2]; rfl) _ hsz
      have h4 : mm.tx.size ∈ d.weights Try.prog 25 := by
        rw [hd]
        simp only [DataW.weights, Try.underlying25, List.mem_cons, List.mem_append]
        exact .inr (.inl (mem_all (List.mem_map.2 ⟨i, List.mem_range.2 hi, rfl⟩) h3))
      have := hz _ h4
      have hr : reachBytes ≤ 281474976710656 := by decide
      omega
end
end Go.Proofs.Ytbjjgjifaomdlaa.Mv
