/- A parameter that is a value reads as a tree. Conditions: none of its cells is frozen. -/
import Derived.Test.YtcgcocnbjijdaaaDoorLawA
import Derived.Lib.SmallJoins
import Derived.ChangeArms
import Derived.DataReads
import Derived.OpenShut
set_option linter.unusedVariables false
set_option linter.unusedSimpArgs false
namespace Go.Proofs.YtcgcocnbjijdaaaDoor
open Go Go.RowKit Go.Joins Go.WideShapes

variable {H : Type} {enc : TypeId × Value → H} {w : World}
theorem cells3 : Tryd.prog.cellsOf 3 = 1 := by kernel_rfl
theorem cells9 : Tryd.prog.cellsOf 9 = 1 := by kernel_rfl
theorem cells22 : Tryd.prog.cellsOf 22 = 1 := by kernel_rfl
theorem cells24 : Tryd.prog.cellsOf 24 = 4 := by kernel_rfl
theorem wfL_snoc : ∀ {l : List T} {t : T}, wfL l = true → wfT t = true → wfL (l ++ [t]) = true
  | [], t, _, h => by simp [wfL, h]
  | u :: us, t, h, ht => by
    simp only [wfL, Bool.and_eq_true] at h
    simp [wfL, h.1, wfL_snoc h.2 ht]
theorem cell_lt {a : Addr} {v : Value} (h : w.cell? a = some v) : a.block < w.heap.size := by
  rcases Nat.lt_or_ge a.block w.heap.size with h' | h'
  · exact h'
  · simp [World.cell?, Array.getElem?_eq_none h'] at h
theorem cell_flat {a : Addr} {v : Value} (h : w.cell? a = some v) : a = ⟨a.block, a.off, none⟩ := by
  obtain ⟨ab, ao, asp⟩ := a
  cases asp with
  | none => rfl
  | some z => simp [World.cell?] at h; split at h <;> cases h
/-- Cells that read as lists, one behind the other. -/
theorem row_T (a : Addr) (len : Nat) (n : Nat) (elems : List (DataW H × List MemPlace)) (hlen : elems.length = len)
    (hE : ∀ i, i < len → (w.cells? 0 (a.add (i * 4)) 4).bind (DataW.trod enc Tryd.prog w 0 (fun _ => true) true n 24) = elems[i]?)
    (ih : ∀ (cs : List Value) (e : DataW H × List MemPlace), e ∈ elems → DataW.trod enc Tryd.prog w 0 (fun _ => true) true n 24 cs = some e → ∃ t, wfT t = true ∧ Rd (fun b => b < w.heap.size) w t cs) :
    ∀ k, k ≤ len → ∃ (ts : List T) (xs : List Value), ts.length = k ∧ wfL ts = true ∧ RdL (fun b => b < w.heap.size) w ts xs ∧ ∀ j u, xs[j]? = some u → w.cell? (a.add j) = some u
  | 0, _ => ⟨[], [], rfl, rfl, rfl, fun j u h => by simp at h⟩
  | k + 1, hk => by
    obtain ⟨ts, xs, h1, h2, h3, h4⟩ := row_T a len n elems hlen hE ih k (by omega)
    have hek := hE k (by omega)
    rw [List.getElem?_eq_getElem (by omega)] at hek
    obtain ⟨cs, hcs, htr⟩ := Option.bind_eq_some_iff.1 hek
    obtain ⟨t, ht1, ht2⟩ := ih cs _ (List.getElem_mem _) htr
    obtain ⟨_, hc4, hcell⟩ := World.cells?_some hcs
    have hxl := h3.len
    refine ⟨ts ++ [t], xs ++ cs, by simp [h1], wfL_snoc h2 ht1, RdL.snoc ht2 h3, fun j u hj => ?_⟩
    by_cases hjx : j < xs.length
    · rw [List.getElem?_append_left hjx] at hj
      exact h4 j u hj
    · rw [List.getElem?_append_right (by omega)] at hj
      have hj4 := (List.getElem?_eq_some_iff.1 hj).1
      have := hcell (j - xs.length) (by omega)
      rw [hj, add_of_add, show k * 4 + (j - xs.length) = j by omega] at this
      exact this
theorem trod_T (fuel : Nat) : ∀ (cs : List Value) (x : DataW H × List MemPlace), DataW.trod enc Tryd.prog w 0 (fun _ => true) true fuel 24 cs = some x → w.noneFrozen x.2 → ∃ t, wfT t = true ∧ Rd (fun b => b < w.heap.size) w t cs := by
  induction fuel using Nat.strongRecOn with
  | ind fuel ih =>
    intro cs x h hfr
    obtain ⟨xs, n, rfl, rfl, hl, hxl, hf⟩ := DataW.trod_struct Tryd.underlying24 h
    rw [cells24] at hl
    match cs, hl, xs, hxl with
    | [c0, c1, c2, c3], _, [y0, y1, y2, y3], _ =>
      have h0 : DataW.trod enc Tryd.prog w 0 (fun _ => true) true n 3 (([c0, c1, c2, c3].drop 0).take (Tryd.prog.cellsOf 3)) = some y0 := hf 0 _ rfl
      rw [cells3] at h0
      have h1 : DataW.trod enc Tryd.prog w 0 (fun _ => true) true n 3 (([c0, c1, c2, c3].drop 1).take (Tryd.prog.cellsOf 3)) = some y1 := hf 1 _ rfl
      rw [cells3] at h1
      have h2 : DataW.trod enc Tryd.prog w 0 (fun _ => true) true n 9 (([c0, c1, c2, c3].drop 2).take (Tryd.prog.cellsOf 9)) = some y2 := hf 2 _ rfl
      rw [cells9] at h2
      have h3 : DataW.trod enc Tryd.prog w 0 (fun _ => true) true n 22 (([c0, c1, c2, c3].drop 3).take (Tryd.prog.cellsOf 22)) = some y3 := hf 3 _ rfl
      rw [cells22] at h3
      obtain ⟨k, e0, _, hk⟩ := DataW.trod_int Tryd.underlying3 (show _ = some y0 from h0)
      obtain ⟨m, e1, _, hm⟩ := DataW.trod_int Tryd.underlying3 (show _ = some y1 from h1)
      obtain ⟨s, e2, _, hs⟩ := DataW.trod_string Tryd.underlying9 (show _ = some y2 from h2)
      obtain rfl : c0 = .int .i64 k := by simpa using e0
      obtain rfl : c1 = .int .i64 m := by simpa using e1
      obtain rfl : c2 = .string s := by simpa using e2
      have hki := bounds_i64 hk
      have hmi := bounds_i64 hm
      rcases DataW.trod_slice Tryd.underlying22 (show _ = some y3 from h3) with ⟨e3, _⟩ | ⟨a, len, cap, elems, rest, n', rfl, e3, rfl, _, hlc, hcm, hlen, hE, _, _⟩
      · obtain rfl : c3 = .slice none 0 0 := by simpa using e3
        refine ⟨.mk k m s [], by simp [wfT, wfL, hki, hmi], ?_⟩
        rw [Rd]
        exact ⟨none, 0, [], rfl, hs, Nat.le_refl _, Nat.zero_le _, ReadsP.none_, rfl⟩
      · obtain rfl : c3 = .slice (some a) len cap := by simpa using e3
        rw [cells24] at hE hfr
        have hfr2 : ∀ e ∈ elems, w.noneFrozen e.2 := by
          intro e he b off hb
          refine hfr b off ?_
          simp
          exact .inr (.inr (.inr (.inr (.inl ⟨e.1, e.2, he, hb⟩))))
        obtain ⟨ts, xs, t1, t2, t3, t4⟩ := row_T a len n' elems hlen hE (fun cs e he htr => ih n' (by omega) cs e htr (hfr2 e he)) len (Nat.le_refl _)
        refine ⟨.mk k m s ts, by simp [wfT, hki, hmi, t2], ?_⟩
        rw [Rd]
        refine ⟨some a, cap, xs, by rw [t1], hs, by omega, hcm, ⟨t3.len, fun hn => ?_⟩, t3⟩
        have hxl := t3.len
        obtain ⟨u, hu⟩ : ∃ u, xs[0]? = some u := ⟨xs[0]'(by omega), List.getElem?_eq_getElem (by omega)⟩
        have hc := t4 0 u hu
        have hlt := cell_lt hc
        rw [block_of_add] at hlt
        have hfl : a = ⟨a.block, a.off, none⟩ := by
          obtain ⟨ab, ao, asp⟩ := a
          cases asp with
          | none => rfl
          | some z => simp [World.cell?, Addr.add] at hc; split at hc <;> cases hc
        refine ⟨a, rfl, hlt, hlt, ?_, t4⟩
        rw [hfl]
        refine hfr a.block a.off ?_
        simp [MemPlace.row]
        exact .inr (.inr (.inr (.inl (by omega))))
/-- A parameter that is a value. -/
theorem par_T {b0 : Nat} {v : Value} {d : DataW H} {p : List MemPlace} (hv : Value.okWide Tryd.prog w .any b0 24 v) (h : DataW.Trod enc Tryd.prog w 0 (fun _ => true) true 24 v d p) (hfr : w.noneFrozen p) : ∃ t, wfT t = true ∧ RdA (fun b => b < w.heap.size) w t v := by
  obtain ⟨cs, rfl, hsz⟩ := okWide_struct Tryd.underlying24 hv
  obtain ⟨fuel, hf⟩ := h
  obtain ⟨t, h1, h2⟩ := trod_T fuel _ _ hf hfr
  refine ⟨t, h1, ?_⟩
  obtain ⟨k, n, s, l⟩ := t
  rw [Rd] at h2
  obtain ⟨A, c, xs, e, r⟩ := h2
  refine ⟨A, c, xs, ?_, r⟩
  have e2 : cs.toList = [.int .i64 k, .int .i64 n, .string s, .slice A l.length c] := by simpa [Value.cells] using e
  have e3 : cs = #[.int .i64 k, .int .i64 n, .string s, .slice A l.length c] := by
    rw [← Array.toList_inj, e2]
  rw [e3]
  rfl
end Go.Proofs.YtcgcocnbjijdaaaDoor
