/- What slices.Sort leaves of a list of one's own; whether numbers are numbers of nodes. Conditions: none. -/
import Derived.Test.YtmepahlmbopacaaDoorGLay
import Derived.Test.YtmepahlmbopacaaDoorGSpot
set_option linter.unusedVariables false
set_option linter.unusedSimpArgs false
set_option maxRecDepth 100000
namespace Go.Proofs.YtmepahlmbopacaaDoor
open Go Go.RowKit Go.Maps
open Go.Sort (Holds putRow grow)
def sortI (l : List Int) : List Int := l.mergeSort fun x y => decide (x ≤ y)
theorem sortI_perm (l : List Int) : (sortI l).Perm l := List.mergeSort_perm ..
theorem sortI_len (l : List Int) : (sortI l).length = l.length := List.length_mergeSort ..
theorem sortI_sorted (l : List Int) : (sortI l).Pairwise (· ≤ ·) := by
  have := List.pairwise_mergeSort (le := fun x y : Int => decide (x ≤ y)) (fun a b c h1 h2 => by simp only [decide_eq_true_eq] at *; omega) (fun a b => by simp only [Bool.or_eq_true, decide_eq_true_eq]; omega) l
  exact this.imp (fun h => by simpa using h)
def Sorted (w : World) (v : Value) (l : List Int) (e : Ending) (w' : World) : Prop :=
  e = .returned (.tuple #[]) ∧ w.grownBy w' v.ownBlock ∧ ∃ A c, v = .slice A (sortI l).length c ∧ Reads w' w'.heap.size 1 A (sortI l).length (ints (sortI l))
theorem ints_getD {l : List Int} {j : Nat} {u : Value} (h : (ints l)[j]? = some u) : j < l.length ∧ u = .int .i64 (l.toArray[j]!) := by
  obtain ⟨hj, e⟩ := List.getElem?_eq_some_iff.1 h
  rw [ints_len] at hj
  refine ⟨hj, ?_⟩
  rw [← e]
  simp [ints, hj]
theorem sort_own {w : World} {base : Nat} {v : Value} {l : List Int} (h : w.ownsRow base 3 1 v l.length (ints l)) (hl : l.length ≤ 1000000) :
    Calls Tryd.prog 38 #[v] w (Sorted w v l) := by
  by_cases h0 : l.length = 0
  · have e : l = [] := List.eq_nil_of_length_eq_zero h0
    subst e
    obtain ⟨A, c, rfl, _, _⟩ := own_shape h
    refine (Tryd.slices_Sort_int_none A c w).mono ?_
    rintro e w' ⟨rfl, rfl⟩
    have e0 : sortI [] = [] := List.eq_nil_of_length_eq_zero (sortI_len [])
    exact ⟨rfl, World.grownBy.refl _ _, A, c, by rw [e0], by rw [e0]; exact ⟨rfl, fun h => absurd h (by simp)⟩⟩
  · obtain ⟨g, c, rfl, hb, hg⟩ := h.form (by omega)
    have hH : Holds (Value.int .i64) w g 0 l.toArray := fun j hj => by
      have hj' : j < l.length := by simpa using hj
      refine ⟨?_, by rw [Nat.zero_add]; exact h.frozenAt j⟩
      have := h.cells (g := g) rfl j (.int .i64 (l.toArray[j]!)) (by simp [ints, hj'])
      rwa [add_flat] at this
    refine (Tryd.slices_Sort_int g 0 c l w hH hg (by omega)).mono ?_
    rintro e w' ⟨rfl, n, os, rfl⟩
    have hH1 : Holds (Value.int .i64) (Sort.ahead w n) g 0 l.toArray := hH
    have hs : (sortI l).toArray.size = l.toArray.size := by simp [sortI_len]
    have hgl : g < (Sort.ahead w n).heap.size := hg
    have hb1 : ∀ b, b ≠ g → (putRow (Value.int .i64) (Sort.ahead w n) g 0 (sortI l).toArray).heap[b]? = w.heap[b]? := fun b hne => by
      show (w.heap.modify g _)[b]? = _
      rw [Array.getElem?_modify, if_neg (fun e => hne e.symm)]
    refine ⟨rfl, ⟨rfl, rfl, rfl, ?_, fun b hb' hne => ?_⟩, some ⟨g, 0, none⟩, c, by rw [sortI_len], ?_⟩
    · rw [Go.Sort.size_grow, Go.Sort.size_putRow]
      exact Nat.le_add_right ..
    · rw [Go.Sort.heap_grow_old _ _ (by rw [Go.Sort.size_putRow]; exact hb')]
      exact hb1 b (fun e => hne (by rw [e]; rfl))
    · refine ⟨by rw [ints_len]; simp, fun _ => ⟨_, rfl, ?_, fun j u hu => ?_⟩⟩
      · rw [Go.Sort.size_grow, Go.Sort.size_putRow]
        show g < w.heap.size + _
        omega
      · obtain ⟨hj, rfl⟩ := ints_getD hu
        rw [add_flat, Go.Sort.cell?_grow _ _ _ (by rw [Go.Sort.size_putRow]; exact hgl)]
        exact Go.Sort.cell?_putRow (Value.int .i64) (Sort.ahead w n) g 0 l.toArray (sortI l).toArray hH1 hs j (by simpa using hj)
/-- Numbers of nodes, each there once. -/
def GoodN (l : List Int) : Prop := l.Nodup ∧ ∀ x ∈ l, 0 ≤ x ∧ x < 8
def metL (l : List Int) : List Value := (List.range 8).map fun (j : Nat) => .bool (decide ((j : Int) ∈ l))
theorem metL_get (l : List Int) {j : Nat} (hj : j < 8) : (metL l)[j]? = some (.bool (decide ((j : Int) ∈ l))) := by
  unfold metL
  rw [List.getElem?_map, List.getElem?_range hj]
  rfl
theorem metL_set (l : List Int) (k : Nat) (hk : k < 8) : (metL l).set k (.bool true) = metL (l ++ [(k : Int)]) := by
  apply List.ext_getElem?
  intro j
  rw [List.getElem?_set]
  by_cases hj : j < 8
  · rw [metL_get _ hj, metL_get _ hj]
    by_cases e : k = j
    · subst e
      rw [if_pos rfl, if_pos (by simp [metL]; exact hj)]
      simp
    · rw [if_neg e]
      have : ¬ (j : Int) = (k : Int) := by omega
      simp [this]
  · have h1 : (metL l)[j]? = none := by simp [metL]; omega
    have h2 : (metL (l ++ [(k : Int)]))[j]? = none := by simp [metL]; omega
    rw [h1, h2]
    by_cases e : k = j
    · subst e
      omega
    · rw [if_neg e]
theorem good_cut {l : List Int} (h : GoodN l) {k : Nat} (hk : k < l.length) : ∃ z : Nat, l.getD k 0 = (z : Int) ∧ z < 8 ∧ (z : Int) ∉ l.take k ∧ l.take (k + 1) = l.take k ++ [(z : Int)] := by
  have hm := h.2 l[k] (List.getElem_mem hk)
  have e : l.getD k 0 = l[k] := by rw [List.getD_eq_getElem?_getD, List.getElem?_eq_getElem hk]; rfl
  have ez : ((l[k].toNat : Nat) : Int) = l[k] := by omega
  refine ⟨l[k].toNat, by rw [e]; omega, by omega, fun hc => ?_, ?_⟩
  · rw [ez] at hc
    obtain ⟨i, hi, he⟩ := List.getElem_of_mem hc
    rw [List.length_take] at hi
    rw [List.getElem_take] at he
    have := (List.nodup_iff_pairwise_ne.1 h.1)
    have := List.pairwise_iff_getElem.1 this i k (by omega) hk (by omega)
    exact this he
  · rw [ez, List.take_succ_eq_append_getElem hk]
set_option maxHeartbeats 1000000 in
theorem areNodes_any {w : World} {A : Option Addr} {c : Nat} {l : List Int} (hR : Reads w w.heap.size 1 A l.length (ints l)) (hG : GoodN l) (hl : l.length ≤ 8) :
    Calls Tryd.prog 35 #[.slice A l.length c] w (Gives (.bool true) w) := by
  have r0 := Row.new w 90 (metL [])
  have hB0 : Below w.heap.size w (w.alloc (.cells (metL []).toArray 90)) := (Below.refl _ w).alloc (Nat.le_refl _) _
  have HR := Lib.hid hR
  have HB0 := Lib.hid hB0
  have R0 := Lib.hid r0
  generalize hM : l.length = M at *
  have HM := Lib.hid hM
  clear hM hR hB0 r0
  go_enter Tryd.func35, Tryd.ntmps35
  go_wp2_with fail
  go_loopw [8] (fun i wr => ∃ k : Nat, k ≤ M ∧ i = .int .i64 (k : Int) ∧ Row wr w.heap.size 90 (metL (l.take k)) ∧ Below w.heap.size w wr) (fun i _ => M - (intOf i).toNat)
  case atStart => exact ⟨0, Nat.zero_le _, rfl, R0.out, HB0.out⟩
  case round =>
    obtain ⟨k, hk, rfl, hr, hb⟩ := hrel
    by_cases hlt : k < M
    · have hltz : (k : Int) < (M : Int) := by omega
      obtain ⟨ad, rfl, hab, hc⟩ := (HR.out.below hb).int_at hlt
      obtain ⟨z, hz, hz8, hno, htk⟩ := good_cut hG (k := k) (by rw [HM.out]; exact hlt)
      rw [hz] at hc
      have hcm := hr.cell (j := z) (metL_get _ hz8)
      rw [decide_eq_false hno] at hcm
      have hzm := hr.frozen z
      have hlm := hr.lt
      have hz8z : (z : Int) < 8 := by omega
      have hz8n : ¬ (8 : Int) ≤ (z : Int) := by omega
      have hadl : (ad.add k).block < wr.heap.size := by rw [block_of_add]; have := hb.size; omega
      have hr1 := hr.set z (.bool true)
      rw [metL_set _ _ hz8, ← htk] at hr1
      have HH := Lib.hid (And.intro hr1 hb)
      clear hr hno htk hz hr1
      go_wp2
      exact ⟨⟨k + 1, hlt, by go_num, HH.out.1, below_setCell HH.out.2 (Nat.le_refl _) _⟩, by simp [intOf]; omega⟩
    · obtain rfl : k = M := by omega
      have hnl : ¬ (k : Int) < (k : Int) := by omega
      go_wp2_with fail
      go_ret
      exact ⟨rfl, hb⟩
end Go.Proofs.YtmepahlmbopacaaDoor
