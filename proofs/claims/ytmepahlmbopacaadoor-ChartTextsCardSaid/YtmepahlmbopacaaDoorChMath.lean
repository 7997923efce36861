/- Charts, what must move, and charts behind moves: plain. Conditions: none. -/
import Derived.LoopTactic
import Derived.Lib.Hide
set_option linter.unusedVariables false
set_option linter.unusedSimpArgs false
namespace Go.Proofs.YtmepahlmbopacaaDoor.Ct
open Go
def nodeC (n : Int) : Bool := decide (0 ≤ n ∧ n < 8)
/-- May a chart be? -/
def mayC (e : Int) (l : List Int) : Bool := decide (1 ≤ e ∧ e ≤ 1099511627776 ∧ 1 ≤ l.length ∧ l.length ≤ 16) && l.all nodeC
/-- A move: the shard, from, to. -/
structure Mv where
  s : Int
  f : Int
  t : Int
  deriving DecidableEq
def mvOf (a b : List Int) (i : Nat) : List Mv := if a.getD i 0 = b.getD i 0 then [] else [⟨(i : Int), a.getD i 0, b.getD i 0⟩]
/-- The moves of the first k shards. -/
def dm (a b : List Int) (k : Nat) : List Mv := (List.range k).flatMap (mvOf a b)
theorem dm_zero (a b : List Int) : dm a b 0 = [] := rfl
theorem dm_succ (a b : List Int) (k : Nat) : dm a b (k + 1) = dm a b k ++ mvOf a b k := by simp [dm, List.range_succ]
theorem mvOf_len (a b : List Int) (i : Nat) : (mvOf a b i).length ≤ 1 := by unfold mvOf; split <;> simp
theorem dm_len (a b : List Int) : ∀ k, (dm a b k).length ≤ k
  | 0 => Nat.le_refl _
  | k + 1 => by
    rw [dm_succ, List.length_append]
    have := dm_len a b k
    have := mvOf_len a b k
    omega
theorem dm_mem {a b : List Int} {k : Nat} {m : Mv} (h : m ∈ dm a b k) : ∃ i : Nat, i < k ∧ m = ⟨(i : Int), a.getD i 0, b.getD i 0⟩ ∧ a.getD i 0 ≠ b.getD i 0 := by
  unfold dm at h
  rw [List.mem_flatMap] at h
  obtain ⟨i, hi, hm⟩ := h
  unfold mvOf at hm
  split at hm
  · simp at hm
  · rename_i hne
    simp at hm
    exact ⟨i, by simpa using hi, hm, hne⟩
theorem dm_has {a b : List Int} {k i : Nat} (hi : i < k) (hne : a.getD i 0 ≠ b.getD i 0) : (⟨(i : Int), a.getD i 0, b.getD i 0⟩ : Mv) ∈ dm a b k := by
  unfold dm
  rw [List.mem_flatMap]
  refine ⟨i, by simpa using hi, ?_⟩
  unfold mvOf
  rw [if_neg hne]
  simp
theorem dm_same (a : List Int) : ∀ k, dm a a k = []
  | 0 => rfl
  | k + 1 => by
    rw [dm_succ, dm_same a k]
    simp [mvOf]
/-- The shards of moves rise. -/
theorem dm_rise (a b : List Int) : ∀ k, (dm a b k).Pairwise (fun x y => x.s < y.s)
  | 0 => List.Pairwise.nil
  | k + 1 => by
    rw [dm_succ, List.pairwise_append]
    refine ⟨dm_rise a b k, ?_, fun x hx y hy => ?_⟩
    · unfold mvOf
      split <;> simp
    · obtain ⟨i, hi, rfl, _⟩ := dm_mem hx
      unfold mvOf at hy
      split at hy
      · simp at hy
      · simp at hy
        subst hy
        show (i : Int) < (k : Int)
        omega
/-- Nodes behind moves. -/
def app (l : List Int) (ms : List Mv) : List Int := ms.foldl (fun l m => l.set m.s.toNat m.t) l
theorem app_snoc (l : List Int) (ms : List Mv) (m : Mv) : app l (ms ++ [m]) = (app l ms).set m.s.toNat m.t := by simp [app]
theorem app_len (l : List Int) (ms : List Mv) : (app l ms).length = l.length := by
  induction ms generalizing l with
  | nil => rfl
  | cons m r ih =>
    show (app (l.set m.s.toNat m.t) r).length = _
    rw [ih, List.length_set]
theorem getD_set_eq {l : List Int} {i : Nat} {x : Int} (h : i < l.length) : (l.set i x).getD i 0 = x := by
  rw [List.getD_eq_getElem?_getD, List.getElem?_set_self h]
  rfl
theorem getD_set_ne {l : List Int} {i j : Nat} {x : Int} (h : i ≠ j) : (l.set i x).getD j 0 = l.getD j 0 := by
  rw [List.getD_eq_getElem?_getD, List.getElem?_set_ne h, List.getD_eq_getElem?_getD]
theorem app_out {l : List Int} {ms : List Mv} {j : Nat} (h : ∀ m ∈ ms, m.s.toNat ≠ j) : (app l ms).getD j 0 = l.getD j 0 := by
  induction ms generalizing l with
  | nil => rfl
  | cons m r ih =>
    show (app (l.set m.s.toNat m.t) r).getD j 0 = _
    rw [ih (fun m' hm => h m' (List.mem_cons_of_mem _ hm)), getD_set_ne (h m (List.mem_cons_self ..))]
theorem app_in {b l : List Int} {ms : List Mv} {j : Nat} (hb : ∀ m ∈ ms, m.t = b.getD m.s.toNat 0) (hj : j < l.length) (h : ∃ m ∈ ms, m.s.toNat = j) : (app l ms).getD j 0 = b.getD j 0 := by
  induction ms generalizing l with
  | nil => obtain ⟨m, hm, _⟩ := h; simp at hm
  | cons m r ih =>
    show (app (l.set m.s.toNat m.t) r).getD j 0 = _
    by_cases hr : ∃ m' ∈ r, m'.s.toNat = j
    · exact ih (fun m' hm => hb m' (List.mem_cons_of_mem _ hm)) (by rw [List.length_set]; exact hj) hr
    · obtain ⟨m', hm', e⟩ := h
      rcases List.mem_cons.1 hm' with rfl | hm'
      · rw [app_out (fun m'' hm'' e' => hr ⟨m'', hm'', e'⟩), e, getD_set_eq hj, hb m' (List.mem_cons_self ..), e]
      · exact absurd ⟨m', hm', e⟩ hr
theorem getD_ext {a b : List Int} (hl : a.length = b.length) (h : ∀ j, j < a.length → a.getD j 0 = b.getD j 0) : a = b := by
  apply List.ext_getElem hl
  intro j h1 h2
  have := h j h1
  rwa [List.getD_eq_getElem?_getD, List.getD_eq_getElem?_getD, List.getElem?_eq_getElem h1, List.getElem?_eq_getElem h2] at this
/-- Behind all moves it is the other one. -/
theorem app_dm {a b : List Int} (hl : a.length = b.length) : app a (dm a b a.length) = b := by
  refine getD_ext (by rw [app_len, hl]) fun j hj => ?_
  rw [app_len] at hj
  by_cases hne : a.getD j 0 = b.getD j 0
  · rw [app_out, hne]
    intro m hm e
    obtain ⟨i, _, rfl, hn⟩ := dm_mem hm
    simp at e
    subst e
    exact hn hne
  · refine app_in (fun m hm => ?_) hj ⟨_, dm_has hj hne, by simp⟩
    obtain ⟨i, _, rfl, _⟩ := dm_mem hm
    simp
/-- The next move's shard is still where it was. -/
theorem app_next {a b : List Int} {k i : Nat} (hi : i < (dm a b k).length) : ∃ s : Nat, s < k ∧ (dm a b k)[i] = ⟨(s : Int), a.getD s 0, b.getD s 0⟩ ∧ a.getD s 0 ≠ b.getD s 0 ∧ (app a ((dm a b k).take i)).getD s 0 = a.getD s 0 := by
  obtain ⟨s, hs, e, hne⟩ := dm_mem (List.getElem_mem hi)
  refine ⟨s, hs, e, hne, app_out fun m hm e2 => ?_⟩
  obtain ⟨j, hj, e3⟩ := List.getElem_of_mem hm
  rw [List.length_take] at hj
  rw [List.getElem_take] at e3
  have := List.pairwise_iff_getElem.1 (dm_rise a b k) j i (by omega) hi (by omega)
  rw [e3, e] at this
  obtain ⟨s2, _, rfl, _⟩ := dm_mem (List.mem_of_mem_take hm)
  simp at e2 this
  omega
theorem nodeC_iff {n : Int} : nodeC n = true ↔ 0 ≤ n ∧ n < 8 := by unfold nodeC; simp
theorem mayC_iff {e : Int} {l : List Int} : mayC e l = true ↔ (1 ≤ e ∧ e ≤ 1099511627776) ∧ (1 ≤ l.length ∧ l.length ≤ 16) ∧ ∀ x ∈ l, 0 ≤ x ∧ x < 8 := by
  unfold mayC
  rw [Bool.and_eq_true, List.all_eq_true]
  simp only [decide_eq_true_eq, nodeC_iff]
  constructor
  · rintro ⟨⟨a, b, c, d⟩, h⟩
    exact ⟨⟨a, b⟩, ⟨c, d⟩, h⟩
  · rintro ⟨⟨a, b⟩, ⟨c, d⟩, h⟩
    exact ⟨⟨a, b, c, d⟩, h⟩
theorem mem_getD {l : List Int} {i : Nat} (h : i < l.length) : l.getD i 0 ∈ l := by
  rw [List.getD_eq_getElem?_getD, List.getElem?_eq_getElem h]
  exact List.getElem_mem _
theorem mayC_set {e e' : Int} {l : List Int} {i : Nat} {x : Int} (h : mayC e l = true) (he : 1 ≤ e' ∧ e' ≤ 1099511627776) (hx : 0 ≤ x ∧ x < 8) : mayC e' (l.set i x) = true := by
  rw [mayC_iff] at *
  refine ⟨he, by rw [List.length_set]; exact h.2.1, fun y hy => ?_⟩
  rcases List.mem_or_eq_of_mem_set hy with hy | rfl
  · exact h.2.2 y hy
  · exact hx
/-- What Done returns: its error, and the chart. -/
def doneE (e : Int) (l : List Int) (m : Mv) : Int :=
  if mayC e l = false ∨ m.s < 0 ∨ (l.length : Int) ≤ m.s ∨ nodeC m.t = false ∨ m.t = m.f then 1
  else if l.getD m.s.toNat 0 ≠ m.f then 3 else if e = 1099511627776 then 101 else 0
theorem doneE_ok {e : Int} {l : List Int} {m : Mv} : doneE e l m = 0 ↔ mayC e l = true ∧ (0 ≤ m.s ∧ m.s < (l.length : Int)) ∧ (0 ≤ m.t ∧ m.t < 8) ∧ m.t ≠ m.f ∧ l.getD m.s.toNat 0 = m.f ∧ e ≠ 1099511627776 := by
  unfold doneE
  constructor
  · intro h
    split at h
    · omega
    · rename_i h1
      split at h
      · omega
      · rename_i h2
        split at h
        · omega
        · rename_i h3
          simp only [not_or, Bool.not_eq_false, nodeC_iff] at h1
          obtain ⟨a, b, c, d, e⟩ := h1
          exact ⟨a, ⟨by omega, by omega⟩, d, e, by simpa using h2, h3⟩
  · rintro ⟨a, ⟨b, c⟩, d, f, g, h⟩
    rw [if_neg, if_neg (by simpa using g), if_neg h]
    simp only [not_or, Bool.not_eq_false, nodeC_iff]
    exact ⟨a, by omega, by omega, d, f⟩
def diffE (e : Int) (a : List Int) (f : Int) (b : List Int) : Int := if mayC e a = true ∧ mayC f b = true ∧ a.length = b.length then 0 else 1
def diffL (e : Int) (a : List Int) (f : Int) (b : List Int) : List Mv := if mayC e a = true ∧ mayC f b = true ∧ a.length = b.length then dm a b a.length else []
end Go.Proofs.YtmepahlmbopacaaDoor.Ct
