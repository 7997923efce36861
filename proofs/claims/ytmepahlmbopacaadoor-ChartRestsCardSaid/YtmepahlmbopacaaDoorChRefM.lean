/- The document's ring: its nodes in order; which of them is first: plain. Conditions: none. -/
import Derived.Test.YtmepahlmbopacaaDoorChPlan
set_option linter.unusedVariables false
set_option linter.unusedSimpArgs false
set_option maxRecDepth 100000
namespace Go.Proofs.YtmepahlmbopacaaDoor.Ct
open Go Go.RowKit Go.Maps
def srtN (l : List Int) (N : Nat) : List Int := (List.range N).flatMap (fun (n : Nat) => l.filter (fun x => x == (n : Int)))
theorem srtN_succ (l : List Int) (N : Nat) : srtN l (N + 1) = srtN l N ++ l.filter (fun x => x == (N : Int)) := by simp [srtN, List.range_succ]
theorem mem_srtN {l : List Int} {x : Int} : ∀ {N : Nat}, x ∈ srtN l N ↔ x ∈ l ∧ 0 ≤ x ∧ x < (N : Int)
  | 0 => by simp [srtN]
  | N + 1 => by
    rw [srtN_succ, List.mem_append, mem_srtN, List.mem_filter]
    constructor
    · rintro (⟨h, h1, h2⟩ | ⟨h, h1⟩)
      · exact ⟨h, h1, by omega⟩
      · have h1 : x = (N : Int) := by simpa using h1
        exact ⟨h, by omega, by omega⟩
    · rintro ⟨h, h1, h2⟩
      by_cases e : x = (N : Int)
      · exact .inr ⟨h, by simpa using e⟩
      · exact .inl ⟨h, h1, by omega⟩
theorem srtN_sorted (l : List Int) : ∀ N, (srtN l N).Pairwise (· ≤ ·)
  | 0 => List.Pairwise.nil
  | N + 1 => by
    rw [srtN_succ, List.pairwise_append]
    refine ⟨srtN_sorted l N, ?_, fun a ha b hb => ?_⟩
    · rw [List.pairwise_iff_getElem]
      intro i j hi hj _
      have ha := List.getElem_mem hi
      have hb := List.getElem_mem hj
      rw [List.mem_filter] at ha hb
      have h1 : (l.filter (fun x => x == (N : Int)))[i] = (N : Int) := by simpa using ha.2
      have h2 : (l.filter (fun x => x == (N : Int)))[j] = (N : Int) := by simpa using hb.2
      rw [h1, h2]
      exact Int.le_refl _
    · have h1 := (mem_srtN.1 ha).2
      rw [List.mem_filter] at hb
      have h2 : b = (N : Int) := by simpa using hb.2
      omega
theorem srtN_count {l : List Int} {x : Int} : ∀ {N : Nat}, 0 ≤ x → x < (N : Int) → (srtN l N).count x = l.count x
  | 0, h1, h2 => by omega
  | N + 1, h1, h2 => by
    rw [srtN_succ, List.count_append]
    by_cases e : x = (N : Int)
    · subst e
      have h0 : (srtN l N).count (N : Int) = 0 := List.count_eq_zero.2 (fun h => by have := (mem_srtN.1 h).2; omega)
      rw [h0, List.count_filter (by simp)]
      omega
    · have h0 : (l.filter (fun y => y == (N : Int))).count x = 0 := List.count_eq_zero.2 (fun h => by
        rw [List.mem_filter] at h
        exact e (by simpa using h.2))
      rw [h0, srtN_count h1 (by omega)]
      omega
theorem srtN_len (l : List Int) : ∀ N, (srtN l N).length = l.countP (fun x => decide (0 ≤ x ∧ x < (N : Int)))
  | 0 => by
    have : l.countP (fun x => decide (0 ≤ x ∧ x < ((0 : Nat) : Int))) = 0 := List.countP_eq_zero.2 (fun x _ => by simp)
    rw [this]
    rfl
  | N + 1 => by
    rw [srtN_succ, List.length_append, srtN_len l N]
    induction l with
    | nil => rfl
    | cons y r ih =>
      simp only [List.countP_cons, List.filter_cons]
      by_cases e : y = (N : Int)
      · subst e
        have h1 : decide (0 ≤ (N : Int) ∧ (N : Int) < (N : Int)) = false := decide_eq_false (by omega)
        have h2 : decide (0 ≤ (N : Int) ∧ (N : Int) < ((N + 1 : Nat) : Int)) = true := decide_eq_true (by omega)
        rw [h1, h2]
        simp only [beq_self_eq_true, if_true, List.length_cons, Bool.false_eq_true, if_false]
        omega
      · have h1 : (y == (N : Int)) = false := by rw [beq_eq_false_iff_ne]; exact e
        have h2 : decide (0 ≤ y ∧ y < ((N + 1 : Nat) : Int)) = decide (0 ≤ y ∧ y < (N : Int)) := by
          rw [decide_eq_decide]
          omega
        rw [h1, h2]
        simp only [Bool.false_eq_true, if_false]
        omega
theorem srtN_le (l : List Int) (N : Nat) : (srtN l N).length ≤ l.length := by
  rw [srtN_len]
  exact List.countP_le_length
theorem srt_all {l : List Int} {N : Nat} (h : (srtN l N).length = l.length) : ∀ x ∈ l, 0 ≤ x ∧ x < (N : Int) := by
  rw [srtN_len] at h
  intro x hx
  simpa using List.countP_eq_length.1 h x hx
theorem srt_full {l : List Int} {N : Nat} (h : ∀ x ∈ l, 0 ≤ x ∧ x < (N : Int)) : (srtN l N).length = l.length := by
  rw [srtN_len]
  exact List.countP_eq_length.2 (fun x hx => by simpa using h x hx)
/-- Each node is less than the next. -/
def Up (K : List Int) : Prop := ∀ j, 1 ≤ j → j < K.length → K.getD (j - 1) 0 < K.getD j 0
theorem up_pair {K : List Int} (h : Up K) : K.Pairwise (· < ·) := by
  rw [List.pairwise_iff_getElem]
  have key : ∀ d i, (hd : i + d + 1 < K.length) → K[i]'(by omega) < K[i + d + 1] := by
    intro d
    induction d with
    | zero =>
      intro i hd
      have := h (i + 1) (by omega) hd
      rw [List.getD_eq_getElem?_getD, List.getD_eq_getElem?_getD, List.getElem?_eq_getElem (by omega), List.getElem?_eq_getElem (by omega)] at this
      simpa using this
    | succ d ih =>
      intro i hd
      have h1 := ih i (by omega)
      have := h (i + d + 2) (by omega) (by omega)
      rw [List.getD_eq_getElem?_getD, List.getD_eq_getElem?_getD, List.getElem?_eq_getElem (by omega), List.getElem?_eq_getElem (by omega)] at this
      simp only [Option.getD_some] at this
      have e : i + d + 2 - 1 = i + d + 1 := by omega
      simp only [e] at this
      exact Int.lt_trans h1 this
  intro i j hi hj hij
  have := key (j - i - 1) i (by omega)
  have e : i + (j - i - 1) + 1 = j := by omega
  simp only [e] at this
  exact this
theorem good_of_up {l : List Int} (h : (srtN l 8).length = l.length) (hu : Up (srtN l 8)) : goodB l = true := by
  have hall := srt_all h
  refine goodB_iff.2 ⟨?_, hall⟩
  rw [List.nodup_iff_count]
  intro x
  by_cases hx : x ∈ l
  · have h1 := hall x hx
    rw [← srtN_count h1.1 h1.2]
    have hn : (srtN l 8).Nodup := (up_pair hu).imp (fun h => Int.ne_of_lt h)
    exact List.nodup_iff_count.1 hn x
  · rw [List.count_eq_zero.2 hx]
    omega
theorem up_of_good {l : List Int} (h : goodB l = true) : (srtN l 8).length = l.length ∧ Up (srtN l 8) := by
  have hg := goodB_iff.1 h
  refine ⟨srt_full hg.2, fun j h1 h2 => ?_⟩
  have hn : (srtN l 8).Nodup := by
    rw [List.nodup_iff_count]
    intro x
    by_cases hx : x ∈ srtN l 8
    · have h3 := (mem_srtN.1 hx).2
      rw [srtN_count h3.1 h3.2]
      exact List.nodup_iff_count.1 hg.1 x
    · rw [List.count_eq_zero.2 hx]
      omega
  have hs := List.pairwise_iff_getElem.1 (srtN_sorted l 8) (j - 1) j (by omega) h2 (by omega)
  have hne := List.pairwise_iff_getElem.1 (List.nodup_iff_pairwise_ne.1 hn) (j - 1) j (by omega) h2 (by omega)
  rw [List.getD_eq_getElem?_getD, List.getD_eq_getElem?_getD, List.getElem?_eq_getElem (by omega), List.getElem?_eq_getElem h2]
  simp only [Option.getD_some]
  exact Int.lt_iff_le_and_ne.2 ⟨hs, hne⟩
theorem zof_mem_congr {K l : List Int} {P : Nat} (h : ∀ x, x ∈ K ↔ x ∈ l) (x : Int × Int) : x ∈ zof K P ↔ x ∈ zof l P := by
  rw [mem_zof, mem_zof, h]
theorem isHome_congr {Z Y : List (Int × Int)} {s m : Int} (h : ∀ x, x ∈ Z ↔ x ∈ Y) (hh : IsHome Z s m) : IsHome Y s m := by
  obtain ⟨q, h1, h2, h3⟩ := hh
  exact ⟨q, (h _).1 h1, fun x hx => h2 x ((h x).2 hx), fun n hn => h3 n ((h _).2 hn)⟩
/-- The best so far. -/
def Bst (Z : List (Int × Int)) (s best at_ : Int) : Prop := (Z = [] ∧ best = -1) ∨ 0 ≤ best ∧ (∃ q, (at_, q) ∈ Z ∧ farR s q = best) ∧ (∀ x ∈ Z, best ≤ farR s x.2) ∧ ∀ x ∈ Z, farR s x.2 = best → at_ ≤ x.1
theorem Bst.less {Z : List (Int × Int)} {s best at_ n q : Int} (h : Bst Z s best at_) (hlt : best < 0 ∨ farR s q < best) : Bst (Z ++ [(n, q)]) s (farR s q) n := by
  have hp := far_pos s q
  refine .inr ⟨hp, ⟨q, by simp, rfl⟩, fun x hx => ?_, fun x hx hf => ?_⟩
  · rcases List.mem_append.1 hx with hx | hx
    · rcases h with ⟨rfl, _⟩ | ⟨h0, _, h2, _⟩
      · simp at hx
      · have := h2 x hx
        omega
    · simp at hx
      subst hx
      exact Int.le_refl _
  · rcases List.mem_append.1 hx with hx | hx
    · rcases h with ⟨rfl, _⟩ | ⟨h0, _, h2, _⟩
      · simp at hx
      · have := h2 x hx
        omega
    · simp at hx
      subst hx
      exact Int.le_refl _
theorem Bst.more {Z : List (Int × Int)} {s best at_ n q : Int} (h : Bst Z s best at_) (h0 : ¬ best < 0) (hge : ¬ farR s q < best) (hn : ∀ x ∈ Z, x.1 ≤ n) : Bst (Z ++ [(n, q)]) s best at_ := by
  rcases h with ⟨rfl, hb⟩ | ⟨h1, ⟨q0, hq, hf⟩, h2, h3⟩
  · omega
  · refine .inr ⟨h1, ⟨q0, List.mem_append_left _ hq, hf⟩, fun x hx => ?_, fun x hx hfx => ?_⟩
    · rcases List.mem_append.1 hx with hx | hx
      · exact h2 x hx
      · simp at hx
        subst hx
        simp only
        omega
    · rcases List.mem_append.1 hx with hx | hx
      · exact h3 x hx hfx
      · simp at hx
        subst hx
        exact hn _ hq
theorem Bst.home {Z : List (Int × Int)} {s best at_ : Int} (hZ : ∀ x ∈ Z, InR x.2) (h : Bst Z s best at_) (hne : Z ≠ []) : IsHome Z s at_ := by
  rcases h with ⟨h, _⟩ | ⟨_, ⟨q, hq, hf⟩, h2, h3⟩
  · exact absurd h hne
  · exact ⟨q, hq, fun x hx => by rw [hf]; exact h2 x hx, fun n hn => h3 (n, q) hn hf⟩
theorem far_calc {s q : Int} (hs : InR s) (hq : InR q) : farR s q = if q - s < 0 then q - s + 16777216 else q - s := by
  unfold farR InR at *
  split <;> omega
theorem zof_in {l : List Int} {P : Nat} : ∀ x ∈ zof l P, InR x.2 := fun x hx => by
  obtain ⟨_, k, _, h⟩ := mem_zof.1 hx
  rw [h]
  exact sp_in _ _
end Go.Proofs.YtmepahlmbopacaaDoor.Ct
