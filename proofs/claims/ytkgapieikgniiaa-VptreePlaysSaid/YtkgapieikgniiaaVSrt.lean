/- Plain mathematics: what was found, put in order, and the first ones of it. Conditions: none. -/
import Derived.Test.YtkgapieikgniiaaVHits
import Derived.Test.YtkgapieikgniiaaVMath
set_option linter.unusedVariables false
set_option linter.unusedSimpArgs false
namespace Go.Proofs.Ytkgapieikgniiaa
open Go Go.RowKit
/-- One more, ahead of the first that stands behind it. -/
def insH (h : Hit) : List Hit → List Hit
  | [] => [h]
  | x :: r => if hlt h x = true then h :: x :: r else x :: insH h r
def srtH : List Hit → List Hit
  | [] => []
  | x :: r => insH x (srtH r)
theorem insH_comm (a b : Hit) : ∀ l, insH a (insH b l) = insH b (insH a l)
  | [] => by
    unfold insH
    by_cases h : hlt a b = true
    · have h2 := hlt_asymm h
      simp [insH, h, h2]
    · have h' : hlt a b = false := by simpa using h
      by_cases k : hlt b a = true
      · simp [insH, h', k]
      · have k' : hlt b a = false := by simpa using k
        have e := hlt_total h' k'
        subst e
        rfl
  | x :: r => by
    by_cases ha : hlt a x = true <;> by_cases hb : hlt b x = true
    · by_cases h : hlt a b = true
      · have h2 := hlt_asymm h
        simp [insH, ha, hb, h, h2]
      · have h' : hlt a b = false := by simpa using h
        by_cases k : hlt b a = true
        · simp [insH, ha, hb, h', k]
        · have k' : hlt b a = false := by simpa using k
          have e := hlt_total h' k'
          subst e
          rfl
    · have hba : hlt b a = false := by
        rw [Bool.eq_false_iff]
        intro h
        exact hb (hlt_trans h ha)
      simp [insH, ha, hb, hba]
    · have hab : hlt a b = false := by
        rw [Bool.eq_false_iff]
        intro h
        exact ha (hlt_trans h hb)
      simp [insH, ha, hb, hab]
    · simp [insH, ha, hb, insH_comm a b r]
theorem srtH_perm {l l' : List Hit} (h : l.Perm l') : srtH l = srtH l' := by
  induction h with
  | nil => rfl
  | cons x _ ih => simp [srtH, ih]
  | swap x y l => exact insH_comm y x (srtH l)
  | trans _ _ ih1 ih2 => rw [ih1, ih2]
theorem insH_take (h : Hit) : ∀ (l : List Hit) (k : Nat), (insH h l).take k = (insH h (l.take k)).take k
  | [], k => by simp
  | x :: r, 0 => by simp
  | x :: r, k + 1 => by
    rw [List.take_succ_cons]
    unfold insH
    split
    · rw [List.take_succ_cons, List.take_succ_cons]
      cases k with
      | zero => simp
      | succ k => simp [List.take_take]
    · rw [List.take_succ_cons, List.take_succ_cons, insH_take h r k]
theorem insH_perm (h : Hit) : ∀ l : List Hit, (insH h l).Perm (h :: l)
  | [] => List.Perm.refl _
  | x :: r => by
    unfold insH
    split
    · exact List.Perm.refl _
    · exact ((insH_perm h r).cons x).trans (List.Perm.swap ..)
theorem insH_len (h : Hit) (l : List Hit) : (insH h l).length = l.length + 1 := by rw [(insH_perm h l).length_eq]; rfl
theorem srtH_self : ∀ l : List Hit, (srtH l).Perm l
  | [] => List.Perm.refl _
  | x :: r => (insH_perm x _).trans ((srtH_self r).cons x)
theorem srtH_len (l : List Hit) : (srtH l).length = l.length := (srtH_self l).length_eq
/-- In order: none stands behind one that it should stand ahead of. -/
def InOrd (l : List Hit) : Prop := l.Pairwise (fun a b => hlt b a = false)
theorem insH_ord (h : Hit) : ∀ l : List Hit, InOrd l → InOrd (insH h l)
  | [], _ => List.pairwise_singleton _ _
  | x :: r, k => by
    obtain ⟨k1, k2⟩ := List.pairwise_cons.1 k
    unfold insH
    split
    · rename_i hx
      refine List.pairwise_cons.2 ⟨fun y hy => ?_, k⟩
      rcases List.mem_cons.1 hy with rfl | hy
      · exact hlt_asymm hx
      · rw [Bool.eq_false_iff]
        intro hyh
        have := k1 y hy
        rw [hlt_trans hyh hx] at this
        cases this
    · rename_i hx
      refine List.pairwise_cons.2 ⟨fun y hy => ?_, insH_ord h r k2⟩
      rcases List.mem_cons.1 ((insH_perm h r).mem_iff.1 hy) with rfl | hy
      · simpa using hx
      · exact k1 y hy
theorem srtH_ord : ∀ l : List Hit, InOrd (srtH l)
  | [] => List.Pairwise.nil
  | x :: r => insH_ord x _ (srtH_ord r)
theorem srtH_of_ord : ∀ l : List Hit, InOrd l → srtH l = l
  | [], _ => rfl
  | x :: r, h => by
    obtain ⟨h1, h2⟩ := List.pairwise_cons.1 h
    unfold srtH
    rw [srtH_of_ord r h2]
    cases r with
    | nil => rfl
    | cons y s =>
      unfold insH
      by_cases hx : hlt x y = true
      · rw [if_pos hx]
      · have e := hlt_total (by simpa using hx) (h1 y (List.mem_cons_self ..))
        subst e
        rw [if_neg hx]
        have : ∀ (s : List Hit), InOrd (x :: s) → insH x s = x :: s := by
          intro s
          induction s with
          | nil => intro _; rfl
          | cons z s ih =>
            intro hz
            unfold insH
            by_cases hxz : hlt x z = true
            · rw [if_pos hxz]
            · have e := hlt_total (by simpa using hxz) ((List.pairwise_cons.1 hz).1 z (List.mem_cons_self ..))
              subst e
              rw [if_neg hxz, ih (List.pairwise_cons.1 hz).2]
        rw [this s h2]
/-- Two lists in order of the same ones are the same. -/
theorem ord_unique {l l' : List Hit} (h : InOrd l) (h' : InOrd l') (p : l.Perm l') : l = l' := by rw [← srtH_of_ord l h, ← srtH_of_ord l' h', srtH_perm p]
theorem insH_end {h : Hit} : ∀ {l : List Hit}, (∀ x ∈ l, hlt h x = false) → insH h l = l ++ [h]
  | [], _ => rfl
  | x :: r, k => by
    unfold insH
    rw [if_neg (by rw [k x (List.mem_cons_self ..)]; simp), insH_end (fun y hy => k y (List.mem_cons_of_mem _ hy))]
    rfl
theorem insH_at {h : Hit} : ∀ {l : List Hit} {p : Nat}, p ≤ l.length → (∀ t, t < p → hlt h (l.getD t (0, 0)) = false) → (p < l.length → hlt h (l.getD p (0, 0)) = true) → insH h l = l.take p ++ h :: l.drop p
  | [], p, hp, _, _ => by simp [insH]
  | x :: r, 0, _, _, h1 => by
    have := h1 (by simp)
    unfold insH
    rw [if_pos (by simpa using this)]
    rfl
  | x :: r, p + 1, hp, h0, h1 => by
    have := h0 0 (by omega)
    unfold insH
    rw [if_neg (by simp only [List.getD_cons_zero] at this; rw [this]; simp), insH_at (p := p) (by simpa using hp) (fun t ht => by simpa using h0 (t + 1) (by omega)) (fun hl => by simpa using h1 (by simpa using hl))]
    rfl
/-- The first k of what was found, in order. -/
def bst (k : Nat) (S : List Hit) : List Hit := (srtH S).take k
theorem bst_len (k : Nat) (S : List Hit) : (bst k S).length ≤ k := by unfold bst; rw [List.length_take]; omega
theorem bst_nil (k : Nat) : bst k [] = [] := by simp [bst, srtH]
theorem bst_ord (k : Nat) (S : List Hit) : InOrd (bst k S) := (srtH_ord S).take
theorem bst_cons (k : Nat) (h : Hit) (S : List Hit) : bst k (h :: S) = (insH h (bst k S)).take k := insH_take h (srtH S) k
theorem bst_perm {k : Nat} {S S' : List Hit} (p : S.Perm S') : bst k S = bst k S' := by unfold bst; rw [srtH_perm p]
theorem bst_mem {k : Nat} {S : List Hit} {x : Hit} (h : x ∈ bst k S) : x ∈ S := (srtH_self S).mem_iff.1 (List.mem_of_mem_take h)
theorem bst_more {k : Nat} {S : List Hit} (h : (bst k S).length < k) : bst k S = srtH S := by
  unfold bst at *
  rw [List.length_take] at h
  exact List.take_of_length_le (by omega)
theorem insH_count {h : Hit} : ∀ {l : List Hit}, InOrd l → (∀ t, t < l.countP (fun x => !hlt h x) → hlt h (l.getD t (0, 0)) = false) ∧ (l.countP (fun x => !hlt h x) < l.length → hlt h (l.getD (l.countP (fun x => !hlt h x)) (0, 0)) = true)
  | [], _ => ⟨fun t ht => by simp at ht, fun h => by simp at h⟩
  | x :: r, k => by
    obtain ⟨k1, k2⟩ := List.pairwise_cons.1 k
    obtain ⟨i1, i2⟩ := insH_count (h := h) k2
    cases hx : hlt h x with
    | true =>
      have h0 : (x :: r).countP (fun x => !hlt h x) = 0 := by
        rw [List.countP_eq_zero]
        intro y hy
        rcases List.mem_cons.1 hy with rfl | hy
        · simp [hx]
        · have hyx := k1 y hy
          have : hlt h y = true := by
            cases hhy : hlt h y with
            | true => rfl
            | false =>
              exfalso
              by_cases hyh : hlt y h = true
              · rw [hlt_trans hyh hx] at hyx
                cases hyx
              · have e := hlt_total hhy (by simpa using hyh)
                subst e
                rw [hx] at hyx
                cases hyx
          simp [this]
      rw [h0]
      exact ⟨fun t ht => by omega, fun _ => by simpa using hx⟩
    | false =>
      have h1 : (x :: r).countP (fun x => !hlt h x) = r.countP (fun x => !hlt h x) + 1 := by rw [List.countP_cons]; simp [hx]
      rw [h1]
      refine ⟨fun t ht => ?_, fun hl => ?_⟩
      · cases t with
        | zero => simpa using hx
        | succ t => simpa using i1 t (by omega)
      · simpa using i2 (by simpa using hl)
/-- Points that are not farther than a limit, as what was found. -/
def nearH (v : List Int) (lim : Int) (E : List (Int × List Int)) : List Hit := (E.map fun p => (p.1, far p.2 v)).filter fun h => decide (h.2 ≤ lim)
theorem nearH_nil (v : List Int) (lim : Int) : nearH v lim [] = [] := rfl
theorem nearH_append (v : List Int) (lim : Int) (a b : List (Int × List Int)) : nearH v lim (a ++ b) = nearH v lim a ++ nearH v lim b := by simp [nearH]
theorem nearH_cons (v : List Int) (lim : Int) (p : Int × List Int) (b : List (Int × List Int)) : nearH v lim (p :: b) = (if far p.2 v ≤ lim then [(p.1, far p.2 v)] else []) ++ nearH v lim b := by
  unfold nearH
  rw [List.map_cons, List.filter_cons]
  by_cases h : far p.2 v ≤ lim <;> simp [h]
theorem nearH_perm {v : List Int} {lim : Int} {a b : List (Int × List Int)} (p : a.Perm b) : (nearH v lim a).Perm (nearH v lim b) := (p.map _).filter _
/-- How far a point may be that is still taken: the limit, or the last one's distance where there are k. -/
def reachOf (k : Nat) (lim : Int) (H : List Hit) : Int := if H.length < k then lim else (H.getD (k - 1) (0, 0)).2
theorem reach_no {k : Nat} {lim : Int} {S : List Hit} (hk : 0 < k) (hS : ∀ x ∈ S, x.2 ≤ lim) {h : Hit} (hr : reachOf k lim (bst k S) < h.2) :
    (if h.2 ≤ lim then bst k (h :: S) else bst k S) = bst k S := by
  unfold reachOf at hr
  by_cases hl : (bst k S).length < k
  · rw [if_pos hl] at hr
    rw [if_neg (by omega)]
  · rw [if_neg hl] at hr
    split
    · rw [bst_cons]
      have hlen : (bst k S).length = k := by have := bst_len k S; omega
      rw [insH_end, List.take_left' hlen]
      intro x hx
      rw [Bool.eq_false_iff, Ne, hlt_iff]
      have hxl : x.2 ≤ ((bst k S).getD (k - 1) (0, 0)).2 := by
        obtain ⟨i, hi, rfl⟩ := List.mem_iff_getElem.1 hx
        rw [List.getD_eq_getElem?_getD, List.getElem?_eq_getElem (by omega), Option.getD_some]
        rcases Nat.lt_or_ge i (k - 1) with hik | hik
        · have := List.pairwise_iff_getElem.1 (bst_ord k S) i (k - 1) hi (by omega) hik
          rw [Bool.eq_false_iff, Ne, hlt_iff] at this
          omega
        · have e : i = k - 1 := by omega
          subst e
          exact Int.le_refl _
      omega
    · rfl
theorem reach_yes {k : Nat} {lim : Int} {S : List Hit} (hk : 0 < k) (hS : ∀ x ∈ S, x.2 ≤ lim) {h : Hit} (hr : ¬ reachOf k lim (bst k S) < h.2) : h.2 ≤ lim := by
  unfold reachOf at hr
  split at hr
  · omega
  · rename_i hl
    have hlen : (bst k S).length = k := by have := bst_len k S; omega
    have hm : (bst k S).getD (k - 1) (0, 0) ∈ S := by
      refine bst_mem (k := k) ?_
      rw [List.getD_eq_getElem?_getD, List.getElem?_eq_getElem (by omega), Option.getD_some]
      exact List.getElem_mem _
    have := hS _ hm
    omega
end Go.Proofs.Ytkgapieikgniiaa
