/- Plain mathematics: what may be left out of a search. Conditions: none. -/
import Derived.Test.YtkgapieikgniiaaVTr
set_option linter.unusedVariables false
set_option linter.unusedSimpArgs false
namespace Go.Proofs.Ytkgapieikgniiaa
open Go Go.RowKit
/-- The points of the nodes that were not dropped since. -/
def selB (B : List Ent) (es : List (Int × List Int)) : List (Int × List Int) := es.filter fun e => isId e.1 B
theorem selB_nil (B : List Ent) : selB B [] = [] := rfl
theorem selB_cons (B : List Ent) (e : Int × List Int) (es : List (Int × List Int)) : selB B (e :: es) = if isId e.1 B = true then e :: selB B es else selB B es := by unfold selB; rw [List.filter_cons]
theorem selB_append (B : List Ent) (a b : List (Int × List Int)) : selB B (a ++ b) = selB B a ++ selB B b := by simp [selB]
theorem nearH_lim {v : List Int} {lim : Int} {E : List (Int × List Int)} : ∀ x ∈ nearH v lim E, x.2 ≤ lim := by
  intro x hx
  unfold nearH at hx
  exact of_decide_eq_true (List.mem_filter.1 hx).2
theorem nearH_mem {v : List Int} {lim : Int} {E : List (Int × List Int)} {x : Hit} (h : x ∈ nearH v lim E) : ∃ e ∈ E, x = (e.1, far e.2 v) := by
  unfold nearH at h
  obtain ⟨e, he, rfl⟩ := List.mem_map.1 (List.mem_filter.1 h).1
  exact ⟨e, he, rfl⟩
theorem bst_app {k : Nat} {S Z : List Hit} (h : bst k Z = bst k S) : ∀ X : List Hit, bst k (X ++ Z) = bst k (X ++ S)
  | [] => h
  | x :: r => by
    rw [List.cons_append, List.cons_append, bst_cons, bst_cons, bst_app h r]
/-- What is farther than the reach may be left out. -/
theorem prune {k : Nat} {lim : Int} {S : List Hit} (hk : 0 < k) (hS : ∀ x ∈ S, x.2 ≤ lim) : ∀ X : List Hit, (∀ x ∈ X, x.2 ≤ lim ∧ reachOf k lim (bst k S) < x.2) → bst k (X ++ S) = bst k S
  | [], _ => rfl
  | x :: r, h => by
    obtain ⟨h1, h2⟩ := h x (List.mem_cons_self ..)
    have h3 := reach_no hk hS h2
    rw [if_pos h1] at h3
    rw [List.cons_append, bst_cons, prune hk hS r (fun y hy => h y (List.mem_cons_of_mem _ hy)), ← bst_cons]
    exact h3
theorem far_back {a b v : List Int} (hab : a.length = b.length) (hbv : b.length = v.length) : far a v ≤ far a b + far b v := far_tri a b v hab hbv
/-- No point within may be as near as the reach. -/
theorem prune_in {k dim : Nat} {lim rad : Int} {S : List Hit} {nv v : List Int} {B : List Ent} {es : List (Int × List Int)} (hk : 0 < k) (hS : ∀ x ∈ S, x.2 ≤ lim) (hn : nv.length = dim) (hv : v.length = dim) (he : ∀ e ∈ es, e.2.length = dim ∧ far nv e.2 ≤ rad)
    (hr : reachOf k lim (bst k S) < far nv v - rad) : bst k (nearH v lim (selB B es) ++ S) = bst k S := by
  refine prune hk hS _ (fun x hx => ⟨nearH_lim x hx, ?_⟩)
  obtain ⟨e, hm, rfl⟩ := nearH_mem hx
  obtain ⟨h1, h2⟩ := he e (List.mem_filter.1 hm).1
  have := far_back (a := nv) (b := e.2) (v := v) (by omega) (by omega)
  show _ < far e.2 v
  omega
/-- Nor any beyond. -/
theorem prune_out {k dim : Nat} {lim rad : Int} {S : List Hit} {nv v : List Int} {B : List Ent} {es : List (Int × List Int)} (hk : 0 < k) (hS : ∀ x ∈ S, x.2 ≤ lim) (hn : nv.length = dim) (hv : v.length = dim) (he : ∀ e ∈ es, e.2.length = dim ∧ rad ≤ far nv e.2)
    (hr : reachOf k lim (bst k S) < rad - far nv v) : bst k (nearH v lim (selB B es) ++ S) = bst k S := by
  refine prune hk hS _ (fun x hx => ⟨nearH_lim x hx, ?_⟩)
  obtain ⟨e, hm, rfl⟩ := nearH_mem hx
  obtain ⟨h1, h2⟩ := he e (List.mem_filter.1 hm).1
  have h3 := far_back (a := nv) (b := v) (v := e.2) (by omega) (by omega)
  have h4 := far_comm v e.2
  show _ < far e.2 v
  omega
/-- The list behind one more point. -/
theorem one_more {k : Nat} {lim : Int} {S : List Hit} (hk : 0 < k) (hS : ∀ x ∈ S, x.2 ≤ lim) (h : Hit) :
    (if reachOf k lim (bst k S) < h.2 then bst k S else (insH h (bst k S)).take k) = bst k ((if h.2 ≤ lim then [h] else []) ++ S) := by
  by_cases hr : reachOf k lim (bst k S) < h.2
  · have := reach_no hk hS hr
    rw [if_pos hr, ← this]
    by_cases hl : h.2 ≤ lim <;> simp [hl]
  · have := reach_yes hk hS hr
    rw [if_neg hr, if_pos this, ← bst_cons]
    rfl
end Go.Proofs.Ytkgapieikgniiaa
