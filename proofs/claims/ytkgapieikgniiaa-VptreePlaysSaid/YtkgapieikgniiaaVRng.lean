/- A range over a map, in any order: what has been met so far. Conditions: none. -/
import Derived.Test.YtkgapieikgniiaaVSeek
set_option linter.unusedVariables false
set_option linter.unusedSimpArgs false
namespace Go.Proofs.Ytkgapieikgniiaa
open Go Go.RowKit Go.Maps
/-- Those that have been met. -/
def doneE (U : List Ent) (left : Lit → Bool) : List (Int × List Int) := (U.filter fun p => !left (kl p.1)).map bare
theorem done_end {U : List Ent} {left : Lit → Bool} (h : ∀ kl, left kl = false) : doneE U left = U.map bare := by
  unfold doneE
  rw [List.filter_eq_self.2 (fun p _ => by rw [h]; rfl)]
theorem done_start {U : List Ent} {left : Lit → Bool} (h : ∀ p ∈ U, left (kl p.1) = true) : doneE U left = [] := by
  unfold doneE
  rw [List.filter_eq_nil_iff.2 (fun p hp => by rw [h p hp]; simp)]
  rfl
theorem done_step : ∀ {U : List Ent} {left : Lit → Bool} {p : Ent}, Apart U → p ∈ U → left (kl p.1) = true → (doneE U (fun z => left z && !z.sameKey (kl p.1))).Perm (bare p :: doneE U left)
  | [], _, _, _, hp, _ => by simp at hp
  | q :: r, left, p, ha, hp, hl => by
    obtain ⟨h1, h2⟩ := List.pairwise_cons.1 ha
    have hs : ∀ x, (kl x).sameKey (kl p.1) = decide (x = p.1) := fun x => kl_same x p.1
    rcases List.mem_cons.1 hp with rfl | hp
    · have e1 : doneE (p :: r) (fun z => left z && !z.sameKey (kl p.1)) = bare p :: doneE r (fun z => left z && !z.sameKey (kl p.1)) := by
        unfold doneE
        rw [List.filter_cons, if_pos (by show (!(left (kl p.1) && !(kl p.1).sameKey (kl p.1))) = true; rw [hs]; simp)]
        rfl
      have e2 : doneE (p :: r) left = doneE r left := by
        unfold doneE
        rw [List.filter_cons, if_neg (by rw [hl]; simp)]
      have e3 : doneE r (fun z => left z && !z.sameKey (kl p.1)) = doneE r left := by
        unfold doneE
        congr 1
        refine List.filter_congr (fun x hx => ?_)
        show (!(left (kl x.1) && !(kl x.1).sameKey (kl p.1))) = !left (kl x.1)
        rw [hs, decide_eq_false (fun e => h1 x hx e.symm)]
        simp
      rw [e1, e2, e3]
    · have hne : q.1 ≠ p.1 := h1 p hp
      have ih := done_step h2 hp hl
      have e0 : (!(left (kl q.1) && !(kl q.1).sameKey (kl p.1))) = !left (kl q.1) := by
        rw [hs, decide_eq_false hne]
        simp
      unfold doneE at *
      rw [List.filter_cons, List.filter_cons, e0]
      by_cases hq : (!left (kl q.1)) = true
      · rw [if_pos hq, if_pos hq, List.map_cons, List.map_cons]
        exact (ih.cons (bare q)).trans (List.Perm.swap ..)
      · rw [if_neg hq, if_neg hq]
        exact ih
theorem ranges_keep {w w' : World} {P : Program} {k : TypeId} {R : Value → Option (DataW Value × List MemPlace)} {b r n : Nat} {D : Dat} {left : Lit → Bool} {cnt : Nat} (h : w.ranges P k R b r n D left cnt) (hb : w'.heap[b]? = w.heap[b]?) (hr : w'.heap[r]? = w.heap[r]?) : w'.ranges P k R b r n D left cnt := by
  obtain ⟨es, clock, since, seen, c0, h1, h2, h3, h4, h5, rest⟩ := h
  exact ⟨es, clock, since, seen, c0, hb.trans h1, h2, h3, h4, hr.trans h5, rest⟩
theorem ranges_iter {w : World} {P : Program} {k : TypeId} {R : Value → Option (DataW Value × List MemPlace)} {b r n : Nat} {D : Dat} {left : Lit → Bool} {cnt : Nat} (h : w.ranges P k R b r n D left cnt) : ∃ x y z t, w.heap[r]? = some (.mapIter x y z t) := by
  obtain ⟨es, clock, since, seen, c0, h1, h2, h3, h4, h5, rest⟩ := h
  exact ⟨_, _, _, _, h5⟩
theorem same_id : ∀ {L : List (Int × List Int)}, L.Pairwise (fun p q => p.1 ≠ q.1) → ∀ x ∈ L, ∀ y ∈ L, x.1 = y.1 → x = y
  | [], _, x, hx, _, _, _ => by simp at hx
  | z :: r, hL, x, hx, y, hy, hxy => by
    obtain ⟨k1, k2⟩ := List.pairwise_cons.1 hL
    rcases List.mem_cons.1 hx with ex | hx
    · rcases List.mem_cons.1 hy with ey | hy
      · rw [ex, ey]
      · exact absurd (by rw [← ex]; exact hxy) (k1 y hy)
    · rcases List.mem_cons.1 hy with ey | hy
      · exact absurd (by rw [← ey]; exact hxy.symm) (k1 x hx)
      · exact same_id k2 x hx y hy hxy
/-- A sub-list of what has no number twice, chosen by number. -/
theorem sel_perm {N : List (Int × List Int)} {B : List Ent} (hn : N.Pairwise fun p q => p.1 ≠ q.1) (hB : Apart B) (hs : ∀ p ∈ B, bare p ∈ N) : (selB B N).Perm (B.map bare) := by
  have n1 : (selB B N).Nodup := (hn.filter _).imp (fun h e => h (by rw [e]))
  have n2 : (B.map bare).Nodup := List.pairwise_map.2 (hB.imp (fun h e => h (by have := congrArg Prod.fst e; exact this)))
  refine (List.perm_ext_iff_of_nodup n1 n2).2 (fun e => ?_)
  unfold selB
  rw [List.mem_filter, List.mem_map]
  constructor
  · rintro ⟨he, hi⟩
    obtain ⟨p, hp, hx⟩ := (isId_iff _ _).1 hi
    have hb := hs p hp
    refine ⟨p, hp, ?_⟩
    by_cases hee : bare p = e
    · exact hee
    · exfalso
      exact hee (same_id hn _ hb _ he hx)
  · rintro ⟨p, hp, rfl⟩
    exact ⟨hs p hp, (isId_iff _ _).2 ⟨p, hp, rfl⟩⟩
/-- The first k of a tree's points, not farther than a limit. -/
def topH (T : List (Int × List Int)) (vec : List Int) (k : Nat) (lim : Int) : List Hit := bst k (nearH vec lim T)
theorem top_all {k : Nat} {lim : Int} {vec : List Int} {T : List (Int × List Int)} {N : NT} {B U : List Ent} (hn : N.ents.Pairwise fun p q => p.1 ≠ q.1) (hB : Apart B) (hs : ∀ p ∈ B, bare p ∈ N.ents) (hT : T.Perm ((B ++ U).map bare)) :
    bst k (nearH vec lim (selB B N.ents) ++ nearH vec lim (U.map bare)) = topH T vec k lim := by
  refine bst_perm ?_
  rw [← nearH_append]
  refine nearH_perm ?_
  rw [List.map_append] at hT
  exact ((sel_perm hn hB hs).append_right _).trans hT.symm
end Go.Proofs.Ytkgapieikgniiaa
