/- What within of package benc returns: parts of the lists that are values of some lists. Conditions: the map's keys are none, or addresses of cells that are not frozen; the lists read as trees below the map. -/
import Derived.Test.YtcgcocnbjijdaaaDoorFltE
set_option linter.unusedVariables false
set_option linter.unusedSimpArgs false
namespace Go.Proofs.YtcgcocnbjijdaaaDoor
open Go Go.RowKit

/-- What holds within the rounds: parts so far. -/
structure WIn (ls : List (List T)) (B0 mb : Nat) (w wr : World) (v' : Value) (vs' : List Value) (ls' : List (List T)) (a : Nat) (first : Bool) : Prop where
  own : wr.ownsRow w.heap.size 22 1 v' ls'.length vs'
  lvl : LvL (fun b => b < B0) (fun b => b < B0) wr vs' ls'
  child : ∀ l' ∈ ls', ChildOf ls l'
  sum : sumW ls' ≤ a
  len : ls'.length ≤ a
  fresh : MapNew w mb → first = true → MapNew wr mb
  ex : MapNew w mb → first = false → ∀ t, ls = [[t]] → t.k = 3 → ls' = [t.l]
  map : MapOk B0 wr mb
  grown : w.grownBy wr (some mb)
theorem wt_pos (t : T) : 1 ≤ wt t := by cases t; simp [wt]
theorem wt_child (t : T) : wtL t.l + 1 = wt t := by cases t; simp [wt, T.l]
theorem keeps_map {B0 mb : Nat} {w w' : World} (hg : w.grownBy w' (some mb)) (hmb : B0 ≤ mb) : Keeps (fun b => b < B0) w w' := Keeps.of_grown hg (fun b hb e => by injection e; omega)
theorem keeps_ne {mb : Nat} {w w' : World} (hg : w.grownBy w' (some mb)) : Keeps (fun b => b ≠ mb) w w' := Keeps.of_grown hg (fun b hb e => by injection e; omega)
/-- An element of another kind adds nothing. -/
theorem WIn.skip {ls : List (List T)} {B0 mb : Nat} {w wr : World} {v' : Value} {vs' : List Value} {ls' : List (List T)} {a : Nat} {first : Bool} (h : WIn ls B0 mb w wr v' vs' ls' a first) (x : T) (hx : first = true → ∀ t, ls = [[t]] → x = t) (hf : first = false → ∀ t, ls ≠ [[t]]) (hk : x.k ≠ 3) : WIn ls B0 mb w wr v' vs' ls' (a + wt x) false :=
  ⟨h.own, h.lvl, h.child, by have := h.sum; omega, by have := h.len; omega, fun _ h => (by cases h), fun hn _ t ht hk3 => by
    cases hff : first with
    | true => have := hx hff t ht; subst this; exact absurd hk3 hk
    | false => exact absurd ht (hf hff t), h.map, h.grown⟩
/-- A list that was seen adds nothing. -/
theorem WIn.seen {ls : List (List T)} {B0 mb : Nat} {w wr w3 : World} {v' : Value} {vs' : List Value} {ls' : List (List T)} {a : Nat} {first : Bool} (h : WIn ls B0 mb w wr v' vs' ls' a first) (x : T) (hf : first = false → ∀ t, ls ≠ [[t]]) (hmb : B0 ≤ mb) (hmw : mb < w.heap.size) (hm : MapOk B0 w3 mb) (hg : wr.grownBy w3 (some mb)) (hn : ¬ MapNew wr mb) : WIn ls B0 mb w w3 v' vs' ls' (a + wt x) false := by
  refine ⟨h.own.kept hg ?_, LvL.keep (keeps_map hg hmb) (keeps_map hg hmb) h.lvl, h.child, by have := h.sum; omega, by have := h.len; omega, fun _ h => (by cases h), fun hnw _ t ht hk3 => ?_, hm, grown_then h.grown hg⟩
  · exact .inr (fun e => by have := (own_lt h.own _ e).1; omega)
  · cases hff : first with
    | true => exact absurd (h.fresh hnw hff) hn
    | false => exact absurd ht (hf hff t)
/-- A list's part is added. -/
theorem WIn.add {ls : List (List T)} {B0 mb : Nat} {w wr w3 w4 : World} {v' v2 y : Value} {vs' : List Value} {ls' : List (List T)} {a : Nat} {first : Bool} (h : WIn ls B0 mb w wr v' vs' ls' a first) (x : T) (j : Nat) (l : List T) (hl : l ∈ ls) (hxl : x ∈ l) (hk3 : x.k = 3) (ha0 : first = true → a = 0) (hx : first = true → ∀ t, ls = [[t]] → x = t) (hf : first = false → ∀ t, ls ≠ [[t]]) (hmb : B0 ≤ mb) (hmw : mb < w.heap.size)
    (hm : MapOk B0 w3 mb) (hg : wr.grownBy w3 (some mb)) (hj0 : MapNew wr mb → j = 0) (hy : LvS (fun b => b < B0) (fun b => b < B0) w3 y (x.l.drop j)) (hown : w4.ownsRow w.heap.size 22 1 v2 (ls'.length + 1) (vs' ++ [y])) (hgr : w3.grownBy w4 v'.ownBlock) : WIn ls B0 mb w w4 v2 (vs' ++ [y]) (ls' ++ [x.l.drop j]) (a + wt x) false := by
  have hB : B0 ≤ w.heap.size := by omega
  have hlt := own_lt h.own
  have hk : Keeps (fun b => b < B0) w3 w4 := Keeps.of_grown hgr (fun b hb e => by have := (hlt _ e.symm).1; omega)
  have hw := wt_child x
  have hd := wtL_drop x.l j
  have hs3 := h.grown.size
  refine ⟨by simpa using hown, LvL.snoc (hy.keep hk hk) (LvL.keep ((keeps_map hg hmb).trans hk) ((keeps_map hg hmb).trans hk) h.lvl), ?_, ?_, ?_, fun _ h => (by cases h), fun hnw _ t ht hk3' => ?_, ?_, ?_⟩
  · intro l' hl'
    rcases List.mem_append.1 hl' with hl' | hl'
    · exact h.child l' hl'
    · simp at hl'
      exact ⟨l, hl, x, hxl, hk3, j, hl'⟩
  · rw [sumW_append]
    have := h.sum
    simp [sumW]
    omega
  · have := h.len
    simp
    omega
  · cases hff : first with
    | true =>
      have e1 := hx hff t ht
      have e2 := hj0 (h.fresh hnw hff)
      have e3 := h.len
      rw [ha0 hff] at e3
      have e4 : ls' = [] := List.eq_nil_of_length_eq_zero (by omega)
      subst e1 e2 e4
      rfl
    | false => exact absurd ht (hf hff t)
  · obtain ⟨es, clock, hb, hes⟩ := hm
    have hlt3 := (Array.getElem?_eq_some_iff.1 hb).1
    have hb4 : w4.heap[mb]? = some (.map es clock) := (hgr.block mb hlt3 (fun e => by have := (hlt _ e.symm).1; omega)).trans hb
    refine ⟨es, clock, hb4, fun e he => ?_⟩
    obtain ⟨hg1, hz⟩ := hes e he
    refine ⟨?_, hz⟩
    rcases hg1 with hg1 | ⟨ad, c, t, fr, e1, e2, e3, e4⟩
    · exact .inl hg1
    · have hlt4 := (Array.getElem?_eq_some_iff.1 e2).1
      have hbk := hgr.block ad.block hlt4 (fun e => by have := (hlt _ e.symm).1; omega)
      exact .inr ⟨ad, c, t, fr, e1, hbk.trans e2, by rw [World.frozen?_of_block (w := w3) hbk]; exact e3, e4⟩
  · exact grown_then_far (grown_then h.grown hg) hgr fun k hk => .inr (hlt k hk).1
end Go.Proofs.YtcgcocnbjijdaaaDoor
