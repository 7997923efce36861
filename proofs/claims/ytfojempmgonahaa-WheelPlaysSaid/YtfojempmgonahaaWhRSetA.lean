/- The document's Set, all ways. Conditions: its wheel reads as lists as long as each other. -/
import Derived.Test.YtfojempmgonahaaWhRSet
set_option linter.unusedVariables false
set_option linter.unusedSimpArgs false
set_option maxRecDepth 100000
namespace Go.Proofs.Ytfojempmgonahaa.Wh
open Go Go.RowKit
theorem same_fin {w w1 : World} {B : Nat} {A A2 : Option Addr} {n2 c c2 : Nat} {q : Q} (hq : QAt q w B A n2 c A2 n2 c2) (hB : B ≤ w.heap.size) (hbw : Below w.heap.size w w1) (hr : Row w1 (w.heap.size + 1) 27 [.slice none 0 0, .slice none 0 0]) :
    let W := (w1.setCell ⟨w.heap.size + 1, 0, none⟩ (.slice A n2 c)).setCell ⟨w.heap.size + 1, 1, none⟩ (.slice A2 n2 c2)
    W.cell? ⟨w.heap.size + 1, 0, none⟩ = some (.slice A n2 c) ∧ W.cell? ⟨w.heap.size + 1, 1, none⟩ = some (.slice A2 n2 c2) ∧ QAt q W W.heap.size A n2 c A2 n2 c2 ∧ Below w.heap.size w W := by
  intro W
  have r3 := (hr.set 0 (.slice A n2 c)).set 1 (.slice A2 n2 c2)
  have hbf := below_setCell (below_setCell hbw (p := ⟨w.heap.size + 1, 0, none⟩) (by simp) (.slice A n2 c)) (p := ⟨w.heap.size + 1, 1, none⟩) (by simp) (.slice A2 n2 c2)
  exact ⟨r3.cell rfl, r3.cell rfl, (hq.below (hbf.mono hB)).more (Nat.le_trans hB hbf.size), hbf⟩
set_option maxHeartbeats 4000000 in
theorem rset_any (q : Q) (id t : Int) {w : World} {B : Nat} {A A2 : Option Addr} {n c n2 c2 : Nat} (h : QAt q w B A n c A2 n2 c2) (hB : B ≤ w.heap.size) (hn : n ≤ 1000000) :
    Calls Try.prog 10 #[.agg #[.slice A n c, .slice A2 n2 c2], .int .i64 id, .int .i64 t] w (QPost (setQ q id t).1 (.int .i64 (setQ q id t).2) A A2 w) := by
  unfold setQ
  by_cases hbad : t < 1 ∨ 1048576 < t
  · rw [if_pos hbad]
    obtain rfl := h.eq
    have HQ := Lib.hid h
    obtain ⟨W, hW⟩ : ∃ W, W = (w.alloc (.cells #[.slice A n2 c, .slice A2 n2 c2] 27)).alloc (.cells #[.slice A n2 c, .slice A2 n2 c2] 27) := ⟨_, rfl⟩
    have hb0 : Below w.heap.size w W := by rw [hW]; exact ((Below.refl _ w).alloc (Nat.le_refl _) _).alloc (by simp) _
    have r2 : Row W (w.heap.size + 1) 27 [.slice A n2 c, .slice A2 n2 c2] := by
      have h := Row.new (w.alloc (.cells #[.slice A n2 c, .slice A2 n2 c2] 27)) 27 [.slice A n2 c, .slice A2 n2 c2]
      rw [World.size_alloc] at h
      rw [hW]
      exact h
    have HF := Lib.hid (And.intro r2 (And.intro ((h.below (hb0.mono hB)).more (Nat.le_trans hB hb0.size)) hb0))
    have HW := Lib.hid hW
    have hex : (t < 1) ∨ (¬ t < 1 ∧ 1048576 < t) := by omega
    clear hW hb0 r2 h hbad
    rcases hex with ht | ⟨ht, ht2⟩
    all_goals
      go_enter Try.func10, Try.ntmps10
      go_wp2
      rw [← HW.out]
      obtain ⟨r2, hq, hbf⟩ := HF.out
      have g0 := r2.cell (j := 0) rfl
      have g1 := r2.cell (j := 1) rfl
      refine bodyPost_ret (v := .tuple #[.agg #[.slice A n2 c, .slice A2 n2 c2], .int .i64 1]) (by simp [results, Try.results10, go_sem, g0, g1]) rfl ?_
      exact ⟨A, n2, c, A2, n2, c2, rfl, hq, hbf, Fresh.old _ _ _, Fresh.old _ _ _⟩
  · rw [if_neg hbad]
    by_cases hfull : isAt q.ids id = false ∧ 4096 ≤ q.ids.length
    · rw [if_pos hfull]
      have hln := h.ids.len
      obtain rfl := h.eq
      have HQ := Lib.hid h
      obtain ⟨W, hW⟩ : ∃ W, W = (w.alloc (.cells #[.slice A n2 c, .slice A2 n2 c2] 27)).alloc (.cells #[.slice none 0 0, .slice none 0 0] 27) := ⟨_, rfl⟩
      have hb0 : Below w.heap.size w W := by rw [hW]; exact ((Below.refl _ w).alloc (Nat.le_refl _) _).alloc (by simp) _
      have r1 : Row W w.heap.size 27 [.slice A n2 c, .slice A2 n2 c2] := by
        rw [hW]
        exact (Row.new w 27 [.slice A n2 c, .slice A2 n2 c2]).keep (heap_alloc_lt _ _ (by simp))
      have r2 : Row W (w.heap.size + 1) 27 [.slice none 0 0, .slice none 0 0] := by
        have h := Row.new (w.alloc (.cells #[.slice A n2 c, .slice A2 n2 c2] 27)) 27 [.slice none 0 0, .slice none 0 0]
        rw [World.size_alloc] at h
        rw [hW]
        exact h
      have hP := place_any q.ids id (c := c) (c2 := c2) (A2 := A2) (n2 := n2) (h.ids.below (hb0.mono hB)) (Nat.le_trans hB hb0.size) hn
      rw [hfull.1] at hP
      obtain ⟨k, hk⟩ : ∃ k, placeN q.ids id = k := ⟨_, rfl⟩
      rw [hk] at hP
      have KR := Lib.hid (fun w1 (hb : Below W.heap.size W w1) => show w1.cell? ⟨w.heap.size, 0, none⟩ = some (.slice A n2 c) ∧ w1.cell? ⟨w.heap.size, 1, none⟩ = some (.slice A2 n2 c2) ∧ w1.cell? ⟨w.heap.size + 1, 0, none⟩ = some (.slice none 0 0) ∧ w1.cell? ⟨w.heap.size + 1, 1, none⟩ = some (.slice none 0 0) ∧ w1.frozen? ⟨w.heap.size + 1, 0, none⟩ = false ∧ w1.frozen? ⟨w.heap.size + 1, 1, none⟩ = false ∧ w.heap.size + 1 < w1.heap.size ∧ w.heap.size < w1.heap.size from by
        have r1 := r1.keep (hb.block _ r1.lt)
        have r2 := r2.keep (hb.block _ r2.lt)
        exact ⟨r1.cell rfl, r1.cell rfl, r2.cell rfl, r2.cell rfl, r2.frozen 0, r2.frozen 1, r2.lt, r1.lt⟩)
      have HF := Lib.hid (fun w1 (hb : Below W.heap.size W w1) => same_fin (w1 := w1) h hB (hb0.trans (hb.mono hb0.size)) (r2.keep (hb.block _ r2.lt)))
      have v0 := r1.cell (j := 0) rfl
      have v1 := r1.cell (j := 1) rfl
      have vl := r1.lt
      have HP := Lib.hid hP
      have HW := Lib.hid hW
      have hge : (4096 : Int) ≤ (n2 : Int) := by have := hfull.2; omega
      have et1 : ¬ t < 1 := by omega
      have et2 : ¬ 1048576 < t := by omega
      clear hW hb0 r1 r2 h hbad hP hk hln hfull
      go_enter Try.func10, Try.ntmps10
      go_wp2_with fail
      rw [← HW.out]
      with_reducible refine HP.out.mono ?_
      rintro e w1 ⟨rfl, hb1⟩
      obtain ⟨x0, x1, z0, z1, y0, y1, zl, xl⟩ := KR.out w1 hb1
      have HF1 := Lib.hid (HF.out w1 hb1)
      clear hb1 v0 v1 vl
      go_wp2
      obtain ⟨g0, g1, hq, hbf⟩ := HF1.out
      refine bodyPost_ret (v := .tuple #[.agg #[.slice A n2 c, .slice A2 n2 c2], .int .i64 2]) (by simp [results, Try.results10, go_sem, g0, g1]) rfl ?_
      exact ⟨A, n2, c, A2, n2, c2, rfl, hq, hbf, Fresh.old _ _ _, Fresh.old _ _ _⟩
    · rw [if_neg hfull]
      exact rset_do q id t (many q id) h hB hn (by omega) (by omega) (by unfold many; split <;> rfl) hfull
end Go.Proofs.Ytfojempmgonahaa.Wh
