/- The document's Cancel. Conditions: its wheel reads as lists as long as each other. -/
import Derived.Test.YtfojempmgonahaaWhQ
import Derived.Test.YtfojempmgonahaaWhLeft
import Derived.Deep.RegionHeld3
import Derived.Deep.RegionLaw
import Derived.BigRegion
set_option linter.unusedVariables false
set_option linter.unusedSimpArgs false
set_option maxRecDepth 100000
namespace Go.Proofs.Ytfojempmgonahaa.Wh
open Go Go.RowKit
theorem isAt_lt {l : List Int} {x : Int} (h : isAt l x = true) : placeN l x + 1 ≤ l.length := by
  unfold isAt at h
  exact (of_decide_eq_true h).1
/-- Two rows that cut has made, as a wheel. -/
theorem qat_two {w1 w2 w3 w4 : World} {B : Nat} {ids left : List Int} {A A2 : Option Addr} {c c2 : Nat} (o1 : w2.ownsRow w1.heap.size 3 1 (.slice A ids.length c) ids.length (ints ids)) (hc : ids.length ≤ c) (hm : c ≤ maxLen)
    (o2 : w4.ownsRow w3.heap.size 3 1 (.slice A2 left.length c2) left.length (ints left)) (hc2 : left.length ≤ c2) (hm2 : c2 ≤ maxLen) (h23 : Below w2.heap.size w2 w3) (h34 : Below w3.heap.size w3 w4) (he : left.length = ids.length) {W : World} (hW : ∀ b, b < w4.heap.size → b ≠ B → W.heap[b]? = w4.heap[b]?) (hs : W.heap.size = w4.heap.size) (hB1 : B < w1.heap.size) (hB3 : B < w3.heap.size) :
    QAt ⟨ids, left⟩ W W.heap.size A ids.length c A2 left.length c2 := by
  have o1' : W.ownsRow w1.heap.size 3 1 (.slice A ids.length c) ids.length (ints ids) := own_keep o1 fun g hg => by
    have h := o1.lt g hg
    rw [hW g (by have := h23.size; have := h34.size; omega) (by omega), h34.block g (by have := h23.size; omega), h23.block g h.2]
  have o2' : W.ownsRow w3.heap.size 3 1 (.slice A2 left.length c2) left.length (ints left) := own_keep o2 fun g hg => by
    have h := o2.lt g hg
    exact hW g h.2 (by omega)
  exact ⟨Reads.of_own o1', Reads.of_own o2', hc, hm, hc2, hm2, he⟩
set_option maxHeartbeats 4000000 in
theorem rcancel_any (q : Q) (id : Int) {w : World} {B : Nat} {A A2 : Option Addr} {n c n2 c2 : Nat} (h : QAt q w B A n c A2 n2 c2) (hB : B ≤ w.heap.size) (hn : n ≤ 1000000) :
    Calls Try.prog 12 #[.agg #[.slice A n c, .slice A2 n2 c2], .int .i64 id] w (QPost (cancelQ q id).1 (.bool (cancelQ q id).2) A A2 w) := by
  obtain ⟨hR, hR2, hc, hm, hc2, hm2, rfl⟩ := h
  have hln := hR.len
  have hln2 := hR2.len
  obtain ⟨W, hW⟩ : ∃ W, W = (w.alloc (.cells #[.slice A n2 c, .slice A2 n2 c2] 27)).alloc (.cells #[.slice none 0 0, .slice none 0 0] 27) := ⟨_, rfl⟩
  have hb0 : Below w.heap.size w W := by rw [hW]; exact ((Below.refl _ w).alloc (Nat.le_refl _) _).alloc (by simp) _
  have r1 : Row W w.heap.size 27 [.slice A n2 c, .slice A2 n2 c2] := by
    rw [hW]
    exact (Row.new w 27 [.slice A n2 c, .slice A2 n2 c2]).keep (heap_alloc_lt _ _ (by simp))
  have r2 : Row W (w.heap.size + 1) 27 [.slice none 0 0, .slice none 0 0] := by
    have h := Row.new (w.alloc (.cells #[.slice A n2 c, .slice A2 n2 c2] 27)) 27 [.slice none 0 0, .slice none 0 0]
    rw [World.size_alloc] at h
    rw [hW]
    exact h
  have v0 := r1.cell (j := 0) rfl
  have v1 := r1.cell (j := 1) rfl
  have vl := r1.lt
  have hRW := hR.below (hb0.mono hB)
  have hP := place_any q.ids id (c := c) (c2 := c2) (A2 := A2) (n2 := n2) hRW (Nat.le_trans hB hb0.size) hn
  have HW := Lib.hid hW
  have HB0 := Lib.hid hb0
  have KR := Lib.hid (fun w1 (hb : Below W.heap.size W w1) => show Row w1 w.heap.size 27 [.slice A n2 c, .slice A2 n2 c2] ∧ Row w1 (w.heap.size + 1) 27 [.slice none 0 0, .slice none 0 0] ∧ Below w.heap.size w w1 from
    ⟨r1.keep (hb.block _ r1.lt), r2.keep (hb.block _ r2.lt), hb0.trans (hb.mono hb0.size)⟩)
  have HRD := Lib.hid (fun w1 (hb : Below w.heap.size w w1) => show Reads w1 B 1 A n2 (ints q.ids) ∧ Reads w1 B 1 A2 n2 (ints q.left) ∧ B ≤ w1.heap.size from ⟨hR.below (hb.mono hB), hR2.below (hb.mono hB), Nat.le_trans hB hb.size⟩)
  cases hia : isAt q.ids id with
  | false =>
    have HQ := Lib.hid (show cancelQ q id = (q, false) by unfold cancelQ; rw [hia]; rfl)
    rw [hia] at hP
    have HP := Lib.hid hP
    clear hW hb0 r1 r2 hR hR2 hRW hP hia hln hln2
    go_enter Try.func12, Try.ntmps12
    go_wp2_with fail
    rw [← HW.out]
    with_reducible refine HP.out.mono ?_
    rintro e w1 ⟨rfl, hb1⟩
    obtain ⟨r1, r2, hbw⟩ := KR.out w1 hb1
    have y0 := r1.cell (j := 0) rfl
    have y1 := r1.cell (j := 1) rfl
    have z0 := r2.cell (j := 0) rfl
    have z1 := r2.cell (j := 1) rfl
    have f0 := r2.frozen 0
    have f1 := r2.frozen 1
    have yl := r1.lt
    have zl := r2.lt
    have HR2 := Lib.hid r2
    have HBW := Lib.hid hbw
    clear hb1 r1 r2 hbw v0 v1 vl
    go_wp2
    have r3 := (HR2.out.set 0 (.slice A n2 c)).set 1 (.slice A2 n2 c2)
    have g0 := r3.cell (j := 0) rfl
    have g1 := r3.cell (j := 1) rfl
    refine bodyPost_ret (v := .tuple #[.agg #[.slice A n2 c, .slice A2 n2 c2], .bool false]) (by simp [results, Try.results12, go_sem, g0, g1]) rfl ?_
    have hbf := below_setCell (below_setCell HBW.out (p := ⟨w.heap.size + 1, 0, none⟩) (by simp) (.slice A n2 c)) (p := ⟨w.heap.size + 1, 1, none⟩) (by simp) (.slice A2 n2 c2)
    obtain ⟨e1, e2, e3⟩ := HRD.out _ hbf
    rw [HQ.out]
    exact ⟨A, n2, c, A2, n2, c2, rfl, ⟨e1.more e3, e2.more e3, hc, hm, hc2, hm2, rfl⟩, hbf, Fresh.old _ _ _, Fresh.old _ _ _⟩
  | true =>
    obtain ⟨k, hk⟩ : ∃ k, placeN q.ids id = k := ⟨_, rfl⟩
    have HQ := Lib.hid (show cancelQ q id = (⟨cutL q.ids k 1 [], cutL q.left k 1 []⟩, true) by unfold cancelQ; rw [hia, hk]; rfl)
    have hlt := isAt_lt hia
    rw [hia] at hP
    rw [hk] at hP hlt
    have hkn : k + 1 ≤ n2 := by omega
    have L1 := cutL_len (l := q.ids) (a := k) (m := 1) (x := []) (by omega)
    have L2 := cutL_len (l := q.left) (a := k) (m := 1) (x := []) (by omega)
    have HP := Lib.hid hP
    have HLL := Lib.hid (show (cutL q.left k 1 []).length = (cutL q.ids k 1 []).length by omega)
    have HC1 := Lib.hid (fun w1 (hb : Below w.heap.size w w1) => show Calls Try.prog 23 #[.slice A n2 c, .int .i64 (k : Int), .int .i64 1, .slice none 0 0] w1 (CutPost w1 (cutL q.ids k 1 [])) from cut_any q.ids [] k 1 (w := w1) (B := B) (A := A) (A2 := none) (n := n2) (c := c) (n2 := 0) (c2 := 0) (HRD.out w1 hb).1 Reads.none_ (HRD.out w1 hb).2.2 hn (by omega) hkn hc hm)
    have HC2 := Lib.hid (fun w1 (hb : Below w.heap.size w w1) => show Calls Try.prog 23 #[.slice A2 n2 c2, .int .i64 (k : Int), .int .i64 1, .slice none 0 0] w1 (CutPost w1 (cutL q.left k 1 [])) from cut_any q.left [] k 1 (w := w1) (B := B) (A := A2) (A2 := none) (n := n2) (c := c2) (n2 := 0) (c2 := 0) (HRD.out w1 hb).2.1 Reads.none_ (HRD.out w1 hb).2.2 hn (by omega) hkn hc2 hm2)
    clear hW hb0 r1 r2 hR hR2 hRW hP hia hk hlt L1 L2 hln hln2
    go_enter Try.func12, Try.ntmps12
    go_wp2_with fail
    rw [← HW.out]
    with_reducible refine HP.out.mono ?_
    rintro e w1 ⟨rfl, hb1⟩
    obtain ⟨r1, r2, hbw⟩ := KR.out w1 hb1
    have c0 := r1.cell (j := 0) rfl
    have c1 := r1.cell (j := 1) rfl
    have HX := Lib.hid (fun w' (hb : Below w1.heap.size w1 w') => show w'.cell? ⟨w.heap.size, 0, none⟩ = some (.slice A n2 c) ∧ w'.cell? ⟨w.heap.size, 1, none⟩ = some (.slice A2 n2 c2) ∧ Below w.heap.size w w' ∧ Row w' (w.heap.size + 1) 27 [.slice none 0 0, .slice none 0 0] ∧ w.heap.size < w'.heap.size from
      ⟨(r1.keep (hb.block _ r1.lt)).cell rfl, (r1.keep (hb.block _ r1.lt)).cell rfl, hbw.trans (hb.mono hbw.size), r2.keep (hb.block _ r2.lt), Nat.lt_of_lt_of_le r1.lt hb.size⟩)
    clear hb1 r1 r2 hbw v0 v1 vl
    have yl : w.heap.size < w1.heap.size := (HX.out w1 (Below.refl _ _)).2.2.2.2
    have hbd := (HX.out w1.drew (Below.refl _ w1).drew).2.2.1
    go_wp2_with fail
    go_region_held3 (fun w' => w'.cell? ⟨w.heap.size, 0, none⟩ = some (.slice A n2 c) ∧ w'.cell? ⟨w.heap.size, 1, none⟩ = some (.slice A2 n2 c2))
      (first | exact ⟨c0, c1⟩ | exact ⟨d0, d1⟩ | exact ⟨f0, f1⟩ | go_keep)
      (first
        | (go_at_call 23
           with_reducible refine (HC1.out w1.drew hbd).mono ?_
           rintro e w2 ⟨A3, c3, rfl, o3, b3, l3, m3⟩
           have hb2 : Below w1.heap.size w1 w2 := (Below.refl _ w1).drew.trans b3
           obtain ⟨d0, d1, hbw2, hr2, dl⟩ := HX.out w2 hb2)
        | (go_at_call 23
           with_reducible refine (HC2.out _ hbw2).mono ?_
           rintro e w3 ⟨A4, c4, rfl, o4, b4, l4, m4⟩
           obtain ⟨f0, f1, hbw3, hr3, fl⟩ := HX.out w3 (hb2.trans (b4.mono hb2.size))
           have z0 := hr3.cell (j := 0) rfl
           have z1 := hr3.cell (j := 1) rfl
           have y0 := hr3.frozen 0
           have y1 := hr3.frozen 1
           have zl := hr3.lt))
    have HO := Lib.hid (And.intro o3 (And.intro o4 (And.intro l3 (And.intro m3 (And.intro l4 m4)))))
    have HBB := Lib.hid (And.intro hb2 (And.intro b4 (And.intro hbw3 hr3)))
    clear o3 o4 l3 m3 l4 m4 hb2 b3 b4 hbw3 hr3
    go_wp2
    obtain ⟨o3, o4, l3, m3, l4, m4⟩ := HO.out
    obtain ⟨hb2, b4, hbw3, hr3⟩ := HBB.out
    have r3 := (hr3.set 0 (.slice A3 (cutL q.ids k 1 []).length c3)).set 1 (.slice A4 (cutL q.left k 1 []).length c4)
    have g0 := r3.cell (j := 0) rfl
    have g1 := r3.cell (j := 1) rfl
    refine bodyPost_ret (v := .tuple #[.agg #[.slice A3 (cutL q.ids k 1 []).length c3, .slice A4 (cutL q.left k 1 []).length c4], .bool true]) (by simp [results, Try.results12, go_sem, g0, g1]) rfl ?_
    have hbf := below_setCell (below_setCell hbw3 (p := ⟨w.heap.size + 1, 0, none⟩) (by simp) (.slice A3 (cutL q.ids k 1 []).length c3)) (p := ⟨w.heap.size + 1, 1, none⟩) (by simp) (.slice A4 (cutL q.left k 1 []).length c4)
    have hrl : w.heap.size + 1 < w1.heap.size := (HX.out w1 (Below.refl _ _)).2.2.2.1.lt
    rw [HQ.out]
    have hq := qat_two (B := w.heap.size + 1) o3 l3 m3 o4 l4 m4 (Below.refl _ w2) b4 HLL.out (W := (w3.setCell ⟨w.heap.size + 1, 0, none⟩ (.slice A3 (cutL q.ids k 1 []).length c3)).setCell ⟨w.heap.size + 1, 1, none⟩ (.slice A4 (cutL q.left k 1 []).length c4))
      (fun b _ hb => (heap_set_ne _ ⟨w.heap.size + 1, 1, none⟩ _ hb).trans (heap_set_ne _ ⟨w.heap.size + 1, 0, none⟩ _ hb)) (by simp) hrl (Nat.lt_of_lt_of_le hrl hb2.size)
    exact ⟨A3, _, c3, A4, _, c4, rfl, hq, hbf, fresh_own o3 (by have : w1.drew.heap.size = w1.heap.size := rfl; omega) (by have := b4.size; simp; omega), fresh_own o4 (by have := hb2.size; omega) (by simp)⟩
end Go.Proofs.Ytfojempmgonahaa.Wh
