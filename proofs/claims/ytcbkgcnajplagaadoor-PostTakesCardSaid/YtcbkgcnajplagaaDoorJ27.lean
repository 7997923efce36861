/- Are two messages the same, as the document tells. Conditions: their numbers and hits read as lists. -/
import Derived.Test.YtcbkgcnajplagaaDoorJ05
import Derived.Test.YtcbkgcnajplagaaDoorJ18
set_option linter.unusedVariables false
set_option linter.unusedSimpArgs false
set_option maxRecDepth 100000
namespace Go.Proofs.YtcbkgcnajplagaaDoor.Po
open Go Go.RowKit
theorem same_no {m m' : M} (h : ¬ m = m') : decide (m = m') = false := decide_eq_false h
theorem same_all {m m' : M} (h : m.kd = m'.kd ∧ m.sh = m'.sh ∧ m.ep = m'.ep ∧ m.cl = m'.cl ∧ m.sq = m'.sq ∧ m.nn = m'.nn ∧ m.vr = m'.vr ∧ m.lm = m'.lm ∧ opOf m = opOf m' ∧ m.er = m'.er ∧ m.wa = m'.wa ∧ m.hs = m'.hs ∧ m.tx = m'.tx) : m = m' := by
  obtain ⟨h1, h2, h3, h4, h5, h6, h7, h8, h9, h10, h11, h12, h13⟩ := h
  simp only [opOf, Prod.mk.injEq] at h9
  obtain ⟨a, b, c, d⟩ := h9
  cases m
  cases m'
  simp only at h1 h2 h3 h4 h5 h6 h7 h8 h10 h11 h12 h13 a b c d
  subst h1 h2 h3 h4 h5 h6 h7 h8 h10 h11 h12 h13 a b c d
  rfl
theorem own_str_ne {a b : ByteArray} (h : ¬ a = b) : (a.toList == b.toList) = false := by
  rw [Be.str_eq_dec]
  exact decide_eq_false h
set_option maxHeartbeats 16000000 in
theorem rsame_any (m m' : M) {w : World} {B : Nat} {A A' A2 A2' : Option Addr} {n c n' c' n2 c2 n2' c2' : Nat} (hR : Reads w B 1 A n (ints m.vs)) (hR' : Reads w B 1 A' n' (ints m'.vs)) (hH : Reads w B 2 A2 n2 (hits m.hs)) (hH' : Reads w B 2 A2' n2' (hits m'.hs)) (hB : B ≤ w.heap.size) (hm : n ≤ maxLen) (hm' : n' ≤ maxLen) (hn : n2 ≤ maxLen) (hn' : n2' ≤ maxLen) :
    Calls Tryd.prog 14 #[.agg (msgV m A n c A2 n2 c2).toArray, .agg (msgV m' A' n' c' A2' n2' c2').toArray] w (Gives (.bool (decide (m = m'))) w) := by
  obtain ⟨W, hW⟩ : ∃ W, W = (w.alloc (.cells (msgV m A n c A2 n2 c2).toArray 30)).alloc (.cells (msgV m' A' n' c' A2' n2' c2').toArray 30) := ⟨_, rfl⟩
  have hb0 : Below w.heap.size w W := by rw [hW]; exact ((Below.refl _ w).alloc (Nat.le_refl _) _).alloc (by simp) _
  have r1 : Row W w.heap.size 30 (msgV m A n c A2 n2 c2) := by rw [hW]; exact (Row.new w 30 (msgV m A n c A2 n2 c2)).keep (by rw [World.alloc]; simp [Array.getElem?_push])
  have r2 : Row W (w.heap.size + 1) 30 (msgV m' A' n' c' A2' n2' c2') := by
    rw [hW]
    have := Row.new (w.alloc (.cells (msgV m A n c A2 n2 c2).toArray 30)) 30 (msgV m' A' n' c' A2' n2' c2')
    rwa [World.size_alloc] at this
  have HC := Lib.hid (rsameop_any m m' (w := W) (c := c) (c' := c') (hR.below (hb0.mono hB)) (hR'.below (hb0.mono hB)) (Nat.le_trans hB hb0.size) hm hm')
  have HH := Lib.hid (fun w1 (hb : Below W.heap.size W w1) => same_any A2 A2' n2 n2' c2 c2' B B m.hs m'.hs w1 ((hH.below (hb0.mono hB)).below (hb.mono (Nat.le_trans hB hb0.size))) ((hH'.below (hb0.mono hB)).below (hb.mono (Nat.le_trans hB hb0.size))) hn hn')
  have KR := Lib.hid (fun w1 (hb : Below W.heap.size W w1) => And.intro (r1.keep (hb.block _ r1.lt)) (And.intro (r2.keep (hb.block _ r2.lt)) (hb0.trans (hb.mono hb0.size))))
  have HB := Lib.hid hb0
  have HW := Lib.hid hW
  have HNO := Lib.hid (fun (h : ¬ m = m') => same_no h)
  have c0 := r1.cell (j := 0) rfl
  have d0 := r2.cell (j := 0) rfl
  have c1 := r1.cell (j := 1) rfl
  have d1 := r2.cell (j := 1) rfl
  have c2 := r1.cell (j := 2) rfl
  have d2 := r2.cell (j := 2) rfl
  have c3 := r1.cell (j := 3) rfl
  have d3 := r2.cell (j := 3) rfl
  have c4 := r1.cell (j := 4) rfl
  have d4 := r2.cell (j := 4) rfl
  have c5 := r1.cell (j := 5) rfl
  have d5 := r2.cell (j := 5) rfl
  have c6 := r1.cell (j := 6) rfl
  have d6 := r2.cell (j := 6) rfl
  have c7 := r1.cell (j := 7) rfl
  have d7 := r2.cell (j := 7) rfl
  have c8 := r1.cell (j := 8) rfl
  have d8 := r2.cell (j := 8) rfl
  have c9 := r1.cell (j := 9) rfl
  have d9 := r2.cell (j := 9) rfl
  have c10 := r1.cell (j := 10) rfl
  have d10 := r2.cell (j := 10) rfl
  have c11 := r1.cell (j := 11) rfl
  have d11 := r2.cell (j := 11) rfl
  have c12 := r1.cell (j := 12) rfl
  have d12 := r2.cell (j := 12) rfl
  have c13 := r1.cell (j := 13) rfl
  have d13 := r2.cell (j := 13) rfl
  have c14 := r1.cell (j := 14) rfl
  have d14 := r2.cell (j := 14) rfl
  have c15 := r1.cell (j := 15) rfl
  have d15 := r2.cell (j := 15) rfl
  have l1 := r1.lt
  have l2 := r2.lt
  clear r1 r2 hb0 hW hR hR' hH hH' hB hm hm' hn hn'
  unfold msgV at *
  unfold opV at *
  by_cases p0 : m.kd = m'.kd
  rotate_left
  · have HN := Lib.hid (HNO.out (fun h => p0 (by rw [h])))
    have hw := HW.out
    have HW2 := Lib.hid hw
    clear hw
    go_enter Tryd.func14, Tryd.ntmps14
    go_wp2_with fail
    go_ret
    exact ⟨ret_bool HN.out.symm, by rw [← HW2.out]; exact HB.out⟩
  by_cases p1 : m.sh = m'.sh
  rotate_left
  · have HN := Lib.hid (HNO.out (fun h => p1 (by rw [h])))
    have hw := HW.out
    rw [p0] at hw
    have HW2 := Lib.hid hw
    clear hw
    go_enter Tryd.func14, Tryd.ntmps14
    go_wp2_with fail
    go_ret
    exact ⟨ret_bool HN.out.symm, by rw [← HW2.out]; exact HB.out⟩
  by_cases p2 : m.ep = m'.ep
  rotate_left
  · have HN := Lib.hid (HNO.out (fun h => p2 (by rw [h])))
    have hw := HW.out
    rw [p0, p1] at hw
    have HW2 := Lib.hid hw
    clear hw
    go_enter Tryd.func14, Tryd.ntmps14
    go_wp2_with fail
    go_ret
    exact ⟨ret_bool HN.out.symm, by rw [← HW2.out]; exact HB.out⟩
  by_cases p3 : m.cl = m'.cl
  rotate_left
  · have HN := Lib.hid (HNO.out (fun h => p3 (by rw [h])))
    have hw := HW.out
    rw [p0, p1, p2] at hw
    have HW2 := Lib.hid hw
    clear hw
    go_enter Tryd.func14, Tryd.ntmps14
    go_wp2_with fail
    go_ret
    exact ⟨ret_bool HN.out.symm, by rw [← HW2.out]; exact HB.out⟩
  by_cases p4 : m.sq = m'.sq
  rotate_left
  · have HN := Lib.hid (HNO.out (fun h => p4 (by rw [h])))
    have hw := HW.out
    rw [p0, p1, p2, p3] at hw
    have HW2 := Lib.hid hw
    clear hw
    go_enter Tryd.func14, Tryd.ntmps14
    go_wp2_with fail
    go_ret
    exact ⟨ret_bool HN.out.symm, by rw [← HW2.out]; exact HB.out⟩
  by_cases p5 : m.nn = m'.nn
  rotate_left
  · have HN := Lib.hid (HNO.out (fun h => p5 (by rw [h])))
    have hw := HW.out
    rw [p0, p1, p2, p3, p4] at hw
    have HW2 := Lib.hid hw
    clear hw
    go_enter Tryd.func14, Tryd.ntmps14
    go_wp2_with fail
    go_ret
    exact ⟨ret_bool HN.out.symm, by rw [← HW2.out]; exact HB.out⟩
  by_cases p6 : m.vr = m'.vr
  rotate_left
  · have HN := Lib.hid (HNO.out (fun h => p6 (by rw [h])))
    have hw := HW.out
    rw [p0, p1, p2, p3, p4, p5] at hw
    have HW2 := Lib.hid hw
    clear hw
    go_enter Tryd.func14, Tryd.ntmps14
    go_wp2_with fail
    go_ret
    exact ⟨ret_bool HN.out.symm, by rw [← HW2.out]; exact HB.out⟩
  by_cases p7 : m.lm = m'.lm
  rotate_left
  · have HN := Lib.hid (HNO.out (fun h => p7 (by rw [h])))
    have hw := HW.out
    rw [p0, p1, p2, p3, p4, p5, p6] at hw
    have HW2 := Lib.hid hw
    clear hw
    go_enter Tryd.func14, Tryd.ntmps14
    go_wp2_with fail
    go_ret
    exact ⟨ret_bool HN.out.symm, by rw [← HW2.out]; exact HB.out⟩
  have hw := HW.out
  rw [p0, p1, p2, p3, p4, p5, p6, p7] at hw
  have HW2 := Lib.hid hw
  clear hw
  have HP := Lib.hid (And.intro p0 (And.intro p1 (And.intro p2 (And.intro p3 (And.intro p4 (And.intro p5 (And.intro p6 p7)))))))
  by_cases po : opOf m = opOf m'
  rotate_left
  · have HN := Lib.hid (HNO.out (fun h => po (by rw [h])))
    rw [decide_eq_false po] at HC
    clear po
    go_enter Tryd.func14, Tryd.ntmps14
    go_wp2_with fail
    rw [← HW2.out]
    refine HC.out.mono ?_
    rintro en w1 ⟨rfl, hb1⟩
    have HB1 := Lib.hid (KR.out w1 hb1).2.2
    clear hb1
    go_wp2_with fail
    go_ret
    exact ⟨ret_bool HN.out.symm, HB1.out⟩
  rw [decide_eq_true po] at HC
  have HPO := Lib.hid po
  clear po
  go_enter Tryd.func14, Tryd.ntmps14
  go_wp2_with fail
  rw [← HW2.out]
  refine HC.out.mono ?_
  rintro en w1 ⟨rfl, hb1⟩
  obtain ⟨s1, s2, hbx⟩ := KR.out w1 hb1
  have HB1 := Lib.hid hbx
  have HS := Lib.hid (HH.out w1 hb1)
  have x12 := s1.cell (j := 12) rfl
  have y12 := s2.cell (j := 12) rfl
  have x13 := s1.cell (j := 13) rfl
  have y13 := s2.cell (j := 13) rfl
  have x14 := s1.cell (j := 14) rfl
  have y14 := s2.cell (j := 14) rfl
  have x15 := s1.cell (j := 15) rfl
  have y15 := s2.cell (j := 15) rfl
  have xl := s1.lt
  have yl := s2.lt
  clear hb1 hbx s1 s2
  by_cases q0 : m.er = m'.er
  rotate_left
  · have HN := Lib.hid (HNO.out (fun h => q0 (by rw [h])))
    go_wp2_with fail
    go_ret
    exact ⟨ret_bool HN.out.symm, HB1.out⟩
  by_cases q1 : m.wa = m'.wa
  rotate_left
  · have HN := Lib.hid (HNO.out (fun h => q1 (by rw [h])))
    go_wp2_with fail
    go_ret
    exact ⟨ret_bool HN.out.symm, HB1.out⟩
  by_cases q2 : m.hs = m'.hs
  rotate_left
  · have HN := Lib.hid (HNO.out (fun h => q2 (by rw [h])))
    rw [decide_eq_false q2] at HS
    clear q2
    go_wp2_with fail
    refine HS.out.mono ?_
    rintro en w2 ⟨rfl, q, rfl⟩
    go_wp2_with fail
    go_ret
    exact ⟨ret_bool HN.out.symm, below_drewN HB1.out _⟩
  rw [decide_eq_true q2] at HS
  have HQ2 := Lib.hid (And.intro q0 (And.intro q1 q2)); clear q2
  go_wp2_with fail
  refine HS.out.mono ?_
  rintro en w2 ⟨rfl, q, rfl⟩
  have u15 : (w1.drewN q).cell? _ = _ := x15
  have v15 : (w1.drewN q).cell? _ = _ := y15
  by_cases q3 : m.tx = m'.tx
  rotate_left
  · have HN := Lib.hid (HNO.out (fun h => q3 (by rw [h])))
    have qb := own_str_ne q3
    go_wp2_with fail
    go_ret
    exact ⟨ret_bool HN.out.symm, below_drewN HB1.out _⟩
  have HY := Lib.hid (decide_eq_true (same_all (m := m) (m' := m') (by obtain ⟨a, b, c, d, e, f, g, h⟩ := HP.out; exact ⟨a, b, c, d, e, f, g, h, HPO.out, HQ2.out.1, HQ2.out.2.1, HQ2.out.2.2, q3⟩)))
  go_wp2_with fail
  go_ret
  exact ⟨ret_bool HY.out.symm, below_drewN HB1.out _⟩
end Go.Proofs.YtcbkgcnajplagaaDoor.Po
