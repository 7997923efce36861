/- How many ticks a number of the document's wheel has yet. Conditions: its numbers and ticks read as lists as long as each other. -/
import Derived.Test.YtfojempmgonahaaWhPlace
set_option linter.unusedVariables false
set_option linter.unusedSimpArgs false
set_option maxRecDepth 100000
namespace Go.Proofs.Ytfojempmgonahaa.Wh
open Go Go.RowKit
set_option maxHeartbeats 8000000 in
theorem rleft_any (q : Q) (id : Int) {w : World} {B : Nat} {A A2 : Option Addr} {n c n2 c2 : Nat} (hR : Reads w B 1 A n (ints q.ids)) (hR2 : Reads w B 1 A2 n2 (ints q.left)) (hB : B ≤ w.heap.size) (hn : n ≤ 1000000) (hnn : n2 = n) :
    Calls Try.prog 15 #[.agg #[.slice A n c, .slice A2 n2 c2], .int .i64 id] w (Gives (.tuple #[.int .i64 (leftQ q id).1, .int .i64 (leftQ q id).2]) w) := by
  subst hnn
  have hln := hR.len
  obtain ⟨W, hW⟩ : ∃ W, W = w.alloc (.cells #[.slice A n2 c, .slice A2 n2 c2] 27) := ⟨_, rfl⟩
  have hb0 : Below w.heap.size w W := by rw [hW]; exact (Below.refl _ w).alloc (Nat.le_refl _) _
  have r1 : Row W w.heap.size 27 [.slice A n2 c, .slice A2 n2 c2] := by rw [hW]; exact Row.new w _ _
  have v0 := r1.cell (j := 0) rfl
  have v1 := r1.cell (j := 1) rfl
  have vl := r1.lt
  have KR := Lib.hid (fun w1 (hb : Below W.heap.size W w1) => show w1.cell? ⟨w.heap.size, 1, none⟩ = some (.slice A2 n2 c2) ∧ w.heap.size < w1.heap.size ∧ Below w.heap.size w w1 ∧ Reads w1 B 1 A2 n2 (ints q.left) ∧ B ≤ w1.heap.size from
    ⟨(r1.keep (hb.block _ r1.lt)).cell (j := 1) rfl, (r1.keep (hb.block _ r1.lt)).lt, hb0.trans (hb.mono hb0.size), hR2.below ((hb0.trans (hb.mono hb0.size)).mono hB), Nat.le_trans hB (hb0.trans (hb.mono hb0.size)).size⟩)
  have HP := Lib.hid (fun w1 (hb : Below w.heap.size w w1) => place_any q.ids id (c := c) (c2 := c2) (A2 := A2) (n2 := n2) (hR.below (hb.mono hB)) (Nat.le_trans hB hb.size) hn)
  have HW := Lib.hid hW
  have hpl := place_le q.ids id
  have HB0 := Lib.hid hb0
  cases hia : isAt q.ids id with
  | false =>
    have HQ := Lib.hid (show leftQ q id = (0, 3) by unfold leftQ; rw [hia]; rfl)
    rw [hia] at HP
    clear hW hb0 r1 hR hR2 hB hln hpl hia
    go_enter Try.func15, Try.ntmps15
    go_wp2_with fail
    rw [← HW.out]
    refine (HP.out W HB0.out).mono ?_
    rintro en w1 ⟨rfl, hb1⟩
    have HK := Lib.hid (HB0.out.trans (hb1.mono HB0.out.size))
    clear hb1 v0 v1 vl
    go_wp2_with fail
    refine bodyPost_ret (results_tmp2 rfl _ _ _) rfl ?_
    exact ⟨by rw [HQ.out]; rfl, HK.out⟩
  | true =>
    have hia2 := hia
    unfold isAt at hia2
    have hlt : placeN q.ids id < n2 := by have := (of_decide_eq_true hia2).1; omega
    obtain ⟨k, hk⟩ : ∃ k, placeN q.ids id = k := ⟨_, rfl⟩
    have HQ := Lib.hid (show leftQ q id = (q.left.getD k 0, 0) by unfold leftQ; rw [hia, hk]; rfl)
    rw [hia, hk] at HP
    rw [hk] at hlt
    have hltz : (k : Int) < (n2 : Int) := by omega
    clear hW hb0 r1 hR hR2 hB hln hpl hia hia2 hk
    go_enter Try.func15, Try.ntmps15
    go_wp2_with fail
    rw [← HW.out]
    refine (HP.out W HB0.out).mono ?_
    rintro en w1 ⟨rfl, hb1⟩
    clear v0 v1 vl
    obtain ⟨y1, yl, hbw, hR2, hB2⟩ := KR.out w1 hb1
    obtain ⟨ad, rfl, hab, hc⟩ := hR2.int_at hlt
    have hal : (ad.add k).block < w1.heap.size := by rw [block_of_add]; omega
    have HK := Lib.hid hbw
    clear hb1 hbw hR2
    generalize q.left.getD k 0 = x at *
    go_wp2_with fail
    refine bodyPost_ret (results_tmp2 rfl _ _ _) rfl ?_
    exact ⟨by rw [HQ.out]; rfl, HK.out⟩
end Go.Proofs.Ytfojempmgonahaa.Wh
