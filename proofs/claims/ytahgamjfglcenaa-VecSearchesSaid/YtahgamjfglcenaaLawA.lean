/- The walks of VecDists and VecFar: they return true. Conditions: none. -/
import Derived.Test.YtahgamjfglcenaaAwake
set_option linter.unusedVariables false
set_option linter.unusedSimpArgs false
namespace Go.Proofs.Ytahgamjfglcenaa
open Go Go.RowKit
theorem below_drew_then {w : World} {q : Nat} {w2 : World} (h : Below (w.drewN q).heap.size (w.drewN q) w2) : Below w.heap.size w w2 := (below_drewN (Below.refl _ w) q).trans h
set_option maxHeartbeats 2000000 in
theorem vecDists_walk (A0 : Option Addr) (n0 c0 : Nat) (l0 : List Int) (A1 : Option Addr) (n1 c1 : Nat) (l1 : List Int) (dim : Int) (w : World) (h0 : Reads w w.heap.size 1 A0 n0 (ints l0)) (hm0 : n0 ≤ maxLen) (h1 : Reads w w.heap.size 1 A1 n1 (ints l1)) (hm1 : n1 ≤ maxLen) :
    Calls Try.prog 3 #[.slice A0 n0 c0, .slice A1 n1 c1, .int .i64 dim] w (Gives (.bool true) w) := by
  have H1 := Lib.hid (dist_any A0 A1 n0 n1 c0 c1 _ _ l0 l1 w h0 h1 hm0 hm1)
  have H2 := Lib.hid (fun q => rdist_any A0 A1 n0 n1 c0 c1 _ _ l0 l1 (w.drewN q) (h0.drewN q) (h1.drewN q) hm0 hm1)
  have H3 := Lib.hid (fun q => check_any A0 n0 c0 _ l0 dim (w.drewN q) (h0.drewN q) hm0)
  have H4 := Lib.hid (fun q => rcheck_any A0 n0 c0 _ l0 dim (w.drewN q) (h0.drewN q) hm0)
  generalize dstR l0 l1 = R at *
  generalize ck l0 dim = C at *
  obtain ⟨r1, r2⟩ := R
  unfold two at H1 H2
  clear h0 h1 hm0 hm1
  go_enter Try.func3, Try.ntmps3
  go_wp2_with fail
  refine H1.out.mono ?_
  rintro e w1 ⟨rfl, q1, rfl⟩
  go_wp2_with fail
  refine (H2.out q1).mono ?_
  rintro e w1 ⟨rfl, q2, rfl⟩
  rw [drewN_two]
  go_wp2_with fail
  refine (H3.out _).mono ?_
  rintro e w1 ⟨rfl, q3, rfl⟩
  rw [drewN_two]
  go_wp2_with fail
  refine (H4.out _).mono ?_
  rintro e w1 ⟨rfl, q4, rfl⟩
  rw [drewN_two]
  go_wp2_with fail
  refine (awake_any _).mono ?_
  rintro e w1 ⟨rfl, hb⟩
  go_wp2_with fail
  go_ret
  exact ⟨rfl, below_drew_then hb⟩
theorem dstR_comm_no {a b : List Int} (h : ¬ (okV a = true ∧ okV b = true ∧ b.length = a.length)) : dstR b a = (0, 50) := dstR_no (fun k => h ⟨k.2.1, k.1, k.2.2.symm⟩)
theorem dstR_comm (a b : List Int) : dstR b a = dstR a b := by
  by_cases h : okV a = true ∧ okV b = true ∧ b.length = a.length
  · rw [dstR_yes h, dstR_yes ⟨h.2.1, h.1, h.2.2.symm⟩, far_comm]
  · rw [dstR_no h, dstR_comm_no h]
set_option maxHeartbeats 4000000 in
theorem vecFar_walk (A0 : Option Addr) (n0 c0 : Nat) (l0 : List Int) (A1 : Option Addr) (n1 c1 : Nat) (l1 : List Int) (A2 : Option Addr) (n2 c2 : Nat) (l2 : List Int) (w : World) (h0 : Reads w w.heap.size 1 A0 n0 (ints l0)) (hm0 : n0 ≤ maxLen) (h1 : Reads w w.heap.size 1 A1 n1 (ints l1)) (hm1 : n1 ≤ maxLen) (h2 : Reads w w.heap.size 1 A2 n2 (ints l2)) (hm2 : n2 ≤ maxLen) :
    Calls Try.prog 4 #[.slice A0 n0 c0, .slice A1 n1 c1, .slice A2 n2 c2] w (Gives (.bool true) w) := by
  have H1 := Lib.hid (dist_any A0 A1 n0 n1 c0 c1 _ _ l0 l1 w h0 h1 hm0 hm1)
  have H2 := Lib.hid (fun q => dist_any A1 A0 n1 n0 c1 c0 _ _ l1 l0 (w.drewN q) (h1.drewN q) (h0.drewN q) hm1 hm0)
  have H3 := Lib.hid (fun q => dist_any A1 A2 n1 n2 c1 c2 _ _ l1 l2 (w.drewN q) (h1.drewN q) (h2.drewN q) hm1 hm2)
  have H4 := Lib.hid (fun q => dist_any A0 A2 n0 n2 c0 c2 _ _ l0 l2 (w.drewN q) (h0.drewN q) (h2.drewN q) hm0 hm2)
  have H5 := Lib.hid (fun q => sameInts_any A0 A1 n0 n1 c0 c1 _ _ l0 l1 (w.drewN q) (h0.drewN q) (h1.drewN q) hm0 hm1)
  rw [dstR_comm l0 l1] at H2
  clear h0 h1 h2 hm0 hm1 hm2
  by_cases hab : okV l0 = true ∧ okV l1 = true ∧ l1.length = l0.length
  · rw [dstR_yes hab] at H1 H2
    by_cases hbc : okV l1 = true ∧ okV l2 = true ∧ l2.length = l1.length
    · rw [dstR_yes hbc] at H3
      rw [dstR_yes ⟨hab.1, hbc.2.1, hbc.2.2.trans hab.2.2⟩] at H4
      have t1 := far_tri l0 l1 l2 hab.2.2.symm hbc.2.2.symm
      have t2 := far_nonneg l0 l1
      have t3 := far_le hab.1 hab.2.1 hab.2.2.symm
      have t4 := far_le hbc.1 hbc.2.1 hbc.2.2.symm
      have t5 := far_nonneg l1 l2
      have t6 := far_zero l0 l1 hab.2.2.symm
      have t7 : l0 = l1 → far l0 l1 = 0 := by rintro rfl; exact far_self l0
      generalize far l0 l1 = F1 at *
      generalize far l1 l2 = F2 at *
      generalize far l0 l2 = F3 at *
      have t8 : (F1 == 0) = decide (l0 = l1) := by
        rw [Bool.eq_iff_iff, beq_iff_eq, decide_eq_true_iff]
        exact ⟨t6, t7⟩
      clear t6 t7 hab hbc
      generalize decide (l0 = l1) = D at *
      unfold two at H1 H2 H3 H4
      go_enter Try.func4, Try.ntmps4
      go_wp2_with fail
      refine H1.out.mono ?_
      rintro e w1 ⟨rfl, q1, rfl⟩
      go_wp2_with fail
      refine (H2.out q1).mono ?_
      rintro e w1 ⟨rfl, q2, rfl⟩
      rw [drewN_two]
      go_wp2_with fail
      refine (H3.out _).mono ?_
      rintro e w1 ⟨rfl, q3, rfl⟩
      rw [drewN_two]
      go_wp2_with fail
      refine (H4.out _).mono ?_
      rintro e w1 ⟨rfl, q4, rfl⟩
      rw [drewN_two]
      go_wp2_with fail
      refine (H5.out _).mono ?_
      rintro e w1 ⟨rfl, q5, rfl⟩
      rw [drewN_two]
      go_wp2_with fail
      refine (awake_any _).mono ?_
      rintro e w1 ⟨rfl, hb⟩
      go_wp2_with fail
      go_ret
      exact ⟨rfl, below_drew_then hb⟩
    · rw [dstR_no hbc] at H3
      clear hab hbc
      generalize far l0 l1 = F1 at *
      generalize dstR l0 l2 = R at *
      obtain ⟨r1, r2⟩ := R
      unfold two at H1 H2 H3 H4
      go_enter Try.func4, Try.ntmps4
      go_wp2_with fail
      refine H1.out.mono ?_
      rintro e w1 ⟨rfl, q1, rfl⟩
      go_wp2_with fail
      refine (H2.out q1).mono ?_
      rintro e w1 ⟨rfl, q2, rfl⟩
      rw [drewN_two]
      go_wp2_with fail
      refine (H3.out _).mono ?_
      rintro e w1 ⟨rfl, q3, rfl⟩
      rw [drewN_two]
      go_wp2_with fail
      refine (H4.out _).mono ?_
      rintro e w1 ⟨rfl, q4, rfl⟩
      rw [drewN_two]
      go_wp2_with fail
      refine (awake_any _).mono ?_
      rintro e w1 ⟨rfl, hb⟩
      go_wp2_with fail
      go_ret
      exact ⟨rfl, below_drew_then hb⟩
  · rw [dstR_no hab] at H1 H2
    clear hab
    generalize dstR l1 l2 = R at *
    generalize dstR l0 l2 = R2 at *
    obtain ⟨r1, r2⟩ := R
    obtain ⟨r3, r4⟩ := R2
    unfold two at H1 H2 H3 H4
    go_enter Try.func4, Try.ntmps4
    go_wp2_with fail
    refine H1.out.mono ?_
    rintro e w1 ⟨rfl, q1, rfl⟩
    go_wp2_with fail
    refine (H2.out q1).mono ?_
    rintro e w1 ⟨rfl, q2, rfl⟩
    rw [drewN_two]
    go_wp2_with fail
    refine (H3.out _).mono ?_
    rintro e w1 ⟨rfl, q3, rfl⟩
    rw [drewN_two]
    go_wp2_with fail
    refine (H4.out _).mono ?_
    rintro e w1 ⟨rfl, q4, rfl⟩
    rw [drewN_two]
    go_wp2_with fail
    refine (awake_any _).mono ?_
    rintro e w1 ⟨rfl, hb⟩
    go_wp2_with fail
    go_ret
    exact ⟨rfl, below_drew_then hb⟩
end Go.Proofs.Ytahgamjfglcenaa
