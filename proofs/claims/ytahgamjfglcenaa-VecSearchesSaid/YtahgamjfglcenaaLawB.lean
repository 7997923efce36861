/- The walks of VecTops and VecFew: they return true. Conditions: none. -/
import Derived.Test.YtahgamjfglcenaaSame
set_option linter.unusedVariables false
set_option linter.unusedSimpArgs false
namespace Go.Proofs.Ytahgamjfglcenaa
open Go Go.RowKit
theorem below_two {w w1 w2 : World} (h : Below w.heap.size w w1) (k : Below w1.heap.size w1 w2) : Below w.heap.size w w2 := h.trans (k.mono h.size)
theorem below_drew {w w1 : World} (h : Below w.heap.size w w1) (q : Nat) : Below w.heap.size w (w1.drewN q) := below_drewN h q
set_option maxHeartbeats 4000000 in
theorem vecTops_walk (A : Option Addr) (n c : Nat) (l : List Hit) (k : Int) (w : World) (h0 : Reads w w.heap.size 2 A n (hits l) ∧ WF l) (hm : n ≤ maxLen) : Calls Try.prog 5 #[.slice A n c, .int .i64 k] w (Gives (.bool true) w) := by
  unfold maxLen at hm
  by_cases h100 : 100 < n
  · have hz : (100 : Int) < (n : Int) := by omega
    clear h0
    go_enter Try.func5, Try.ntmps5
    go_wp2_with fail
    refine (tops_any w).mono ?_
    rintro e w1 ⟨rfl, hb⟩
    go_wp2_with fail
    go_ret
    exact ⟨rfl, hb⟩
  · have hz : ¬ (100 : Int) < (n : Int) := by omega
    by_cases hk : 0 ≤ k ∧ k ≤ 64
    · obtain ⟨k, rfl⟩ := Int.eq_ofNat_of_zero_le hk.1
      have hk64 : k ≤ 64 := by omega
      have H1 := Lib.hid (top_any A n c l k w h0.1 h0.2 (by omega) hk64)
      have H0 := Lib.hid h0
      clear h0 hk
      go_enter Try.func5, Try.ntmps5
      go_wp2_with fail
      refine H1.out.mono ?_
      rintro e w1 ⟨A1, m1, c1, S, rfl, hT, hR, hc1, hc2, hb1⟩
      have H2 := Lib.hid (rtop2_any A n c l S k w1 ((H0.out.1.below hb1).more hb1.size) hT (by omega) hk64)
      have HR := Lib.hid hR
      have HC : Hid (m1 ≤ maxLen) := Lib.hid (by omega)
      have HB1 := Lib.hid hb1
      clear hT hR hc1 hc2 hb1
      go_wp2_with fail
      refine H2.out.mono ?_
      rintro e w2 ⟨A2, m2, c2, rfl, hR2, hm2, hb2⟩
      have hs := same_any A1 A2 m1 m2 c1 c2 _ _ (S.take k) (S.take k) w2 (HR.out.below hb2) hR2 HC.out hm2
      rw [decide_eq_true rfl] at hs
      have HS := Lib.hid hs
      have HB2 := Lib.hid (below_two HB1.out hb2)
      clear hs hR2 hm2 hb2
      go_wp2_with fail
      refine HS.out.mono ?_
      rintro e w3 ⟨rfl, q, rfl⟩
      go_wp2_with fail
      refine (tops_any _).mono ?_
      rintro e w4 ⟨rfl, hb4⟩
      have HF := Lib.hid (below_two (below_drew HB2.out q) hb4)
      clear hb4
      go_wp2_with fail
      go_ret
      exact ⟨rfl, HF.out⟩
    · have hk2 : k < 0 ∨ 64 < k := by omega
      have H1 := Lib.hid (top_no A n c k w hk2)
      have H2 := Lib.hid (rtop2_no A n c k w hk2)
      have hs := same_any none none 0 0 0 0 _ _ [] [] w (Reads.none_ (B := w.heap.size)) (Reads.none_ (B := w.heap.size)) (by decide) (by decide)
      rw [decide_eq_true rfl] at hs
      have HS := Lib.hid hs
      clear h0 hk hk2 hs
      go_enter Try.func5, Try.ntmps5
      go_wp2_with fail
      refine H1.out.mono ?_
      rintro e w1 ⟨rfl, rfl⟩
      go_wp2_with fail
      refine H2.out.mono ?_
      rintro e w2 ⟨rfl, rfl⟩
      go_wp2_with fail
      refine HS.out.mono ?_
      rintro e w3 ⟨rfl, q, rfl⟩
      go_wp2_with fail
      refine (tops_any _).mono ?_
      rintro e w4 ⟨rfl, hb4⟩
      have HF := Lib.hid (below_two (below_drew (Below.refl _ _) q) hb4)
      clear hb4
      go_wp2_with fail
      go_ret
      exact ⟨rfl, HF.out⟩
theorem i64_and6 (n : Int) : bits .and .i64 n 63 = n % 64 := by
  have hm : (BitVec.ofInt 64 63).toNat = 2 ^ 6 - 1 := by decide
  have key : (BitVec.ofInt 64 n &&& BitVec.ofInt 64 63).toNat = (n % ((2 ^ 64 : Nat) : Int)).toNat % 2 ^ 6 := by
    rw [BitVec.toNat_and, BitVec.toNat_ofInt, hm, Nat.and_two_pow_sub_one_eq_mod]
  show IntKind.i64.wrap ((BitVec.ofInt 64 n &&& BitVec.ofInt 64 63).toNat : Nat) = n % 64
  rw [key, IntKind.wrap_i64]
  omega
theorem reads_take {w : World} {B m c j : Nat} {A : Option Addr} {xs : List Hit} (h : Reads w B 2 A m (hits xs)) (hj : j ≤ m) : Reads w B 2 A j (hits (xs.take j)) := by
  have hl := h.hits_len
  refine ⟨by rw [hits_len, List.length_take]; omega, fun h0 => ?_⟩
  obtain ⟨ad, e, hb, hc⟩ := h.2 (by omega)
  refine ⟨ad, e, hb, fun i u hi => hc i u ?_⟩
  rw [← hits_take, List.getElem?_take] at hi
  split at hi
  · exact hi
  · cases hi
set_option maxHeartbeats 4000000 in
theorem vecFew_walk (A : Option Addr) (n c : Nat) (l : List Hit) (a b : Int) (w : World) (h0 : Reads w w.heap.size 2 A n (hits l) ∧ WF l) (hm : n ≤ maxLen) : Calls Try.prog 10 #[.slice A n c, .int .i64 a, .int .i64 b] w (Gives (.bool true) w) := by
  unfold maxLen at hm
  by_cases h100 : 100 < n
  · have hz : (100 : Int) < (n : Int) := by omega
    clear h0
    go_enter Try.func10, Try.ntmps10
    go_wp2_with fail
    refine (tops_any w).mono ?_
    rintro e w1 ⟨rfl, hb⟩
    go_wp2_with fail
    go_ret
    exact ⟨rfl, hb⟩
  · have hz : ¬ (100 : Int) < (n : Int) := by omega
    have ha := i64_and6 a
    have hb := i64_and6 b
    obtain ⟨x, hx⟩ := Int.eq_ofNat_of_zero_le (show 0 ≤ a % 64 by omega)
    obtain ⟨y, hy⟩ := Int.eq_ofNat_of_zero_le (show 0 ≤ b % 64 by omega)
    have hx64 : x < 64 := by omega
    have hy64 : y < 64 := by omega
    rw [hx] at ha
    rw [hy] at hb
    have few : min (x : Int) (y : Int) = ((min x y : Nat) : Int) := by omega
    have more : max (x : Int) (y : Int) = ((max x y : Nat) : Int) := by omega
    obtain ⟨f, hf⟩ : ∃ f, f = min x y := ⟨_, rfl⟩
    obtain ⟨g, hg⟩ : ∃ g, g = max x y := ⟨_, rfl⟩
    rw [← hf] at few
    rw [← hg] at more
    have hfg : f ≤ g := by omega
    have hg64 : g ≤ 64 := by omega
    have H1 := Lib.hid (top_any A n c l f w h0.1 h0.2 (by omega) (by omega))
    have H0 := Lib.hid h0
    clear h0 hx hy hf hg
    go_enter Try.func10, Try.ntmps10
    go_wp2_with fail
    refine H1.out.mono ?_
    rintro e w1 ⟨A1, m1, c1, S, rfl, hT, hR, hc1, hc2, hb1⟩
    have H2 := Lib.hid (top_any A n c l g w1 ((H0.out.1.below hb1).more hb1.size) H0.out.2 (by omega) hg64)
    have hl1 : m1 = min f S.length := by have := hR.hits_len; rw [List.length_take] at this; exact this
    have HR := Lib.hid hR
    have HT := Lib.hid hT
    have HB1 := Lib.hid hb1
    have HL1 := Lib.hid hl1
    clear hT hR hb1 hl1
    go_wp2_with fail
    refine H2.out.mono ?_
    rintro e w2 ⟨A2, m2, c2, S2, rfl, hT2, hR2, hd1, hd2, hb2⟩
    obtain rfl := hT2.unique HT.out
    have hl2 : m2 = min g S2.length := by have := hR2.hits_len; rw [List.length_take] at this; exact this
    have hmin : min (f : Int) (m2 : Int) = (m1 : Int) := by have := HL1.out; omega
    have hm12 : m1 ≤ m2 := by have := HL1.out; omega
    have hR3 := reads_take (c := c2) hR2 hm12
    have e3 : (S2.take g).take m1 = S2.take f := by
      have := HL1.out
      rw [List.take_take]
      by_cases h : f ≤ S2.length
      · rw [show min m1 g = f by omega]
      · rw [List.take_of_length_le (by omega), List.take_of_length_le (by omega)]
    rw [e3] at hR3
    have hs := same_any A1 A2 m1 m1 c1 c2 _ _ (S2.take f) (S2.take f) w2 (HR.out.below hb2) hR3 (by omega) (by omega)
    rw [decide_eq_true rfl] at hs
    have HS := Lib.hid hs
    have HB2 := Lib.hid (below_two HB1.out hb2)
    clear hs hR2 hR3 hb2 hT2 hl2 e3
    have hmc : m1 ≤ c2 := by omega
    unfold maxLen at hc2 hd2
    go_wp2_with fail
    refine HS.out.mono ?_
    rintro e w3 ⟨rfl, q, rfl⟩
    go_wp2_with fail
    refine (tops_any _).mono ?_
    rintro e w4 ⟨rfl, hb4⟩
    have HF := Lib.hid (below_two (below_drew HB2.out q) hb4)
    clear hb4
    go_wp2_with fail
    go_ret
    exact ⟨rfl, HF.out⟩
end Go.Proofs.Ytahgamjfglcenaa
