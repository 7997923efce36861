/- The walk of VecMerges: it returns true. Conditions: none. -/
import Derived.Test.YtahgamjfglcenaaMrg
import Derived.Test.YtahgamjfglcenaaLawB
set_option linter.unusedVariables false
set_option linter.unusedSimpArgs false
namespace Go.Proofs.Ytahgamjfglcenaa
open Go Go.RowKit
theorem wf_append {a b : List Hit} (h : WF a) (k : WF b) : WF (a ++ b) := fun x hx => by
  rcases List.mem_append.1 hx with g | g
  · exact h x g
  · exact k x g
theorem wf_top {l S : List Hit} {k : Nat} (h : WF l) (hT : TopR l S) : WF (S.take k) := fun x hx => h x ((hT.2 x).1 (List.mem_of_mem_take hx)).1
theorem reads_own {w : World} {base m : Nat} {v : Value} {xs : List Hit} (h : w.ownsRow base 37 2 v m (hits xs)) : ∃ A c, v = .slice A m c ∧ Reads w w.heap.size 2 A m (hits xs) ∧ m ≤ maxLen := by
  obtain ⟨A, c, rfl, h1, h2⟩ := own_shape h
  exact ⟨A, c, rfl, Reads.of_own h, Nat.le_trans h1 h2⟩
theorem nil_own (w : World) : w.ownsRow w.heap.size 37 2 (.slice none 0 0) 0 [] := World.ownsRow_nil ..
theorem app_done {w : World} {base n n' : Nat} {v : Value} {l l' : List Hit} (h : w.ownsRow base 37 2 v (0 + n + n') ([] ++ hits l ++ hits l')) (hn : n ≤ 64) (hn' : n' ≤ 64) : ∃ A m c, v = .slice A m c ∧ Reads w w.heap.size 2 A m (hits (l ++ l')) ∧ m ≤ 1000000 := by
  obtain ⟨A, c, rfl, _, _⟩ := own_shape h
  refine ⟨A, _, c, rfl, ?_, by omega⟩
  rw [hits_append]
  exact Reads.of_own h
set_option maxHeartbeats 8000000 in
theorem vecMerges_walk (A : Option Addr) (n c : Nat) (l : List Hit) (A' : Option Addr) (n' c' : Nat) (l' : List Hit) (k : Int) (w : World) (h0 : Reads w w.heap.size 2 A n (hits l) ∧ WF l) (hm : n ≤ maxLen) (h0' : Reads w w.heap.size 2 A' n' (hits l') ∧ WF l') (hm' : n' ≤ maxLen) :
    Calls Try.prog 8 #[.slice A n c, .slice A' n' c', .int .i64 k] w (Gives (.bool true) w) := by
  unfold maxLen at hm hm'
  by_cases h60 : 60 < n
  · have hz : (60 : Int) < (n : Int) := by omega
    clear h0 h0'
    go_enter Try.func8, Try.ntmps8
    go_wp2_with fail
    refine (tops_any w).mono ?_
    rintro e w1 ⟨rfl, hb⟩
    go_wp2_with fail
    go_ret
    exact ⟨rfl, hb⟩
  · have hz : ¬ (60 : Int) < (n : Int) := by omega
    by_cases h60' : 60 < n'
    · have hz' : (60 : Int) < (n' : Int) := by omega
      clear h0 h0'
      go_enter Try.func8, Try.ntmps8
      go_wp2_with fail
      refine (tops_any w).mono ?_
      rintro e w1 ⟨rfl, hb⟩
      go_wp2_with fail
      go_ret
      exact ⟨rfl, hb⟩
    · have hz' : ¬ (60 : Int) < (n' : Int) := by omega
      have ha := i64_and6 k
      obtain ⟨x, hx⟩ := Int.eq_ofNat_of_zero_le (show 0 ≤ k % 64 by omega)
      have hx64 : x ≤ 64 := by omega
      rw [hx] at ha
      have H1 := Lib.hid (top_any A n c l x w h0.1 h0.2 (by omega) hx64)
      have H0 := Lib.hid h0
      have H0' := Lib.hid h0'
      obtain ⟨i0, hi, hz0, hz1, hz2⟩ := info_parts hit_row
      clear h0 h0' hx
      go_enter Try.func8, Try.ntmps8
      go_wp2_with fail
      refine H1.out.mono ?_
      rintro e w1 ⟨A1, m1, c1, S1, rfl, hT1, hR1, hc1, hc2, hb1⟩
      have H2 := Lib.hid (top_any A' n' c' l' x w1 ((H0'.out.1.below hb1).more hb1.size) H0'.out.2 (by omega) hx64)
      have hl1 : m1 ≤ 64 := by have := hR1.hits_len; rw [List.length_take] at this; omega
      have HR1 := Lib.hid hR1
      have HT1 := Lib.hid hT1
      have HB1 := Lib.hid hb1
      clear hR1 hT1 hb1 hc1 hc2
      go_wp2_with fail
      refine H2.out.mono ?_
      rintro e w2 ⟨A2, m2, c2, S2, rfl, hT2, hR2, hd1, hd2, hb2⟩
      have hl2 : m2 ≤ 64 := by have := hR2.hits_len; rw [List.length_take] at this; omega
      have HR1b := Lib.hid ((HR1.out.below hb2).more hb2.size)
      have HR2 := Lib.hid hR2
      have HT2 := Lib.hid hT2
      have HB2 := Lib.hid (below_two HB1.out hb2)
      have HX := Lib.hid ((H0.out.1.below HB2.out).more HB2.out.size)
      have HY := Lib.hid ((H0'.out.1.below HB2.out).more HB2.out.size)
      have hs1 : w2.heap.size ≤ w2.heap.size := Nat.le_refl _
      clear hR2 hT2 hb2 hd1 hd2 HR1 HB1 H1 H2
      have HS1 := Lib.hid hs1
      have hn64 : n ≤ 64 := by omega
      have hn64' : n' ≤ 64 := by omega
      clear hs1
      go_wp2_with (first
        | (at_builtin; refine wpList_append_any _ rfl (.tmp 41) (.tmp 42) 31 rfl w2.heap.size 37 i0 (hitV (0, 0)) 2 16 Try.underlying31 hi hz0 hz1 hz2 rfl (by decide) _ 0 [] rfl (World.ownsRow_nil ..) w2.heap.size A n c (hits l) rfl HX.out (hits_one l) (by unfold maxLen; omega) (by omega) HS1.out ?_; intro v1 w3 ho3 hg3 hv3; have HB3 := Lib.hid (below_own (nil_own w2) hg3 HS1.out); have HO3 := Lib.hid ho3; have HY3 := Lib.hid (HY.out.below HB3.out); clear ho3 hg3 hv3)
        | (at_builtin; refine wpList_append_any _ rfl (.tmp 44) (.tmp 45) 31 rfl w2.heap.size 37 i0 (hitV (0, 0)) 2 16 Try.underlying31 hi hz0 hz1 hz2 rfl (by decide) _ (0 + n) ([] ++ hits l) rfl HO3.out w2.heap.size A' n' c' (hits l') rfl HY3.out (hits_one l') (by unfold maxLen; omega) (by omega) HB3.out.size ?_; intro v2 w4 ho4 hg4 hv4; have HB4 := Lib.hid (HB3.out.trans (below_own HO3.out hg4 HB3.out.size)); have HO4 := Lib.hid ho4; have HS4 := Lib.hid (Nat.le_refl w4.heap.size); have HT3 := Lib.hid (HR1b.out.below HB4.out); clear ho4 hg4 hv4)
        | (at_builtin; refine wpList_append_any _ rfl (.tmp 47) (.tmp 48) 31 rfl w4.heap.size 37 i0 (hitV (0, 0)) 2 16 Try.underlying31 hi hz0 hz1 hz2 rfl (by decide) _ 0 [] rfl (World.ownsRow_nil ..) w2.heap.size A1 m1 c1 (hits (S1.take x)) rfl HT3.out (hits_one _) (by unfold maxLen; omega) (by omega) HS4.out ?_; intro v5 w5 ho5 hg5 hv5; have HB5 := Lib.hid (below_own (nil_own w4) hg5 HS4.out); have HO5 := Lib.hid ho5; have HT5 := Lib.hid ((HR2.out.below HB4.out).below (HB5.out.mono HB4.out.size)); clear ho5 hg5 hv5)
        | (at_builtin; refine wpList_append_any _ rfl (.tmp 50) (.tmp 51) 31 rfl w4.heap.size 37 i0 (hitV (0, 0)) 2 16 Try.underlying31 hi hz0 hz1 hz2 rfl (by decide) _ (0 + m1) ([] ++ hits (S1.take x)) rfl HO5.out w2.heap.size A2 m2 c2 (hits (S2.take x)) rfl HT5.out (hits_one _) (by unfold maxLen; omega) (by omega) HB5.out.size ?_; intro v6 w6 ho6 hg6 hv6; have HB6 := Lib.hid (HB5.out.trans (below_own HO5.out hg6 HB5.out.size)); have HO6 := Lib.hid ho6; clear ho6 hg6 hv6)
        | fail)
      obtain ⟨A3, m3, c3, rfl, hR3, hm3⟩ := app_done HO4.out hn64 hn64'
      obtain ⟨A4, m4, c4, rfl, hR4, hm4⟩ := app_done HO6.out hl1 hl2
      have HBa := Lib.hid ((HB2.out.trans (HB4.out.mono HB2.out.size)).trans (HB6.out.mono (Nat.le_trans HB2.out.size HB4.out.size)))
      have H3 := Lib.hid (top_any A3 m3 c3 (l ++ l') x w6 ((hR3.below HB6.out).more HB6.out.size) (wf_append H0.out.2 H0'.out.2) hm3 hx64)
      have HR4 := Lib.hid hR4
      clear hR3 hR4 HO4 HO6 HO5 HO3 HT3 HT5 HY3 HB3 HB4 HB5 HB6 HR1b HR2 HX HY HS1 HS4 HB2
      refine H3.out.mono ?_
      rintro e w7 ⟨A5, m5, c5, S3, rfl, hT3, hR5, hc51, hc52, hb7⟩
      have H4 := Lib.hid (top_any A4 m4 c4 (S1.take x ++ S2.take x) x w7 ((HR4.out.below hb7).more hb7.size) (wf_append (wf_top H0.out.2 HT1.out) (wf_top H0'.out.2 HT2.out)) hm4 hx64)
      have HR5 := Lib.hid hR5
      have HC5 : Hid (m5 ≤ maxLen) := Lib.hid (by omega)
      have HTT3 := Lib.hid hT3
      have HB7 := Lib.hid (below_two HBa.out hb7)
      clear hT3 hR5 hc51 hc52 hb7 HBa H3 HR4
      go_wp2_with fail
      refine H4.out.mono ?_
      rintro e w8 ⟨A6, m6, c6, S4, rfl, hT4, hR6, hc61, hc62, hb8⟩
      have hs := same_any A5 A6 m5 m6 c5 c6 _ _ (S3.take x) (S4.take x) w8 (HR5.out.below hb8) hR6 HC5.out (by omega)
      rw [decide_eq_true (merge_take HTT3.out HT1.out HT2.out hT4)] at hs
      have HS := Lib.hid hs
      have HB8 := Lib.hid (below_two HB7.out hb8)
      clear hs hT4 hR6 hc61 hc62 hb8 HB7 H4 HR5 HC5
      go_wp2_with fail
      refine HS.out.mono ?_
      rintro e w9 ⟨rfl, q, rfl⟩
      go_wp2_with fail
      refine (tops_any _).mono ?_
      rintro e w4 ⟨rfl, hb4⟩
      have HF := Lib.hid (below_two (below_drew HB8.out q) hb4)
      clear hb4
      go_wp2_with fail
      go_ret
      exact ⟨rfl, HF.out⟩
end Go.Proofs.Ytahgamjfglcenaa
