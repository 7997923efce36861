/- The walk of VecSearches: it returns true. Conditions: none. -/
import Derived.Test.YtahgamjfglcenaaSearch
set_option linter.unusedVariables false
set_option linter.unusedSimpArgs false
namespace Go.Proofs.Ytahgamjfglcenaa
open Go Go.RowKit
theorem Ans.unique {l : List Pt} {v : List Int} {k : Int} {S X X' : List Hit} {er er' : Int} (h : Ans l v k S X er) (h' : Ans l v k S X' er') : X' = X ∧ er' = er := by
  rcases h with ⟨a, b, c⟩ | ⟨a, b, c, d⟩ | ⟨a, b, c, d, e, f⟩ <;> rcases h' with ⟨a', b', c'⟩ | ⟨a', b', c', d'⟩ | ⟨a', b', c', d', e', f'⟩
  · exact ⟨by rw [b, b'], by rw [c, c']⟩
  · exact absurd a' a
  · exact absurd a' a
  · exact absurd a a'
  · exact ⟨by rw [c, c'], by rw [d, d']⟩
  · exact absurd b (by omega)
  · exact absurd a a'
  · exact absurd b' (by omega)
  · exact ⟨by rw [e, e'], by rw [f, f']⟩
theorem Ans.top {l : List Pt} {v : List Int} {k : Int} {S X : List Hit} {er : Int} (h : Ans l v k S X er) (h1 : AllOk v l) (h2 : 1 ≤ k) (h3 : k ≤ 64) : TopR (hsOf v l) S := by
  rcases h with ⟨a, b, c⟩ | ⟨a, b, c, d⟩ | ⟨a, b, c, d, e, f⟩
  · exact absurd h1 a
  · exact absurd b (by omega)
  · exact d
set_option maxHeartbeats 4000000 in
theorem vecSearches_walk (A : Option Addr) (n c : Nat) (l : List Pt) (A' : Option Addr) (n' c' : Nat) (v : List Int) (k : Int) (w : World) (h0 : Pts w w.heap.size A n l) (hm : n ≤ maxLen) (h1 : Reads w w.heap.size 1 A' n' (ints v)) (hm' : n' ≤ maxLen) :
    Calls Try.prog 7 #[.slice A n c, .slice A' n' c', .int .i64 k] w (Gives (.bool true) w) := by
  by_cases h60 : 60 < n
  · have hz : (60 : Int) < (n : Int) := by omega
    clear h0 h1 hm'
    go_enter Try.func7, Try.ntmps7
    go_wp2_with fail
    refine (tops_any w).mono ?_
    rintro e w1 ⟨rfl, hb⟩
    go_wp2_with fail
    go_ret
    exact ⟨rfl, hb⟩
  · have hz : ¬ (60 : Int) < (n : Int) := by omega
    have hn : n ≤ 60 := by omega
    have H1 := Lib.hid (search_any A n c l A' n' c' v k w h0 h1 hn hm')
    have H0 := Lib.hid h0
    have HV := Lib.hid h1
    have HM := Lib.hid hm'
    clear h0 h1 hm hm'
    go_enter Try.func7, Try.ntmps7
    go_wp2_with fail
    refine H1.out.mono ?_
    rintro e w1 ⟨S, A1, m1, c1, X, er, rfl, hA, hR, hm1, hb1⟩
    have H2 := Lib.hid (rsearch_any A n c l A' n' c' v k S w1 ((H0.out.below hb1).more hb1.size) ((HV.out.below hb1).more hb1.size) hn HM.out (fun a b c => hA.top a b c))
    have HA := Lib.hid hA
    have HR := Lib.hid hR
    have HM1 := Lib.hid hm1
    have HB1 := Lib.hid hb1
    clear hA hR hm1 hb1 H1 H0 HV HM
    go_wp2_with fail
    refine H2.out.mono ?_
    rintro e w2 ⟨A2, m2, c2, X2, er2, rfl, hA2, hR2, hm2, hb2⟩
    obtain ⟨rfl, rfl⟩ := HA.out.unique hA2
    have hs := same_any A1 A2 m1 m2 c1 c2 _ _ X2 X2 w2 (HR.out.below hb2) hR2 HM1.out hm2
    rw [decide_eq_true rfl] at hs
    have HS := Lib.hid hs
    have HB2 := Lib.hid (below_two HB1.out hb2)
    clear hs hA2 hR2 hm2 hb2 H2 HA HR HM1 HB1
    go_wp2_with fail
    refine HS.out.mono ?_
    rintro e w3 ⟨rfl, q, rfl⟩
    go_wp2_with fail
    refine (tops_any _).mono ?_
    rintro e w4 ⟨rfl, hb4⟩
    have HF := Lib.hid (below_two (below_drew HB2.out q) hb4)
    clear hb4
    go_wp2_with fail
    go_ret
    exact ⟨rfl, HF.out⟩
end Go.Proofs.Ytahgamjfglcenaa
