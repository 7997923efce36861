/- ChartPlans returns true. Conditions: chart and nodes read as lists; the tables lie as start-up lays them. -/
import Derived.Test.YtmepahlmbopacaaDoorChRPlan
set_option linter.unusedVariables false
set_option linter.unusedSimpArgs false
set_option maxRecDepth 100000
namespace Go.Proofs.YtmepahlmbopacaaDoor.Ct
open Go Go.RowKit Go.Maps
theorem first_same {l : List Int} {P n E1 E2 : Int} {H1 H2 : List Int} {n1 n2 : Nat} (hl1 : n1 = H1.length) (hl2 : n2 = H2.length)
    (h1 : firstE l P n = 0 ∧ E1 = 1 ∧ (n1 : Int) = n ∧ Homes (zof l P.toNat) n H1 ∨ firstE l P n ≠ 0 ∧ E1 = 0 ∧ H1 = [])
    (h2 : firstE l P n = 0 ∧ E2 = 1 ∧ (n2 : Int) = n ∧ Homes (zof l P.toNat) n H2 ∨ firstE l P n ≠ 0 ∧ E2 = 0 ∧ H2 = []) : E1 = E2 ∧ n1 = n2 ∧ H1 = H2 := by
  rcases h1 with ⟨a0, a1, a2, a3⟩ | ⟨a0, a1, a2⟩
  · rcases h2 with ⟨b0, b1, b2, b3⟩ | ⟨b0, b1, b2⟩
    · have e := a3.uniq zof_in b3 (by omega)
      exact ⟨by omega, by omega, e⟩
    · exact absurd a0 b0
  · rcases h2 with ⟨b0, b1, b2, b3⟩ | ⟨b0, b1, b2⟩
    · exact absurd b0 a0
    · subst a2 b2
      exact ⟨by omega, by omega, rfl⟩
theorem plan_same {e : Int} {a l : List Int} {P : Int} {D1 D2 : List Mv}
    (h1 : planE e a l P = 0 ∧ (∃ H, H.length = a.length ∧ Homes (zof l P.toNat) (a.length : Int) H ∧ D1 = dm a H a.length) ∨ planE e a l P ≠ 0 ∧ D1 = [])
    (h2 : planE e a l P = 0 ∧ (∃ H, H.length = a.length ∧ Homes (zof l P.toNat) (a.length : Int) H ∧ D2 = dm a H a.length) ∨ planE e a l P ≠ 0 ∧ D2 = []) : D1 = D2 ∧ D1.length ≤ a.length := by
  rcases h1 with ⟨a0, H1, a1, a2, a3⟩ | ⟨a0, a1⟩
  · rcases h2 with ⟨b0, H2, b1, b2, b3⟩ | ⟨b0, b1⟩
    · have e := a2.uniq zof_in b2 (by omega)
      subst e
      exact ⟨by rw [a3, b3], by rw [a3]; exact dm_len _ _ _⟩
    · exact absurd a0 b0
  · rcases h2 with ⟨b0, b1⟩ | ⟨b0, b1⟩
    · exact absurd b0 a0
    · subst a1 b1
      exact ⟨rfl, by simp⟩
set_option maxHeartbeats 8000000 in
theorem chartPlans_walk {w : World} {B B' : Nat} {A A' : Option Addr} {n m c c' : Nat} {a l : List Int} (e p q : Int) (hR : Reads w B 1 A n (ints a)) (hB : B ≤ w.heap.size) (hR' : Reads w B' 1 A' m (ints l)) (hB' : B' ≤ w.heap.size) (hn : n ≤ maxLen) (hm : m ≤ maxLen) (hT : Four w) :
    Calls Tryd.prog 3 #[.agg #[.int .i64 e, .slice A n c], .slice A' m c', .agg #[.int .i64 p, .int .i64 q]] w (Gives (.bool true) w) := by
  have hln := hR.len
  obtain ⟨W, hW⟩ : ∃ W, W = (w.alloc (.cells #[.int .i64 e, .slice A n c] 24)).alloc (.cells #[.int .i64 p, .int .i64 q] 25) := ⟨_, rfl⟩
  have hB0 : Below w.heap.size w W := by rw [hW]; exact ((Below.refl _ w).alloc (Nat.le_refl _) _).alloc (by simp) _
  have r1 : Row W w.heap.size 24 [.int .i64 e, .slice A n c] := by
    rw [hW]
    exact (Row.new w 24 [.int .i64 e, .slice A n c]).keep (heap_alloc_lt _ _ (by simp))
  have r2 : Row W (w.heap.size + 1) 25 [.int .i64 p, .int .i64 q] := by
    rw [hW]
    have := Row.new (w.alloc (.cells #[.int .i64 e, .slice A n c] 24)) 25 [.int .i64 p, .int .i64 q]
    rwa [World.size_alloc] at this
  have hsW := hB0.size
  have h1 := (hR.more hB).below hB0
  have h2 := (hR'.more hB').below hB0
  have hTW := hT.on hB0
  have KX := Lib.hid (fun w2 (hb : Below W.heap.size W w2) => show (w2.cell? ⟨w.heap.size, 0, none⟩ = some (.int .i64 e) ∧ w2.cell? ⟨w.heap.size, 1, none⟩ = some (.slice A n c) ∧ w2.cell? ⟨w.heap.size + 1, 0, none⟩ = some (.int .i64 p) ∧ w2.cell? ⟨w.heap.size + 1, 1, none⟩ = some (.int .i64 q) ∧ w.heap.size < w2.heap.size ∧ w.heap.size + 1 < w2.heap.size) from
    ⟨(r1.keep (hb.block _ r1.lt)).cell (j := 0) rfl, (r1.keep (hb.block _ r1.lt)).cell (j := 1) rfl, (r2.keep (hb.block _ r2.lt)).cell (j := 0) rfl, (r2.keep (hb.block _ r2.lt)).cell (j := 1) rfl, (r1.keep (hb.block _ r1.lt)).lt, (r2.keep (hb.block _ r2.lt)).lt⟩)
  have KR := Lib.hid (fun w1 (hb : Below W.heap.size W w1) => show Reads w1 w.heap.size 1 A n (ints a) ∧ Reads w1 w.heap.size 1 A' m (ints l) ∧ w.heap.size ≤ w1.heap.size ∧ Four w1 from ⟨h1.below (hb.mono hsW), h2.below (hb.mono hsW), Nat.le_trans hsW hb.size, hTW.on hb⟩)
  have HW := Lib.hid hW
  have HB0 := Lib.hid hB0
  have HAW := Lib.hid (fun W' => cawake_any W')
  have HL := Lib.hid hln
  by_cases hbig : (100 : Int) < (n : Int)
  · clear hR hR' hB hB' hB0 r1 r2 hsW h1 h2 hTW hT hW hln
    go_enter Tryd.func3, Tryd.ntmps3
    go_wp2_with fail
    rw [← HW.out]
    refine (HAW.out _).mono ?_
    rintro en w1 ⟨rfl, hb⟩
    go_wp2_with fail
    go_ret
    exact ⟨rfl, below_then HB0.out hb⟩
  · by_cases hbig2 : (100 : Int) < (m : Int)
    · clear hR hR' hB hB' hB0 r1 r2 hsW h1 h2 hTW hT hW hln
      go_enter Tryd.func3, Tryd.ntmps3
      go_wp2_with fail
      rw [← HW.out]
      refine (HAW.out _).mono ?_
      rintro en w1 ⟨rfl, hb⟩
      go_wp2_with fail
      go_ret
      exact ⟨rfl, below_then HB0.out hb⟩
    · have HF := Lib.hid (first_any (w := W) (c := c') h2 hsW hm p q hTW)
      have hn100 : n ≤ 100 := by omega
      clear hR hR' hB hB' hB0 r1 r2 hsW h1 h2 hTW hT hW hln
      go_enter Tryd.func3, Tryd.ntmps3
      go_wp2_with fail
      rw [← HW.out]
      refine HF.out.mono ?_
      rintro en w1 ⟨E1, A1, n1, c1, H1, rfl, hR1, hnc1, hcm1, hor1, hb1⟩
      obtain ⟨U1, hU1⟩ : ∃ U1, U1 = w1.alloc (.cells #[.int .i64 E1, .slice A1 n1 c1] 24) := ⟨_, rfl⟩
      have hbU : Below W.heap.size W U1 := by rw [hU1]; exact hb1.alloc hb1.size _
      have hU1s : U1.heap.size = w1.heap.size + 1 := by rw [hU1]; simp
      have ru1 : Row U1 w1.heap.size 24 [.int .i64 E1, .slice A1 n1 c1] := by rw [hU1]; exact Row.new w1 24 [.int .i64 E1, .slice A1 n1 c1]
      have hRU1 : Reads U1 w1.heap.size 1 A1 n1 (ints H1) := by rw [hU1]; exact hR1.alloc (Nat.le_refl _) _
      obtain ⟨x0, x1, y0, y1, xl, yl⟩ := KX.out w1 hb1
      obtain ⟨_, hRl, hsl, hTl⟩ := KR.out U1 hbU
      have HF2 := Lib.hid (rFirst_any (w := U1) (c := c') hRl hsl p q hTl)
      have HU1 := Lib.hid hU1
      have HO1 := Lib.hid (And.intro hbU (And.intro ru1 (And.intro hRU1 (And.intro hor1 (And.intro hU1s (And.intro hnc1 hcm1))))))
      clear hb1 hU1 hbU ru1 hRU1 hRl hsl hTl hor1 hR1 HF hU1s hnc1 hcm1
      go_wp2_with fail
      rw [← HU1.out]
      refine HF2.out.mono ?_
      rintro en w2 ⟨E2, A2, n2, c2, H2, rfl, hR2, _, _, hor2, hb2⟩
      obtain ⟨rfl, rfl, rfl⟩ := first_same HO1.out.2.2.1.len hR2.len HO1.out.2.2.2.1 hor2
      obtain ⟨U2, hU2⟩ : ∃ U2, U2 = w2.alloc (.cells #[.int .i64 E1, .slice A2 n1 c2] 24) := ⟨_, rfl⟩
      have hb12 : Below U1.heap.size U1 U2 := by rw [hU2]; exact hb2.alloc hb2.size _
      have hU2s : U2.heap.size = w2.heap.size + 1 := by rw [hU2]; simp
      have hbW := HO1.out.1.trans (hb12.mono HO1.out.1.size)
      have ru1 := HO1.out.2.1.keep (hb12.block _ HO1.out.2.1.lt)
      have hRU1 := HO1.out.2.2.1.below (hb12.mono (by have := HO1.out.2.2.2.2.1; omega))
      have ru2 : Row U2 w2.heap.size 24 [.int .i64 E1, .slice A2 n1 c2] := by rw [hU2]; exact Row.new w2 24 [.int .i64 E1, .slice A2 n1 c2]
      have hRU2 : Reads U2 w2.heap.size 1 A2 n1 (ints H1) := by rw [hU2]; exact hR2.alloc (Nat.le_refl _) _
      clear x0 x1 y0 y1 xl yl
      obtain ⟨x0, x1, y0, y1, xl, yl⟩ := KX.out w2 (HO1.out.1.trans (hb2.mono HO1.out.1.size))
      obtain ⟨hRa, hRl, hsl, hTl⟩ := KR.out U2 hbW
      have HP := Lib.hid (plan_any (w := U2) (c := c) (c' := c') e hRa hsl hRl hsl hm p hTl)
      have HU2 := Lib.hid hU2
      have hw1s : w1.heap.size + 1 ≤ U2.heap.size := by have := hb12.size; have := HO1.out.2.2.2.2.1; omega
      have HO2 := Lib.hid (And.intro hbW (And.intro ru1 (And.intro hRU1 (And.intro ru2 (And.intro hRU2 (And.intro hw1s (show w2.heap.size + 1 ≤ U2.heap.size by omega)))))))
      have HN1 := Lib.hid (Nat.le_trans HO1.out.2.2.2.2.2.1 HO1.out.2.2.2.2.2.2)
      clear hb2 hU2 hb12 hU2s hbW ru1 hRU1 ru2 hRU2 hRa hRl hsl hTl hw1s hor2 hR2 HO1 HF2
      go_wp2_with fail
      rw [← HU2.out]
      refine HP.out.mono ?_
      rintro en w3 ⟨v3, D1, rfl, hown3, hpor1, hb3⟩
      obtain ⟨A3, c3, rfl, _, _⟩ := own_shape hown3
      have hbW := HO2.out.1.trans (hb3.mono HO2.out.1.size)
      clear x0 x1 y0 y1 xl yl
      obtain ⟨x0, x1, y0, y1, xl, yl⟩ := KX.out w3 hbW
      obtain ⟨hRa, hRl, hsl, hTl⟩ := KR.out w3 hbW
      have HP2 := Lib.hid (rPlan_any (w := w3) (c := c) (c' := c') e hRa hsl hn hRl hsl p hTl)
      have HO3 := Lib.hid (And.intro hb3 (And.intro hbW (And.intro (Reads.of_own hown3) hpor1)))
      clear hb3 hbW hRa hRl hsl hTl hown3 hpor1 HP
      go_wp2_with fail
      refine HP2.out.mono ?_
      rintro en w4 ⟨v4, D2, rfl, hown4, hpor2, hb4⟩
      obtain ⟨A4, c4, rfl, _, _⟩ := own_shape hown4
      obtain ⟨rfl, hDl⟩ := plan_same HO3.out.2.2.2 hpor2
      have hb24 := HO3.out.1.trans (hb4.mono HO3.out.1.size)
      have hbW := HO2.out.1.trans (hb24.mono HO2.out.1.size)
      have ru1 := HO2.out.2.1.keep (hb24.block _ HO2.out.2.1.lt)
      have ru2 := HO2.out.2.2.2.1.keep (hb24.block _ HO2.out.2.2.2.1.lt)
      have HS := Lib.hid (sameC_any (w := w4) (c := c1) (c' := c2) E1 (HO2.out.2.2.1.below (hb24.mono (by have := HO2.out.2.2.2.2.2.1; omega))) (by have := HO2.out.2.2.2.2.2.1; have := hb24.size; omega) (HO2.out.2.2.2.2.1.below (hb24.mono (by have := HO2.out.2.2.2.2.2.2; omega))) (by have := HO2.out.2.2.2.2.2.2; have := hb24.size; omega) HN1.out)
      have KM := Lib.hid (fun w' (hb : Below w4.heap.size w4 w') => sameMoves_any A3 A4 D1.length c3 c4 w3.heap.size w4.heap.size D1 w' ((HO3.out.2.2.1.below hb4).below (hb.mono hb4.size)) ((Reads.of_own hown4).below hb) (by have := HL.out; omega))
      have a0 := ru1.cell (j := 0) rfl
      have a1 := ru1.cell (j := 1) rfl
      have al := ru1.lt
      have b0 := ru2.cell (j := 0) rfl
      have b1 := ru2.cell (j := 1) rfl
      have bl := ru2.lt
      have HBW := Lib.hid (HB0.out.trans (hbW.mono HB0.out.size))
      clear hb24 hbW ru1 ru2 hb4 hown4 hpor2 hDl x0 x1 y0 y1 xl yl HP2 HO3 HO2
      generalize planE e a l p = pe at *
      generalize firstE l p q = fe at *
      go_wp2_with fail
      refine HS.out.mono ?_
      rintro en w5 ⟨rfl, hb5⟩
      have HM := Lib.hid (KM.out w5 hb5)
      have HB5 := Lib.hid (below_then HBW.out hb5)
      clear hb5
      go_wp2_with fail
      refine HM.out.mono ?_
      rintro en w6 ⟨rfl, q6, rfl⟩
      go_wp2_with fail
      refine (HAW.out _).mono ?_
      rintro en w7 ⟨rfl, hb7⟩
      go_wp2_with fail
      go_ret
      exact ⟨rfl, below_then (below_drewN HB5.out q6) hb7⟩
end Go.Proofs.YtmepahlmbopacaaDoor.Ct
