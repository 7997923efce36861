/- ChartMoves returns true. Conditions: the charts' nodes read as lists. -/
import Derived.Test.YtmepahlmbopacaaChAwk
import Derived.Deep.RegionHeld3
set_option linter.unusedVariables false
set_option linter.unusedSimpArgs false
set_option maxRecDepth 100000
namespace Go.Proofs.Ytmepahlmbopacaa.Ct
open Go Go.RowKit
theorem diffL_len (e : Int) (a : List Int) (f : Int) (b : List Int) (h : a.length ≤ 1000) : (diffL e a f b).length ≤ 1000 := by
  unfold diffL
  split
  · exact Nat.le_trans (dm_len _ _ _) h
  · simp
/-- Three boxes: two charts and a move. -/
structure MBox (w W : World) (e : Int) (A : Option Addr) (n c : Nat) (e' : Int) (A' : Option Addr) (n' c' : Nat) (m : Mv) : Prop where
  b0 : Row W w.heap.size 24 [.int .i64 e, .slice A n c]
  b1 : Row W (w.heap.size + 1) 24 [.int .i64 e', .slice A' n' c']
  b2 : Row W (w.heap.size + 1 + 1) 26 [.int .i64 m.s, .int .i64 m.f, .int .i64 m.t]
  below : Below w.heap.size w W
  le : w.heap.size + 3 ≤ W.heap.size
theorem MBox.new (w : World) (e : Int) (A : Option Addr) (n c : Nat) (e' : Int) (A' : Option Addr) (n' c' : Nat) (m : Mv) : MBox w (((w.alloc (.cells #[.int .i64 e, .slice A n c] 24)).alloc (.cells #[.int .i64 e', .slice A' n' c'] 24)).alloc (.cells #[.int .i64 m.s, .int .i64 m.f, .int .i64 m.t] 26)) e A n c e' A' n' c' m := by
  have e1 : (w.alloc (.cells #[.int .i64 e, .slice A n c] 24)).heap.size = w.heap.size + 1 := by simp
  have e2 : ((w.alloc (.cells #[.int .i64 e, .slice A n c] 24)).alloc (.cells #[.int .i64 e', .slice A' n' c'] 24)).heap.size = w.heap.size + 1 + 1 := by simp
  refine ⟨?_, ?_, ?_, (((Below.refl _ w).alloc (Nat.le_refl _) _).alloc (by omega) _).alloc (by omega) _, by simp⟩
  · exact ((Row.new w 24 [.int .i64 e, .slice A n c]).keep (heap_alloc_lt _ _ (by omega))).keep (heap_alloc_lt _ _ (by omega))
  · have := Row.new (w.alloc (.cells #[.int .i64 e, .slice A n c] 24)) 24 [.int .i64 e', .slice A' n' c']
    rw [e1] at this
    exact this.keep (heap_alloc_lt _ _ (by omega))
  · have := Row.new ((w.alloc (.cells #[.int .i64 e, .slice A n c] 24)).alloc (.cells #[.int .i64 e', .slice A' n' c'] 24)) 26 [.int .i64 m.s, .int .i64 m.f, .int .i64 m.t]
    rw [e2] at this
    exact this
theorem MBox.under {w W W' : World} {e : Int} {A : Option Addr} {n c : Nat} {e' : Int} {A' : Option Addr} {n' c' : Nat} {m : Mv} (h : MBox w W e A n c e' A' n' c' m) {B : Nat} (hb : Below B W W') (hB : w.heap.size + 3 ≤ B) : MBox w W' e A n c e' A' n' c' m :=
  ⟨h.b0.keep (hb.block _ (by omega)), h.b1.keep (hb.block _ (by omega)), h.b2.keep (hb.block _ (by omega)), h.below.trans (hb.mono (by omega)), Nat.le_trans h.le hb.size⟩
set_option maxHeartbeats 8000000 in
theorem chartMoves_walk {w : World} {B B' : Nat} {A A' : Option Addr} {n n' c c' : Nat} {l l' : List Int} (e e' : Int) (m : Mv) (hR : Reads w B 1 A n (ints l)) (hB : B ≤ w.heap.size) (hR' : Reads w B' 1 A' n' (ints l')) (hB' : B' ≤ w.heap.size) (hnc : n ≤ c) (hc : c ≤ maxLen) :
    Calls Try.prog 3 #[.agg #[.int .i64 e, .slice A n c], .agg #[.int .i64 e', .slice A' n' c'], .agg #[.int .i64 m.s, .int .i64 m.f, .int .i64 m.t]] w (Gives (.bool true) w) := by
  have hM := MBox.new w e A n c e' A' n' c' m
  generalize hW : ((w.alloc (.cells #[.int .i64 e, .slice A n c] 24)).alloc (.cells #[.int .i64 e', .slice A' n' c'] 24)).alloc (.cells #[.int .i64 m.s, .int .i64 m.f, .int .i64 m.t] 26) = W at *
  have hln := hR.len
  by_cases hbig : (100 : Int) < (n : Int) ∨ (100 : Int) < (n' : Int)
  · have HAW := Lib.hid (cawake_any W)
    have HB0 := Lib.hid hM.below
    have HW := Lib.hid hW
    clear hM hW hR hR' hB hB' hln
    rcases hbig with hb1 | hb1
    · go_enter Try.func3, Try.ntmps3
      go_wp2_with fail
      rw [HW.out]
      refine HAW.out.mono ?_
      rintro en w1 ⟨rfl, hb⟩
      go_wp2_with fail
      go_ret
      exact ⟨rfl, below_then HB0.out hb⟩
    · by_cases hb0 : (100 : Int) < (n : Int)
      · go_enter Try.func3, Try.ntmps3
        go_wp2_with fail
        rw [HW.out]
        refine HAW.out.mono ?_
        rintro en w1 ⟨rfl, hb⟩
        go_wp2_with fail
        go_ret
        exact ⟨rfl, below_then HB0.out hb⟩
      · go_enter Try.func3, Try.ntmps3
        go_wp2_with fail
        rw [HW.out]
        refine HAW.out.mono ?_
        rintro en w1 ⟨rfl, hb⟩
        go_wp2_with fail
        go_ret
        exact ⟨rfl, below_then HB0.out hb⟩
  · have hn1 : ¬ (100 : Int) < (n : Int) := fun h => hbig (.inl h)
    have hn2 : ¬ (100 : Int) < (n' : Int) := fun h => hbig (.inr h)
    clear hbig
    have h1 := (hR.more hB).below hM.below
    have h2 := (hR'.more hB').below hM.below
    have HLN := Lib.hid (show n = l.length ∧ n ≤ 100 by omega)
    have HDL := Lib.hid (diffL_len e l e' l' (by omega))
    have hsW := hM.below.size
    have KX := Lib.hid (fun w1 (hb : Below W.heap.size W w1) => hM.under hb hM.le)
    have KR := Lib.hid (fun w1 (hb : Below W.heap.size W w1) => And.intro (h1.below (hb.mono hsW)) (And.intro (h2.below (hb.mono hsW)) (Nat.le_trans hsW hb.size)))
    have HD1 := Lib.hid (diff_any (c := c) (c' := c') e e' h1 hsW h2 hsW)
    have HW := Lib.hid hW
    have HB0 := Lib.hid hM.below
    have hm1 : n ≤ maxLen := Nat.le_trans hnc hc
    have hm2 : n' ≤ maxLen := by unfold maxLen; omega
    clear hM hW hR hR' hB hB' hln h1 h2
    go_enter Try.func3, Try.ntmps3
    go_wp2_with fail
    rw [HW.out]
    refine HD1.out.mono ?_
    rintro en w1 ⟨v, rfl, hown1, hb1⟩
    obtain ⟨Am, cm, rfl, _, _⟩ := own_shape hown1
    have hM1 := KX.out w1 hb1
    obtain ⟨r1, r2, rs⟩ := KR.out w1 hb1
    have a0 := hM1.b0.cell (j := 0) rfl
    have a1 := hM1.b0.cell (j := 1) rfl
    have al := hM1.b0.lt
    have b0 := hM1.b1.cell (j := 0) rfl
    have b1 := hM1.b1.cell (j := 1) rfl
    have bl := hM1.b1.lt
    have HD2 := Lib.hid (rDiff_any (c := c) (c' := c') e e' r1 rs r2 rs hm1 hm2)
    have HO1 := Lib.hid (And.intro (Reads.of_own hown1) hb1)
    clear hown1 hb1 hM1 r1 r2 rs HD1
    go_wp2_with fail
    refine HD2.out.mono ?_
    rintro en w2 ⟨v2, rfl, hown2, hb2⟩
    obtain ⟨Ak, ck, rfl, _, _⟩ := own_shape hown2
    have hb02 := below_then HO1.out.2 hb2
    have hM2 := KX.out w2 hb02
    obtain ⟨r1, r2, rs⟩ := KR.out w2 hb02
    clear a0 a1 al b0 b1 bl
    have a0 := hM2.b0.cell (j := 0) rfl
    have a1 := hM2.b0.cell (j := 1) rfl
    have al := hM2.b0.lt
    have b0 := hM2.b2.cell (j := 0) rfl
    have b1 := hM2.b2.cell (j := 1) rfl
    have b2 := hM2.b2.cell (j := 2) rfl
    have bl := hM2.b2.lt
    have HG1 := Lib.hid (done_any (c := c) e r1 rs m hnc hc)
    have HO2 := Lib.hid (And.intro (HO1.out.1.below hb2) (And.intro (Reads.of_own hown2) (And.intro hb02 hb2.size)))
    clear hown2 hb2 hM2 r1 r2 rs HD2 HO1 hb02
    go_wp2_with fail
    refine HG1.out.mono ?_
    rintro en w3 ⟨A3, n3, c3, rfl, hown3, hb3⟩
    have hb03 := below_then HO2.out.2.2.1 hb3
    have hb03' : Below W.heap.size W (w3.alloc (.cells #[.int .i64 (doneN e l m), .slice A3 n3 c3] 24)) := hb03.alloc hb03.size _
    have hM3 := KX.out _ hb03'
    obtain ⟨r1, r2, rs⟩ := KR.out _ hb03'
    have hrow3 := Row.new w3 24 [.int .i64 (doneN e l m), .slice A3 n3 c3]
    change Row (w3.alloc (.cells #[.int .i64 (doneN e l m), .slice A3 n3 c3] 24)) _ _ _ at hrow3
    have hM3w := KX.out _ hb03
    obtain ⟨U3, hU3⟩ : ∃ U3, U3 = w3.alloc (.cells #[.int .i64 (doneN e l m), .slice A3 n3 c3] 24) := ⟨_, rfl⟩
    rw [← hU3] at hb03' hM3 r1 r2 rs hrow3
    have hb3U : Below w2.heap.size w2 U3 := by rw [hU3]; exact hb3.alloc hb3.size _
    have HO3 := Lib.hid (And.intro (HO2.out.1.below (hb3U.mono HO2.out.2.2.2)) (And.intro (HO2.out.2.1.below hb3U) (And.intro (show Reads U3 w3.heap.size 1 A3 n3 (ints (doneL e l m)) by rw [hU3]; exact (Reads.of_own hown3).alloc (Nat.le_refl _) _) (And.intro hrow3 (And.intro hb03' (And.intro (Nat.le_trans HO2.out.2.2.2 hb3U.size) (And.intro hb3U.size (show w3.heap.size + 1 = U3.heap.size by rw [hU3]; simp))))))))
    clear a0 a1 al b0 b1 b2 bl
    have a0 := hM3w.b0.cell (j := 0) rfl
    have a1 := hM3w.b0.cell (j := 1) rfl
    have al := hM3w.b0.lt
    have b0 := hM3w.b2.cell (j := 0) rfl
    have b1 := hM3w.b2.cell (j := 1) rfl
    have b2 := hM3w.b2.cell (j := 2) rfl
    have bl := hM3w.b2.lt
    have HG2 := Lib.hid (rdone_any (c := c) e r1 rs m hnc hc)
    have HU3 := Lib.hid hU3
    clear hown3 hb3 hb03 hb03' hM3 hM3w r1 r2 rs hrow3 hU3 hb3U HG1 HO2
    go_wp2_with fail
    rw [← HU3.out]
    refine HG2.out.mono ?_
    rintro en w4 ⟨A4, n4, c4, rfl, hown4, hb4⟩
    have e3 := own_len hown4
    have e4 := HO3.out.2.2.1.len
    have hdl : (doneL e l m).length ≤ 1000 := by
      unfold doneL
      split
      · rw [List.length_set]; have := HLN.out; omega
      · simp
    generalize doneN e l m = E at *
    generalize doneE e l m = Er at *
    generalize doneL e l m = L at *
    obtain rfl : n4 = n3 := by omega
    have HN4 := Lib.hid (show n4 ≤ 1000 by omega)
    clear e3 e4 hdl
    obtain ⟨U4, hU4⟩ : ∃ U4, U4 = w4.alloc (.cells #[.int .i64 E, .slice A4 n4 c4] 24) := ⟨_, rfl⟩
    have hb34 : Below U3.heap.size U3 U4 := by rw [hU4]; exact hb4.alloc hb4.size _
    have hrow4 : Row U4 w4.heap.size 24 [.int .i64 E, .slice A4 n4 c4] := by rw [hU4]; exact Row.new w4 24 [.int .i64 E, .slice A4 n4 c4]
    have hR4 : Reads U4 w4.heap.size 1 A4 n4 (ints L) := by rw [hU4]; exact (Reads.of_own hown4).alloc (Nat.le_refl _) _
    have hs4 : w4.heap.size + 1 = U4.heap.size := by rw [hU4]; simp
    obtain ⟨p1, p2, p3, p4, p5, p6, p7, p8⟩ := HO3.out
    have hb04 : Below W.heap.size W U4 := p5.trans (hb34.mono p5.size)
    have hM4 := KX.out _ hb04
    obtain ⟨r1, r2, rs⟩ := KR.out _ hb04
    have hU34 := hb34.size
    have hr3 := p4.keep (hb34.block _ p4.lt)
    have hB0 : Below U4.heap.size U4 U4.drew := below_drewN (Below.refl _ U4) 1
    have KS := Lib.hid (fun w' (hb : Below U4.heap.size U4 w') => show w'.cell? ⟨w.heap.size, 0, none⟩ = some (.int .i64 e) ∧ w'.cell? ⟨w.heap.size, 1, none⟩ = some (.slice A n c) ∧ w'.cell? ⟨w3.heap.size, 0, none⟩ = some (.int .i64 E) ∧ w'.cell? ⟨w3.heap.size, 1, none⟩ = some (.slice A3 n4 c3) ∧ w'.cell? ⟨w4.heap.size, 0, none⟩ = some (.int .i64 E) ∧ w'.cell? ⟨w4.heap.size, 1, none⟩ = some (.slice A4 n4 c4) from
      ⟨(hb.cell (p := ⟨w.heap.size, 0, none⟩) hM4.b0.lt).trans (hM4.b0.cell (j := 0) rfl), (hb.cell (p := ⟨w.heap.size, 1, none⟩) hM4.b0.lt).trans (hM4.b0.cell (j := 1) rfl), (hb.cell (p := ⟨w3.heap.size, 0, none⟩) hr3.lt).trans (hr3.cell (j := 0) rfl), (hb.cell (p := ⟨w3.heap.size, 1, none⟩) hr3.lt).trans (hr3.cell (j := 1) rfl), (hb.cell (p := ⟨w4.heap.size, 0, none⟩) hrow4.lt).trans (hrow4.cell (j := 0) rfl), (hb.cell (p := ⟨w4.heap.size, 1, none⟩) hrow4.lt).trans (hrow4.cell (j := 1) rfl)⟩)
    have KM := Lib.hid (fun w' (hb : Below U4.heap.size U4 w') => sameMoves_any Am Ak (diffL e l e' l').length cm ck w1.heap.size w2.heap.size (diffL e l e' l') w' (((p1.below (hb34.mono (by omega))).more (Nat.le_refl _)).below (hb.mono (by omega))) ((p2.below (hb34.mono (by omega))).below (hb.mono (by omega))) HDL.out)
    have KSa := Lib.hid (fun w' (hb : Below U4.heap.size U4 w') => sameC_any (c := c3) (c' := c4) E (((p3.below (hb34.mono (by omega))).below (hb.mono (by omega)))) (Nat.le_trans (by omega) hb.size) (hR4.below (hb.mono (by omega))) (Nat.le_trans (by omega) hb.size) (show n4 ≤ maxLen by have := HN4.out; unfold maxLen; omega))
    have KC := Lib.hid (fun w' (hb : Below U4.heap.size U4 w') => check_any (c := c) e (r1.below (hb.mono rs)) (Nat.le_trans rs hb.size))
    have KD := Lib.hid (fun w' (hb : Below U4.heap.size U4 w') => rcheck_any (c := c) e (r1.below (hb.mono rs)) (Nat.le_trans rs hb.size) hm1)
    have HU4 := Lib.hid hU4
    have HB4 := Lib.hid hB0
    have HBW := Lib.hid (HB0.out.trans (hb04.mono HB0.out.size))
    have h0 := KS.out _ hB0
    obtain ⟨k0, k1, k2, k3, k4, k5⟩ := KS.out _ (Below.refl _ U4)
    have z1 := hM4.b0.lt
    have z3 := hr3.lt
    have z4 := hrow4.lt
    have HS0 := Lib.hid h0
    clear hown4 hb4 hU4 hb34 hrow4 hR4 hs4 p1 p2 p3 p4 p5 p6 p7 p8 hb04 hM4 r1 r2 rs hr3 hB0 h0 HO3 HG2 KX KR a0 a1 al b0 b1 b2 bl hm1 hm2 hnc hc hsW hU34 HU3
    generalize (diffL e l e' l').length = N at *
    generalize diffE e l e' l' = De at *
    generalize mayC e l = my at *
    obtain ⟨kk, hkk⟩ : ∃ kk : Int, okV my = .int .i64 kk := ⟨_, rfl⟩
    rw [hkk] at KC KD
    clear hkk
    go_wp2_with fail
    rw [← HU4.out]
    go_region_held3 (fun w' => w'.cell? ⟨w.heap.size, 0, none⟩ = some (.int .i64 e) ∧ w'.cell? ⟨w.heap.size, 1, none⟩ = some (.slice A n c) ∧ w'.cell? ⟨w3.heap.size, 0, none⟩ = some (.int .i64 E) ∧ w'.cell? ⟨w3.heap.size, 1, none⟩ = some (.slice A3 n4 c3) ∧ w'.cell? ⟨w4.heap.size, 0, none⟩ = some (.int .i64 E) ∧ w'.cell? ⟨w4.heap.size, 1, none⟩ = some (.slice A4 n4 c4))
      (first | exact HS9.out | exact HS8.out | exact HS7.out | exact HS6.out | exact HS5.out | exact HS0.out)
      (first
        | (go_at_call 11; with_reducible refine (KM.out _ HB4.out).mono ?_; intro en w5 hpost; unfold SaysC at hpost; obtain ⟨rfl, q5, rfl⟩ := hpost; have HB5 := Lib.hid (below_drewN (Below.refl U4.heap.size U4) (1 + q5)); have HS5 := Lib.hid (KS.out _ HB5.out))
        | (go_at_call 12; with_reducible refine (KSa.out _ HB5.out).mono ?_; intro en w6 hpost; unfold Gives at hpost; obtain ⟨rfl, hb6⟩ := hpost; have HB6 := Lib.hid (below_then HB5.out hb6); have HS6 := Lib.hid (KS.out _ HB6.out); clear hb6)
        | (go_at_call 13; with_reducible refine (KC.out _ HB6.out).mono ?_; intro en w7 hpost; unfold Gives at hpost; obtain ⟨rfl, hb7⟩ := hpost; have HB7 := Lib.hid (below_then HB6.out hb7); have HS7 := Lib.hid (KS.out _ HB7.out); clear hb7)
        | (go_at_call 14; with_reducible refine (KD.out _ HB7.out).mono ?_; intro en w8 hpost; unfold Gives at hpost; obtain ⟨rfl, hb8⟩ := hpost; have HB8 := Lib.hid (below_then HB7.out hb8); have HS8 := Lib.hid (KS.out _ HB8.out); clear hb8)
        | (go_at_call 6; with_reducible refine (cawake_any _).mono ?_; intro en w9 hpost; unfold Gives at hpost; obtain ⟨rfl, hb9⟩ := hpost; have HB9 := Lib.hid (below_then HB8.out hb9); have HS9 := Lib.hid (KS.out _ HB9.out); clear hb9))
    all_goals
      go_wp2_with fail
      go_ret
      exact ⟨rfl, HBW.out.trans (HB9.out.mono HBW.out.size)⟩
end Go.Proofs.Ytmepahlmbopacaa.Ct
