/- ChartTexts returns true. Conditions: the chart's nodes read as a list; Go's table of powers of ten lies below. -/
import Derived.Test.YtmepahlmbopacaaDoorChROf
set_option linter.unusedVariables false
set_option linter.unusedSimpArgs false
set_option maxRecDepth 100000
namespace Go.Proofs.YtmepahlmbopacaaDoor.Ct
open Go Go.RowKit
open Be (T enc encL kindsOk kindsOkL deepT deepL wfT wfL tidy tidyL onlyRes takeRes gdT numT numL RdL Rd RdA ReadsP Keeps)
def litC : ByteArray := ⟨#[108, 105, 52, 101, 108, 105, 48, 101, 105, 49, 101, 101, 101]⟩
theorem lit_may : mayC 4 [0, 1] = true := by decide
theorem lit_text : textB 4 [0, 1] = litC := by decide +kernel
theorem lit_of : ofC litC = some (4, [0, 1]) := by rw [← lit_text]; exact ofC_text lit_may
theorem lit_txS : txS 4 [0, 1] = litC := by unfold txS; rw [if_pos lit_may, lit_text]
theorem Tabs_on {w w' : World} (h : Be.Tabs w w.heap.size) (hb : Below w.heap.size w w') : Be.Tabs w' w'.heap.size := (h.on hb).up hb.size
set_option maxHeartbeats 4000000 in
theorem texts_any (w : World) (hT : Be.Tabs w w.heap.size) : Calls Tryd.prog 14 #[] w (Gives (.bool true) w) := by
  obtain ⟨W, hW⟩ : ∃ W, W = w.alloc (.cells #[.int .i64 0, .int .i64 1] 3) := ⟨_, rfl⟩
  have hB0 : Below w.heap.size w W := by rw [hW]; exact (Below.refl _ w).alloc (Nat.le_refl _) _
  have hR : Reads W (w.heap.size + 1) 1 (some ⟨w.heap.size, 0, none⟩) 2 (ints [0, 1]) := by rw [hW]; exact news_int w [0, 1] (by simp)
  have HX : Hid (Calls Tryd.prog 15 #[.agg #[.int .i64 4, .slice (some ⟨w.heap.size, 0, none⟩) 2 2]] W (Gives (.tuple #[.string litC, .int .i64 0]) W)) := Lib.hid (by
    have := ctext_any (w := W) (c := 2) 4 hR (by rw [hW]; simp) (Tabs_on hT hB0)
    rw [lit_txS, if_pos lit_may] at this
    exact this)
  have HW := Lib.hid hW
  have HB0 := Lib.hid hB0
  have HT := Lib.hid hT
  clear hR hW hB0 hT
  go_enter Tryd.func14, Tryd.ntmps14
  go_wp2_with fail
  rw [← HW.out]
  refine HX.out.mono ?_
  rintro en w1 ⟨rfl, hb1⟩
  have hbw := HB0.out.trans (hb1.mono HB0.out.size)
  have HO : Hid (Calls Tryd.prog 17 #[.string ⟨#[108, 105, 52, 101, 108, 105, 48, 101, 105, 49, 101, 101, 101]⟩] w1 (OfPost (some (4, [0, 1])) w1)) := Lib.hid (by
    have := cof_any litC (by decide) w1 (Tabs_on HT.out hbw)
    rw [lit_of] at this
    exact this)
  have HB1 := Lib.hid hbw
  clear hb1 hbw
  unfold litC
  go_wp2_with fail
  refine HO.out.mono ?_
  rintro en w2 ⟨A1, n1, c1, rfl, hR1, hb2⟩
  simp only [ofR] at hR1 ⊢
  obtain rfl : n1 = 2 := hR1.len
  have hbw := below_then HB1.out hb2
  obtain ⟨U, hU⟩ : ∃ U, U = (w2.alloc (.cells #[.int .i64 4, .slice A1 2 c1] 24)).alloc (.cells #[.int .i64 0, .int .i64 1] 3) := ⟨_, rfl⟩
  have hbU : Below w.heap.size w U := by rw [hU]; exact (hbw.alloc hbw.size _).alloc (by have := hbw.size; simp; omega) _
  have hRa : Reads U w2.heap.size 1 A1 2 (ints [0, 1]) := by rw [hU]; exact (hR1.alloc (Nat.le_refl _) _).alloc (by simp) _
  have hRb : Reads U (w2.heap.size + 1 + 1) 1 (some ⟨w2.heap.size + 1, 0, none⟩) 2 (ints [0, 1]) := by
    rw [hU]
    have := news_int (w2.alloc (.cells #[.int .i64 4, .slice A1 2 c1] 24)) [0, 1] (by simp)
    rwa [World.size_alloc] at this
  have hs : w2.heap.size + 1 + 1 ≤ U.heap.size := by rw [hU]; simp
  have HS : Hid (Calls Tryd.prog 11 #[.agg #[.int .i64 4, .slice A1 2 c1], .agg #[.int .i64 4, .slice (some ⟨w2.heap.size + 1, 0, none⟩) 2 2]] U (Gives (.bool true) U)) := Lib.hid (sameC_any 4 hRa (by omega) hRb hs (by unfold maxLen; omega))
  have HU := Lib.hid hU
  have HBU := Lib.hid hbU
  clear hb2 hbw hU hbU hRa hRb hs hR1
  go_wp2_with fail
  rw [← HU.out]
  refine HS.out.mono ?_
  rintro en w3 ⟨rfl, hb3⟩
  go_wp2_with fail
  go_ret
  exact ⟨rfl, below_then HBU.out hb3⟩
theorem ofR_len {r : Option (Int × List Int)} {s : ByteArray} (h : ofC s = r) : (ofR r).2.1.length ≤ 16 := by
  cases r with
  | none => simp [ofR]
  | some p => exact (mayC_iff.1 (ofC_some h).1).2.1.2
def OfP (e3 : Int) (l3 : List Int) (r3 : Int) (w : World) (en : Ending) (w' : World) : Prop := ∃ A1 n1 c1, en = .returned (.tuple #[.agg #[.int .i64 e3, .slice A1 n1 c1], .int .i64 r3]) ∧ Reads w' w'.heap.size 1 A1 n1 (ints l3) ∧ Below w.heap.size w w'
theorem OfPost.to {r : Option (Int × List Int)} {e3 : Int} {l3 : List Int} {r3 : Int} (h : ofR r = (e3, l3, r3)) (w : World) : OfPost r w = OfP e3 l3 r3 w := by
  funext en w'
  unfold OfPost OfP
  rw [h]
set_option maxHeartbeats 8000000 in
theorem chartTexts_walk {w : World} {B : Nat} {A : Option Addr} {n c : Nat} {l : List Int} (e : Int) (s : ByteArray) (hR : Reads w B 1 A n (ints l)) (hB : B ≤ w.heap.size) (hn : n ≤ maxLen) (hT : Be.Tabs w w.heap.size) :
    Calls Tryd.prog 5 #[.agg #[.int .i64 e, .slice A n c], .string s] w (Gives (.bool true) w) := by
  obtain ⟨W, hW⟩ : ∃ W, W = w.alloc (.cells #[.int .i64 e, .slice A n c] 24) := ⟨_, rfl⟩
  have hB0 : Below w.heap.size w W := by rw [hW]; exact (Below.refl _ w).alloc (Nat.le_refl _) _
  have r0 : Row W w.heap.size 24 [.int .i64 e, .slice A n c] := by rw [hW]; exact Row.new w 24 [.int .i64 e, .slice A n c]
  have h1 := (hR.more hB).below hB0
  have KR := Lib.hid (fun w1 (hb : Below W.heap.size W w1) => show w1.cell? ⟨w.heap.size, 0, none⟩ = some (.int .i64 e) ∧ w1.cell? ⟨w.heap.size, 1, none⟩ = some (.slice A n c) ∧ w.heap.size < w1.heap.size ∧ Reads w1 w.heap.size 1 A n (ints l) ∧ w.heap.size ≤ w1.heap.size ∧ Be.Tabs w1 w1.heap.size ∧ Below w.heap.size w w1 from
    ⟨(r0.keep (hb.block _ r0.lt)).cell (j := 0) rfl, (r0.keep (hb.block _ r0.lt)).cell (j := 1) rfl, (r0.keep (hb.block _ r0.lt)).lt, h1.below (hb.mono hB0.size), Nat.le_trans hB0.size hb.size, Tabs_on hT (hB0.trans (hb.mono hB0.size)), hB0.trans (hb.mono hB0.size)⟩)
  have HTA := Lib.hid (fun w1 (hb : Below W.heap.size W w1) => texts_any w1 (KR.out w1 hb).2.2.2.2.2.1)
  have HW := Lib.hid hW
  have HB0 := Lib.hid hB0
  by_cases hbig : (100 : Int) < (n : Int)
  · have HTX := Lib.hid (HTA.out W (Below.refl _ W))
    clear hR hB hT hB0 r0 hW h1
    go_enter Tryd.func5, Tryd.ntmps5
    go_wp2_with fail
    rw [← HW.out]
    refine HTX.out.mono ?_
    rintro en w1 ⟨rfl, hb⟩
    go_wp2_with fail
    go_ret
    exact ⟨rfl, below_then HB0.out hb⟩
  · by_cases hbs : (2048 : Int) < (s.size : Int)
    · have HTX := Lib.hid (HTA.out W (Below.refl _ W))
      clear hR hB hT hB0 r0 hW h1
      go_enter Tryd.func5, Tryd.ntmps5
      go_wp2_with fail
      rw [← HW.out]
      refine HTX.out.mono ?_
      rintro en w1 ⟨rfl, hb⟩
      go_wp2_with fail
      go_ret
      exact ⟨rfl, below_then HB0.out hb⟩
    · obtain ⟨_, _, _, hRW, hsW, hTW, _⟩ := KR.out W (Below.refl _ W)
      obtain ⟨er, her⟩ : ∃ er : Int, (if mayC e l = true then (0 : Int) else 1) = er := ⟨_, rfl⟩
      have hx := ctext_any (w := W) (c := c) e hRW hsW hTW
      rw [her] at hx
      have HX := Lib.hid hx
      have HER := Lib.hid her
      clear hx her
      clear hR hB hT hB0 r0 hW h1 hRW hsW hTW
      go_enter Tryd.func5, Tryd.ntmps5
      go_wp2_with fail
      rw [← HW.out]
      refine HX.out.mono ?_
      rintro en w1 ⟨rfl, hb1⟩
      obtain ⟨x0, x1, xl, hRr, hsr, hTr, _⟩ := KR.out w1 hb1
      have hx2 := rctext_any (w := w1) (c := c) e hRr hsr hn
      rw [HER.out] at hx2
      have HX2 := Lib.hid hx2
      clear hx2
      have HB1 := Lib.hid hb1
      clear hb1 hRr hsr hTr
      go_wp2_with fail
      refine HX2.out.mono ?_
      rintro en w2 ⟨rfl, hb2⟩
      have hb02 := below_then HB1.out hb2
      obtain ⟨e3, l3, r3, hq⟩ : ∃ e3 l3 r3, ofR (ofC s) = (e3, l3, r3) := ⟨_, _, _, rfl⟩
      have ho := cof_any s (by omega) w2 (KR.out w2 hb02).2.2.2.2.2.1
      rw [OfPost.to hq] at ho
      have HO := Lib.hid ho
      have HQ := Lib.hid hq
      clear ho hq
      have HB2 := Lib.hid hb02
      clear hb2 hb02
      go_wp2_with fail
      refine HO.out.mono ?_
      intro en w3 hpost
      obtain ⟨A1, n1, c1, rfl, hR1, hb3⟩ := hpost
      obtain ⟨U3, hU3⟩ : ∃ U3, U3 = w3.alloc (.cells #[.int .i64 e3, .slice A1 n1 c1] 24) := ⟨_, rfl⟩
      have hb3U : Below w2.heap.size w2 U3 := by rw [hU3]; exact hb3.alloc hb3.size _
      have ru3 : Row U3 w3.heap.size 24 [.int .i64 e3, .slice A1 n1 c1] := by rw [hU3]; exact Row.new w3 24 [.int .i64 e3, .slice A1 n1 c1]
      have hR3 : Reads U3 w3.heap.size 1 A1 n1 (ints l3) := by rw [hU3]; exact hR1.alloc (Nat.le_refl _) _
      have hU3s : U3.heap.size = w3.heap.size + 1 := by rw [hU3]; simp
      have ho2 := rcof_any s (by omega) U3
      rw [OfPost.to HQ.out] at ho2
      have HO2 := Lib.hid ho2
      clear ho2
      have HU3 := Lib.hid hU3
      have HX3 := Lib.hid (And.intro (HB2.out.trans (hb3U.mono HB2.out.size)) (And.intro ru3 (And.intro hR3 hU3s)))
      have HRL : Hid (l3.length ≤ 16) := Lib.hid (by have := ofR_len (s := s) rfl; rw [HQ.out] at this; exact this)
      clear hR1 hb3 hU3 hb3U ru3 hR3 hU3s
      clear HQ
      go_wp2_with fail
      rw [← HU3.out]
      refine HO2.out.mono ?_
      intro en w4 hpost
      obtain ⟨A2, n2, c2, rfl, hR2, hb4⟩ := hpost
      obtain rfl : n2 = n1 := by rw [hR2.len, HX3.out.2.2.1.len]
      have hn16 : n2 ≤ 16 := by have h9 := hR2.len; have := HRL.out; omega
      obtain ⟨U4, hU4⟩ : ∃ U4, U4 = w4.alloc (.cells #[.int .i64 e3, .slice A2 n2 c2] 24) := ⟨_, rfl⟩
      have hb34 : Below U3.heap.size U3 U4 := by rw [hU4]; exact hb4.alloc hb4.size _
      have ru4 : Row U4 w4.heap.size 24 [.int .i64 e3, .slice A2 n2 c2] := by rw [hU4]; exact Row.new w4 24 [.int .i64 e3, .slice A2 n2 c2]
      have hR4 : Reads U4 w4.heap.size 1 A2 n2 (ints l3) := by rw [hU4]; exact hR2.alloc (Nat.le_refl _) _
      have hU4s : U4.heap.size = w4.heap.size + 1 := by rw [hU4]; simp
      have ru3 := HX3.out.2.1.keep (hb34.block _ HX3.out.2.1.lt)
      have hU34 := hb34.size
      have hU3s := HX3.out.2.2.2
      have HS := Lib.hid (sameC_any (w := U4) (c := c1) (c' := c2) e3 (HX3.out.2.2.1.below (hb34.mono (by omega))) (by omega) hR4 (by omega) (show n2 ≤ maxLen by unfold maxLen; omega))
      have hbW := HX3.out.1.trans (hb34.mono HX3.out.1.size)
      have a0 := ru3.cell (j := 0) rfl
      have a1 := ru3.cell (j := 1) rfl
      have al := ru3.lt
      have b0 := ru4.cell (j := 0) rfl
      have b1 := ru4.cell (j := 1) rfl
      have bl := ru4.lt
      have HU4 := Lib.hid hU4
      have HB4 := Lib.hid hbW
      clear hR2 hb4 hU4 hb34 ru4 hR4 hU4s ru3 hbW HX3 HO2 HO x0 x1 xl hU34 hU3s
      go_upto_region 7 with fail
      rw [← HU4.out]
      go_wp2_with fail
      refine HS.out.mono ?_
      rintro en w5 ⟨rfl, hb5⟩
      have hb05 := HB4.out.trans (hb5.mono HB4.out.size)
      obtain ⟨x0, x1, xl, hRr, hsr, hTr, _⟩ := KR.out w5 hb05
      have HB5 := Lib.hid hb05
      cases hmc : mayC e l with
      | false =>
        have HTX := Lib.hid (HTA.out w5 hb05)
        have hz := HER.out
        rw [hmc] at hz
        obtain rfl : 1 = er := hz
        clear hb5 hb05 hRr hsr hTr hmc HER
        go_wp2_with fail
        refine HTX.out.mono ?_
        rintro en w6 ⟨rfl, hb6⟩
        go_wp2_with fail
        go_ret
        exact ⟨rfl, HB0.out.trans ((HB5.out.trans (hb6.mono HB5.out.size)).mono HB0.out.size)⟩
      | true =>
        have htx : txS e l = textB e l := by unfold txS; rw [if_pos hmc]
        have hsz : (textB e l).size ≤ 1000 := by
          have := (text_facts hmc).2.2.2.2.1
          unfold textB
          simpa [ByteArray.size] using this
        have HOT : Hid (Calls Tryd.prog 17 #[.string (textB e l)] w5 (OfPost (some (e, l)) w5)) := Lib.hid (by
          have := cof_any (textB e l) (by omega) w5 hTr
          rw [ofC_text hmc] at this
          exact this)
        have HRR := Lib.hid hRr
        have hz := HER.out
        rw [hmc] at hz
        obtain rfl : 0 = er := hz
        rw [htx]
        clear hb5 hb05 hRr hsr hTr hmc htx hsz HER
        generalize textB e l = X at *
        go_wp2_with fail
        refine HOT.out.mono ?_
        intro en w6 hpost
        obtain ⟨A6, n6, c6, rfl, hR6, hb6⟩ := hpost
        simp only [ofR] at hR6 ⊢
        obtain rfl : n6 = n := by rw [hR6.len, HRR.out.len]
        have hb06 := HB5.out.trans (hb6.mono HB5.out.size)
        obtain ⟨U6, hU6⟩ : ∃ U6, U6 = w6.alloc (.cells #[.int .i64 e, .slice A6 n6 c6] 24) := ⟨_, rfl⟩
        have hbU : Below W.heap.size W U6 := by rw [hU6]; exact hb06.alloc hb06.size _
        have hRU : Reads U6 w6.heap.size 1 A6 n6 (ints l) := by rw [hU6]; exact hR6.alloc (Nat.le_refl _) _
        have hsU : w6.heap.size ≤ U6.heap.size := by rw [hU6]; simp
        clear x0 x1 xl
        have ru6 : Row U6 w6.heap.size 24 [.int .i64 e, .slice A6 n6 c6] := by rw [hU6]; exact Row.new w6 24 [.int .i64 e, .slice A6 n6 c6]
        obtain ⟨x0, x1, xl, hRr, hsr, _, _⟩ := KR.out U6 hbU
        have d0 := ru6.cell (j := 0) rfl
        have d1 := ru6.cell (j := 1) rfl
        have dl := ru6.lt
        have HS6 := Lib.hid (sameC_any (w := U6) (c := c) (c' := c6) e hRr hsr hRU hsU hn)
        have KT := Lib.hid (fun w' (hb : Below U6.heap.size U6 w') => HTA.out w' (hbU.trans (hb.mono hbU.size)))
        have HU6 := Lib.hid hU6
        have HBU := Lib.hid (HB0.out.trans (hbU.mono HB0.out.size))
        clear hb6 hb06 hU6 hbU hRU hsU hRr hsr hR6 HOT ru6
        go_upto_region 11 with fail
        rw [← HU6.out]
        go_wp2_with fail
        refine HS6.out.mono ?_
        rintro en w7 ⟨rfl, hb7⟩
        have HTX := Lib.hid (KT.out w7 hb7)
        have HB7 := Lib.hid hb7
        clear hb7
        go_wp2_with fail
        refine HTX.out.mono ?_
        rintro en w8 ⟨rfl, hb8⟩
        go_wp2_with fail
        go_ret
        exact ⟨rfl, below_then (below_then HBU.out HB7.out) hb8⟩
end Go.Proofs.YtmepahlmbopacaaDoor.Ct
