/- A road holds what the document's does, whatever is asked. Conditions: the program's road; the calls as they come in. -/
import Derived.Test.YtikbgaomiliefaaRoPS2
set_option linter.unusedVariables false
set_option linter.unusedSimpArgs false
set_option maxRecDepth 100000
namespace Go.Proofs.Ytikbgaomiliefaa.Ro
open Go Go.RowKit
theorem same_i64 (x : Int) : (x == x) = true := by simp
set_option maxHeartbeats 16000000 in
theorem plays_walk (C : Code) {w : World} {B n0 c0 : Nat} {A0 : Option Addr} (k : Int) (hk : In64 k) (hO : OpsAt w B A0 n0) (hB : B ≤ w.heap.size) (hn63 : n0 ≤ 9223372036854775807) :
    Calls Try.prog 3 #[.int .i64 k, .slice A0 n0 c0] w (Gives (.bool true) w) := by
  by_cases hbad : k < 1 ∨ 8 < k
  · have H0 := Lib.hid (C.new_no k w hk hbad)
    have H1 := Lib.hid (fun w1 => show Calls Try.prog 10 #[.int .i64 k] w1 (REPost (fun _ => False) [] 1 w1) from by
      have h := rnew_any k w1 (fun _ => False) (fun b h => h.elim)
      unfold newQ at h
      rw [if_pos hbad] at h
      exact h)
    clear hO hbad
    go_enter Try.func3, Try.ntmps3
    go_wp2_with fail
    refine H0.out.mono ?_
    rintro e w1 ⟨rfl, hb1⟩
    have HH := Lib.hid (H1.out w1)
    have HB1 := Lib.hid hb1
    clear hb1
    go_wp2_with fail
    refine HH.out.mono ?_
    rintro e w2 ⟨A, n, c, rfl, hr, hb2⟩
    have hb3 : Below w2.heap.size w2 (w2.alloc (.cells #[.slice A n c] 29)) := (Below.refl _ w2).alloc (Nat.le_refl _) _
    have HA := Lib.hid (awake_any C (w2.alloc (.cells #[.slice A n c] 29)))
    have hb4 := (HB1.out.trans (hb2.mono HB1.out.size))
    have HB4 := Lib.hid (hb4.trans (hb3.mono hb4.size))
    clear hr hb2 hb3 hb4
    go_wp2_with fail
    refine HA.out.mono ?_
    rintro e w9 ⟨rfl, h9⟩
    have hfin := HB4.out.trans (h9.mono HB4.out.size)
    go_wp2
    go_ret
    exact ⟨rfl, hfin⟩
  obtain ⟨m, rfl⟩ : ∃ m : Nat, k = (m : Int) := ⟨k.toNat, by omega⟩
  have H0 := Lib.hid (C.new m w (by omega) (by omega))
  have H1 := Lib.hid (fun w1 F (hF : ∀ b, F b → b < w1.heap.size) => show Calls Try.prog 10 #[.int .i64 (m : Int)] w1 (REPost F (List.replicate (m + 1) []) 0 w1) from by
    have h := rnew_any (m : Int) w1 F hF
    unfold newQ at h
    rw [if_neg hbad] at h
    exact h)
  have HO := Lib.hid hO
  clear hO hbad hk
  go_enter Try.func3, Try.ntmps3
  go_wp2_with fail
  refine H0.out.mono ?_
  rintro e w1 ⟨p, F1, rfl, h1, hFo, hBe⟩
  have HH := Lib.hid (H1.out w1 F1 (C.lt h1))
  have HO1 := Lib.hid (show OS C w w1 p F1 _ from ⟨h1, hFo, hBe⟩)
  clear h1 hFo hBe
  go_wp2_with fail
  refine HH.out.mono ?_
  rintro e w2 ⟨A1, n1, c1, rfl, hr, hb2⟩
  have hb3 : Below w2.heap.size w2 (w2.alloc (.cells #[.slice A1 n1 c1] 29)) := (Below.refl _ w2).alloc (Nat.le_refl _) _
  have HP0 := Lib.hid (show PS C w (w2.alloc (.cells #[.slice A1 n1 c1] 29)) p F1 (List.replicate (m + 1) []) (List.replicate (m + 1) []) w2.heap.size A1 n1 c1 from by
    have h2 := HO1.out.on hb2
    have h3 := h2.on hb3
    refine ⟨h3.road, h3.far, h3.below, Row.new w2 _ _, h2.below.size, fun hF => by have := C.lt h2.road _ hF; omega, ?_⟩
    exact (hr.mono (F' := F2 F1 w2.heap.size) (fun b hb hl => hb.elim id (fun e => by omega))).turn (Turn.below _ hb3))
  clear hr hb2 hb3
  go_wp2_with fail
  generalize w2.alloc (.cells #[.slice A1 n1 c1] 29) = W0 at *
  obtain ⟨X, hX⟩ : ∃ X, w2.heap.size = X := ⟨_, rfl⟩
  rw [hX] at HP0
  rw [hX]
  clear hX HH H1 H0 HO1
  go_loopw [9] (fun s7 wr => ∃ (i : Nat) (F : Nat → Prop) (Q : Rd) (A : Option Addr) (n c : Nat), s7 = .int .i64 (i : Int) ∧ i ≤ 200 ∧ i ≤ n0 ∧ Hid (PS C w wr p F Q Q X A n c)) (fun s7 _ => (200 - intOf s7).toNat)
  case atStart => exact ⟨0, F1, _, A1, n1, c1, rfl, by omega, by omega, HP0⟩
  case round =>
    obtain ⟨i, F, Q, A, n, c, rfl, hi3, hin0, HP⟩ := hrel
    by_cases hin : i < n0
    · by_cases hi200 : i < 200
      · have hinz : (i : Int) < (n0 : Int) := by omega
        have hi3z : (i : Int) < 200 := by omega
        obtain ⟨ad, kd, x, t, l, rfl, hop, hxw, htw, hl1, hl2, hl3⟩ := HO.out i hin
        obtain ⟨lf, lt, tx⟩ := l
        have hop1 := hop.below (HP.out.below.mono hB)
        have o0 := hop1.c0
        have o1 := hop1.c1
        have o2 := hop1.c2
        have o3 := hop1.c3
        have o4 := hop1.c4
        have o5 := hop1.c5
        have ol : (ad.add (i * 6)).block < wr.heap.size := by have := hop1.lt; have := HP.out.below.size; omega
        simp only at o3 o4 o5 hl1 hl2 hl3
        have HX := Lib.hid (And.intro (in64_wf hxw) (And.intro (in64_wf htw) (And.intro (in64_wf hl1) (And.intro (in64_wf hl2) hl3))))
        have hbW : Below wr.heap.size wr (wr.alloc (.cells #[.int .i64 kd, .int .i64 x, .int .i64 t, .int .i64 lf, .int .i64 lt, .string tx] 36)) := (Below.refl _ wr).alloc (Nat.le_refl _) _
        have rY : Row (wr.alloc (.cells #[.int .i64 kd, .int .i64 x, .int .i64 t, .int .i64 lf, .int .i64 lt, .string tx] 36)) wr.heap.size 36 [.int .i64 kd, .int .i64 x, .int .i64 t, .int .i64 lf, .int .i64 lt, .string tx] := Row.new wr _ _
        have y0 := rY.cell (j := 0) rfl
        have y1 := rY.cell (j := 1) rfl
        have y2 := rY.cell (j := 2) rfl
        have y3 := rY.cell (j := 3) rfl
        have y4 := rY.cell (j := 4) rfl
        have y5 := rY.cell (j := 5) rfl
        have yl := rY.lt
        have HPW := Lib.hid (HP.out.on hbW)
        have x0 := HPW.out.row.cell (j := 0) rfl
        have xl := HPW.out.row.lt
        have HWB := Lib.hid hbW
        have htl : tx.size ≤ 9223372036854775807 := by unfold maxLen at hl3; omega
        by_cases htxt : 4096 < tx.size ∧ tx.size ≤ 1048576
        · have t1 : (4096 : Int) < (tx.size : Int) := by omega
          have t2 : (tx.size : Int) ≤ 1048576 := by omega
          have HA := Lib.hid (awake_any C (wr.alloc (.cells #[.int .i64 kd, .int .i64 x, .int .i64 t, .int .i64 lf, .int .i64 lt, .string tx] 36)))
          have HBW := Lib.hid HPW.out.below
          clear hop hop1 hxw htw hl1 hl2 hl3 rY hbW HO HPW HP
          go_wp2_with fail
          refine HA.out.mono ?_
          rintro e w9 ⟨rfl, h9⟩
          have hfin := HBW.out.trans (h9.mono HBW.out.size)
          go_wp2
          go_ret
          exact ⟨rfl, hfin⟩
        have hcs : ¬ (4096 : Int) < (tx.size : Int) ∨ (4096 : Int) < (tx.size : Int) ∧ ¬ (tx.size : Int) ≤ 1048576 := by omega
        have hb2 : Below (wr.heap.size + 1) (wr.alloc (.cells #[.int .i64 kd, .int .i64 x, .int .i64 t, .int .i64 lf, .int .i64 lt, .string tx] 36)) ((wr.alloc (.cells #[.int .i64 kd, .int .i64 x, .int .i64 t, .int .i64 lf, .int .i64 lt, .string tx] 36)).alloc (.cells #[.slice A n c] 29)) := (Below.refl _ _).alloc (by simp) _
        have rN : Row ((wr.alloc (.cells #[.int .i64 kd, .int .i64 x, .int .i64 t, .int .i64 lf, .int .i64 lt, .string tx] 36)).alloc (.cells #[.slice A n c] 29)) (wr.heap.size + 1) 29 [.slice A n c] := by
          have h := Row.new (wr.alloc (.cells #[.int .i64 kd, .int .i64 x, .int .i64 t, .int .i64 lf, .int .i64 lt, .string tx] 36)) 29 [.slice A n c]
          rwa [World.size_alloc] at h
        have rY2 := rY.keep (hb2.block _ (by omega))
        have hbW2 : Below wr.heap.size wr ((wr.alloc (.cells #[.int .i64 kd, .int .i64 x, .int .i64 t, .int .i64 lf, .int .i64 lt, .string tx] 36)).alloc (.cells #[.slice A n c] 29)) := hbW.trans (hb2.mono (by omega))
        have HP2 := Lib.hid (HP.out.on hbW2)
        have hs2 : ((wr.alloc (.cells #[.int .i64 kd, .int .i64 x, .int .i64 t, .int .i64 lf, .int .i64 lt, .string tx] 36)).alloc (.cells #[.slice A n c] 29)).heap.size = wr.heap.size + 1 + 1 := by simp
        have HRW := Lib.hid (And.intro rY2 (And.intro rN (And.intro hbW2 hs2)))
        have v0 := rY2.cell (j := 0) rfl
        have v1 := rY2.cell (j := 1) rfl
        have v2 := rY2.cell (j := 2) rfl
        have v3 := rY2.cell (j := 3) rfl
        have v4 := rY2.cell (j := 4) rfl
        have v5 := rY2.cell (j := 5) rfl
        have vl := rY2.lt
        have HI := Lib.hid (And.intro hin hi200)
        have HQL := Lib.hid (C.len HP.out.road)
        clear hop hop1 hxw htw hl1 hl2 hl3 rY hbW rY2 rN hb2 hbW2 HPW htxt hin hi200
        rcases (show kd = 1 ∨ kd = 2 ∨ kd = 3 ∨ kd = 4 ∨ kd = 5 ∨ (kd ≠ 1 ∧ kd ≠ 2 ∧ kd ≠ 3 ∧ kd ≠ 4 ∧ kd ≠ 5) by omega) with rfl | rfl | rfl | rfl | rfl | ⟨k1, k2, k3, k4, k5⟩
        · as_aux_lemma =>
            obtain ⟨Q', hQ'⟩ : ∃ Q', (sendQ Q (lf, lt, tx)).1 = Q' := ⟨_, rfl⟩
            obtain ⟨er, her⟩ : ∃ er, (sendQ Q (lf, lt, tx)).2 = er := ⟨_, rfl⟩
            have HC := Lib.hid (C.send_is HP2.out.road lf lt tx HX.out.2.2.1 HX.out.2.2.2.1 HX.out.2.2.2.2 (Prod.ext hQ' her))
            have HDX := Lib.hid (And.intro hQ' her)
            clear hQ' her
            rcases hcs with t1 | ⟨t1, t2⟩
            all_goals
              go_wp2_with fail
              with_reducible refine HC.out.mono ?_
              rintro e w3 ⟨rfl, F', h3, T3⟩
              have HP3 := Lib.hid (HP2.out.code h3 T3)
              have hO3 : ∀ b, wr.heap.size + 1 ≤ b → b ≤ wr.heap.size + 1 → ¬ F' b := own_off HP.out (by omega) T3 (by rw [HRW.out.2.2.2]; omega)
              have hr3 := (gx_start (hi := wr.heap.size + 1) HP.out HRW.out.2.2.1 (lo := wr.heap.size + 1) (by omega)).turn (turn_gx T3)
              have hsz3 := T3.size
              rw [HRW.out.2.2.2] at hsz3
              have hlt3 := gx_lt (lo := wr.heap.size + 1) (hi := wr.heap.size + 1) HP3.out (by omega)
              have hd := send_any Q (lf, lt, tx) hr3 hlt3 (by have := HQL.out.1; omega) HQL.out.2
              rw [HDX.out.1, HDX.out.2] at hd
              have HD := Lib.hid hd
              have hFwr := C.lt HP.out.road
              have rY3 := HRW.out.1.keep (T3.block _ HRW.out.1.lt (fun hF => by have := hFwr _ hF; omega))
              have rN3 := HRW.out.2.1.keep (T3.block _ HRW.out.2.1.lt (fun hF => by have := hFwr _ hF; omega))
              have q1 := rY3.cell (j := 1) rfl
              have q2 := rY3.cell (j := 2) rfl
              have q3 := rY3.cell (j := 3) rfl
              have q4 := rY3.cell (j := 4) rfl
              have q5 := rY3.cell (j := 5) rfl
              have ql := rY3.lt
              have p0 := HP3.out.row.cell (j := 0) rfl
              have pl := HP3.out.row.lt
              have H3 := Lib.hid (And.intro hO3 rN3)
              have hXlt := HP.out.row.lt
              have hwlo := HP.out.below.size
              have HLO := Lib.hid (And.intro hXlt hwlo)
              clear h3 T3 hO3 hr3 hlt3 hd rY3 rN3 x0 xl y0 y1 y2 y3 y4 y5 yl v0 v1 v2 v3 v4 v5 vl HC HP2 o0 o1 o2 o3 o4 o5 ol hFwr hXlt hwlo
              go_wp2_with fail
              with_reducible refine HD.out.mono ?_
              rintro e w4 ⟨A', n', c', rfl, hr4, hb4⟩
              have rN4 := H3.out.2.keep (hb4.block _ H3.out.2.lt)
              have rX4 := HP3.out.row.keep (hb4.block _ HP3.out.row.lt)
              have hne : X ≠ wr.heap.size + 1 := by have := HLO.out.1; omega
              have rX5 := rX4.keep (heap_set_ne w4 ⟨wr.heap.size + 1, 0, none⟩ (.slice A' n' c') hne)
              have rN5 := rN4.set 0 (.slice A' n' c')
              have HK := Lib.hid (show PS C w ((w4.setCell ⟨wr.heap.size + 1, 0, none⟩ (.slice A' n' c')).setCell ⟨X, 0, none⟩ (.slice A' n' c')) p F' Q' Q' X A' n' c' from by
                have TS := (ox_set (X := X) (lo := wr.heap.size + 1) (hi := wr.heap.size + 1) w4 (wr.heap.size + 1) 0 (.slice A' n' c') (.inr ⟨Nat.le_refl _, Nat.le_refl _⟩)).trans (ox_set _ X 0 (.slice A' n' c') (.inl rfl))
                exact HP3.out.fin H3.out.1 (by have := HLO.out.2; omega) ((ox_below hb4).trans TS) (rX5.set 0 _) (hr4.turn (turn_ox TS)))
              have n0' := rN4.cell (j := 0) rfl
              have nf := rN4.frozen 0
              have nl := rN4.lt
              have n1' := rN5.cell (j := 0) rfl
              have nl1 := rN5.lt
              have x1 := rX5.cell (j := 0) rfl
              have xf := rX5.frozen 0
              have xl1 := rX5.lt
              have HQ2 := Lib.hid (C.len HK.out.road)
              clear hr4 hb4 rN4 rX4 rX5 rN5 q1 q2 q3 q4 q5 ql p0 pl HD HP3 H3 HLO hne
              go_wp2_with fail
              generalize (w4.setCell ⟨wr.heap.size + 1, 0, none⟩ (.slice A' n' c')).setCell ⟨X, 0, none⟩ (.slice A' n' c') = w6 at *
              clear n0' nf nl n1' nl1 x1 xf xl1
              go_loopw [16] (fun s16 wi => ∃ (j : Nat), s16 = .int .i64 ((j : Int) - 2) ∧ j ≤ 11 ∧ Hid (PS C w wi p F' Q' Q' X A' n' c')) (fun s16 _ => (9 - intOf s16).toNat)
              case atStart => exact ⟨0, rfl, by omega, HK⟩
              case round =>
                obtain ⟨j, rfl, hj, HJ⟩ := hrel
                by_cases hj11 : j < 11
                · have hjz : ((j : Int) - 2) < 9 := by omega
                  obtain ⟨vw, hvw⟩ : ∃ vw, waitsQ Q' ((j : Int) - 2) = vw := ⟨_, rfl⟩
                  have HJD := Lib.hid (HJ.out.on (show Below wr.heap.size wr wr.drew from (Below.refl _ _).drew))
                  have HWt := Lib.hid (C.waits_is HJD.out.road ((j : Int) - 2) (in64 (by omega)) hvw)
                  have z0 := HJ.out.row.cell (j := 0) rfl
                  have zl := HJ.out.row.lt
                  have HVV := Lib.hid (fun w7 (hb7 : Below wr.drew.heap.size wr.drew w7) => And.intro ((HJD.out.on hb7).row.cell (j := 0) rfl) (And.intro (HJD.out.on hb7).row.lt (show Calls Try.prog 25 #[.agg #[.slice A' n' c'], .int .i64 ((j : Int) - 2)] w7 (Gives (.int .i64 vw) w7) from by
                    have hv := waits_any Q' ((j : Int) - 2) (HJD.out.on hb7).rat (by have := HQ2.out.1; omega)
                    rw [hvw] at hv
                    exact hv)))
                  clear hvw
                  go_wp2_with fail
                  go_region_held3 (fun w' => w'.cell? ⟨X, 0, none⟩ = some (.slice A' n' c'))
                    (first | exact z0 | exact z7 | exact z8 | go_keep)
                    (first
                      | (go_at_call 24
                         with_reducible refine HWt.out.mono ?_
                         rintro e w7 ⟨rfl, hb7⟩
                         obtain ⟨z7, zl7, hv⟩ := HVV.out w7 hb7
                         have HV := Lib.hid hv
                         have HJ7 := Lib.hid (HJD.out.on hb7)
                         clear hb7 hv)
                      | (go_at_call 25
                         with_reducible refine HV.out.mono ?_
                         rintro e w8 ⟨rfl, hb8⟩
                         have HJ8 := Lib.hid (HJ7.out.on hb8)
                         have z8 := HJ8.out.row.cell (j := 0) rfl
                         clear hb8))
                  all_goals go_wp2
                  all_goals exact ⟨⟨j + 1, by go_num, by omega, HJ8⟩, by simp [intOf]; omega⟩
                · obtain rfl : j = 11 := by omega
                  have hjz : ¬ (((11 : Nat) : Int) - 2 < 9) := by omega
                  go_wp2_with fail
                  have hin := HI.out.1
                  have hi200 := HI.out.2
                  exact ⟨⟨i + 1, F', Q', A', n', c', by go_num, by omega, by omega, HJ⟩, by simp [intOf]; omega⟩
        · as_aux_lemma =>
            obtain ⟨Q', hQ'⟩ : ∃ Q', (nextQ Q x).1 = Q' := ⟨_, rfl⟩
            obtain ⟨ml, hml⟩ : ∃ ml, (nextQ Q x).2.1 = ml := ⟨_, rfl⟩
            obtain ⟨mf, mt, mx⟩ := ml
            obtain ⟨er, her⟩ : ∃ er, (nextQ Q x).2.2 = er := ⟨_, rfl⟩
            have hall : nextQ Q x = (Q', (mf, mt, mx), er) := Prod.ext hQ' (Prod.ext hml her)
            have hb3 : Below (((wr.alloc (.cells #[.int .i64 2, .int .i64 x, .int .i64 t, .int .i64 lf, .int .i64 lt, .string tx] 36)).alloc (.cells #[.slice A n c] 29)).heap.size) ((wr.alloc (.cells #[.int .i64 2, .int .i64 x, .int .i64 t, .int .i64 lf, .int .i64 lt, .string tx] 36)).alloc (.cells #[.slice A n c] 29)) ((((wr.alloc (.cells #[.int .i64 2, .int .i64 x, .int .i64 t, .int .i64 lf, .int .i64 lt, .string tx] 36)).alloc (.cells #[.slice A n c] 29)).alloc (.cells #[.int .i64 0, .int .i64 0, .string ⟨#[]⟩] 34)).alloc (.cells #[.int .i64 0, .int .i64 0, .string ⟨#[]⟩] 34)) := ((Below.refl _ _).alloc (Nat.le_refl _) _).alloc (by simp) _
            have hb34 : Below wr.heap.size wr ((((wr.alloc (.cells #[.int .i64 2, .int .i64 x, .int .i64 t, .int .i64 lf, .int .i64 lt, .string tx] 36)).alloc (.cells #[.slice A n c] 29)).alloc (.cells #[.int .i64 0, .int .i64 0, .string ⟨#[]⟩] 34)).alloc (.cells #[.int .i64 0, .int .i64 0, .string ⟨#[]⟩] 34)) := HRW.out.2.2.1.trans (hb3.mono HRW.out.2.2.1.size)
            have rA : Row ((((wr.alloc (.cells #[.int .i64 2, .int .i64 x, .int .i64 t, .int .i64 lf, .int .i64 lt, .string tx] 36)).alloc (.cells #[.slice A n c] 29)).alloc (.cells #[.int .i64 0, .int .i64 0, .string ⟨#[]⟩] 34)).alloc (.cells #[.int .i64 0, .int .i64 0, .string ⟨#[]⟩] 34)) (wr.heap.size + 1 + 1) 34 zl := by
              have h := Row.new ((wr.alloc (.cells #[.int .i64 2, .int .i64 x, .int .i64 t, .int .i64 lf, .int .i64 lt, .string tx] 36)).alloc (.cells #[.slice A n c] 29)) 34 zl
              rw [HRW.out.2.2.2] at h
              exact h.keep (heap_alloc_lt _ _ (by simp))
            have rB : Row ((((wr.alloc (.cells #[.int .i64 2, .int .i64 x, .int .i64 t, .int .i64 lf, .int .i64 lt, .string tx] 36)).alloc (.cells #[.slice A n c] 29)).alloc (.cells #[.int .i64 0, .int .i64 0, .string ⟨#[]⟩] 34)).alloc (.cells #[.int .i64 0, .int .i64 0, .string ⟨#[]⟩] 34)) (wr.heap.size + 1 + 1 + 1) 34 zl := by
              have h := Row.new (((wr.alloc (.cells #[.int .i64 2, .int .i64 x, .int .i64 t, .int .i64 lf, .int .i64 lt, .string tx] 36)).alloc (.cells #[.slice A n c] 29)).alloc (.cells #[.int .i64 0, .int .i64 0, .string ⟨#[]⟩] 34)) 34 zl
              rw [World.size_alloc, HRW.out.2.2.2] at h
              exact h
            have rY4 := HRW.out.1.keep (hb3.block _ HRW.out.1.lt)
            have rN4 := HRW.out.2.1.keep (hb3.block _ HRW.out.2.1.lt)
            have hs4 : ((((wr.alloc (.cells #[.int .i64 2, .int .i64 x, .int .i64 t, .int .i64 lf, .int .i64 lt, .string tx] 36)).alloc (.cells #[.slice A n c] 29)).alloc (.cells #[.int .i64 0, .int .i64 0, .string ⟨#[]⟩] 34)).alloc (.cells #[.int .i64 0, .int .i64 0, .string ⟨#[]⟩] 34)).heap.size = wr.heap.size + 1 + 1 + 1 + 1 := by simp
            have HP4 := Lib.hid (HP.out.on hb34)
            have HC := Lib.hid (C.next_is HP4.out.road x HX.out.1 hall)
            have HDX := Lib.hid hall
            have HR4 := Lib.hid (And.intro rY4 (And.intro rN4 (And.intro rA (And.intro rB (And.intro hb34 hs4)))))
            have u1 := rY4.cell (j := 1) rfl
            have ul := rY4.lt
            clear hQ' hml her hall hb3 hb34 rA rB rY4 rN4 hs4
            rcases hcs with t1 | ⟨t1, t2⟩
            all_goals
              go_wp2_with fail
              with_reducible refine HC.out.mono ?_
              rintro e w3 ⟨rfl, F', h3, T3⟩
              obtain ⟨rY4, rN4, rA, rB, hb34, hs4⟩ := HR4.out
              have hP3 := HP4.out.code h3 T3
              have hO3 : ∀ b, wr.heap.size + 1 ≤ b → b ≤ (wr.heap.size + 1 + 1 + 1) → ¬ F' b := own_off HP.out (by omega) T3 (by omega)
              have hFwr := C.lt HP.out.road
              have hoff : ∀ b, wr.heap.size ≤ b → ¬ F b := fun b hb hF => by have := hFwr b hF; omega
              have rY3 := rY4.keep (T3.block _ rY4.lt (hoff _ (by omega)))
              have rN3 := rN4.keep (T3.block _ rN4.lt (hoff _ (by omega)))
              have rA3 := rA.keep (T3.block _ rA.lt (hoff _ (by omega)))
              have rB3 := rB.keep (T3.block _ rB.lt (hoff _ (by omega)))
              have hXlt := HP.out.row.lt
              have hwlo := HP.out.below.size
              have TA := (((ox_set (X := X) (lo := wr.heap.size + 1) (hi := wr.heap.size + 1 + 1 + 1) w3 (wr.heap.size + 1 + 1) 0 (.int .i64 mf) (.inr ⟨by omega, by omega⟩)).trans (ox_set (X := X) (lo := wr.heap.size + 1) (hi := wr.heap.size + 1 + 1 + 1) _ (wr.heap.size + 1 + 1) 1 (.int .i64 mt) (.inr ⟨by omega, by omega⟩))).trans (ox_set (X := X) (lo := wr.heap.size + 1) (hi := wr.heap.size + 1 + 1 + 1) _ (wr.heap.size + 1 + 1) 2 (.string mx) (.inr ⟨by omega, by omega⟩)))
              have kA : ∀ b, b ≠ (wr.heap.size + 1 + 1) → ((((w3.setCell ⟨(wr.heap.size + 1 + 1), 0, none⟩ (.int .i64 mf)).setCell ⟨(wr.heap.size + 1 + 1), 1, none⟩ (.int .i64 mt)).setCell ⟨(wr.heap.size + 1 + 1), 2, none⟩ (.string mx))).heap[b]? = w3.heap[b]? := fun b hb => ((heap_set_ne _ ⟨(wr.heap.size + 1 + 1), 2, none⟩ _ hb).trans (heap_set_ne _ ⟨(wr.heap.size + 1 + 1), 1, none⟩ _ hb)).trans (heap_set_ne _ ⟨(wr.heap.size + 1 + 1), 0, none⟩ _ hb)
              have hr3 := ((gx_start (hi := (wr.heap.size + 1 + 1 + 1)) HP.out hb34 (lo := wr.heap.size + 1) (by omega)).turn (turn_gx T3)).turn (turn_ox TA)
              have HP3 := Lib.hid (hP3.fin hO3 (by omega) TA (hP3.row.keep (kA X (by omega))) hr3)
              have rY5 := rY3.keep (kA wr.heap.size (by omega))
              have rN5 := rN3.keep (kA (wr.heap.size + 1) (by omega))
              have rB5 := rB3.keep (kA (wr.heap.size + 1 + 1 + 1) (by omega))
              have rA5 := ((rA3.set 0 (.int .i64 mf)).set 1 (.int .i64 mt)).set 2 (.string mx)
              have hlt3 := gx_lt (lo := wr.heap.size + 1) (hi := wr.heap.size + 1 + 1 + 1) HP3.out (by have := rB5.lt; omega)
              have hd := next_any Q x hr3 hlt3 (by have := HQL.out.1; omega) HQL.out.2
              rw [HDX.out] at hd
              have HD := Lib.hid hd
              have s0 := rA3.cell (j := 0) rfl
              have s1 := rA3.cell (j := 1) rfl
              have s2 := rA3.cell (j := 2) rfl
              have sf0 := rA3.frozen 0
              have sf1 := rA3.frozen 1
              have sf2 := rA3.frozen 2
              have sl := rA3.lt
              have q1 := rY5.cell (j := 1) rfl
              have ql := rY5.lt
              have p0 := HP3.out.row.cell (j := 0) rfl
              have pl := HP3.out.row.lt
              have H3 := Lib.hid (And.intro hO3 (And.intro rN5 (And.intro rB5 (And.intro rA5 (And.intro hXlt hwlo)))))
              clear h3 T3 hO3 hr3 hlt3 hd rY3 rN3 rA3 rB3 rY4 rN4 rA rB rY5 rN5 rB5 rA5 hb34 hs4 TA kA hP3 x0 xl y0 y1 y2 y3 y4 y5 yl v0 v1 v2 v3 v4 v5 vl u1 ul HC HP2 HP4 o0 o1 o2 o3 o4 o5 ol hFwr hoff hXlt hwlo HR4
              go_wp2_with fail
              with_reducible refine HD.out.mono ?_
              rintro e w4 ⟨A', n', c', rfl, hr4, hb4⟩
              obtain ⟨hO3, rN5, rB5, rA5, hXlt, hwlo⟩ := H3.out
              have rN4 := rN5.keep (hb4.block _ rN5.lt)
              have rB4 := rB5.keep (hb4.block _ rB5.lt)
              have rA4 := rA5.keep (hb4.block _ rA5.lt)
              have rX4 := HP3.out.row.keep (hb4.block _ HP3.out.row.lt)
              have kB : ∀ (w9 : World) b, b ≠ (wr.heap.size + 1 + 1 + 1) → (((w9.setCell ⟨(wr.heap.size + 1 + 1 + 1), 0, none⟩ (.int .i64 mf)).setCell ⟨(wr.heap.size + 1 + 1 + 1), 1, none⟩ (.int .i64 mt)).setCell ⟨(wr.heap.size + 1 + 1 + 1), 2, none⟩ (.string mx)).heap[b]? = w9.heap[b]? := fun w9 b hb => ((heap_set_ne _ ⟨(wr.heap.size + 1 + 1 + 1), 2, none⟩ _ hb).trans (heap_set_ne _ ⟨(wr.heap.size + 1 + 1 + 1), 1, none⟩ _ hb)).trans (heap_set_ne _ ⟨(wr.heap.size + 1 + 1 + 1), 0, none⟩ _ hb)
              have rX5 := (rX4.keep (heap_set_ne w4 ⟨(wr.heap.size + 1), 0, none⟩ (.slice A' n' c') (show X ≠ (wr.heap.size + 1) by omega))).keep (kB _ X (by omega))
              have rN5' := (rN4.set 0 (.slice A' n' c')).keep (kB _ (wr.heap.size + 1) (by omega))
              have rA5' := (rA4.keep (heap_set_ne w4 ⟨(wr.heap.size + 1), 0, none⟩ (.slice A' n' c') (show (wr.heap.size + 1 + 1) ≠ (wr.heap.size + 1) by omega))).keep (kB _ (wr.heap.size + 1 + 1) (by omega))
              have rB5' := (((rB4.keep (heap_set_ne w4 ⟨(wr.heap.size + 1), 0, none⟩ (.slice A' n' c') (show (wr.heap.size + 1 + 1 + 1) ≠ (wr.heap.size + 1) by omega))).set 0 (.int .i64 mf)).set 1 (.int .i64 mt)).set 2 (.string mx)
              have HK := Lib.hid (show PS C w (((((w4.setCell ⟨(wr.heap.size + 1), 0, none⟩ (.slice A' n' c')).setCell ⟨(wr.heap.size + 1 + 1 + 1), 0, none⟩ (.int .i64 mf)).setCell ⟨(wr.heap.size + 1 + 1 + 1), 1, none⟩ (.int .i64 mt)).setCell ⟨(wr.heap.size + 1 + 1 + 1), 2, none⟩ (.string mx)).setCell ⟨X, 0, none⟩ (.slice A' n' c')) p F' Q' Q' X A' n' c' from by
                have TS := (((((ox_set (X := X) (lo := wr.heap.size + 1) (hi := wr.heap.size + 1 + 1 + 1) w4 (wr.heap.size + 1) 0 (.slice A' n' c') (.inr ⟨by omega, by omega⟩)).trans (ox_set (X := X) (lo := wr.heap.size + 1) (hi := wr.heap.size + 1 + 1 + 1) _ (wr.heap.size + 1 + 1 + 1) 0 (.int .i64 mf) (.inr ⟨by omega, by omega⟩))).trans (ox_set (X := X) (lo := wr.heap.size + 1) (hi := wr.heap.size + 1 + 1 + 1) _ (wr.heap.size + 1 + 1 + 1) 1 (.int .i64 mt) (.inr ⟨by omega, by omega⟩))).trans (ox_set (X := X) (lo := wr.heap.size + 1) (hi := wr.heap.size + 1 + 1 + 1) _ (wr.heap.size + 1 + 1 + 1) 2 (.string mx) (.inr ⟨by omega, by omega⟩))).trans (ox_set (X := X) (lo := wr.heap.size + 1) (hi := wr.heap.size + 1 + 1 + 1) _ X 0 (.slice A' n' c') (.inl rfl)))
                exact HP3.out.fin hO3 (by omega) ((ox_below hb4).trans TS) (rX5.set 0 _) (hr4.turn (turn_ox TS)))
              have n0' := rN4.cell (j := 0) rfl
              have nf := rN4.frozen 0
              have nl := rN4.lt
              have b0 := rB4.cell (j := 0) rfl
              have b1 := rB4.cell (j := 1) rfl
              have b2 := rB4.cell (j := 2) rfl
              have bf0 := rB4.frozen 0
              have bf1 := rB4.frozen 1
              have bf2 := rB4.frozen 2
              have bl := rB4.lt
              have n1' := rN5'.cell (j := 0) rfl
              have nl1 := rN5'.lt
              have a0 := rA5'.cell (j := 0) rfl
              have a1 := rA5'.cell (j := 1) rfl
              have a2 := rA5'.cell (j := 2) rfl
              have al := rA5'.lt
              have c0 := rB5'.cell (j := 0) rfl
              have c1 := rB5'.cell (j := 1) rfl
              have c2 := rB5'.cell (j := 2) rfl
              have cl := rB5'.lt
              have x1 := rX5.cell (j := 0) rfl
              have xf := rX5.frozen 0
              have xl1 := rX5.lt
              have HQ2 := Lib.hid (C.len HK.out.road)
              clear hr4 hb4 rN4 rB4 rA4 rX4 kB rX5 rN5' rA5' rB5' rN5 rB5 rA5 hO3 hXlt hwlo s0 s1 s2 sf0 sf1 sf2 sl q1 ql p0 pl HD HP3 H3
              go_wp2_with fail
              generalize (((((w4.setCell ⟨(wr.heap.size + 1), 0, none⟩ (.slice A' n' c')).setCell ⟨(wr.heap.size + 1 + 1 + 1), 0, none⟩ (.int .i64 mf)).setCell ⟨(wr.heap.size + 1 + 1 + 1), 1, none⟩ (.int .i64 mt)).setCell ⟨(wr.heap.size + 1 + 1 + 1), 2, none⟩ (.string mx)).setCell ⟨X, 0, none⟩ (.slice A' n' c')) = w6 at *
              clear n0' nf nl b0 b1 b2 bf0 bf1 bf2 bl n1' nl1 a0 a1 a2 al c0 c1 c2 cl x1 xf xl1
              go_loopw [16] (fun s16 wi => ∃ (j : Nat), s16 = .int .i64 ((j : Int) - 2) ∧ j ≤ 11 ∧ Hid (PS C w wi p F' Q' Q' X A' n' c')) (fun s16 _ => (9 - intOf s16).toNat)
              case atStart => exact ⟨0, rfl, by omega, HK⟩
              case round =>
                obtain ⟨j, rfl, hj, HJ⟩ := hrel
                by_cases hj11 : j < 11
                · have hjz : ((j : Int) - 2) < 9 := by omega
                  obtain ⟨vw, hvw⟩ : ∃ vw, waitsQ Q' ((j : Int) - 2) = vw := ⟨_, rfl⟩
                  have HJD := Lib.hid (HJ.out.on (show Below wr.heap.size wr wr.drew from (Below.refl _ _).drew))
                  have HWt := Lib.hid (C.waits_is HJD.out.road ((j : Int) - 2) (in64 (by omega)) hvw)
                  have z0 := HJ.out.row.cell (j := 0) rfl
                  have zl := HJ.out.row.lt
                  have HVV := Lib.hid (fun w7 (hb7 : Below wr.drew.heap.size wr.drew w7) => And.intro ((HJD.out.on hb7).row.cell (j := 0) rfl) (And.intro (HJD.out.on hb7).row.lt (show Calls Try.prog 25 #[.agg #[.slice A' n' c'], .int .i64 ((j : Int) - 2)] w7 (Gives (.int .i64 vw) w7) from by
                    have hv := waits_any Q' ((j : Int) - 2) (HJD.out.on hb7).rat (by have := HQ2.out.1; omega)
                    rw [hvw] at hv
                    exact hv)))
                  clear hvw
                  go_wp2_with fail
                  go_region_held3 (fun w' => w'.cell? ⟨X, 0, none⟩ = some (.slice A' n' c'))
                    (first | exact z0 | exact z7 | exact z8 | go_keep)
                    (first
                      | (go_at_call 24
                         with_reducible refine HWt.out.mono ?_
                         rintro e w7 ⟨rfl, hb7⟩
                         obtain ⟨z7, zl7, hv⟩ := HVV.out w7 hb7
                         have HV := Lib.hid hv
                         have HJ7 := Lib.hid (HJD.out.on hb7)
                         clear hb7 hv)
                      | (go_at_call 25
                         with_reducible refine HV.out.mono ?_
                         rintro e w8 ⟨rfl, hb8⟩
                         have HJ8 := Lib.hid (HJ7.out.on hb8)
                         have z8 := HJ8.out.row.cell (j := 0) rfl
                         clear hb8))
                  all_goals go_wp2
                  all_goals exact ⟨⟨j + 1, by go_num, by omega, HJ8⟩, by simp [intOf]; omega⟩
                · obtain rfl : j = 11 := by omega
                  have hjz : ¬ (((11 : Nat) : Int) - 2 < 9) := by omega
                  go_wp2_with fail
                  have hin := HI.out.1
                  have hi200 := HI.out.2
                  exact ⟨⟨i + 1, F', Q', A', n', c', by go_num, by omega, by omega, HJ⟩, by simp [intOf]; omega⟩
        · as_aux_lemma =>
            obtain ⟨Q', hQ'⟩ : ∃ Q', (dropQ Q x t).1 = Q' := ⟨_, rfl⟩
            obtain ⟨er, her⟩ : ∃ er, (dropQ Q x t).2 = er := ⟨_, rfl⟩
            have HC := Lib.hid (C.drop_is HP2.out.road x t HX.out.1 HX.out.2.1 (Prod.ext hQ' her))
            have HDX := Lib.hid (And.intro hQ' her)
            clear hQ' her
            rcases hcs with t1 | ⟨t1, t2⟩
            all_goals
              go_wp2_with fail
              with_reducible refine HC.out.mono ?_
              rintro e w3 ⟨rfl, F', h3, T3⟩
              have HP3 := Lib.hid (HP2.out.code h3 T3)
              have hO3 : ∀ b, wr.heap.size + 1 ≤ b → b ≤ wr.heap.size + 1 → ¬ F' b := own_off HP.out (by omega) T3 (by rw [HRW.out.2.2.2]; omega)
              have hr3 := (gx_start (hi := wr.heap.size + 1) HP.out HRW.out.2.2.1 (lo := wr.heap.size + 1) (by omega)).turn (turn_gx T3)
              have hsz3 := T3.size
              rw [HRW.out.2.2.2] at hsz3
              have hlt3 := gx_lt (lo := wr.heap.size + 1) (hi := wr.heap.size + 1) HP3.out (by omega)
              have hd := drop_any Q x t hr3 hlt3 (by have := HQL.out.1; omega) HQL.out.2
              rw [HDX.out.1, HDX.out.2] at hd
              have HD := Lib.hid hd
              have hFwr := C.lt HP.out.road
              have rY3 := HRW.out.1.keep (T3.block _ HRW.out.1.lt (fun hF => by have := hFwr _ hF; omega))
              have rN3 := HRW.out.2.1.keep (T3.block _ HRW.out.2.1.lt (fun hF => by have := hFwr _ hF; omega))
              have q1 := rY3.cell (j := 1) rfl
              have q2 := rY3.cell (j := 2) rfl
              have q3 := rY3.cell (j := 3) rfl
              have q4 := rY3.cell (j := 4) rfl
              have q5 := rY3.cell (j := 5) rfl
              have ql := rY3.lt
              have p0 := HP3.out.row.cell (j := 0) rfl
              have pl := HP3.out.row.lt
              have H3 := Lib.hid (And.intro hO3 rN3)
              have hXlt := HP.out.row.lt
              have hwlo := HP.out.below.size
              have HLO := Lib.hid (And.intro hXlt hwlo)
              clear h3 T3 hO3 hr3 hlt3 hd rY3 rN3 x0 xl y0 y1 y2 y3 y4 y5 yl v0 v1 v2 v3 v4 v5 vl HC HP2 o0 o1 o2 o3 o4 o5 ol hFwr hXlt hwlo
              go_wp2_with fail
              with_reducible refine HD.out.mono ?_
              rintro e w4 ⟨A', n', c', rfl, hr4, hb4⟩
              have rN4 := H3.out.2.keep (hb4.block _ H3.out.2.lt)
              have rX4 := HP3.out.row.keep (hb4.block _ HP3.out.row.lt)
              have hne : X ≠ wr.heap.size + 1 := by have := HLO.out.1; omega
              have rX5 := rX4.keep (heap_set_ne w4 ⟨wr.heap.size + 1, 0, none⟩ (.slice A' n' c') hne)
              have rN5 := rN4.set 0 (.slice A' n' c')
              have HK := Lib.hid (show PS C w ((w4.setCell ⟨wr.heap.size + 1, 0, none⟩ (.slice A' n' c')).setCell ⟨X, 0, none⟩ (.slice A' n' c')) p F' Q' Q' X A' n' c' from by
                have TS := (ox_set (X := X) (lo := wr.heap.size + 1) (hi := wr.heap.size + 1) w4 (wr.heap.size + 1) 0 (.slice A' n' c') (.inr ⟨Nat.le_refl _, Nat.le_refl _⟩)).trans (ox_set _ X 0 (.slice A' n' c') (.inl rfl))
                exact HP3.out.fin H3.out.1 (by have := HLO.out.2; omega) ((ox_below hb4).trans TS) (rX5.set 0 _) (hr4.turn (turn_ox TS)))
              have n0' := rN4.cell (j := 0) rfl
              have nf := rN4.frozen 0
              have nl := rN4.lt
              have n1' := rN5.cell (j := 0) rfl
              have nl1 := rN5.lt
              have x1 := rX5.cell (j := 0) rfl
              have xf := rX5.frozen 0
              have xl1 := rX5.lt
              have HQ2 := Lib.hid (C.len HK.out.road)
              clear hr4 hb4 rN4 rX4 rX5 rN5 q1 q2 q3 q4 q5 ql p0 pl HD HP3 H3 HLO hne
              go_wp2_with fail
              generalize (w4.setCell ⟨wr.heap.size + 1, 0, none⟩ (.slice A' n' c')).setCell ⟨X, 0, none⟩ (.slice A' n' c') = w6 at *
              clear n0' nf nl n1' nl1 x1 xf xl1
              go_loopw [16] (fun s16 wi => ∃ (j : Nat), s16 = .int .i64 ((j : Int) - 2) ∧ j ≤ 11 ∧ Hid (PS C w wi p F' Q' Q' X A' n' c')) (fun s16 _ => (9 - intOf s16).toNat)
              case atStart => exact ⟨0, rfl, by omega, HK⟩
              case round =>
                obtain ⟨j, rfl, hj, HJ⟩ := hrel
                by_cases hj11 : j < 11
                · have hjz : ((j : Int) - 2) < 9 := by omega
                  obtain ⟨vw, hvw⟩ : ∃ vw, waitsQ Q' ((j : Int) - 2) = vw := ⟨_, rfl⟩
                  have HJD := Lib.hid (HJ.out.on (show Below wr.heap.size wr wr.drew from (Below.refl _ _).drew))
                  have HWt := Lib.hid (C.waits_is HJD.out.road ((j : Int) - 2) (in64 (by omega)) hvw)
                  have z0 := HJ.out.row.cell (j := 0) rfl
                  have zl := HJ.out.row.lt
                  have HVV := Lib.hid (fun w7 (hb7 : Below wr.drew.heap.size wr.drew w7) => And.intro ((HJD.out.on hb7).row.cell (j := 0) rfl) (And.intro (HJD.out.on hb7).row.lt (show Calls Try.prog 25 #[.agg #[.slice A' n' c'], .int .i64 ((j : Int) - 2)] w7 (Gives (.int .i64 vw) w7) from by
                    have hv := waits_any Q' ((j : Int) - 2) (HJD.out.on hb7).rat (by have := HQ2.out.1; omega)
                    rw [hvw] at hv
                    exact hv)))
                  clear hvw
                  go_wp2_with fail
                  go_region_held3 (fun w' => w'.cell? ⟨X, 0, none⟩ = some (.slice A' n' c'))
                    (first | exact z0 | exact z7 | exact z8 | go_keep)
                    (first
                      | (go_at_call 24
                         with_reducible refine HWt.out.mono ?_
                         rintro e w7 ⟨rfl, hb7⟩
                         obtain ⟨z7, zl7, hv⟩ := HVV.out w7 hb7
                         have HV := Lib.hid hv
                         have HJ7 := Lib.hid (HJD.out.on hb7)
                         clear hb7 hv)
                      | (go_at_call 25
                         with_reducible refine HV.out.mono ?_
                         rintro e w8 ⟨rfl, hb8⟩
                         have HJ8 := Lib.hid (HJ7.out.on hb8)
                         have z8 := HJ8.out.row.cell (j := 0) rfl
                         clear hb8))
                  all_goals go_wp2
                  all_goals exact ⟨⟨j + 1, by go_num, by omega, HJ8⟩, by simp [intOf]; omega⟩
                · obtain rfl : j = 11 := by omega
                  have hjz : ¬ (((11 : Nat) : Int) - 2 < 9) := by omega
                  go_wp2_with fail
                  have hin := HI.out.1
                  have hi200 := HI.out.2
                  exact ⟨⟨i + 1, F', Q', A', n', c', by go_num, by omega, by omega, HJ⟩, by simp [intOf]; omega⟩
        · as_aux_lemma =>
            obtain ⟨Q', hQ'⟩ : ∃ Q', (twiceQ Q x t).1 = Q' := ⟨_, rfl⟩
            obtain ⟨er, her⟩ : ∃ er, (twiceQ Q x t).2 = er := ⟨_, rfl⟩
            have HC := Lib.hid (C.twice_is HP2.out.road x t HX.out.1 HX.out.2.1 (Prod.ext hQ' her))
            have HDX := Lib.hid (And.intro hQ' her)
            clear hQ' her
            rcases hcs with t1 | ⟨t1, t2⟩
            all_goals
              go_wp2_with fail
              with_reducible refine HC.out.mono ?_
              rintro e w3 ⟨rfl, F', h3, T3⟩
              have HP3 := Lib.hid (HP2.out.code h3 T3)
              have hO3 : ∀ b, wr.heap.size + 1 ≤ b → b ≤ wr.heap.size + 1 → ¬ F' b := own_off HP.out (by omega) T3 (by rw [HRW.out.2.2.2]; omega)
              have hr3 := (gx_start (hi := wr.heap.size + 1) HP.out HRW.out.2.2.1 (lo := wr.heap.size + 1) (by omega)).turn (turn_gx T3)
              have hsz3 := T3.size
              rw [HRW.out.2.2.2] at hsz3
              have hlt3 := gx_lt (lo := wr.heap.size + 1) (hi := wr.heap.size + 1) HP3.out (by omega)
              have hd := twice_any Q x t hr3 hlt3 (by have := HQL.out.1; omega) HQL.out.2
              rw [HDX.out.1, HDX.out.2] at hd
              have HD := Lib.hid hd
              have hFwr := C.lt HP.out.road
              have rY3 := HRW.out.1.keep (T3.block _ HRW.out.1.lt (fun hF => by have := hFwr _ hF; omega))
              have rN3 := HRW.out.2.1.keep (T3.block _ HRW.out.2.1.lt (fun hF => by have := hFwr _ hF; omega))
              have q1 := rY3.cell (j := 1) rfl
              have q2 := rY3.cell (j := 2) rfl
              have q3 := rY3.cell (j := 3) rfl
              have q4 := rY3.cell (j := 4) rfl
              have q5 := rY3.cell (j := 5) rfl
              have ql := rY3.lt
              have p0 := HP3.out.row.cell (j := 0) rfl
              have pl := HP3.out.row.lt
              have H3 := Lib.hid (And.intro hO3 rN3)
              have hXlt := HP.out.row.lt
              have hwlo := HP.out.below.size
              have HLO := Lib.hid (And.intro hXlt hwlo)
              clear h3 T3 hO3 hr3 hlt3 hd rY3 rN3 x0 xl y0 y1 y2 y3 y4 y5 yl v0 v1 v2 v3 v4 v5 vl HC HP2 o0 o1 o2 o3 o4 o5 ol hFwr hXlt hwlo
              go_wp2_with fail
              with_reducible refine HD.out.mono ?_
              rintro e w4 ⟨A', n', c', rfl, hr4, hb4⟩
              have rN4 := H3.out.2.keep (hb4.block _ H3.out.2.lt)
              have rX4 := HP3.out.row.keep (hb4.block _ HP3.out.row.lt)
              have hne : X ≠ wr.heap.size + 1 := by have := HLO.out.1; omega
              have rX5 := rX4.keep (heap_set_ne w4 ⟨wr.heap.size + 1, 0, none⟩ (.slice A' n' c') hne)
              have rN5 := rN4.set 0 (.slice A' n' c')
              have HK := Lib.hid (show PS C w ((w4.setCell ⟨wr.heap.size + 1, 0, none⟩ (.slice A' n' c')).setCell ⟨X, 0, none⟩ (.slice A' n' c')) p F' Q' Q' X A' n' c' from by
                have TS := (ox_set (X := X) (lo := wr.heap.size + 1) (hi := wr.heap.size + 1) w4 (wr.heap.size + 1) 0 (.slice A' n' c') (.inr ⟨Nat.le_refl _, Nat.le_refl _⟩)).trans (ox_set _ X 0 (.slice A' n' c') (.inl rfl))
                exact HP3.out.fin H3.out.1 (by have := HLO.out.2; omega) ((ox_below hb4).trans TS) (rX5.set 0 _) (hr4.turn (turn_ox TS)))
              have n0' := rN4.cell (j := 0) rfl
              have nf := rN4.frozen 0
              have nl := rN4.lt
              have n1' := rN5.cell (j := 0) rfl
              have nl1 := rN5.lt
              have x1 := rX5.cell (j := 0) rfl
              have xf := rX5.frozen 0
              have xl1 := rX5.lt
              have HQ2 := Lib.hid (C.len HK.out.road)
              clear hr4 hb4 rN4 rX4 rX5 rN5 q1 q2 q3 q4 q5 ql p0 pl HD HP3 H3 HLO hne
              go_wp2_with fail
              generalize (w4.setCell ⟨wr.heap.size + 1, 0, none⟩ (.slice A' n' c')).setCell ⟨X, 0, none⟩ (.slice A' n' c') = w6 at *
              clear n0' nf nl n1' nl1 x1 xf xl1
              go_loopw [16] (fun s16 wi => ∃ (j : Nat), s16 = .int .i64 ((j : Int) - 2) ∧ j ≤ 11 ∧ Hid (PS C w wi p F' Q' Q' X A' n' c')) (fun s16 _ => (9 - intOf s16).toNat)
              case atStart => exact ⟨0, rfl, by omega, HK⟩
              case round =>
                obtain ⟨j, rfl, hj, HJ⟩ := hrel
                by_cases hj11 : j < 11
                · have hjz : ((j : Int) - 2) < 9 := by omega
                  obtain ⟨vw, hvw⟩ : ∃ vw, waitsQ Q' ((j : Int) - 2) = vw := ⟨_, rfl⟩
                  have HJD := Lib.hid (HJ.out.on (show Below wr.heap.size wr wr.drew from (Below.refl _ _).drew))
                  have HWt := Lib.hid (C.waits_is HJD.out.road ((j : Int) - 2) (in64 (by omega)) hvw)
                  have z0 := HJ.out.row.cell (j := 0) rfl
                  have zl := HJ.out.row.lt
                  have HVV := Lib.hid (fun w7 (hb7 : Below wr.drew.heap.size wr.drew w7) => And.intro ((HJD.out.on hb7).row.cell (j := 0) rfl) (And.intro (HJD.out.on hb7).row.lt (show Calls Try.prog 25 #[.agg #[.slice A' n' c'], .int .i64 ((j : Int) - 2)] w7 (Gives (.int .i64 vw) w7) from by
                    have hv := waits_any Q' ((j : Int) - 2) (HJD.out.on hb7).rat (by have := HQ2.out.1; omega)
                    rw [hvw] at hv
                    exact hv)))
                  clear hvw
                  go_wp2_with fail
                  go_region_held3 (fun w' => w'.cell? ⟨X, 0, none⟩ = some (.slice A' n' c'))
                    (first | exact z0 | exact z7 | exact z8 | go_keep)
                    (first
                      | (go_at_call 24
                         with_reducible refine HWt.out.mono ?_
                         rintro e w7 ⟨rfl, hb7⟩
                         obtain ⟨z7, zl7, hv⟩ := HVV.out w7 hb7
                         have HV := Lib.hid hv
                         have HJ7 := Lib.hid (HJD.out.on hb7)
                         clear hb7 hv)
                      | (go_at_call 25
                         with_reducible refine HV.out.mono ?_
                         rintro e w8 ⟨rfl, hb8⟩
                         have HJ8 := Lib.hid (HJ7.out.on hb8)
                         have z8 := HJ8.out.row.cell (j := 0) rfl
                         clear hb8))
                  all_goals go_wp2
                  all_goals exact ⟨⟨j + 1, by go_num, by omega, HJ8⟩, by simp [intOf]; omega⟩
                · obtain rfl : j = 11 := by omega
                  have hjz : ¬ (((11 : Nat) : Int) - 2 < 9) := by omega
                  go_wp2_with fail
                  have hin := HI.out.1
                  have hi200 := HI.out.2
                  exact ⟨⟨i + 1, F', Q', A', n', c', by go_num, by omega, by omega, HJ⟩, by simp [intOf]; omega⟩
        · as_aux_lemma =>
            obtain ⟨Q', hQ'⟩ : ∃ Q', (swapQ Q x t).1 = Q' := ⟨_, rfl⟩
            obtain ⟨er, her⟩ : ∃ er, (swapQ Q x t).2 = er := ⟨_, rfl⟩
            have HC := Lib.hid (C.swap_is HP2.out.road x t HX.out.1 HX.out.2.1 (Prod.ext hQ' her))
            have HDX := Lib.hid (And.intro hQ' her)
            clear hQ' her
            rcases hcs with t1 | ⟨t1, t2⟩
            all_goals
              go_wp2_with fail
              with_reducible refine HC.out.mono ?_
              rintro e w3 ⟨rfl, F', h3, T3⟩
              have HP3 := Lib.hid (HP2.out.code h3 T3)
              have hO3 : ∀ b, wr.heap.size + 1 ≤ b → b ≤ wr.heap.size + 1 → ¬ F' b := own_off HP.out (by omega) T3 (by rw [HRW.out.2.2.2]; omega)
              have hr3 := (gx_start (hi := wr.heap.size + 1) HP.out HRW.out.2.2.1 (lo := wr.heap.size + 1) (by omega)).turn (turn_gx T3)
              have hsz3 := T3.size
              rw [HRW.out.2.2.2] at hsz3
              have hlt3 := gx_lt (lo := wr.heap.size + 1) (hi := wr.heap.size + 1) HP3.out (by omega)
              have hd := swap_any Q x t hr3 hlt3 (by have := HQL.out.1; omega) HQL.out.2
              rw [HDX.out.1, HDX.out.2] at hd
              have HD := Lib.hid hd
              have hFwr := C.lt HP.out.road
              have rY3 := HRW.out.1.keep (T3.block _ HRW.out.1.lt (fun hF => by have := hFwr _ hF; omega))
              have rN3 := HRW.out.2.1.keep (T3.block _ HRW.out.2.1.lt (fun hF => by have := hFwr _ hF; omega))
              have q1 := rY3.cell (j := 1) rfl
              have q2 := rY3.cell (j := 2) rfl
              have q3 := rY3.cell (j := 3) rfl
              have q4 := rY3.cell (j := 4) rfl
              have q5 := rY3.cell (j := 5) rfl
              have ql := rY3.lt
              have p0 := HP3.out.row.cell (j := 0) rfl
              have pl := HP3.out.row.lt
              have H3 := Lib.hid (And.intro hO3 rN3)
              have hXlt := HP.out.row.lt
              have hwlo := HP.out.below.size
              have HLO := Lib.hid (And.intro hXlt hwlo)
              clear h3 T3 hO3 hr3 hlt3 hd rY3 rN3 x0 xl y0 y1 y2 y3 y4 y5 yl v0 v1 v2 v3 v4 v5 vl HC HP2 o0 o1 o2 o3 o4 o5 ol hFwr hXlt hwlo
              go_wp2_with fail
              with_reducible refine HD.out.mono ?_
              rintro e w4 ⟨A', n', c', rfl, hr4, hb4⟩
              have rN4 := H3.out.2.keep (hb4.block _ H3.out.2.lt)
              have rX4 := HP3.out.row.keep (hb4.block _ HP3.out.row.lt)
              have hne : X ≠ wr.heap.size + 1 := by have := HLO.out.1; omega
              have rX5 := rX4.keep (heap_set_ne w4 ⟨wr.heap.size + 1, 0, none⟩ (.slice A' n' c') hne)
              have rN5 := rN4.set 0 (.slice A' n' c')
              have HK := Lib.hid (show PS C w ((w4.setCell ⟨wr.heap.size + 1, 0, none⟩ (.slice A' n' c')).setCell ⟨X, 0, none⟩ (.slice A' n' c')) p F' Q' Q' X A' n' c' from by
                have TS := (ox_set (X := X) (lo := wr.heap.size + 1) (hi := wr.heap.size + 1) w4 (wr.heap.size + 1) 0 (.slice A' n' c') (.inr ⟨Nat.le_refl _, Nat.le_refl _⟩)).trans (ox_set _ X 0 (.slice A' n' c') (.inl rfl))
                exact HP3.out.fin H3.out.1 (by have := HLO.out.2; omega) ((ox_below hb4).trans TS) (rX5.set 0 _) (hr4.turn (turn_ox TS)))
              have n0' := rN4.cell (j := 0) rfl
              have nf := rN4.frozen 0
              have nl := rN4.lt
              have n1' := rN5.cell (j := 0) rfl
              have nl1 := rN5.lt
              have x1 := rX5.cell (j := 0) rfl
              have xf := rX5.frozen 0
              have xl1 := rX5.lt
              have HQ2 := Lib.hid (C.len HK.out.road)
              clear hr4 hb4 rN4 rX4 rX5 rN5 q1 q2 q3 q4 q5 ql p0 pl HD HP3 H3 HLO hne
              go_wp2_with fail
              generalize (w4.setCell ⟨wr.heap.size + 1, 0, none⟩ (.slice A' n' c')).setCell ⟨X, 0, none⟩ (.slice A' n' c') = w6 at *
              clear n0' nf nl n1' nl1 x1 xf xl1
              go_loopw [16] (fun s16 wi => ∃ (j : Nat), s16 = .int .i64 ((j : Int) - 2) ∧ j ≤ 11 ∧ Hid (PS C w wi p F' Q' Q' X A' n' c')) (fun s16 _ => (9 - intOf s16).toNat)
              case atStart => exact ⟨0, rfl, by omega, HK⟩
              case round =>
                obtain ⟨j, rfl, hj, HJ⟩ := hrel
                by_cases hj11 : j < 11
                · have hjz : ((j : Int) - 2) < 9 := by omega
                  obtain ⟨vw, hvw⟩ : ∃ vw, waitsQ Q' ((j : Int) - 2) = vw := ⟨_, rfl⟩
                  have HJD := Lib.hid (HJ.out.on (show Below wr.heap.size wr wr.drew from (Below.refl _ _).drew))
                  have HWt := Lib.hid (C.waits_is HJD.out.road ((j : Int) - 2) (in64 (by omega)) hvw)
                  have z0 := HJ.out.row.cell (j := 0) rfl
                  have zl := HJ.out.row.lt
                  have HVV := Lib.hid (fun w7 (hb7 : Below wr.drew.heap.size wr.drew w7) => And.intro ((HJD.out.on hb7).row.cell (j := 0) rfl) (And.intro (HJD.out.on hb7).row.lt (show Calls Try.prog 25 #[.agg #[.slice A' n' c'], .int .i64 ((j : Int) - 2)] w7 (Gives (.int .i64 vw) w7) from by
                    have hv := waits_any Q' ((j : Int) - 2) (HJD.out.on hb7).rat (by have := HQ2.out.1; omega)
                    rw [hvw] at hv
                    exact hv)))
                  clear hvw
                  go_wp2_with fail
                  go_region_held3 (fun w' => w'.cell? ⟨X, 0, none⟩ = some (.slice A' n' c'))
                    (first | exact z0 | exact z7 | exact z8 | go_keep)
                    (first
                      | (go_at_call 24
                         with_reducible refine HWt.out.mono ?_
                         rintro e w7 ⟨rfl, hb7⟩
                         obtain ⟨z7, zl7, hv⟩ := HVV.out w7 hb7
                         have HV := Lib.hid hv
                         have HJ7 := Lib.hid (HJD.out.on hb7)
                         clear hb7 hv)
                      | (go_at_call 25
                         with_reducible refine HV.out.mono ?_
                         rintro e w8 ⟨rfl, hb8⟩
                         have HJ8 := Lib.hid (HJ7.out.on hb8)
                         have z8 := HJ8.out.row.cell (j := 0) rfl
                         clear hb8))
                  all_goals go_wp2
                  all_goals exact ⟨⟨j + 1, by go_num, by omega, HJ8⟩, by simp [intOf]; omega⟩
                · obtain rfl : j = 11 := by omega
                  have hjz : ¬ (((11 : Nat) : Int) - 2 < 9) := by omega
                  go_wp2_with fail
                  have hin := HI.out.1
                  have hi200 := HI.out.2
                  exact ⟨⟨i + 1, F', Q', A', n', c', by go_num, by omega, by omega, HJ⟩, by simp [intOf]; omega⟩
        · as_aux_lemma =>
            obtain ⟨Q', hQ'⟩ : ∃ Q', (clearQ Q x).1 = Q' := ⟨_, rfl⟩
            obtain ⟨er, her⟩ : ∃ er, (clearQ Q x).2 = er := ⟨_, rfl⟩
            have HC := Lib.hid (C.clear_is HP2.out.road x HX.out.1 (Prod.ext hQ' her))
            have HDX := Lib.hid (And.intro hQ' her)
            clear hQ' her
            rcases hcs with t1 | ⟨t1, t2⟩
            all_goals
              go_wp2_with fail
              with_reducible refine HC.out.mono ?_
              rintro e w3 ⟨rfl, F', h3, T3⟩
              have HP3 := Lib.hid (HP2.out.code h3 T3)
              have hO3 : ∀ b, wr.heap.size + 1 ≤ b → b ≤ wr.heap.size + 1 → ¬ F' b := own_off HP.out (by omega) T3 (by rw [HRW.out.2.2.2]; omega)
              have hr3 := (gx_start (hi := wr.heap.size + 1) HP.out HRW.out.2.2.1 (lo := wr.heap.size + 1) (by omega)).turn (turn_gx T3)
              have hsz3 := T3.size
              rw [HRW.out.2.2.2] at hsz3
              have hlt3 := gx_lt (lo := wr.heap.size + 1) (hi := wr.heap.size + 1) HP3.out (by omega)
              have hd := clear_any Q x hr3 hlt3 (by have := HQL.out.1; omega) HQL.out.2
              rw [HDX.out.1, HDX.out.2] at hd
              have HD := Lib.hid hd
              have hFwr := C.lt HP.out.road
              have rY3 := HRW.out.1.keep (T3.block _ HRW.out.1.lt (fun hF => by have := hFwr _ hF; omega))
              have rN3 := HRW.out.2.1.keep (T3.block _ HRW.out.2.1.lt (fun hF => by have := hFwr _ hF; omega))
              have q1 := rY3.cell (j := 1) rfl
              have q2 := rY3.cell (j := 2) rfl
              have q3 := rY3.cell (j := 3) rfl
              have q4 := rY3.cell (j := 4) rfl
              have q5 := rY3.cell (j := 5) rfl
              have ql := rY3.lt
              have p0 := HP3.out.row.cell (j := 0) rfl
              have pl := HP3.out.row.lt
              have H3 := Lib.hid (And.intro hO3 rN3)
              have hXlt := HP.out.row.lt
              have hwlo := HP.out.below.size
              have HLO := Lib.hid (And.intro hXlt hwlo)
              clear h3 T3 hO3 hr3 hlt3 hd rY3 rN3 x0 xl y0 y1 y2 y3 y4 y5 yl v0 v1 v2 v3 v4 v5 vl HC HP2 o0 o1 o2 o3 o4 o5 ol hFwr hXlt hwlo
              go_wp2_with fail
              with_reducible refine HD.out.mono ?_
              rintro e w4 ⟨A', n', c', rfl, hr4, hb4⟩
              have rN4 := H3.out.2.keep (hb4.block _ H3.out.2.lt)
              have rX4 := HP3.out.row.keep (hb4.block _ HP3.out.row.lt)
              have hne : X ≠ wr.heap.size + 1 := by have := HLO.out.1; omega
              have rX5 := rX4.keep (heap_set_ne w4 ⟨wr.heap.size + 1, 0, none⟩ (.slice A' n' c') hne)
              have rN5 := rN4.set 0 (.slice A' n' c')
              have HK := Lib.hid (show PS C w ((w4.setCell ⟨wr.heap.size + 1, 0, none⟩ (.slice A' n' c')).setCell ⟨X, 0, none⟩ (.slice A' n' c')) p F' Q' Q' X A' n' c' from by
                have TS := (ox_set (X := X) (lo := wr.heap.size + 1) (hi := wr.heap.size + 1) w4 (wr.heap.size + 1) 0 (.slice A' n' c') (.inr ⟨Nat.le_refl _, Nat.le_refl _⟩)).trans (ox_set _ X 0 (.slice A' n' c') (.inl rfl))
                exact HP3.out.fin H3.out.1 (by have := HLO.out.2; omega) ((ox_below hb4).trans TS) (rX5.set 0 _) (hr4.turn (turn_ox TS)))
              have n0' := rN4.cell (j := 0) rfl
              have nf := rN4.frozen 0
              have nl := rN4.lt
              have n1' := rN5.cell (j := 0) rfl
              have nl1 := rN5.lt
              have x1 := rX5.cell (j := 0) rfl
              have xf := rX5.frozen 0
              have xl1 := rX5.lt
              have HQ2 := Lib.hid (C.len HK.out.road)
              clear hr4 hb4 rN4 rX4 rX5 rN5 q1 q2 q3 q4 q5 ql p0 pl HD HP3 H3 HLO hne
              go_wp2_with fail
              generalize (w4.setCell ⟨wr.heap.size + 1, 0, none⟩ (.slice A' n' c')).setCell ⟨X, 0, none⟩ (.slice A' n' c') = w6 at *
              clear n0' nf nl n1' nl1 x1 xf xl1
              go_loopw [16] (fun s16 wi => ∃ (j : Nat), s16 = .int .i64 ((j : Int) - 2) ∧ j ≤ 11 ∧ Hid (PS C w wi p F' Q' Q' X A' n' c')) (fun s16 _ => (9 - intOf s16).toNat)
              case atStart => exact ⟨0, rfl, by omega, HK⟩
              case round =>
                obtain ⟨j, rfl, hj, HJ⟩ := hrel
                by_cases hj11 : j < 11
                · have hjz : ((j : Int) - 2) < 9 := by omega
                  obtain ⟨vw, hvw⟩ : ∃ vw, waitsQ Q' ((j : Int) - 2) = vw := ⟨_, rfl⟩
                  have HJD := Lib.hid (HJ.out.on (show Below wr.heap.size wr wr.drew from (Below.refl _ _).drew))
                  have HWt := Lib.hid (C.waits_is HJD.out.road ((j : Int) - 2) (in64 (by omega)) hvw)
                  have z0 := HJ.out.row.cell (j := 0) rfl
                  have zl := HJ.out.row.lt
                  have HVV := Lib.hid (fun w7 (hb7 : Below wr.drew.heap.size wr.drew w7) => And.intro ((HJD.out.on hb7).row.cell (j := 0) rfl) (And.intro (HJD.out.on hb7).row.lt (show Calls Try.prog 25 #[.agg #[.slice A' n' c'], .int .i64 ((j : Int) - 2)] w7 (Gives (.int .i64 vw) w7) from by
                    have hv := waits_any Q' ((j : Int) - 2) (HJD.out.on hb7).rat (by have := HQ2.out.1; omega)
                    rw [hvw] at hv
                    exact hv)))
                  clear hvw
                  go_wp2_with fail
                  go_region_held3 (fun w' => w'.cell? ⟨X, 0, none⟩ = some (.slice A' n' c'))
                    (first | exact z0 | exact z7 | exact z8 | go_keep)
                    (first
                      | (go_at_call 24
                         with_reducible refine HWt.out.mono ?_
                         rintro e w7 ⟨rfl, hb7⟩
                         obtain ⟨z7, zl7, hv⟩ := HVV.out w7 hb7
                         have HV := Lib.hid hv
                         have HJ7 := Lib.hid (HJD.out.on hb7)
                         clear hb7 hv)
                      | (go_at_call 25
                         with_reducible refine HV.out.mono ?_
                         rintro e w8 ⟨rfl, hb8⟩
                         have HJ8 := Lib.hid (HJ7.out.on hb8)
                         have z8 := HJ8.out.row.cell (j := 0) rfl
                         clear hb8))
                  all_goals go_wp2
                  all_goals exact ⟨⟨j + 1, by go_num, by omega, HJ8⟩, by simp [intOf]; omega⟩
                · obtain rfl : j = 11 := by omega
                  have hjz : ¬ (((11 : Nat) : Int) - 2 < 9) := by omega
                  go_wp2_with fail
                  have hin := HI.out.1
                  have hi200 := HI.out.2
                  exact ⟨⟨i + 1, F', Q', A', n', c', by go_num, by omega, by omega, HJ⟩, by simp [intOf]; omega⟩
      · obtain rfl : i = 200 := by omega
        have HA := Lib.hid (awake_any C wr)
        have hinz : ((200 : Nat) : Int) < (n0 : Int) := by omega
        have hi3z : ¬ ((200 : Nat) : Int) < 200 := by omega
        have HBW := Lib.hid HP.out.below
        clear hin hi3 hin0
        go_wp2_with fail
        refine HA.out.mono ?_
        rintro e w9 ⟨rfl, h9⟩
        have hfin := HBW.out.trans (h9.mono HBW.out.size)
        go_wp2
        go_ret
        exact ⟨rfl, hfin⟩
    · have HA := Lib.hid (awake_any C wr)
      have hinz : ¬ (i : Int) < (n0 : Int) := by omega
      have HBW := Lib.hid HP.out.below
      clear hin hi3 hin0
      go_wp2_with fail
      refine HA.out.mono ?_
      rintro e w9 ⟨rfl, h9⟩
      have hfin := HBW.out.trans (h9.mono HBW.out.size)
      go_wp2
      go_ret
      exact ⟨rfl, hfin⟩
end Go.Proofs.Ytikbgaomiliefaa.Ro
