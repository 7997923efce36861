/- A wheel tells what the document's does, whatever is asked. Conditions: the calls as they come in. -/
import Derived.Test.YtfojempmgonahaaWhPS
import Derived.Deep.QuietTactic
set_option linter.unusedVariables false
set_option linter.unusedSimpArgs false
set_option maxRecDepth 100000
namespace Go.Proofs.Ytfojempmgonahaa.Wh
open Go Go.RowKit Go.Maps
set_option maxHeartbeats 8000000 in
theorem plays_walk {w : World} {B n0 c0 : Nat} {A0 : Option Addr} (hO : OpsAt w B A0 n0) (hB : B ≤ w.heap.size) (hn63 : n0 ≤ 9223372036854775807) :
    Calls Try.prog 3 #[.slice A0 n0 c0] w (Gives (.bool true) w) := by
  have H0 := Lib.hid (wnew_any w)
  have HO := Lib.hid hO
  clear hO
  go_enter Try.func3, Try.ntmps3
  go_wp2_with fail
  refine H0.out.mono ?_
  rintro e w1 ⟨p, bm, dm, rfl, h1, hFo, hBe⟩
  obtain ⟨W1, hW1⟩ : ∃ W1, W1 = w1.alloc (.cells #[.slice none 0 0, .slice none 0 0] 27) := ⟨_, rfl⟩
  have hb1 : Below w1.heap.size w1 W1 := by rw [hW1]; exact (Below.refl _ w1).alloc (Nat.le_refl _) _
  have HP0 := Lib.hid (show PS w W1 p bm dm 0 [] [] w1.heap.size none 0 0 none 0 0 from
    ⟨h1.below hb1, hFo, hBe.trans (hb1.mono hBe.size), by rw [hW1]; exact Row.new w1 _ _, hBe.size, fun hF => by have := h1.lt _ hF; omega, ⟨⟨Reads.none_, Reads.none_, by decide, by decide, by decide, by decide, rfl⟩, off_none _ _, off_none _ _⟩⟩)
  have HW1 := Lib.hid hW1
  obtain ⟨X, hX⟩ : ∃ X, w1.heap.size = X := ⟨_, rfl⟩
  rw [hX] at HP0
  have HX := Lib.hid hX
  clear h1 hFo hBe hb1 hW1 hX
  go_wp2_with fail
  rw [← HW1.out, HX.out]
  go_loopw [5] (fun s5 wr => ∃ (i : Nat) (now : Int) (L : List Tm) (G : List (Int × Nat)) (A : Option Addr) (n c : Nat) (A2 : Option Addr) (n2 c2 : Nat), s5 = .int .i64 (i : Int) ∧ i ≤ 300 ∧ i ≤ n0 ∧ now ≤ (i : Int) ∧ Hid (PS w wr p bm dm now L G X A n c A2 n2 c2)) (fun s5 _ => (300 - intOf s5).toNat)
  case atStart => exact ⟨0, 0, [], [], none, 0, 0, none, 0, 0, rfl, by omega, by omega, by omega, HP0.out |> Lib.hid⟩
  case round =>
    obtain ⟨i, now, L, G, A, n, c, A2, n2, c2, rfl, hi3, hin0, hnow, HP⟩ := hrel
    by_cases hin : i < n0
    · by_cases hi300 : i < 300
      · have hinz : (i : Int) < (n0 : Int) := by omega
        have hi3z : (i : Int) < 300 := by omega
        obtain ⟨ad, kd, x, t, rfl, hop, hxw⟩ := HO.out i hin
        have hop1 := hop.below (HP.out.below.mono hB)
        have o0 := hop1.c0
        have o1 := hop1.c1
        have o2 := hop1.c2
        have ol : (ad.add (i * 3)).block < wr.heap.size := by have := hop1.lt; have := HP.out.below.size; omega
        obtain ⟨W, hW⟩ : ∃ W, W = wr.alloc (.cells #[.int .i64 kd, .int .i64 x, .int .i64 t] 29) := ⟨_, rfl⟩
        have hbW : Below wr.heap.size wr W := by rw [hW]; exact (Below.refl _ wr).alloc (Nat.le_refl _) _
        have rY : Row W wr.heap.size 29 [.int .i64 kd, .int .i64 x, .int .i64 t] := by rw [hW]; exact Row.new wr _ _
        have HPW := Lib.hid (HP.out.on hbW)
        have HYF := Lib.hid (show ¬ Foot p bm dm G wr.heap.size from fun hF => by have := HP.out.wheel.lt _ hF; omega)
        have hnl := HP.out.len
        have hnb : n ≤ 1000000 := by omega
        obtain ⟨Y, hY⟩ : ∃ Y, wr.heap.size = Y := ⟨_, rfl⟩
        rw [hY] at rY HYF
        have hxY : X ≠ Y := by have := HP.out.row.lt; omega
        have HY := Lib.hid (And.intro hY hxY)
        have HRY := Lib.hid rY
        have HWW := Lib.hid hW
        have hrise : Rise L := HP.out.wheel.rise
        have hn0 := HP.out.wheel.now0
        have hnm : now ≤ 1000000 := by omega
        have HRI := Lib.hid (And.intro hrise (And.intro hn0 hnm))
        have x0 := HP.out.row.cell (j := 0) rfl
        have x1 := HP.out.row.cell (j := 1) rfl
        have xl := HP.out.row.lt
        have HI := Lib.hid (And.intro hin (And.intro hi300 hnow))
        clear hop hop1 hbW rY hW hY hxY hrise hn0 hnl
        rcases (show kd = 1 ∨ kd = 2 ∨ kd = 3 ∨ (kd ≠ 1 ∧ kd ≠ 2 ∧ kd ≠ 3) by omega) with rfl | rfl | rfl | ⟨k1, k2, k3⟩
        · have hC := rset_any (qOf now L) x t HPW.out.qx.qat (Nat.le_refl _) hnb
          rw [set_is x t now HRI.out.1] at hC
          have hS := fun (w3 : World) (h3 : WheelW w3 p bm dm now L G) => set_any h3 HRI.out.2.2 hxw (n := t)
          obtain ⟨cd, hcd⟩ : ∃ cd, (setR x t now L).1 = cd := ⟨_, rfl⟩
          obtain ⟨L', hL'⟩ : ∃ L', (setR x t now L).2 = L' := ⟨_, rfl⟩
          simp only [hcd, hL'] at hC hS
          have HC := Lib.hid hC
          have HS := Lib.hid hS
          clear hC hS hcd hL' hnow hnm
          go_wp2_with fail
          rw [← HWW.out, (HY.out).1]
          with_reducible refine HC.out.mono ?_
          rintro e w2 ⟨A', n', c', A2', n2', c2', rfl, hq2, hb2, f1, f2⟩
          obtain ⟨W3, hW3⟩ : ∃ W3, W3 = w2.alloc (.cells #[.slice A' n' c', .slice A2' n2' c2'] 27) := ⟨_, rfl⟩
          have hb3 : Below w2.heap.size w2 W3 := by rw [hW3]; exact (Below.refl _ w2).alloc (Nat.le_refl _) _
          have hbb : Below W.heap.size W W3 := hb2.trans (hb3.mono hb2.size)
          have rZ : Row W3 w2.heap.size 27 [.slice A' n' c', .slice A2' n2' c2'] := by rw [hW3]; exact Row.new w2 _ _
          have h3 := HPW.out.on hbb
          have rY3 := HRY.out.keep (hbb.block _ HRY.out.lt)
          have HS3 := Lib.hid (HS.out W3 h3.wheel)
          obtain ⟨Z, hZ⟩ : ∃ Z, w2.heap.size = Z := ⟨_, rfl⟩
          rw [hZ] at rZ
          have HZW := Lib.hid (And.intro hZ hW3)
          have HZF := Lib.hid (show ¬ Foot p bm dm G Z from fun hF => by have := HPW.out.wheel.lt _ hF; have := hb2.size; omega)
          have HNXT := Lib.hid (fun w4 G4 (h4 : WheelW w4 p bm dm now L' G4) (T4 : Turn (Foot p bm dm G) W3 (Foot p bm dm G4) w4) => HPW.out.next hq2 hb2 f1 f2 hb3 h4 T4)
          have HR3 := Lib.hid (And.intro rZ (And.intro rY3 h3.row))
          have rY2 := HRY.out.keep (hb2.block _ HRY.out.lt)
          have y1 := rY2.cell (j := 1) rfl
          have y2 := rY2.cell (j := 2) rfl
          have yl := rY2.lt
          clear rY2
          clear hq2 hb2 f1 f2 hb3 hbb rZ h3 rY3 hZ hW3 x0 x1 xl o0 o1 o2 ol
          go_wp2_with fail
          rw [← HZW.out.2, HZW.out.1]
          with_reducible refine HS3.out.mono ?_
          rintro e w4 ⟨rfl, G4, h4, T4⟩
          obtain ⟨rZ, rY, rX⟩ := HR3.out
          have rZ4 := rZ.keep (T4.block Z rZ.lt HZF.out)
          have rX4 := rX.keep (T4.block X rX.lt HPW.out.xoff)
          have z0 := rZ4.cell (j := 0) rfl
          have z1 := rZ4.cell (j := 1) rfl
          have zl := rZ4.lt
          have x0 := rX4.cell (j := 0) rfl
          have x1 := rX4.cell (j := 1) rfl
          have xf0 := rX4.frozen 0
          have xf1 := rX4.frozen 1
          have xl := rX4.lt
          have HK := Lib.hid (HNXT.out w4 G4 h4 T4)
          clear h4 T4 rZ rY rX rZ4 rX4 y1 y2 yl
          go_wp2_with fail
          generalize (w4.setCell ⟨X, 0, none⟩ (.slice A' n' c')).setCell ⟨X, 1, none⟩ (.slice A2' n2' c2') = w5 at *
          clear z0 z1 zl x0 x1 xf0 xf1 xl
          obtain ⟨hin, hi300, hnow⟩ := HI.out
          have e0 := HK.out.row.cell (j := 0) rfl
          have el := HK.out.row.lt
          have HKL := Lib.hid (fun q => show Calls Try.prog 19 #[.pointer (some ⟨p, 0, none⟩)] (w5.drewN q) (fun e w' => e = .returned (.int .i64 (n' : Int)) ∧ w' = w5.drewN q) from by
            have h := len_any (HK.out.wheel.drewN q)
            rw [← HK.out.len.1] at h
            exact h.mono (fun _ _ h => And.intro h.1 h.2.symm))
          go_wp2_with fail
          go_quiet ((go_at_call 19; exact Calls.quiet_of_same (HKL.out _)))
          go_wp2
          exact ⟨⟨i + 1, now, L', G4, A', n', c', A2', n2', c2', by go_num, by omega, by omega, by omega, Lib.hid (HK.out.on (below_drewN (Below.refl _ _) _))⟩, by simp [intOf]; omega⟩
        · have hC := rcancel_any (qOf now L) x HPW.out.qx.qat (Nat.le_refl _) hnb
          rw [cancel_is x now HRI.out.1] at hC
          have hS := fun (w3 : World) (h3 : WheelW w3 p bm dm now L G) => cancel_any h3 HRI.out.2.2 hxw
          obtain ⟨cd, hcd⟩ : ∃ cd, has x L = cd := ⟨_, rfl⟩
          obtain ⟨L', hL'⟩ : ∃ L', off x L = L' := ⟨_, rfl⟩
          simp only [hcd, hL'] at hC hS
          have HC := Lib.hid hC
          have HS := Lib.hid hS
          clear hC hS hcd hL' hnow hnm
          go_wp2_with fail
          rw [← HWW.out, (HY.out).1]
          with_reducible refine HC.out.mono ?_
          rintro e w2 ⟨A', n', c', A2', n2', c2', rfl, hq2, hb2, f1, f2⟩
          obtain ⟨W3, hW3⟩ : ∃ W3, W3 = w2.alloc (.cells #[.slice A' n' c', .slice A2' n2' c2'] 27) := ⟨_, rfl⟩
          have hb3 : Below w2.heap.size w2 W3 := by rw [hW3]; exact (Below.refl _ w2).alloc (Nat.le_refl _) _
          have hbb : Below W.heap.size W W3 := hb2.trans (hb3.mono hb2.size)
          have rZ : Row W3 w2.heap.size 27 [.slice A' n' c', .slice A2' n2' c2'] := by rw [hW3]; exact Row.new w2 _ _
          have h3 := HPW.out.on hbb
          have rY3 := HRY.out.keep (hbb.block _ HRY.out.lt)
          have HS3 := Lib.hid (HS.out W3 h3.wheel)
          obtain ⟨Z, hZ⟩ : ∃ Z, w2.heap.size = Z := ⟨_, rfl⟩
          rw [hZ] at rZ
          have HZW := Lib.hid (And.intro hZ hW3)
          have HZF := Lib.hid (show ¬ Foot p bm dm G Z from fun hF => by have := HPW.out.wheel.lt _ hF; have := hb2.size; omega)
          have HNXT := Lib.hid (fun w4 G4 (h4 : WheelW w4 p bm dm now L' G4) (T4 : Turn (Foot p bm dm G) W3 (Foot p bm dm G4) w4) => HPW.out.next hq2 hb2 f1 f2 hb3 h4 T4)
          have HR3 := Lib.hid (And.intro rZ (And.intro rY3 h3.row))
          have rY2 := HRY.out.keep (hb2.block _ HRY.out.lt)
          have y1 := rY2.cell (j := 1) rfl
          have y2 := rY2.cell (j := 2) rfl
          have yl := rY2.lt
          clear rY2
          clear hq2 hb2 f1 f2 hb3 hbb rZ h3 rY3 hZ hW3 x0 x1 xl o0 o1 o2 ol
          go_wp2_with fail
          rw [← HZW.out.2, HZW.out.1]
          with_reducible refine HS3.out.mono ?_
          rintro e w4 ⟨rfl, G4, h4, T4⟩
          obtain ⟨rZ, rY, rX⟩ := HR3.out
          have rZ4 := rZ.keep (T4.block Z rZ.lt HZF.out)
          have rX4 := rX.keep (T4.block X rX.lt HPW.out.xoff)
          have z0 := rZ4.cell (j := 0) rfl
          have z1 := rZ4.cell (j := 1) rfl
          have zl := rZ4.lt
          have x0 := rX4.cell (j := 0) rfl
          have x1 := rX4.cell (j := 1) rfl
          have xf0 := rX4.frozen 0
          have xf1 := rX4.frozen 1
          have xl := rX4.lt
          have HK := Lib.hid (HNXT.out w4 G4 h4 T4)
          clear h4 T4 rZ rY rX rZ4 rX4 y1 y2 yl
          go_wp2_with fail
          generalize (w4.setCell ⟨X, 0, none⟩ (.slice A' n' c')).setCell ⟨X, 1, none⟩ (.slice A2' n2' c2') = w5 at *
          clear z0 z1 zl x0 x1 xf0 xf1 xl
          obtain ⟨hin, hi300, hnow⟩ := HI.out
          have e0 := HK.out.row.cell (j := 0) rfl
          have el := HK.out.row.lt
          have HKL := Lib.hid (fun q => show Calls Try.prog 19 #[.pointer (some ⟨p, 0, none⟩)] (w5.drewN q) (fun e w' => e = .returned (.int .i64 (n' : Int)) ∧ w' = w5.drewN q) from by
            have h := len_any (HK.out.wheel.drewN q)
            rw [← HK.out.len.1] at h
            exact h.mono (fun _ _ h => And.intro h.1 h.2.symm))
          go_wp2_with fail
          go_quiet ((go_at_call 19; exact Calls.quiet_of_same (HKL.out _)))
          go_wp2
          exact ⟨⟨i + 1, now, L', G4, A', n', c', A2', n2', c2', by go_num, by omega, by omega, by omega, Lib.hid (HK.out.on (below_drewN (Below.refl _ _) _))⟩, by simp [intOf]; omega⟩
        · have hL := left_any HPW.out.wheel HRI.out.2.2 hxw
          have hC := rleft_any (qOf now L) x HPW.out.qx.qat.ids HPW.out.qx.qat.left (c := c) (c2 := c2) (Nat.le_refl _) hnb HPW.out.qx.qat.eq
          rw [left_is x now HRI.out.1] at hC
          obtain ⟨l1, hl1⟩ : ∃ l1, (leftL x now L).1 = l1 := ⟨_, rfl⟩
          obtain ⟨l2, hl2⟩ : ∃ l2, (leftL x now L).2 = l2 := ⟨_, rfl⟩
          rw [hl1, hl2] at hC hL
          have HC := Lib.hid hC
          have HL := Lib.hid hL
          clear hC hL hl1 hl2 hnow hnm
          go_wp2_with fail
          rw [← HWW.out, (HY.out).1]
          with_reducible refine HL.out.mono ?_
          rintro e w2 ⟨rfl, rfl⟩
          have rX := HPW.out.row
          have x0 := rX.cell (j := 0) rfl
          have x1 := rX.cell (j := 1) rfl
          have xl := rX.lt
          have rY := HRY.out
          have y1 := rY.cell (j := 1) rfl
          have yl := rY.lt
          clear rX rY
          go_wp2_with fail
          with_reducible refine HC.out.mono ?_
          rintro e w5 ⟨rfl, hb5⟩
          have HK := Lib.hid (HPW.out.on hb5)
          clear hb5 x0 x1 xl y1 yl o0 o1 o2 ol
          obtain ⟨hin, hi300, hnow⟩ := HI.out
          have e0 := HK.out.row.cell (j := 0) rfl
          have el := HK.out.row.lt
          have HKL := Lib.hid (fun q => show Calls Try.prog 19 #[.pointer (some ⟨p, 0, none⟩)] (w5.drewN q) (fun e w' => e = .returned (.int .i64 (n : Int)) ∧ w' = w5.drewN q) from by
            have h := len_any (HK.out.wheel.drewN q)
            rw [← HK.out.len.1] at h
            exact h.mono (fun _ _ h => And.intro h.1 h.2.symm))
          go_wp2_with fail
          go_quiet ((go_at_call 19; exact Calls.quiet_of_same (HKL.out _)))
          go_wp2
          exact ⟨⟨i + 1, now, L, G, A, n, c, A2, n2, c2, by go_num, by omega, by omega, by omega, Lib.hid (HK.out.on (below_drewN (Below.refl _ _) _))⟩, by simp [intOf]; omega⟩
        · have hC := rtick_any (qOf now L) HPW.out.qx.qat (Nat.le_refl _) hnb (fun u hu => by
            obtain ⟨y, hy, rfl⟩ := List.mem_map.1 hu
            have := HPW.out.wheel.wf y hy
            omega)
          unfold QTickPost at hC
          rw [tick_is] at hC
          have hT := fun (w3 : World) (h3 : WheelW w3 p bm dm now L G) => tick_held h3 HRI.out.2.2
          unfold TickP at hT
          obtain ⟨lo, hlo⟩ : ∃ lo, outs (now + 1) L = lo := ⟨_, rfl⟩
          obtain ⟨L', hL'⟩ : ∃ L', rest (now + 1) L = L' := ⟨_, rfl⟩
          simp only [hlo, hL'] at hC hT
          have HC := Lib.hid hC
          have HT := Lib.hid hT
          have hlol : lo.length ≤ 4096 := by
            rw [← hlo]
            have h1 := List.length_filter_le (fun p : Tm => decide (p.2 = now + 1)) L
            have h2 := HPW.out.wheel.len
            simp only [outs, at_, List.length_map]
            omega
          have HLO := Lib.hid hlol
          clear hC hT hlo hL' hnow hnm hlol
          go_wp2_with fail
          rw [← HWW.out, (HY.out).1]
          with_reducible refine HC.out.mono ?_
          rintro e w2 ⟨A', n', c', A2', n2', c2', A3, n3, c3, rfl, hq2, hr2, hc3, hm3, hb2, f1, f2, f3⟩
          obtain ⟨W3, hW3⟩ : ∃ W3, W3 = w2.alloc (.cells #[.slice A' n' c', .slice A2' n2' c2'] 27) := ⟨_, rfl⟩
          have hb3 : Below w2.heap.size w2 W3 := by rw [hW3]; exact (Below.refl _ w2).alloc (Nat.le_refl _) _
          have hbb : Below W.heap.size W W3 := hb2.trans (hb3.mono hb2.size)
          have rZ : Row W3 w2.heap.size 27 [.slice A' n' c', .slice A2' n2' c2'] := by rw [hW3]; exact Row.new w2 _ _
          have h3 := HPW.out.on hbb
          have HS3 := Lib.hid (HT.out W3 h3.wheel)
          obtain ⟨Z, hZ⟩ : ∃ Z, w2.heap.size = Z := ⟨_, rfl⟩
          rw [hZ] at rZ
          have HZW := Lib.hid (And.intro hZ hW3)
          have HZF := Lib.hid (show ¬ Foot p bm dm G Z from fun hF => by have := HPW.out.wheel.lt _ hF; have := hb2.size; omega)
          have off3 : Off w2 (Foot p bm dm G) A3 := off_fresh (off_none W _) f3 HPW.out.wheel.lt hb2.size
          have hr3 : Reads W3 W3.heap.size 1 A3 n3 (ints lo) := (hr2.below hb3).more hb3.size
          have off3' : Off W3 (Foot p bm dm G) A3 := fun ad hA => ⟨Nat.lt_of_lt_of_le (off3 ad hA).1 hb3.size, (off3 ad hA).2⟩
          have HR3 := Lib.hid (And.intro rZ (And.intro h3.row (And.intro hr3 off3')))
          have HNXT := Lib.hid (fun w4 w5 G4 (h4 : WheelW w4 p bm dm (now + 1) L' G4) (T4 : Turn (Foot p bm dm G) W3 (Foot p bm dm G4) w4) (hb5 : Below w4.heap.size w4 w5) => HPW.out.next hq2 hb2 (fun ad h => (f1 ad h).imp id (fun e => by cases e)) (fun ad h => (f2 ad h).imp id (fun e => by cases e)) hb3 (h4.below hb5) (T4.trans (Turn.below _ hb5)))
          clear hq2 hr2 hb2 f1 f2 f3 hb3 hbb rZ h3 hZ hW3 x0 x1 xl o0 o1 o2 ol off3 hr3 off3'
          go_wp2_with fail
          rw [← HZW.out.2, HZW.out.1]
          with_reducible refine HS3.out.mono ?_
          rintro e w4 ⟨A6, n6, c6, G4, rfl, hn6, hh6, _, _, h4, T4⟩
          obtain ⟨rZ, rX, hr3, off3⟩ := HR3.out
          have hn3 := hr3.len
          have hsame := sameInts_any A6 A3 n6 n3 c6 c3 _ _ lo lo w4 hh6.reads (off3.reads hr3 T4) (by have := HLO.out; unfold maxLen; omega) (by have := HLO.out; unfold maxLen; omega)
          rw [decide_eq_true rfl] at hsame
          have HSM := Lib.hid hsame
          have rZ4 := rZ.keep (T4.block Z rZ.lt HZF.out)
          have rX4 := rX.keep (T4.block X rX.lt HPW.out.xoff)
          have HR4 := Lib.hid (And.intro rZ4 rX4)
          have HN4 := Lib.hid (fun w5 (hb5 : Below w4.heap.size w4 w5) => HNXT.out w4 w5 G4 h4 T4 hb5)
          clear h4 T4 rZ rX rZ4 rX4 hr3 off3 hn3 hn6 hh6 hsame
          go_wp2_with fail
          with_reducible refine HSM.out.mono ?_
          rintro e w5 ⟨rfl, qd, rfl⟩
          have hb5 : Below w4.heap.size w4 (w4.drewN qd) := below_drewN (Below.refl _ _) _
          obtain ⟨rZ4, rX4⟩ := HR4.out
          have rZ5 := rZ4.keep (hb5.block _ rZ4.lt)
          have rX5 := rX4.keep (hb5.block _ rX4.lt)
          have HK := Lib.hid (HN4.out _ hb5)
          generalize w4.drewN qd = w5 at *
          have z0 := rZ5.cell (j := 0) rfl
          have z1 := rZ5.cell (j := 1) rfl
          have zl := rZ5.lt
          have x0 := rX5.cell (j := 0) rfl
          have x1 := rX5.cell (j := 1) rfl
          have xf0 := rX5.frozen 0
          have xf1 := rX5.frozen 1
          have xl := rX5.lt
          clear rZ4 rX4 rZ5 rX5 hb5
          go_wp2_with fail
          generalize (w5.setCell ⟨X, 0, none⟩ (.slice A' n' c')).setCell ⟨X, 1, none⟩ (.slice A2' n2' c2') = w6 at *
          clear z0 z1 zl x0 x1 xf0 xf1 xl
          obtain ⟨hin, hi300, hnow⟩ := HI.out
          have e0 := HK.out.row.cell (j := 0) rfl
          have el := HK.out.row.lt
          have HKL := Lib.hid (fun q => show Calls Try.prog 19 #[.pointer (some ⟨p, 0, none⟩)] (w6.drewN q) (fun e w' => e = .returned (.int .i64 (n' : Int)) ∧ w' = w6.drewN q) from by
            have h := len_any (HK.out.wheel.drewN q)
            rw [← HK.out.len.1] at h
            exact h.mono (fun _ _ h => And.intro h.1 h.2.symm))
          go_wp2_with fail
          go_quiet ((go_at_call 19; exact Calls.quiet_of_same (HKL.out _)))
          go_wp2
          exact ⟨⟨i + 1, now + 1, L', G4, A', n', c', A2', n2', c2', by go_num, by omega, by omega, by omega, Lib.hid (HK.out.on (below_drewN (Below.refl _ _) _))⟩, by simp [intOf]; omega⟩
      · obtain rfl : i = 300 := by omega
        have HA := Lib.hid (awake_any wr)
        have hinz : ((300 : Nat) : Int) < (n0 : Int) := by omega
        have hi3z : ¬ ((300 : Nat) : Int) < 300 := by omega
        have HBW := Lib.hid HP.out.below
        clear hin hi3 hin0
        go_wp2_with fail
        refine HA.out.mono ?_
        rintro e w9 ⟨rfl, h9⟩
        have hfin := HBW.out.trans (h9.mono HBW.out.size)
        go_wp2
        go_ret
        exact ⟨rfl, hfin⟩
    · have HA := Lib.hid (awake_any wr)
      have hinz : ¬ (i : Int) < (n0 : Int) := by omega
      have HBW := Lib.hid HP.out.below
      clear hin hi3 hin0
      go_wp2_with fail
      refine HA.out.mono ?_
      rintro e w9 ⟨rfl, h9⟩
      have hfin := HBW.out.trans (h9.mono HBW.out.size)
      go_wp2
      go_ret
      exact ⟨rfl, hfin⟩
end Go.Proofs.Ytfojempmgonahaa.Wh
