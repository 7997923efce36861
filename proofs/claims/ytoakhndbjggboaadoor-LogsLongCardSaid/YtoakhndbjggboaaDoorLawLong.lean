/- The walk of LogsLong: it returns true. Conditions: the tables lie as start-up lays them. -/
import Derived.Test.YtoakhndbjggboaaDoorZ
import Derived.Great.BuildSlice
set_option linter.unusedVariables false
set_option linter.unusedSimpArgs false
namespace Go.Proofs.YtoakhndbjggboaaDoor
open Go Go.RowKit
theorem logf_anew_no {w : World} {F G : Nat → Prop} {p d N t st B : Nat} {R : List (List UInt8)} {sr : Nat} {su : List ByteArray} {l : List (Nat × ByteArray)} (h : LogF w B F G p d N t st R sr su l) (ht : t + 1 ≤ 1000000) (rs : List (List UInt8)) (A0 : Option Addr) (n0 c0 : Nat) (hR : Reads w w.heap.size 1 A0 n0 (strL rs)) (hn0 : n0 ≤ maxLen) (x : Int) (hx : joinE rs (128 * hB N (t + 1)) = x) (hne : x ≠ 0) :
    Calls Tryd.prog 10 #[.pointer (some ⟨p, 0, none⟩), .slice A0 n0 c0] w fun e w' => e = .returned (.int .i64 x) ∧ LogF w' B F G p d N t st R sr su l ∧ Below B w w' := by
  refine (anew_no h.log ht rs A0 n0 c0 hR hn0 x hx hne h.tab.t1).mono ?_
  rintro e w' ⟨rfl, hb⟩
  exact ⟨rfl, h.below hb, hb.mono h.tab.le⟩
theorem two_own (w : World) (a b : List UInt8) : Reads (w.alloc (.cells #[.string ⟨a.toArray⟩, .string ⟨b.toArray⟩] 9)) (w.heap.size + 1) 1 (some ⟨w.heap.size, 0, none⟩) 2 (strL [a, b]) :=
  ⟨rfl, fun _ => ⟨_, rfl, by simp, fun j u hu => news_cells w #[.string ⟨a.toArray⟩, .string ⟨b.toArray⟩] 9 j u (by simpa [strL] using hu)⟩⟩
/-- What was put in last. -/
theorem last_str {w : World} {A : Option Addr} {n : Nat} {R : List (List UInt8)} (h : Reads w w.heap.size 1 A n (strL R)) (r : List UInt8) (hl : R.getLast? = some r) : ∃ ad, A = some ad ∧ (ad.add (n - 1)).block < w.heap.size ∧ w.cell? (ad.add (n - 1)) = some (.string ⟨r.toArray⟩) ∧ 0 < n := by
  have hn := reads_len h
  have hpos : 0 < R.length := by
    rcases R with _ | ⟨x, R⟩
    · simp at hl
    · simp
  obtain ⟨ad, rfl, hb, hc⟩ := reads_str h (show n - 1 < n by omega)
  refine ⟨ad, rfl, by rw [block_of_add]; exact hb, ?_, by omega⟩
  rw [hc]
  rw [List.getLast?_eq_getElem?] at hl
  rw [hn, List.getD_eq_getElem?_getD, hl]
  rfl
set_option maxHeartbeats 8000000 in
set_option maxRecDepth 100000 in
theorem long_fine (more : Int) (k : Nat) (hk : more % 4 = (k : Int)) (hk1 : k ≤ 1) (an : Bool) (W : World) (hT : Tab W W.heap.size) (hP : Tabs W W.heap.size) : Calls Tryd.prog 5 #[.int .i64 more, .bool an] W (Gives (.bool true) W) := by
  have hand := (i64_and3 more).trans hk
  have hbg := begun_any 1200 (by decide) (by decide) W hT
  have haw := fun w (h : Tab w W.heap.size) => awake_any w h
  obtain ⟨kk, hkk⟩ : ∃ kk : Nat, kk = 32767 + k := ⟨_, rfl⟩
  have hkz : 32767 + (k : Int) = (kk : Int) := by omega
  have hmk := make_z kk (by omega)
  have hB0 : hB 1200 0 = 599 := by decide
  have hB1 : hB 1200 1 = 599 := by decide
  have hk2 : kk ≤ 32768 := by omega
  have hkn : ¬ (1 : Int) < (k : Int) := by omega
  have HB := Lib.hid hbg
  have HA := Lib.hid haw
  have HP := Lib.hid hP
  have HBB := Lib.hid (And.intro hB0 hB1)
  clear hbg haw hT hP hB0 hB1 hk hkk
  rw [show ((1200 : Nat) : Int) = 1200 from rfl] at HB
  go_enter Tryd.func5, Tryd.ntmps5
  go_wp2_with fail
  refine HB.out.mono ?_
  rintro e w1 ⟨p, d, F1, G1, st, su, rfl, h1, hb1⟩
  have hcv := row_z w1 kk
  obtain ⟨W2, hW2⟩ : ∃ W2, W2 = w1.alloc (.cells (madeCells #[.int .u8 0] kk) 5) := ⟨_, rfl⟩
  have h2 : LogF W2 W.heap.size F1 G1 p d 1200 0 st [] 0 su [] := by rw [hW2]; exact h1.below ((Below.refl _ _).alloc (Nat.le_refl _) _)
  have hb2 : Below W.heap.size W W2 := by rw [hW2]; exact hb1.alloc h1.tab.le _
  have hzl := zL_len kk
  cases an with
  | true =>
    have hsz : ∀ r ∈ [[(97 : UInt8)], zL kk], r.length ≤ 32768 := fun r hr => by
      rcases List.mem_cons.1 hr with rfl | hr
      · decide
      · simp only [List.mem_singleton] at hr
        rw [hr, hzl]
        exact hk2
    have hW3 : Below W2.heap.size W2 (W2.alloc (.cells #[.string ⟨[(97 : UInt8)].toArray⟩, .string ⟨(zL kk).toArray⟩] 9)) := (Below.refl _ _).alloc (Nat.le_refl _) _
    have hjs : (encs [[(97 : UInt8)], zL kk]).length ≤ 128 * hB 1200 1 := by
      rw [HBB.out.2, show [[(97 : UInt8)], zL kk] = [[97]] ++ [zL kk] from rfl, encs_one, List.length_append, enc_len, hzl]
      have : (encs [[(97 : UInt8)]]).length = 15 := by decide
      omega
    have htw := two_own W2 [97] (zL kk)
    obtain ⟨W3, hW3'⟩ : ∃ W3, W3 = W2.alloc (.cells #[.string ⟨[(97 : UInt8)].toArray⟩, .string ⟨(zL kk).toArray⟩] 9) := ⟨_, rfl⟩
    rw [← hW3'] at hW3 htw
    have hsz3 : W3.heap.size = W2.heap.size + 1 := by rw [hW3']; simp
    rw [← hsz3] at htw
    -- the list lies in blocks that are above the log's: so another place for the tables
    have h3 := h2.below hW3
    have hb3 : Below W.heap.size W W3 := hb2.trans (hW3.mono h2.tab.le)
    have han := logf_anew h3 (by decide) [[(97 : UInt8)], zL kk] _ 2 2 htw (fun ad e _ hu => by
      injection e with e
      subst e
      have := h2.lt _ hu
      exact absurd this (by show ¬ W2.heap.size < W2.heap.size; omega)) (by unfold maxLen; omega) hsz hjs (by simp) (HP.out.on hb3)
    have HAD := Lib.hid han
    have H2 := Lib.hid hb3
    clear han h2 hb2 h1 hb1 HB h3 hb3 htw hsz hjs hsz3 hW3
    have hs2 : w1.heap.size + 1 = W2.heap.size := by rw [hW2]; simp
    go_wp2_with fail
    refine Go.wp_buildSlice 33 9 2 _ rfl #[.string ⟨[(97 : UInt8)].toArray⟩, .string ⟨(zL kk).toArray⟩] _ _ rfl rfl rfl (by decide) (by decide) (by generalize zL kk = zz; kernel_rfl) ?_
    rw [← hW2, ← hW3']
    clear hW2 hW3' hs2
    go_wp2_with fail

    refine HAD.out.mono ?_
    rintro e w3 ⟨rfl, F3, G3, st3, su3, h3, hb3⟩
    have hb3' := H2.out.trans hb3
    have hal := logf_all h3
    have HAL := Lib.hid hal
    have H3 := Lib.hid (And.intro h3 hb3')
    clear hal h3 hb3 hb3' HAD
    go_wp2_with fail
    refine HAL.out.mono ?_
    rintro e w4 ⟨A4, n4, c4, rfl, hn4, hm4, hR4, hb4⟩
    have h4 := H3.out.1.below hb4
    have hb4' := H3.out.2.trans (hb4.mono (B' := W.heap.size) H3.out.1.tab.le)
    obtain rfl : n4 = 2 := by rw [hn4]; rfl
    have hal5 := logf_all h4
    have HAL5 := Lib.hid hal5
    have H4 := Lib.hid (And.intro h4 hb4')
    clear hal5 h4 hb4 hb4' hR4 hn4 hm4 HAL
    go_wp2_with fail
    refine HAL5.out.mono ?_
    rintro e w5 ⟨A5, n5, c5, rfl, hn5, hm5, hR5, hb5⟩
    have h5 := H4.out.1.below hb5
    have hb5' := H4.out.2.trans (hb5.mono (B' := W.heap.size) H4.out.1.tab.le)
    obtain ⟨ad, rfl, hbl, hcell, hpos⟩ := last_str hR5 (zL kk) rfl
    obtain rfl : n5 = 2 := by rw [hn5]; rfl
    rw [show (2 - 1 : Nat) = 1 from rfl] at hcell hbl
    replace hcell : w5.cell? { block := ad.block, off := ad.off + 1 } = some (.string ⟨(zL kk).toArray⟩) := hcell
    replace hbl : ad.block < w5.heap.size := hbl
    have haw := HA.out _ h5.tab
    have HAW := Lib.hid (And.intro haw hb5')
    clear haw h5 hb5 hb5' hR5 hn5 hm5 HAL5
    go_wp2_with fail
    refine HAW.out.1.mono ?_
    rintro e w6 ⟨rfl, hb6⟩
    go_wp2_with fail
    go_ret
    exact ⟨rfl, HAW.out.2.trans hb6⟩
  | false =>
    have had := logf_add h2 (zL kk) (by rw [hzl]; exact hk2) (by rw [hzl, HBB.out.1]; simp [encs]; omega) (by simp)
    have HAD := Lib.hid had
    have H2 := Lib.hid hb2
    clear had h2 hb2 h1 hb1 HB
    go_wp2_with fail
    rw [← hW2]
    clear hW2
    refine HAD.out.mono ?_
    rintro e w3 ⟨rfl, F3, G3, l3, h3, hl3, hb3⟩
    have hb3' := H2.out.trans hb3
    have hal := logf_all h3
    have HAL := Lib.hid hal
    have H3 := Lib.hid (And.intro h3 hb3')
    clear hal h3 hb3 hb3' hl3 HAD
    go_wp2_with fail
    refine HAL.out.mono ?_
    rintro e w4 ⟨A4, n4, c4, rfl, hn4, hm4, hR4, hb4⟩
    have h4 := H3.out.1.below hb4
    have hb4' := H3.out.2.trans (hb4.mono (B' := W.heap.size) H3.out.1.tab.le)
    obtain rfl : n4 = 1 := by rw [hn4]; rfl
    have hal5 := logf_all h4
    have HAL5 := Lib.hid hal5
    have H4 := Lib.hid (And.intro h4 hb4')
    clear hal5 h4 hb4 hb4' hR4 hn4 hm4 HAL
    go_wp2_with fail
    refine HAL5.out.mono ?_
    rintro e w5 ⟨A5, n5, c5, rfl, hn5, hm5, hR5, hb5⟩
    have h5 := H4.out.1.below hb5
    have hb5' := H4.out.2.trans (hb5.mono (B' := W.heap.size) H4.out.1.tab.le)
    obtain ⟨ad, rfl, hbl, hcell, hpos⟩ := last_str hR5 (zL kk) rfl
    obtain rfl : n5 = 1 := by rw [hn5]; rfl
    rw [show ad.add (1 - 1) = ad by simp [Addr.add]] at hcell hbl
    have haw := HA.out _ h5.tab
    have HAW := Lib.hid (And.intro haw hb5')
    clear haw h5 hb5 hb5' hR5 hn5 hm5 HAL5
    go_wp2_with fail
    refine HAW.out.1.mono ?_
    rintro e w6 ⟨rfl, hb6⟩
    go_wp2_with fail
    go_ret
    exact ⟨rfl, HAW.out.2.trans hb6⟩
set_option maxHeartbeats 8000000 in
set_option maxRecDepth 100000 in
theorem long_no (more : Int) (k : Nat) (hk : more % 4 = (k : Int)) (hk1 : 2 ≤ k) (hk3 : k ≤ 3) (an : Bool) (W : World) (hT : Tab W W.heap.size) (hP : Tabs W W.heap.size) : Calls Tryd.prog 5 #[.int .i64 more, .bool an] W (Gives (.bool true) W) := by
  have hand := (i64_and3 more).trans hk
  have hbg := begun_any 1200 (by decide) (by decide) W hT
  have haw := fun w (h : Tab w W.heap.size) => awake_any w h
  obtain ⟨kk, hkk⟩ : ∃ kk : Nat, kk = 32767 + k := ⟨_, rfl⟩
  have hkz : 32767 + (k : Int) = (kk : Int) := by omega
  have hmk := make_z kk (by omega)
  have hB0 : hB 1200 0 = 599 := by decide
  have hB1 : hB 1200 1 = 599 := by decide
  have hk2 : 32768 < kk := by omega
  have hkn : (1 : Int) < (k : Int) := by omega
  have HB := Lib.hid hbg
  have HA := Lib.hid haw
  have HP := Lib.hid hP
  have HBB := Lib.hid (And.intro hB0 hB1)
  clear hbg haw hT hP hB0 hB1 hk hkk
  rw [show ((1200 : Nat) : Int) = 1200 from rfl] at HB
  go_enter Tryd.func5, Tryd.ntmps5
  go_wp2_with fail
  refine HB.out.mono ?_
  rintro e w1 ⟨p, d, F1, G1, st, su, rfl, h1, hb1⟩
  have hcv := row_z w1 kk
  obtain ⟨W2, hW2⟩ : ∃ W2, W2 = w1.alloc (.cells (madeCells #[.int .u8 0] kk) 5) := ⟨_, rfl⟩
  have h2 : LogF W2 W.heap.size F1 G1 p d 1200 0 st [] 0 su [] := by rw [hW2]; exact h1.below ((Below.refl _ _).alloc (Nat.le_refl _) _)
  have hb2 : Below W.heap.size W W2 := by rw [hW2]; exact hb1.alloc h1.tab.le _
  have hzl := zL_len kk
  cases an with
  | true =>
    obtain ⟨W3, hW3'⟩ : ∃ W3, W3 = W2.alloc (.cells #[.string ⟨[(97 : UInt8)].toArray⟩, .string ⟨(zL kk).toArray⟩] 9) := ⟨_, rfl⟩
    have hW3 : Below W2.heap.size W2 W3 := by rw [hW3']; exact (Below.refl _ _).alloc (Nat.le_refl _) _
    have htw : Reads W3 W3.heap.size 1 (some ⟨W2.heap.size, 0, none⟩) 2 (strL [[97], zL kk]) := by
      have := two_own W2 [97] (zL kk)
      rw [← hW3'] at this
      have hsz3 : W3.heap.size = W2.heap.size + 1 := by rw [hW3']; simp
      rw [hsz3]
      exact this
    have h3 := h2.below hW3
    have hb3 : Below W.heap.size W W3 := hb2.trans (hW3.mono h2.tab.le)
    have han := logf_anew_no h3 (by decide) [[(97 : UInt8)], zL kk] _ 2 2 htw (by unfold maxLen; omega) 23 (joinE_long (r := zL kk) (by simp) (by rw [hzl]; omega)) (by decide)
    have HAD := Lib.hid han
    have H2 := Lib.hid hb3
    clear han h2 hb2 h1 hb1 HB h3 hb3 htw hW3
    go_wp2_with fail
    have hs2 : w1.heap.size + 1 = W2.heap.size := by rw [hW2]; simp
    rw [← hW2, ← hW3', hs2]
    clear hW2 hW3' hs2
    go_wp2_with fail
    refine HAD.out.mono ?_
    rintro e w3 ⟨rfl, h3, hb3⟩
    have hb3' := H2.out.trans hb3
    have hal := logf_all h3
    have HAL := Lib.hid hal
    have H3 := Lib.hid (And.intro h3 hb3')
    clear hal h3 hb3 hb3' HAD
    go_wp2_with fail
    refine HAL.out.mono ?_
    rintro e w4 ⟨A4, n4, c4, rfl, hn4, hm4, hR4, hb4⟩
    have h4 := H3.out.1.below hb4
    have hb4' := H3.out.2.trans (hb4.mono (B' := W.heap.size) H3.out.1.tab.le)
    obtain rfl : n4 = 0 := by rw [hn4]; rfl
    have haw := HA.out _ h4.tab
    have HAW := Lib.hid (And.intro haw hb4')
    clear haw h4 hb4 hb4' hR4 hn4 hm4 HAL
    go_wp2_with fail
    refine HAW.out.1.mono ?_
    rintro e w6 ⟨rfl, hb6⟩
    go_wp2_with fail
    go_ret
    exact ⟨rfl, HAW.out.2.trans hb6⟩
  | false =>
    have had := logf_no h2 (zL kk) 23 (one_long (by rw [hzl]; exact hk2)) (by decide)
    have HAD := Lib.hid had
    have H2 := Lib.hid hb2
    clear had h2 hb2 h1 hb1 HB
    go_wp2_with fail
    rw [← hW2]
    clear hW2
    refine HAD.out.mono ?_
    rintro e w3 ⟨rfl, h3, hb3⟩
    have hb3' := H2.out.trans hb3
    have hal := logf_all h3
    have HAL := Lib.hid hal
    have H3 := Lib.hid (And.intro h3 hb3')
    clear hal h3 hb3 hb3' HAD
    go_wp2_with fail
    refine HAL.out.mono ?_
    rintro e w4 ⟨A4, n4, c4, rfl, hn4, hm4, hR4, hb4⟩
    have h4 := H3.out.1.below hb4
    have hb4' := H3.out.2.trans (hb4.mono (B' := W.heap.size) H3.out.1.tab.le)
    obtain rfl : n4 = 0 := by rw [hn4]; rfl
    have haw := HA.out _ h4.tab
    have HAW := Lib.hid (And.intro haw hb4')
    clear haw h4 hb4 hb4' hR4 hn4 hm4 HAL
    go_wp2_with fail
    refine HAW.out.1.mono ?_
    rintro e w6 ⟨rfl, hb6⟩
    go_wp2_with fail
    go_ret
    exact ⟨rfl, HAW.out.2.trans hb6⟩
/-- LogsLong returns true, whatever it is given. -/
theorem logsLong_walk (more : Int) (an : Bool) (W : World) (hT : Tab W W.heap.size) (hP : Tabs W W.heap.size) : Calls Tryd.prog 5 #[.int .i64 more, .bool an] W (Gives (.bool true) W) := by
  obtain ⟨k, hk⟩ : ∃ k : Nat, more % 4 = (k : Int) := ⟨(more % 4).toNat, by omega⟩
  have hk4 : k < 4 := by omega
  by_cases h1 : k ≤ 1
  · exact long_fine more k hk h1 an W hT hP
  · exact long_no more k hk (by omega) (by omega) an W hT hP
end Go.Proofs.YtoakhndbjggboaaDoor
