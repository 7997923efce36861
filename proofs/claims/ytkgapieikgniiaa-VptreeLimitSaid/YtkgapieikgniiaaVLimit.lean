/- VptreeLimit: with the farthest one's distance as its limit a search finds the same. Conditions: the slice of points reads as a list. -/
import Derived.Test.YtkgapieikgniiaaVLawM
set_option linter.unusedVariables false
set_option linter.unusedSimpArgs false
namespace Go.Proofs.Ytkgapieikgniiaa
open Go Go.RowKit Go.Maps
theorem ck_two (x y : Int) : ck [x % 256, y % 256] 2 = 0 := by
  rw [ck_zero]
  refine ⟨(okV_iff _).2 ⟨by simp, by simp, fun z hz => ?_⟩, rfl⟩
  simp only [List.mem_cons, List.not_mem_nil, or_false] at hz
  rcases hz with rfl | rfl <;> omega
set_option maxHeartbeats 2000000 in
set_option maxRecDepth 100000 in
theorem vptreeLimit_walk (A : Option Addr) (n c : Nat) (l : List Pt) (x y a : Int) (w : World) (hP : Pts w w.heap.size A n l) (hm : n ≤ maxLen) (hxy : (-9223372036854775808 ≤ x ∧ x ≤ 9223372036854775807)) (hxy2 : (-9223372036854775808 ≤ y ∧ y ≤ 9223372036854775807)) :
    Calls Try.prog 5 #[.slice A n c, .agg #[.int .i64 x, .int .i64 y], .int .i64 a] w (Gives (.bool true) w) := by
  have HAW := Lib.hid awake_any
  have h1 := and255 x
  have h2 := and255 y
  have h3 := and31 a
  obtain ⟨k, hk⟩ : ∃ k : Nat, (k : Int) = a % 32 := ⟨(a % 32).toNat, by omega⟩
  have hk31 : k ≤ 31 := by omega
  rw [← hk] at h3
  have HCK := Lib.hid (ck_two x y)
  generalize x % 256 = X at *
  generalize y % 256 = Y at *
  clear hk hxy hxy2
  obtain ⟨W1, hW1⟩ : ∃ W1, W1 = w.alloc (.cells #[.int .i64 x, .int .i64 y] 44) := ⟨_, rfl⟩
  obtain ⟨W2, hW2⟩ : ∃ W2, W2 = W1.alloc (.cells #[.int .i64 X, .int .i64 Y] 3) := ⟨_, rfl⟩
  have b1 : Below w.heap.size w W1 := by rw [hW1]; exact (Below.refl _ w).alloc (Nat.le_refl _) _
  have b2 : Below W1.heap.size W1 W2 := by rw [hW2]; exact (Below.refl _ W1).alloc (Nat.le_refl _) _
  have s1 : W1.heap.size = w.heap.size + 1 := by rw [hW1]; simp
  have b12 := b1.trans (b2.mono b1.size)
  have hv : Reads W2 (w.heap.size + 1 + 1) 1 (some ⟨w.heap.size + 1, 0, none⟩) 2 (ints [X, Y]) := by
    have := news_int W1 [X, Y] (by simp)
    rw [← s1, hW2]
    exact this
  have s2 : W2.heap.size = w.heap.size + 1 + 1 := by rw [hW2]; simp [s1]
  have hnew := vnew_any 2 W2 (by omega) (by omega)
  have HW := Lib.hid (show (w.alloc (.cells #[.int .i64 x, .int .i64 y] 44)).alloc (.cells #[.int .i64 X, .int .i64 Y] 3) = W2 by rw [hW2, hW1])
  have HB := Lib.hid (And.intro b12 (And.intro hv s2))
  clear b1 b2 s1 b12 hv s2 hW1 hW2
  clear W1
  have HP := Lib.hid hP
  clear hP
  unfold maxLen at hm
  go_enter Try.func5, Try.ntmps5
  go_wp2_with fail
  rw [HW.out]
  refine hnew.mono ?_
  rintro e w3 ⟨F3, t, rfl, ht3, hF3, hb3⟩
  have HM3 := Lib.hid (Mine.new (Below.refl _ W2) (Nat.le_refl _) ht3 hF3 hb3)
  clear ht3 hF3 hb3 hnew
  by_cases h100 : 100 < n
  · have hz : (100 : Int) < (n : Int) := by omega
    go_wp2_with fail
    refine (HAW.out w3).mono ?_
    rintro e w4 ⟨rfl, hb4⟩
    go_wp2_with fail
    go_ret
    exact ⟨rfl, HB.out.1.trans ((HM3.out.under hb4).below.mono HB.out.1.size)⟩
  · have hz : ¬ (100 : Int) < (n : Int) := by omega
    go_wp2_with fail
    go_loopw [11] (fun vi wr => ∃ (i : Nat) (F : Nat → Prop), i ≤ n ∧ vi = .int .i64 i ∧ Hid (Mine W2.heap.size W2 wr F t 2 (putAll 2 (l.take i) []))) (fun vi _ => n - (intOf vi).toNat)
    case atStart => exact ⟨0, F3, by omega, rfl, HM3⟩
    case round =>
      obtain ⟨i, F, hi, rfl, HM⟩ := hrel
      by_cases hlt : i < n
      · have hltz : (i : Int) < (n : Int) := by omega
        have hbw : Below w.heap.size w wr := HB.out.1.trans (HM.out.below.mono HB.out.1.size)
        obtain ⟨ad, hA, hab, hil, c0, c1, hg⟩ := (HP.out.below hbw).at_ hlt
        subst hA
        have hws : w.heap.size ≤ W2.heap.size := HB.out.1.size
        have hput := t_put_all HM.out (x := (ptAt l i).1) (c := (ptAt l i).2.1.2.2) hg.2 hg.1.1 (hbw.size) hg.1.2 (fun h0 ad' e hF => by
          obtain ⟨ad2, e2, hb2, _⟩ := hg.1.1.2 h0
          rw [e] at e2
          injection e2 with e2
          subst e2
          have := HM.out.up _ hF
          omega)
        have hnx := putR_snoc 2 (l.take i) (ptAt l i) []
        rw [← take_pt' hil] at hnx
        rw [← hnx] at hput
        have cl : (ad.add (i * 2)).block < wr.heap.size := by rw [block_of_add]; have := hbw.size; omega
        clear hg hnx hbw hab hws
        generalize ptAt l i = P at *
        obtain ⟨px, ⟨pA, pn, pc⟩, pl⟩ := P
        simp only at c0 c1 hput
        go_wp2_with fail
        refine hput.mono ?_
        rintro e w4 ⟨rfl, F', M4⟩
        have HM4 := Lib.hid M4
        clear M4 hput
        go_wp2_with fail
        go_roundw
        case rel => exact ⟨i + 1, F', by omega, by go_num, HM4⟩
        case measure => simp [intOf]; omega
      · have hin : i = n := by omega
        have HM9 : Hid (Mine W2.heap.size W2 wr F t 2 (putAll 2 l [])) := Lib.hid (by
          have := HM.out
          rw [hin, List.take_of_length_le (by have := HP.out.len; omega)] at this
          exact this)
        have hTl : (putAll 2 l []).length ≤ 100 := by
          have h1 := putAll_len 2 l []
          have h2 := HP.out.len
          simp only [List.length_nil] at h1
          omega
        have hvw : Reads wr (w.heap.size + 1 + 1) 1 (some ⟨w.heap.size + 1, 0, none⟩) 2 (ints [X, Y]) := HB.out.2.1.below (by rw [← HB.out.2.2]; exact HM9.out.below)
        have hC : w.heap.size + 1 + 1 ≤ wr.heap.size := by have := HM9.out.le; have := HB.out.2.2; omega
        have htp := t_top HM9.out.tree (c := 2) hvw hC (by unfold maxLen; omega) 1099511627776 HCK.out (k := 1 + k) (by omega) (by omega)
        have hbig : ∀ p ∈ putAll 2 l [], far p.2 [X, Y] ≤ 1099511627776 := fun p hp => by
          obtain ⟨_, h2, h3⟩ := HM9.out.tree.ok p hp
          have h4 := (ck_len HCK.out).1
          have := far_le h2 h4 (by rw [h3]; rfl)
          omega
        have HTOP := Lib.hid (topH_big (k := 1 + k) hbig)
        have HFB := Lib.hid (fun y (hy : y ∈ allH (putAll 2 l []) [X, Y]) => show 0 ≤ y.2 ∧ y.2 ≤ 1099511627776 from by
          obtain ⟨p, hp, rfl⟩ := List.mem_map.1 ((srtH_self _).mem_iff.1 hy)
          exact ⟨far_nonneg _ _, hbig p hp⟩)
        have HLEN := Lib.hid (allH_len (putAll 2 l []) [X, Y])
        have HORD := Lib.hid (allH_ord (putAll 2 l []) [X, Y])
        have HALL := Lib.hid (fun x => topH_all (putAll 2 l []) [X, Y] (1 + k) x)
        rw [show ((1 + k : Nat) : Int) = 1 + (k : Int) by omega] at htp
        clear hvw hbig HM
        generalize putAll 2 l [] = T at *
        go_wp2_with fail
        refine htp.mono ?_
        rintro e w6 ⟨A6, m6, rfl, hR6, hm6, hb6⟩
        rw [HTOP.out] at hR6
        have hm6l := hR6.hits_len
        have M6 := HM9.out.under hb6
        have hln := t_len M6.tree
        have hmin : m6 = min (1 + k) T.length := by rw [hm6l, List.length_take, HLEN.out]
        have HM6 := Lib.hid (And.intro M6 (And.intro hR6 hmin))
        have hmz : (m6 : Int) = min (1 + (k : Int)) (T.length : Int) := by omega
        have hne : ((m6 : Int) != min (1 + (k : Int)) (T.length : Int)) = false := by rw [hmz]; simp
        clear hR6 hm6l M6 hmin hmz htp
        generalize hTL : (T.length : Int) = tl at *
        go_wp2_with fail
        refine hln.mono ?_
        rintro e w7 ⟨rfl, q7, rfl⟩
        have HM7 := Lib.hid (And.intro (HM6.out.1.drewN q7) (show Reads (w6.drewN q7) (w6.drewN q7).heap.size 2 A6 m6 (hits ((allH T [X, Y]).take (1 + k))) from HM6.out.2.1.drewN q7))
        generalize w6.drewN q7 = w7 at *
        clear hln
        by_cases hm0 : m6 = 0
        · have hm0z : (m6 : Int) = 0 := by omega
          go_wp2_with fail
          refine (HAW.out w7).mono ?_
          rintro e w8 ⟨rfl, hb8⟩
          go_wp2_with fail
          go_ret
          exact ⟨rfl, HB.out.1.trans ((HM7.out.1.under hb8).below.mono HB.out.1.size)⟩
        · obtain ⟨j, rfl⟩ : ∃ j, m6 = j + 1 := ⟨m6 - 1, by omega⟩
          have hRd := HM7.out.2
          have hLl : ((allH T [X, Y]).take (1 + k)).length = j + 1 := hRd.hits_len.symm
          have HLl := Lib.hid hLl
          obtain ⟨ad, hA6, hab, hjl, x0, x1⟩ := hRd.hit_at (k := j) (by omega)
          subst hA6
          have cl : (ad.add (j * 2)).block < w7.heap.size := lt_of_cell x0
          obtain ⟨f, hf⟩ : ∃ f, f = (((allH T [X, Y]).take (1 + k)).getD j (0, 0)).2 := ⟨_, rfl⟩
          rw [← hf] at x1
          have hsame : topH T [X, Y] (1 + k) f = (allH T [X, Y]).take (1 + k) := by
            rw [HALL.out]
            refine take_same (fun y hy => ?_)
            have := last_max (HORD.out.take (i := 1 + k)) y hy
            rw [hLl, Nat.add_sub_cancel, ← hf] at this
            exact this
          have hless : topH T [X, Y] (1 + k) (f - 1) = ((allH T [X, Y]).take (1 + k)).filter fun y => decide (y.2 < f) := by
            rw [HALL.out]
            exact take_less HORD.out (by rw [hLl]; omega) (by rw [hLl, Nat.add_sub_cancel]; exact hf)
          have hfb : 0 ≤ f ∧ f ≤ 1099511627776 := by
            rw [hf, List.getD_eq_getElem?_getD, List.getElem?_eq_getElem (by rw [hLl]; omega), Option.getD_some]
            exact HFB.out _ (List.mem_of_mem_take (List.getElem_mem _))
          obtain ⟨hf0, hf1⟩ := hfb
          have HS := Lib.hid (And.intro hsame (And.intro hless hf))
          have HRD := Lib.hid hRd
          have hv7 : Reads w7 (w.heap.size + 1 + 1) 1 (some ⟨w.heap.size + 1, 0, none⟩) 2 (ints [X, Y]) := HB.out.2.1.below (by rw [← HB.out.2.2]; exact HM7.out.1.below)
          have htp2 := t_top HM7.out.1.tree (c := 2) hv7 (by have := HM7.out.1.le; have := HB.out.2.2; omega) (by unfold maxLen; omega) f HCK.out (k := 1 + k) (by omega) (by omega)
          rw [show ((1 + k : Nat) : Int) = 1 + (k : Int) by omega] at htp2
          clear hRd hjl hab hsame hless hf hLl hv7
          go_wp2_with fail
          refine htp2.mono ?_
          rintro e w8 ⟨A8, m8, rfl, hR8, hm8, hb8⟩
          rw [HS.out.1] at hR8
          have M8 := HM7.out.1.under hb8
          have hv8 : Reads w8 (w.heap.size + 1 + 1) 1 (some ⟨w.heap.size + 1, 0, none⟩) 2 (ints [X, Y]) := HB.out.2.1.below (by rw [← HB.out.2.2]; exact M8.below)
          have htp3 := t_top M8.tree (c := 2) hv8 (by have := M8.le; have := HB.out.2.2; omega) (by unfold maxLen; omega) (f - 1) HCK.out (k := 1 + k) (by omega) (by omega)
          rw [show ((1 + k : Nat) : Int) = 1 + (k : Int) by omega] at htp3
          have HM8 := Lib.hid (And.intro M8 (And.intro hR8 (HRD.out.below hb8)))
          clear M8 hR8 hv8 htp2
          go_wp2_with fail
          refine htp3.mono ?_
          rintro e w9 ⟨A9, m9, rfl, hR9, hm9, hb9⟩
          rw [HS.out.2.1] at hR9
          have M9 := HM8.out.1.under hb9
          have hLA : Reads w9 w7.heap.size 2 (some ad) (j + 1) (hits ((allH T [X, Y]).take (1 + k))) := HM8.out.2.2.below (hb9.mono hb8.size)
          have hLB : Reads w9 w8.heap.size 2 A8 m8 (hits ((allH T [X, Y]).take (1 + k))) := HM8.out.2.1.below (hb9.mono (Nat.le_refl _))
          have HOL := Lib.hid (HORD.out.take (i := 1 + k))
          have HFL := Lib.hid HS.out.2.2
          have hlen := HLl.out
          have HM9b := Lib.hid M9
          clear htp3 M9 hb8 hb9 HS HM8 HRD HALL HTOP HFB HLEN HORD HLl
          generalize (allH T [X, Y]).take (1 + k) = L at *
          have HLA := Lib.hid hLA
          have HLB := Lib.hid hLB
          have HR9 := Lib.hid hR9
          have HLEN2 := Lib.hid hlen
          have hm9' : m9 ≤ 64 := hm9
          have hm8' : m8 ≤ 64 := hm8
          have hj64 : j + 1 ≤ 64 := by omega
          clear hLA hLB hR9 hlen
          have hs1 := fun q => same_any (some ad) A8 (j + 1) m8 (j + 1) m8 w7.heap.size w8.heap.size L L (w9.drewN q) (HLA.out.drewN q) (HLB.out.drewN q) (by unfold maxLen; omega) (by unfold maxLen; omega)
          simp only [decide_eq_true rfl] at hs1
          have hs2 : ∀ (s q : Nat), s ≤ j + 1 → (L.filter fun y => decide (y.2 < f)) = L.take s → Calls Try.prog 23 #[.slice A9 m9 m9, .slice (some ad) s (j + 1)] (w9.drewN q) (SaysH (.bool true) (w9.drewN q)) := fun s q hs e => by
            have := same_any A9 (some ad) m9 s m9 (j + 1) w9.heap.size w7.heap.size _ (L.take s) (w9.drewN q) (HR9.out.drewN q) ((hits_prefix HLA.out hs).drewN q) (by unfold maxLen; omega) (by unfold maxLen; omega)
            rwa [decide_eq_true e] at this
          clear x1
          go_wp2_with fail
          go_loopw [19] (fun vi wr => ∃ (s q : Nat), s ≤ j + 1 ∧ vi = .int .i64 s ∧ wr = w9.drewN q ∧ Hid (∀ t, t < s → (L.getD t (0, 0)).2 < f)) (fun vi _ => j + 1 - (intOf vi).toNat)
          case atStart => exact ⟨0, 0, by omega, rfl, rfl, Lib.hid (fun t ht => absurd ht (by omega))⟩
          case round =>
            obtain ⟨s, q, hs, rfl, rfl, HLT⟩ := hrel
            by_cases hsj : s < j + 1
            · obtain ⟨ad', hA', _, hsl, y0, y1⟩ := (HLA.out.drewN q).hit_at (k := s) hsj
              injection hA' with hA'
              subst hA'
              have cl2 : (ad.add (s * 2)).block < (w9.drewN q).heap.size := lt_of_cell y0
              have hsz : (s : Int) < (j : Int) + 1 := by omega
              by_cases hlt : (L.getD s (0, 0)).2 < f
              · have HNX := Lib.hid (show ∀ t, t < s + 1 → (L.getD t (0, 0)).2 < f from fun t ht => by
                  rcases Nat.lt_or_ge t s with h | h
                  · exact HLT.out t h
                  · rw [show t = s by omega]
                    exact hlt)
                clear hsl y0
                generalize (L.getD s (0, 0)).2 = z at *
                go_wp2_with fail
                go_roundw
                case rel => exact ⟨s + 1, q, by omega, by go_num, rfl, HNX⟩
                case measure => simp [intOf]; omega
              · have HCUT := Lib.hid (filter_cut HOL.out HLT.out (fun _ => by omega) (by rw [HLEN2.out]; omega))
                clear hsl y0
                generalize (L.getD s (0, 0)).2 = z at *
                go_wp2_with fail
                refine (hs1 q).mono ?_
                rintro e w10 ⟨rfl, q10, rfl⟩
                go_wp2_with fail
                refine (hs2 s (q + q10) hs HCUT.out).mono ?_
                rintro e w11 ⟨rfl, q11, rfl⟩
                go_wp2_with fail
                refine (HAW.out _).mono ?_
                rintro e w12 ⟨rfl, hb12⟩
                go_wp2_with fail
                go_ret
                exact ⟨rfl, HB.out.1.trans ((HM9b.out.under (show Below w9.heap.size w9 w12 from by first | exact (below_drewN (Below.refl _ w9) _).trans hb12 | exact ((below_drewN (below_drewN (Below.refl _ w9) _) _).trans hb12))).below.mono HB.out.1.size)⟩
            · have HCUT := Lib.hid (filter_cut HOL.out HLT.out (fun h => by rw [HLEN2.out] at h; omega) (by rw [HLEN2.out]; omega))
              have hsz : ¬ (s : Int) < (j : Int) + 1 := by omega
              go_wp2_with fail
              refine (hs1 q).mono ?_
              rintro e w10 ⟨rfl, q10, rfl⟩
              go_wp2_with fail
              refine (hs2 s (q + q10) hs HCUT.out).mono ?_
              rintro e w11 ⟨rfl, q11, rfl⟩
              go_wp2_with fail
              refine (HAW.out _).mono ?_
              rintro e w12 ⟨rfl, hb12⟩
              go_wp2_with fail
              go_ret
              exact ⟨rfl, HB.out.1.trans ((HM9b.out.under (show Below w9.heap.size w9 w12 from by first | exact (below_drewN (Below.refl _ w9) _).trans hb12 | exact ((below_drewN (below_drewN (Below.refl _ w9) _) _).trans hb12))).below.mono HB.out.1.size)⟩
end Go.Proofs.Ytkgapieikgniiaa
