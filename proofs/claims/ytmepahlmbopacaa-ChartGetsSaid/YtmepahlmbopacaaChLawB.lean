/- ChartBack returns true. Conditions: the chart's nodes read as a list. -/
import Derived.Test.YtmepahlmbopacaaChLawM
set_option linter.unusedVariables false
set_option linter.unusedSimpArgs false
set_option maxRecDepth 100000
namespace Go.Proofs.Ytmepahlmbopacaa.Ct
open Go Go.RowKit
theorem i64_mask (n : Int) (m : Nat) (hm : m < 63) : bits .and .i64 n ((2 ^ m - 1 : Nat) : Int) = n % ((2 ^ m : Nat) : Int) := by
  have hp : 2 ^ m ≤ 2 ^ 62 := Nat.pow_le_pow_right (by omega) (by omega)
  have hp0 : 0 < 2 ^ m := Nat.two_pow_pos m
  have hm2 : (BitVec.ofInt 64 ((2 ^ m - 1 : Nat) : Int)).toNat = 2 ^ m - 1 := by
    rw [BitVec.toNat_ofInt]
    generalize 2 ^ m = q at *
    omega
  have key : (BitVec.ofInt 64 n &&& BitVec.ofInt 64 ((2 ^ m - 1 : Nat) : Int)).toNat = (n % ((2 ^ 64 : Nat) : Int)).toNat % 2 ^ m := by
    rw [BitVec.toNat_and, BitVec.toNat_ofInt, hm2, Nat.and_two_pow_sub_one_eq_mod]
  show IntKind.i64.wrap ((BitVec.ofInt 64 n &&& BitVec.ofInt 64 ((2 ^ m - 1 : Nat) : Int)).toNat : Nat) = n % ((2 ^ m : Nat) : Int)
  rw [key, IntKind.wrap_i64]
  have hd : ((2 ^ m : Nat) : Int) ∣ ((2 ^ 64 : Nat) : Int) := Int.natCast_dvd_natCast.2 (Nat.pow_dvd_pow 2 (by omega))
  have e1 : (((n % ((2 ^ 64 : Nat) : Int)).toNat % 2 ^ m : Nat) : Int) = n % ((2 ^ m : Nat) : Int) := by
    rw [Int.natCast_emod, Int.toNat_of_nonneg (Int.emod_nonneg _ (by decide)), Int.emod_emod_of_dvd _ hd]
  rw [e1]
  have h1 := Int.emod_nonneg n (b := ((2 ^ m : Nat) : Int)) (by omega)
  have h2 := Int.emod_lt_of_pos n (b := ((2 ^ m : Nat) : Int)) (by omega)
  generalize n % ((2 ^ m : Nat) : Int) = r at *
  generalize 2 ^ m = q at *
  omega
theorem i64_and7 (n : Int) : bits .and .i64 n 7 = n % 8 := i64_mask n 3 (by omega)
theorem i64_and255 (n : Int) : bits .and .i64 n 255 = n % 256 := i64_mask n 8 (by omega)
theorem done_yes {e : Int} {l : List Int} {s : Nat} {f t : Int} (hm : mayC e l = true) (hs : s < l.length) (ht : 0 ≤ t ∧ t < 8) (hne : t ≠ f) (hf : l.getD s 0 = f) (he : e ≠ 1099511627776) : doneE e l ⟨s, f, t⟩ = 0 ∧ doneN e l ⟨s, f, t⟩ = e + 1 ∧ doneL e l ⟨s, f, t⟩ = l.set s t := by
  have h0 : doneE e l ⟨s, f, t⟩ = 0 := doneE_ok.2 ⟨hm, ⟨by simp, by simpa using hs⟩, ht, hne, by simpa using hf, he⟩
  refine ⟨h0, ?_, ?_⟩
  · rw [doneN, if_pos h0]
  · rw [doneL, if_pos h0]
    simp
theorem done_same {e : Int} {l : List Int} {s : Nat} {t : Int} : doneE e l ⟨s, t, t⟩ = 1 := doneE_bad (.inr (.inr (.inr (.inr rfl))))
theorem set_back {l : List Int} {s : Nat} {f t : Int} (hs : s < l.length) (hf : l.getD s 0 = f) : (l.set s t).set s f = l := by
  rw [List.set_set]
  refine getD_ext (by simp) fun j hj => ?_
  rw [List.length_set] at hj
  by_cases h : s = j
  · subst h
    rw [getD_set_eq hs, hf]
  · rw [getD_set_ne h]
theorem own_cap {w : World} {b : Nat} {A : Option Addr} {n c : Nat} {xs : List Value} (h : w.ownsRow b 3 1 (.slice A n c) n xs) : n ≤ c ∧ c ≤ maxLen := by
  obtain ⟨A', c', hq, h1, h2⟩ := own_shape h
  injection hq with _ _ hq
  subst hq
  exact ⟨h1, h2⟩
set_option maxHeartbeats 8000000 in
theorem chartBack_walk {w : World} {B : Nat} {A : Option Addr} {n c : Nat} {l : List Int} (e sh to : Int) (hR : Reads w B 1 A n (ints l)) (hB : B ≤ w.heap.size) (hnc : n ≤ c) (hc : c ≤ maxLen) :
    Calls Try.prog 5 #[.agg #[.int .i64 e, .slice A n c], .int .i64 sh, .int .i64 to] w (Gives (.bool true) w) := by
  have hln := hR.len
  obtain ⟨W, hW⟩ : ∃ W, W = w.alloc (.cells #[.int .i64 e, .slice A n c] 24) := ⟨_, rfl⟩
  have hB0 : Below w.heap.size w W := by rw [hW]; exact (Below.refl _ w).alloc (Nat.le_refl _) _
  have r0 : Row W w.heap.size 24 [.int .i64 e, .slice A n c] := by rw [hW]; exact Row.new w 24 [.int .i64 e, .slice A n c]
  have hR1 := (hR.more hB).below hB0
  have HC := Lib.hid (check_any (c := c) e hR1 hB0.size)
  have KR := Lib.hid (fun w1 (hb : Below W.heap.size W w1) => And.intro (r0.keep (hb.block _ r0.lt)) (And.intro (hR1.below (hb.mono hB0.size)) (Nat.le_trans hB0.size hb.size)))
  have KX := Lib.hid (fun w2 (hb : Below W.heap.size W w2) => show (w2.cell? ⟨w.heap.size, 0, none⟩ = some (.int .i64 e) ∧ w2.cell? ⟨w.heap.size, 1, none⟩ = some (.slice A n c) ∧ w.heap.size < w2.heap.size) from
    ⟨(KR.out w2 hb).1.cell (j := 0) rfl, (KR.out w2 hb).1.cell (j := 1) rfl, (KR.out w2 hb).1.lt⟩)
  have HW := Lib.hid hW
  have HB0 := Lib.hid hB0
  have HL := Lib.hid hln
  clear hR hB hB0 r0 hR1 hW hln
  cases hm : mayC e l with
  | false =>
    rw [hm, okV_f] at HC
    clear hm
    go_enter Try.func5, Try.ntmps5
    go_wp2_with fail
    rw [← HW.out]
    refine HC.out.mono ?_
    rintro en w1 ⟨rfl, hb1⟩
    have HA := Lib.hid (cawake_any w1)
    have HB1 := Lib.hid (HB0.out.trans (hb1.mono HB0.out.size))
    clear hb1
    go_wp2_with fail
    refine HA.out.mono ?_
    rintro en w2 ⟨rfl, hb2⟩
    go_wp2_with fail
    go_ret
    exact ⟨rfl, below_then HB1.out hb2⟩
  | true =>
    rw [hm, okV_t] at HC
    obtain ⟨⟨m1, m2⟩, ⟨m3, m4⟩, _⟩ := mayC_iff.1 hm
    have HM := Lib.hid hm
    clear hm
    by_cases he : (1099511627774 : Int) < e
    · clear m3 m4
      go_enter Try.func5, Try.ntmps5
      go_wp2_with fail
      rw [← HW.out]
      refine HC.out.mono ?_
      rintro en w1 ⟨rfl, hb1⟩
      obtain ⟨x0, x1, xl⟩ := KX.out w1 hb1
      have HA := Lib.hid (cawake_any w1)
      have HB1 := Lib.hid (HB0.out.trans (hb1.mono HB0.out.size))
      clear hb1
      go_wp2_with fail
      refine HA.out.mono ?_
      rintro en w2 ⟨rfl, hb2⟩
      go_wp2_with fail
      go_ret
      exact ⟨rfl, below_then HB1.out hb2⟩
    · have q7 := i64_and7 to
      have q255 := i64_and255 sh
      obtain ⟨t, ht, t0, t8⟩ : ∃ t : Int, to % 8 = t ∧ 0 ≤ t ∧ t < 8 := ⟨_, rfl, by omega, by omega⟩
      obtain ⟨X, hX, X0⟩ : ∃ X : Nat, sh % 256 = (X : Int) ∧ X < 256 := ⟨(sh % 256).toNat, by omega, by omega⟩
      rw [ht] at q7
      rw [hX] at q255
      clear ht hX
      have n1 : 1 ≤ n := by have := HL.out; omega
      have n16 : n ≤ 16 := by have := HL.out; omega
      have hn0 : ¬ (n : Int) = 0 := by omega
      have hnm : ¬ (n : Int) = -1 := by omega
      obtain ⟨s, hs, hsn⟩ : ∃ s : Nat, X % n = s ∧ s < n := ⟨_, rfl, Nat.mod_lt _ (by omega)⟩
      clear m3 m4
      go_enter Try.func5, Try.ntmps5
      go_wp2_with fail
      rw [← HW.out]
      refine HC.out.mono ?_
      rintro en w1 ⟨rfl, hb1⟩
      obtain ⟨x0, x1, xl⟩ := KX.out w1 hb1
      obtain ⟨_, hRr, hrs⟩ := KR.out w1 hb1
      have hR2 := hRr
      obtain ⟨ad, rfl, hab, hcx⟩ := hRr.int_at hsn
      have hadl : (ad.add s).block < w1.heap.size := by rw [block_of_add]; omega
      have hxs : (X : Int) % (n : Int) = (s : Int) := by rw [← hs]; exact (Int.natCast_emod X n).symm
      have HHS := Lib.hid hxs
      have hsl : s < l.length := by have := HL.out; omega
      have KG := Lib.hid (show ∀ g j, ((l.set s g).getD j 0 = if s = j then g else l.getD j 0) from fun g j => by
        by_cases h : s = j
        · subst h
          rw [if_pos rfl, getD_set_eq hsl]
        · rw [if_neg h, getD_set_ne h])
      clear hxs hs
      go_upto_region 4 with fail
      rw [HHS.out]
      generalize hF : l.getD s 0 = f at *
      have HF := Lib.hid hF
      have hsn2 : (s : Int) < (n : Int) := by omega
      clear hF q7 q255
      by_cases htf : t = f
      · subst htf
        have HD := Lib.hid (done_any (c := c) e hR2 hrs ⟨(s : Int), t, t⟩ hnc hc)
        have HB1 := Lib.hid (HB0.out.trans (hb1.mono HB0.out.size))
        clear hR2 hb1
        go_wp2_with fail
        refine HD.out.mono ?_
        rintro en w2 ⟨A1, n1', c1, rfl, hown, hb2⟩
        rw [done_same]
        have hbx : Below w.heap.size w (w2.alloc (.cells #[.int .i64 (doneN e l ⟨(s : Int), t, t⟩), .slice A1 n1' c1] 24)) := (below_then HB1.out hb2).alloc (below_then HB1.out hb2).size _
        have HBX := Lib.hid hbx
        have HA := Lib.hid (cawake_any (w2.alloc (.cells #[.int .i64 (doneN e l ⟨(s : Int), t, t⟩), .slice A1 n1' c1] 24)))
        clear hown hb2 hbx
        go_wp2_with fail
        refine HA.out.mono ?_
        rintro en w3 ⟨rfl, hb3⟩
        go_wp2_with fail
        go_ret
        exact ⟨rfl, below_then HBX.out hb3⟩
      · have htb : (t == f) = false := by rw [beq_eq_false_iff_ne]; exact htf
        have he2 : e ≠ 1099511627776 := by omega
        obtain ⟨d1, d2, d3⟩ := done_yes (f := f) HM.out hsl ⟨t0, t8⟩ htf HF.out he2
        have HD := Lib.hid (done_any (c := c) e hR2 hrs ⟨(s : Int), f, t⟩ hnc hc)
        unfold DonePost at HD
        rw [d1, d2, d3] at HD
        clear d1 d2 d3
        have HB1 := Lib.hid hb1
        clear hR2 hb1
        go_wp2_with fail
        refine HD.out.mono ?_
        rintro en w2 ⟨A1, n1', c1, rfl, hown, hb2⟩
        obtain rfl : n1' = n := by have := own_len hown; rw [List.length_set] at this; have := HL.out; omega
        obtain ⟨g, cap, hgf, hg1, hg2⟩ := hown.form (by omega)
        injection hgf with hA1 _ hc1
        subst hA1 hc1
        obtain ⟨hnc1, hcm1⟩ := own_cap hown
        obtain ⟨U, hU⟩ : ∃ U, U = w2.alloc (.cells #[.int .i64 (e + 1), .slice (some ⟨g, 0, none⟩) n1' c1] 24) := ⟨_, rfl⟩
        have hb02 := below_then HB1.out hb2
        have hbU : Below W.heap.size W U := by rw [hU]; exact hb02.alloc hb02.size _
        have ru : Row U w2.heap.size 24 [.int .i64 (e + 1), .slice (some ⟨g, 0, none⟩) n1' c1] := by rw [hU]; exact Row.new w2 24 [.int .i64 (e + 1), .slice (some ⟨g, 0, none⟩) n1' c1]
        have hRu : Reads U w2.heap.size 1 (some ⟨g, 0, none⟩) n1' (ints (l.set s t)) := by rw [hU]; exact (Reads.of_own hown).alloc (Nat.le_refl _) _
        have hsU : U.heap.size = w2.heap.size + 1 := by rw [hU]; simp
        obtain ⟨x0, x1, xl⟩ := KX.out w2 hb02
        have HU := Lib.hid hU
        have HX := Lib.hid (And.intro hbU (And.intro ru (And.intro hRu hsU)))
        obtain ⟨v0, v1, vl⟩ := KX.out U hbU
        have u0 := ru.cell (j := 0) rfl
        have u1 := ru.cell (j := 1) rfl
        have ul := ru.lt
        clear hown hb2 hb02 hbU ru hRu hsU hU hg1 hg2
        go_upto_region 10 with fail
        rw [← HU.out]
        have n16' : (n1' : Int) ≤ 16 := by omega
        go_wp2_with fail
        go_loopw [12] (fun i wr => ∃ k q : Nat, k ≤ n1' ∧ i = .int .i64 (k : Int) ∧ wr = U.drewN q) (fun i _ => n1' - (intOf i).toNat)
        case atStart => exact ⟨0, 0, Nat.zero_le _, rfl, rfl⟩
        case round =>
          obtain ⟨k, q, hk, rfl, rfl⟩ := hrel
          by_cases hlt : k < n1'
          · have hltz : (k : Int) < (n1' : Int) := by omega
            obtain ⟨_, _, hRl, _⟩ := HX.out
            obtain ⟨_, hRa, _⟩ := KR.out U HX.out.1
            obtain ⟨ad1, had1, hab1, hcy⟩ := hRl.int_at hlt
            obtain ⟨ad2, had2, hab2, hcz⟩ := hRa.int_at hlt
            injection had1 with had1
            injection had2 with had2
            subst had1 had2
            rw [KG.out] at hcy
            have hl1 : ((⟨g, 0, none⟩ : Addr).add k).block < U.heap.size := by rw [block_of_add]; have := HX.out.2.2.2; omega
            have hl2 : (ad.add k).block < U.heap.size := by rw [block_of_add]; have := HB0.out.size; have := HX.out.1.size; omega
            rw [add_flat, Nat.zero_add] at hcy hl1
            clear hRl hRa hab1 hab2
            by_cases hks : k = s
            · subst hks
              rw [if_pos rfl] at hcy
              have hkb : ((k : Int) != (k : Int)) = false := by simp
              go_wp2_with fail
              go_quiet (fail)
              go_wp2_with fail
              exact ⟨⟨k + 1, _, hlt, by go_num, rfl⟩, by simp [intOf]; omega⟩
            · rw [if_neg (fun h => hks h.symm)] at hcy
              have hkb : ((k : Int) != (s : Int)) = true := by rw [bne_iff_ne]; omega
              have hkb2 : ((k : Int) == (s : Int)) = false := by rw [beq_eq_false_iff_ne]; omega
              generalize l.getD k 0 = y at *
              go_wp2_with fail
              go_quiet (fail)
              go_wp2_with fail
              exact ⟨⟨k + 1, _, hlt, by go_num, rfl⟩, by simp [intOf]; omega⟩
          · obtain rfl : k = n1' := by omega
            have hnl : ¬ (k : Int) < (k : Int) := by omega
            have hf8 : 0 ≤ f ∧ f < 8 := by
              have := (mayC_iff.1 HM.out).2.2 _ (mem_getD hsl)
              rwa [HF.out] at this
            obtain ⟨d1, d2, d3⟩ := done_yes (e := e + 1) (l := l.set s t) (s := s) (f := t) (t := f) (mayC_set HM.out ⟨by omega, by omega⟩ ⟨t0, t8⟩) (by rw [List.length_set]; exact hsl) hf8 (fun h => htf h.symm) (getD_set_eq hsl) (by omega)
            rw [set_back hsl HF.out] at d3
            have e2 : e + 1 + 1 = e + 2 := by omega
            rw [e2] at d2
            have HD2 := Lib.hid (done_any (w := U.drewN q) (c := c1) (e + 1) (HX.out.2.2.1.drewN q) (show w2.heap.size ≤ U.heap.size by have := HX.out.2.2.2; omega) ⟨(s : Int), t, f⟩ hnc1 hcm1)
            unfold DonePost at HD2
            rw [d1, d2, d3] at HD2
            clear d1 d2 d3 e2 hf8
            go_wp2_with fail
            refine HD2.out.mono ?_
            rintro en w3 ⟨A3, n3, c3, rfl, hown, hb3⟩
            obtain rfl : n3 = k := by have := own_len hown; have := HL.out; omega
            have hb3' : Below U.heap.size U w3 := (below_drewN (Below.refl U.heap.size U) q).trans hb3
            obtain ⟨V, hV⟩ : ∃ V, V = w3.alloc (.cells #[.int .i64 (e + 2), .slice A3 n3 c3] 24) := ⟨_, rfl⟩
            have hbV : Below U.heap.size U V := by rw [hV]; exact hb3'.alloc hb3'.size _
            have rv : Row V w3.heap.size 24 [.int .i64 (e + 2), .slice A3 n3 c3] := by rw [hV]; exact Row.new w3 24 [.int .i64 (e + 2), .slice A3 n3 c3]
            have hRv : Reads V w3.heap.size 1 A3 n3 (ints l) := by rw [hV]; exact (Reads.of_own hown).alloc (Nat.le_refl _) _
            have hbW := below_then HX.out.1 hbV
            obtain ⟨y0, y1, yl⟩ := KX.out V hbW
            obtain ⟨_, hRc, hsc⟩ := KR.out V hbW
            have ru := HX.out.2.1.keep (hbV.block _ HX.out.2.1.lt)
            have a0 := rv.cell (j := 0) rfl
            have a1 := rv.cell (j := 1) rfl
            have alt := rv.lt
            have c0 := ru.cell (j := 0) rfl
            have clt := ru.lt
            have HS := Lib.hid (sameInts_any A3 (some ad) n3 n3 c3 c w3.heap.size w.heap.size l l V hRv hRc (by unfold maxLen; omega) (by unfold maxLen; omega))
            rw [decide_eq_true (rfl : l = l)] at HS
            have HAW := Lib.hid (fun W' => cawake_any W')
            have HV := Lib.hid hV
            have HBV := Lib.hid (HB0.out.trans (hbW.mono HB0.out.size))
            have ez1 : wrap64 (e + 1) = e + 1 := by unfold wrap64; omega
            have ez2 : wrap64 (e + 2) = e + 2 := by unfold wrap64; omega
            clear hown hb3 hb3' hV hbV rv hRv hbW hRc hsc ru x0 x1 xl v0 v1 vl u0 u1 ul HD2 HD
            go_upto_region 16 with fail
            rw [← HV.out]
            go_wp2_with fail
            refine HS.out.mono ?_
            rintro en w4 ⟨rfl, q4, rfl⟩
            go_wp2_with fail
            refine (HAW.out _).mono ?_
            rintro en w5 ⟨rfl, hb5⟩
            go_wp2_with fail
            go_ret
            exact ⟨rfl, below_then (below_drewN HBV.out q4) hb5⟩
end Go.Proofs.Ytmepahlmbopacaa.Ct
