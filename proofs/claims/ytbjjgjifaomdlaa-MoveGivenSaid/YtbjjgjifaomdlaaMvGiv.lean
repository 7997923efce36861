/- It is given up: the law's walk. Conditions: none. -/
import Derived.Test.YtbjjgjifaomdlaaMvLs
set_option linter.unusedVariables false
set_option linter.unusedSimpArgs false
set_option maxRecDepth 100000
namespace Go.Proofs.Ytbjjgjifaomdlaa.Mv
open Go Go.RowKit
open Po (M msgV)
/-- Given up, or not any more. -/
def gvn (a b s f t : Int) (k : Nat) (odd : Bool) : Mv := if k ≤ 2 ∨ (k = 3 ∧ odd = true) then { aft a b s f t k with ph := 7 } else aft a b s f t k
theorem gvn_t {a b s f t : Int} {k : Nat} (h : k ≤ 3) : gvn a b s f t k true = { aft a b s f t k with ph := 7 } := if_pos (by rcases (by omega : k ≤ 2 ∨ k = 3) with h | h; exact .inl h; exact .inr ⟨h, rfl⟩)
theorem gvn_f {a b s f t : Int} {k : Nat} (h : k = 4) : gvn a b s f t k true = aft a b s f t k := if_neg (by rintro (h1 | ⟨h1, _⟩) <;> omega)
theorem asks_at {p : Int} (h : 1 ≤ p) (h5 : p ≤ 5) : asks p = 5 + 2 * p := by
  unfold asks
  rcases (by omega : p = 1 ∨ p = 2 ∨ p = 3 ∨ p = 4 ∨ p = 5) with rfl | rfl | rfl | rfl | rfl <;> rfl
abbrev mB (x : M) (kd vr : Int) : Array Value := #[.int .i64 kd, .int .i64 x.sh, .int .i64 x.ep, .int .i64 x.cl, .int .i64 x.sq, .int .i64 x.nn, .int .i64 vr, .int .i64 x.lm, .int .i64 x.ok, .int .i64 x.oi, .slice none 0 0, .int .i64 x.kk, .int .i64 x.er, .bool x.wa, .slice none 0 0, .string x.tx]
/-- Refusals: of what it does not say, and of what it says. -/
theorem refuse {a b s f t : Int} {i : Nat} (hk : okN a b s f t) (hi : i < 5) {x : M} {ND : Int} (hx : saidM (aft a b s f t i) = x) (hN : nodeM (aft a b s f t i) = ND) (w : World) (p : Nat) (h : IsM w p (aft a b s f t i)) :
    Calls Try.prog 15 #[ptr p, .int .i64 ND, .agg (mB x 19 3)] w (Does p (.bool false) (aft a b s f t i) w) := by
  have hp : (aft a b s f t i).ph = (i : Int) + 1 := aft_ph
  have ha := asks_at (p := (aft a b s f t i).ph) (by omega) (by omega)
  subst hx hN
  exact hears_to h _ { saidM (aft a b s f t i) with kd := 19, vr := 3 } (hears_kind _ _ (by show (19 : Int) ≠ _; omega) (fun h => by have : (3 : Int) = _ := h.2.2; omega)) (fun _ _ => by
    show (if (aft a b s f t i).ph = 2 ∨ (aft a b s f t i).ph = 4 then (aft a b s f t i).tx else ⟨#[]⟩).size ≤ _
    split
    · rename_i h
      rw [show (aft a b s f t i).tx = text4 from (after_kept a b s f t 5 text4 i (by omega)).2]
      exact text_small
    · decide) none 0 0 none 0 0
theorem refuse2 {a b s f t : Int} {i : Nat} (hk : okN a b s f t) (hi : i < 5) {x : M} {ND : Int} (hx : saidM (aft a b s f t i) = x) (hN : nodeM (aft a b s f t i) = ND) (w : World) (p : Nat) (h : IsM w p (aft a b s f t i)) :
    Calls Try.prog 15 #[ptr p, .int .i64 ND, .agg (mB x 19 x.kd)] w (Does p (.bool (decide ((i : Int) ≤ 3))) (gvn a b s f t i true) w) := by
  have hp : (aft a b s f t i).ph = (i : Int) + 1 := aft_ph
  have ha := asks_at (p := (aft a b s f t i).ph) (by omega) (by omega)
  have hf := aft_fit hk (show i ≤ 5 by omega)
  subst hx hN
  refine hears_to h _ { saidM (aft a b s f t i) with kd := 19, vr := (saidM (aft a b s f t i)).kd } ?_ (fun _ _ => by
    show (if (aft a b s f t i).ph = 2 ∨ (aft a b s f t i).ph = 4 then (aft a b s f t i).tx else ⟨#[]⟩).size ≤ _
    split
    · rename_i h
      rw [show (aft a b s f t i).tx = text4 from (after_kept a b s f t 5 text4 i (by omega)).2]
      exact text_small
    · decide) none 0 0 none 0 0
  by_cases h3 : i ≤ 3
  · rw [gvn_t h3, decide_eq_true (by omega)]
    exact hears_moved hf (by omega) _ rfl rfl rfl rfl
  · rw [gvn_f (by omega), decide_eq_false (by omega)]
    exact hears_kind _ _ (by show (19 : Int) ≠ _; omega) (fun h => by have := h.2.1; omega)
theorem abort_aft {a b s f t : Int} {i : Nat} (hi : i < 5) : abortM (aft a b s f t i) = (gvn a b s f t i false, if i ≤ 2 then 0 else if i = 3 then 180 else 3) := by
  have hp : (aft a b s f t i).ph = (i : Int) + 1 := aft_ph
  unfold abortM gvn
  rw [hp]
  rcases (by omega : i = 0 ∨ i = 1 ∨ i = 2 ∨ i = 3 ∨ i = 4) with rfl | rfl | rfl | rfl | rfl <;> simp
theorem i64_and7 (n : Int) : bits .and .i64 n 7 = n % 8 := i64_mask n 3 (by omega)
theorem i64_and1 (n : Int) : bits .and .i64 n 1 = n % 2 := i64_mask n 1 (by omega)
set_option maxHeartbeats 16000000 in
theorem given_walk (a b s f t how : Int) (w : World) : Calls Try.prog 5 #[.agg #[.int .i64 a, .int .i64 b], .agg #[.int .i64 s, .int .i64 f, .int .i64 t], .int .i64 how] w (Gives (.bool true) w) := by
  have HAW := Lib.hid (fun w => awake_any w)
  have hb0 : Below w.heap.size w ((w.alloc (.cells #[.int .i64 a, .int .i64 b] 22)).alloc (.cells #[.int .i64 s, .int .i64 f, .int .i64 t] 24)) := ((Below.refl _ w).alloc (Nat.le_refl _) _).alloc (by simp) _
  have HB0 := Lib.hid hb0
  clear hb0
  by_cases hk : okN a b s f t
  rotate_left
  · have H0 := Lib.hid (fun w => new_no a b s f t w hk)
    clear hk
    as_aux_lemma =>
    go_enter Try.func5, Try.ntmps5
    go_wp2_with fail
    with_reducible refine (H0.out _).mono ?_
    rintro e w1 ⟨rfl, hb1⟩
    have HB1 := Lib.hid (HB0.out.trans (hb1.mono HB0.out.size))
    clear hb1
    go_wp2_with fail
    refine (HAW.out _).mono ?_
    rintro e w2 ⟨rfl, hb2⟩
    have hfin := HB1.out.trans (hb2.mono HB1.out.size)
    go_wp2
    go_ret
    exact ⟨rfl, hfin⟩
  have H0 := Lib.hid (fun w => new_is a b s f t w hk)
  have HK := Lib.hid hk
  have e7 := i64_and7 (how / 2)
  have e1 := i64_and1 how
  obtain ⟨k, hk5, hkk⟩ : ∃ k : Nat, k < 5 ∧ how / 2 % 8 % 5 = (k : Int) := ⟨(how / 2 % 8 % 5).toNat, by omega, by omega⟩
  obtain ⟨odd, hodd, hodd2⟩ : ∃ odd : Bool, (how % 2 == 1) = odd ∧ (how % 2 == 0) = !odd := by
    rcases (by omega : how % 2 = 1 ∨ how % 2 = 0) with h | h
    · exact ⟨true, by simp [h], by simp [h]⟩
    · exact ⟨false, by simp [h], by simp [h]⟩
  have hr0 : 0 ≤ how / 2 % 8 := by omega
  have hr8 : how / 2 % 8 < 8 := by omega
  clear hk
  generalize how / 2 % 8 = z8 at *
  go_enter Try.func5, Try.ntmps5
  go_wp2_with fail
  with_reducible refine (H0.out _).mono ?_
  rintro e w1 ⟨p, rfl, h1, h2, hb⟩
  have HL := Lib.hid (show LS w w1 p (aft a b s f t 0) a b s f t from ls_start w a b s f t h1 h2 hb)
  clear h1 h2 hb
  go_wp2_with fail
  rw [hkk]
  go_loopw [10] (fun st wr => ∃ i : Nat, st = .int .i64 (i : Int) ∧ i ≤ k ∧ Hid (LS w wr p (aft a b s f t i) a b s f t)) (fun st _ => ((k : Int) - intOf st).toNat)
  case atStart => exact ⟨0, rfl, by omega, HL⟩
  case round =>
    obtain ⟨i, rfl, hi, H⟩ := hrel
    by_cases hlt : i < k
    · have hltz : (i : Int) < (k : Int) := by omega
      obtain ⟨ND, x, y, hN, hx, hy, hA, hS, hH⟩ := trio (aft_fit HK.out (show i ≤ 5 by omega)) (aft_open (show i < 5 by omega))
      have HA := Lib.hid hA
      have HS := Lib.hid hS
      have HH := Lib.hid hH
      clear hA hS hH hN hx hy HL
      as_aux_lemma =>
      go_wp2_with fail
      refine (HS.out _ _ H.out.ms.is).mono ?_
      rintro e w2 ⟨rfl, hb2⟩
      have H2 := Lib.hid (H.out.on hb2)
      clear hb2
      go_wp2_with fail
      refine (HA.out _).mono ?_
      rintro e w3 ⟨rfl, hb3⟩
      have H3 := Lib.hid ((H2.out.on (below_a _ _)).on hb3)
      clear hb3
      go_wp2_with fail
      refine (HH.out _ _ H3.out.ms.is).mono ?_
      rintro e w4 ⟨rfl, hd4⟩
      have H4 := Lib.hid (H3.out.mv hd4)
      clear hd4
      go_wp2_with fail
      exact ⟨⟨i + 1, by go_num, by omega, H4⟩, by simp [intOf]; omega⟩
    · obtain rfl : i = k := by omega
      have hnl : ¬ (i : Int) < (i : Int) := by omega
      clear hlt HL
      have HI := Lib.hid (And.intro hk5 (And.intro hodd hodd2))
      go_upto_if 73 with fail
      go_cut [14, 15, 16, 17, 18] from 74 to 113 (fun s14 s15 s16 s17 s18 wc => Hid (LS w wc p (gvn a b s f t i odd) a b s f t))
      case first =>
        cases odd with
        | true =>
          as_aux_lemma =>
          obtain ⟨ND, x, y, hN, hx, hy, hA, hS, hH⟩ := trio (aft_fit HK.out (show i ≤ 5 by omega)) (aft_open (show i < 5 by omega))
          have HR1 := Lib.hid (fun w p h => refuse HK.out hk5 hx hN w p h)
          have HR2 := Lib.hid (fun w p h => refuse2 HK.out hk5 hx hN w p h)
          have HS := Lib.hid hS
          clear hA hS hH hN hx hy
          go_wp2_with fail
          refine (HS.out _ _ H.out.ms.is).mono ?_
          rintro e w2 ⟨rfl, hb2⟩
          have H2 := Lib.hid (H.out.on hb2)
          clear hb2 H
          as_aux_lemma =>
          go_wp2_with fail
          refine (HR1.out _ _ ((H2.out.on (below_a _ _)).on (below_a _ _)).ms.is).mono ?_
          rintro e w3 ⟨rfl, hd3⟩
          have H3 := Lib.hid (((H2.out.on (below_a _ _)).on (below_a _ _)).mv hd3)
          have r0 := Row.new w2 42 (mB x 19 x.kd).toList
          have r1 := r0.keep (heap_alloc_lt _ (.cells (mB x 19 3) 42) r0.lt)
          have r3 := r1.keep (hd3.2.block _ r1.lt (by have := H2.out.ms.is.lt; omega))
          have k0 := r3.cell (j := 0) rfl
          have k1 := r3.cell (j := 1) rfl
          have k2 := r3.cell (j := 2) rfl
          have k3 := r3.cell (j := 3) rfl
          have k4 := r3.cell (j := 4) rfl
          have k5 := r3.cell (j := 5) rfl
          have k6 := r3.cell (j := 6) rfl
          have k7 := r3.cell (j := 7) rfl
          have k8 := r3.cell (j := 8) rfl
          have k9 := r3.cell (j := 9) rfl
          have k10 := r3.cell (j := 10) rfl
          have k11 := r3.cell (j := 11) rfl
          have k12 := r3.cell (j := 12) rfl
          have k13 := r3.cell (j := 13) rfl
          have k14 := r3.cell (j := 14) rfl
          have k15 := r3.cell (j := 15) rfl
          have kl := r3.lt
          clear hd3 r0 r1 r3 H2
          as_aux_lemma =>
          go_wp2_with fail
          refine (HR2.out _ _ H3.out.ms.is).mono ?_
          rintro e w4 ⟨rfl, hd4⟩
          have H4 := Lib.hid (H3.out.mv hd4)
          clear hd4 k0 k1 k2 k3 k4 k5 k6 k7 k8 k9 k10 k11 k12 k13 k14 k15 kl
          go_wp2_with fail
          go_meet
          exact H4
        | false =>
          as_aux_lemma =>
          have HAB := Lib.hid (fun w p (h : IsM w p (aft a b s f t i)) => abort_to h (abort_aft hk5))
          go_wp2_with fail
          refine (HAB.out _ _ H.out.ms.is).mono ?_
          rintro e w2 ⟨rfl, hd2⟩
          have H2 := Lib.hid (H.out.mv hd2)
          clear hd2 H
          rcases (by omega : i ≤ 2 ∨ i = 3 ∨ i = 4) with h | h | h
          · have q1 : (i : Int) ≤ 2 := by omega
            have q2 : ((i : Int) == 3) = false := by simp; omega
            rw [if_pos h]
            go_wp2_with fail
            go_meet
            exact H2
          · subst h
            rw [if_neg (by omega), if_pos rfl]
            go_wp2_with fail
            go_meet
            exact H2
          · subst h
            rw [if_neg (by omega), if_neg (by omega)]
            go_wp2_with fail
            go_meet
            exact H2
      case rest =>
        have HC := hcut
        obtain ⟨B, hB⟩ : ∃ B : Bool, B = decide (i ≤ 2 ∨ (i = 3 ∧ odd = true)) := ⟨_, rfl⟩
        have HBB := Lib.hid hB
        clear hB hcut H
        go_upto_region 25 with fail
        go_cut [124] from 114 to 125 (fun st wd => st = .bool (!B) ∧ Hid (LS w wd p (gvn a b s f t i odd) a b s f t))
        case first =>
          as_aux_lemma =>
          cases odd with
          | true =>
            rcases (by omega : i = 0 ∨ i = 1 ∨ i = 2 ∨ i = 3 ∨ i = 4) with rfl | rfl | rfl | rfl | rfl
            all_goals
              go_wp2_with fail
              go_meet
              exact ⟨by rw [HBB.out]; rfl, HC⟩
          | false =>
            rcases (by omega : i = 0 ∨ i = 1 ∨ i = 2 ∨ i = 3 ∨ i = 4) with rfl | rfl | rfl | rfl | rfl
            all_goals
              go_wp2_with fail
              go_meet
              exact ⟨by rw [HBB.out]; rfl, HC⟩
        case rest =>
          obtain ⟨rfl, HD⟩ := hcut
          clear HC
          cases B with
          | false =>
            as_aux_lemma =>
            have hn := of_decide_eq_false HBB.out.symm
            have h0 := HD.out
            rw [show gvn a b s f t i odd = aft a b s f t i from if_neg hn] at h0
            have H0 := Lib.hid h0
            have HP := Lib.hid (phase_to h0.ms.is (r := (i : Int) + 1) aft_ph)
            have wi : IntKind.i64.wrap ((i : Int) + 1) = (i : Int) + 1 := by rw [IntKind.wrap_i64]; omega
            clear h0 hn HD
            go_wp2_with ((with_reducible refine (HP.out).mono ?_); rintro e w5 ⟨rfl, rfl⟩)
            refine (HAW.out _).mono ?_
            rintro e w6 ⟨rfl, hb6⟩
            have hfin := H0.out.ms.bel.trans (hb6.mono H0.out.ms.bel.size)
            go_wp2
            go_ret
            exact ⟨rfl, hfin⟩
          | true =>
            have hn := of_decide_eq_true HBB.out.symm
            have h0 := HD.out
            have hfa := aft_fit HK.out (show i ≤ 5 by omega)
            rw [show gvn a b s f t i odd = { aft a b s f t i with ph := 7 } from if_pos hn] at h0
            have HG := Lib.hid h0
            obtain ⟨m7, hm7⟩ : ∃ m7, m7 = { aft a b s f t i with ph := 7 } := ⟨_, rfl⟩
            obtain ⟨q1, q2, q3, q4, q5, q6⟩ := after_ph a b s f t 5 text4 i
            have f7 : FitV m7 := by rw [hm7]; exact ⟨by simp, hfa.ok⟩
            have o7 : open_ m7 = true := by rw [hm7]; rfl
            have p7 : m7.ph = 7 := by rw [hm7]
            have t7 : nodeM m7 = t := by rw [hm7]; exact q6
            have e7' : m7.ep = b := by rw [hm7]; exact q3
            have g7 : m7.fr = f := by rw [hm7]; exact q5
            rw [← hm7] at HG
            obtain ⟨ND7, x7, y7, hN7, hx7, hy7, hA7, hS7, hH7⟩ := trio f7 o7
            rw [t7] at hN7
            subst hN7
            have hkd7 := Lib.hid (show x7.kd = 15 by rw [← hx7]; show asks m7.ph = 15; rw [p7]; rfl)
            have HA7 := Lib.hid hA7
            have HS7 := Lib.hid hS7
            have HH7 := Lib.hid hH7
            have HP7 := Lib.hid (fun w p (h : IsM w p m7) => phase_to h p7)
            obtain ⟨m8, hm8⟩ : ∃ m8, stepM m7 { nilM with vr := 5, tx := text4 } = m8 := ⟨_, rfl⟩
            rw [hm8] at HH7
            have p8 : m8.ph = 8 := by rw [← hm8]; show m7.ph + 1 = 8; rw [p7]; rfl
            have f8 : FitV m8 := ⟨by rw [p8]; omega, by rw [← hm8]; exact f7.ok⟩
            have o8 : open_ m8 = true := by unfold open_; rw [p8]; rfl
            have t8 : nodeM m8 = f := by
              have : m8.fr = f := by rw [← hm8]; exact g7
              unfold nodeM
              rw [p8, this]
              rfl
            have e8' : m8.ep = b := by rw [← hm8]; exact e7'
            obtain ⟨ND8, x8, y8, hN8, hx8, hy8, hA8, hS8, hH8⟩ := trio f8 o8
            rw [t8] at hN8
            subst hN8
            have hkd8 := Lib.hid (show x8.kd = 17 by rw [← hx8]; show asks m8.ph = 17; rw [p8]; rfl)
            have hep8 := Lib.hid (show x8.ep = b by rw [← hx8]; show (if m8.ph = 4 ∨ m8.ph = 8 then m8.ep else 0) = b; rw [if_pos (.inr p8), e8'])
            have HA8 := Lib.hid hA8
            have HS8 := Lib.hid hS8
            have HH8 := Lib.hid hH8
            have HP8 := Lib.hid (fun w p (h : IsM w p m8) => phase_to h p8)
            obtain ⟨m9, hm9⟩ : ∃ m9, stepM m8 { nilM with vr := 5, tx := text4 } = m9 := ⟨_, rfl⟩
            rw [hm9] at HH8
            have p9 : m9.ph = 9 := by rw [← hm9]; show m8.ph + 1 = 9; rw [p8]; rfl
            have o9 : open_ m9 = false := by unfold open_; rw [p9]; rfl
            have HP9 := Lib.hid (fun w p (h : IsM w p m9) => phase_to h p9)
            have HS9 := Lib.hid (fun w p (h : IsM w p m9) => by have := says_to h (says_over o9); rw [msgA] at this; simpa only [nilM] using this)
            have HB9 := Lib.hid (fun w p (h : IsM w p m9) => abort_to h (m' := m9) (r := 3) (by unfold abortM; rw [p9]; rfl))
            clear hn h0 hfa hm7 q1 q2 q3 q4 q5 q6 f7 o7 p7 t7 e7' g7 hx7 hy7 hA7 hS7 hH7 hm8 p8 f8 o8 t8 e8' hx8 hy8 hA8 hS8 hH8 hm9 p9 o9 HD
            as_aux_lemma =>
            go_wp2_with fail
            refine (HS7.out _ _ HG.out.ms.is).mono ?_
            rintro e w7 ⟨rfl, hb7⟩
            have HG7 := Lib.hid (HG.out.on hb7)
            clear hb7
            go_wp2_with fail
            have H7x := Lib.hid (HG7.out.on (below_a w7 (.cells (msgV x7 none 0 0 none 0 0).toArray 42))).drew
            have R7 := Lib.hid (show Row (w7.alloc (.cells (msgV x7 none 0 0 none 0 0).toArray 42)).drew w7.heap.size 42 (msgV x7 none 0 0 none 0 0) from Row.new w7 _ _)
            have H7n := Lib.hid (show p < w7.heap.size from HG7.out.ms.is.lt)
            refine wp_region_held_drew (S := fun W => Row W (w.heap.size + 1) 24 [.int .i64 s, .int .i64 f, .int .i64 t] ∧ Row W w.heap.size 22 [.int .i64 a, .int .i64 b] ∧ Row W w7.heap.size 42 (msgV x7 none 0 0 none 0 0)) (by kernel_rfl) (by exact ⟨H7x.out.rv, H7x.out.ra, R7.out⟩) (fun hHeld => ?_)
            refine tk 0 (oi := ⟨_, _, _, _, _, _⟩) rfl (fun w' hSw => by ((try dsimp only at hSw); go_simp <;> with_reducible rfl)) ?_
            try simp only [Act.put, List.setIfInBounds_toArray, List.set_cons_zero, List.set_cons_succ]
            refine tk 1 (oi := ⟨_, _, _, _, _, _⟩) rfl (fun w' hSw => by ((try dsimp only at hSw); go_simp <;> with_reducible rfl)) ?_
            try simp only [Act.put, List.setIfInBounds_toArray, List.set_cons_zero, List.set_cons_succ]
            refine tk 2 (oi := ⟨_, _, _, _, _, _⟩) rfl (fun w' hSw => by ((try dsimp only at hSw); go_simp <;> with_reducible rfl)) ?_
            try simp only [Act.put, List.setIfInBounds_toArray, List.set_cons_zero, List.set_cons_succ]
            refine tk 3 (oi := ⟨_, _, _, _, _, _⟩) rfl (fun w' hSw => by ((try dsimp only at hSw); go_simp <;> with_reducible rfl)) ?_
            try simp only [Act.put, List.setIfInBounds_toArray, List.set_cons_zero, List.set_cons_succ]
            refine tk 4 (oi := ⟨_, _, _, _, _, _⟩) rfl (fun w' hSw => by ((try dsimp only at hSw); go_simp <;> with_reducible rfl)) ?_
            try simp only [Act.put, List.setIfInBounds_toArray, List.set_cons_zero, List.set_cons_succ]
            refine tk 5 (oi := ⟨_, _, _, _, _, _⟩) rfl (fun w' hSw => by (have y := hSw.1.cell (j := 2) rfl; go_simp <;> with_reducible rfl)) ?_
            try simp only [Act.put, List.setIfInBounds_toArray, List.set_cons_zero, List.set_cons_succ]
            refine tk 6 (oi := ⟨_, _, _, _, _, _⟩) rfl (fun w' hSw => by ((try dsimp only at hSw); go_simp <;> with_reducible rfl)) ?_
            try simp only [Act.put, List.setIfInBounds_toArray, List.set_cons_zero, List.set_cons_succ]
            refine tk 7 (oi := ⟨_, _, _, _, _, _⟩) rfl (fun w' hSw => by ((try dsimp only at hSw); go_simp <;> with_reducible rfl)) ?_
            try simp only [Act.put, List.setIfInBounds_toArray, List.set_cons_zero, List.set_cons_succ]
            refine tk 8 (oi := ⟨_, _, _, _, _, _⟩) rfl (fun w' hSw => by ((try dsimp only at hSw); go_simp <;> with_reducible rfl)) ?_
            try simp only [Act.put, List.setIfInBounds_toArray, List.set_cons_zero, List.set_cons_succ]
            refine tk 9 (oi := ⟨_, _, _, _, _, _⟩) rfl (fun w' hSw => by ((try dsimp only at hSw); go_simp <;> with_reducible rfl)) ?_
            try simp only [Act.put, List.setIfInBounds_toArray, List.set_cons_zero, List.set_cons_succ]
            refine tk 10 (oi := ⟨_, _, _, _, _, _⟩) rfl (fun w' hSw => by (have y := hSw.2.2.cell (j := 0) rfl; rw [hkd7.out] at y; go_simp <;> with_reducible rfl)) ?_
            try simp only [Act.put, List.setIfInBounds_toArray, List.set_cons_zero, List.set_cons_succ]
            refine tk 11 (oi := ⟨_, _, _, _, _, _⟩) rfl (fun w' hSw => by ((try dsimp only at hSw); go_simp <;> with_reducible rfl)) ?_
            try simp only [Act.put, List.setIfInBounds_toArray, List.set_cons_zero, List.set_cons_succ]
            refine tk 12 (oi := ⟨_, _, _, _, _, _⟩) rfl (fun w' hSw => by ((try dsimp only at hSw); go_simp <;> with_reducible rfl)) ?_
            try simp only [Act.put, List.setIfInBounds_toArray, List.set_cons_zero, List.set_cons_succ]
            refine tk 13 (oi := ⟨_, _, _, _, _, _⟩) rfl (fun w' hSw => by ((try dsimp only at hSw); go_simp <;> with_reducible rfl)) ?_
            try simp only [Act.put, List.setIfInBounds_toArray, List.set_cons_zero, List.set_cons_succ]
            refine tk 14 (oi := ⟨_, _, _, _, _, _⟩) rfl (fun w' hSw => by ((try dsimp only at hSw); go_simp <;> with_reducible rfl)) ?_
            try simp only [Act.put, List.setIfInBounds_toArray, List.set_cons_zero, List.set_cons_succ]
            refine rd1 15 (o := ⟨_, _, _, _, _, _⟩) rfl (fun K' hK => ?_)
            go_simp
            go_at_call 18
            refine (HP7.out _ _ H7x.out.ms.is).mono ?_
            rintro en w5 ⟨rfl, rfl⟩
            refine hK.out _ _ (by exact ⟨H7x.out.rv, H7x.out.ra, R7.out⟩) (fun hHeld => ?_)
            clear hK K'
            try simp only [Act.put, List.setIfInBounds_toArray, List.set_cons_zero, List.set_cons_succ]
            refine tk 16 (oi := ⟨_, _, _, _, _, _⟩) rfl (fun w' hSw => by ((try dsimp only at hSw); go_simp <;> with_reducible rfl)) ?_
            try simp only [Act.put, List.setIfInBounds_toArray, List.set_cons_zero, List.set_cons_succ]
            refine tk 17 (oi := ⟨_, _, _, _, _, _⟩) rfl (fun w' hSw => by ((try dsimp only at hSw); go_simp <;> with_reducible rfl)) ?_
            try simp only [Act.put, List.setIfInBounds_toArray, List.set_cons_zero, List.set_cons_succ]
            refine tk 18 (oi := ⟨_, _, _, _, _, _⟩) rfl (fun w' hSw => by ((try dsimp only at hSw); go_simp <;> with_reducible rfl)) ?_
            try simp only [Act.put, List.setIfInBounds_toArray, List.set_cons_zero, List.set_cons_succ]
            refine tk 19 (oi := ⟨_, _, _, _, _, _⟩) rfl (fun w' hSw => by ((try dsimp only at hSw); go_simp <;> with_reducible rfl)) ?_
            try simp only [Act.put, List.setIfInBounds_toArray, List.set_cons_zero, List.set_cons_succ]
            refine tk 20 (oi := ⟨_, _, _, _, _, _⟩) rfl (fun w' hSw => by ((try dsimp only at hSw); go_simp <;> with_reducible rfl)) ?_
            try simp only [Act.put, List.setIfInBounds_toArray, List.set_cons_zero, List.set_cons_succ]
            refine tk 21 (oi := ⟨_, _, _, _, _, _⟩) rfl (fun w' hSw => by (have y := hSw.1.cell (j := 2) rfl; go_simp <;> with_reducible rfl)) ?_
            try simp only [Act.put, List.setIfInBounds_toArray, List.set_cons_zero, List.set_cons_succ]
            refine tk 22 (oi := ⟨_, _, _, _, _, _⟩) rfl (fun w' hSw => by (refine yields_msg hSw.2.2 rfl (.tmp 20) ?_ ?_) <;> rfl) ?_
            try simp only [Act.put, List.setIfInBounds_toArray, List.set_cons_zero, List.set_cons_succ]
            refine rd1 23 (o := ⟨_, _, _, _, _, _⟩) rfl (fun K' hK => ?_)
            go_simp
            go_at_call 19
            refine (HA7.out _).mono ?_
            rintro en w5 ⟨rfl, hb5⟩
            have H5 := Lib.hid (H7x.out.on hb5)
            have R5 := Lib.hid (R7.out.keep (hb5.block _ R7.out.lt))
            refine hK.out _ _ (by exact ⟨H5.out.rv, H5.out.ra, R5.out⟩) (fun hHeld => ?_)
            clear hK K' hb5
            try simp only [Act.put, List.setIfInBounds_toArray, List.set_cons_zero, List.set_cons_succ]
            refine rd1 24 (o := ⟨_, _, _, _, _, _⟩) rfl (fun K' hK => ?_)
            go_simp
            go_at_call 15
            refine (HH7.out _ _ H5.out.ms.is).mono ?_
            rintro en w6 ⟨rfl, hd6⟩
            have H67 := Lib.hid (H5.out.mv hd6)
            have R6 := Lib.hid (R5.out.keep (hd6.2.block _ R5.out.lt (by have := H7n.out; omega)))
            refine hK.out _ _ (by exact ⟨H67.out.rv, H67.out.ra, R6.out⟩) (fun hHeld => ?_)
            clear hK K' hd6
            try simp only [Act.put, List.setIfInBounds_toArray, List.set_cons_zero, List.set_cons_succ]
            refine tk 25 (oi := ⟨_, _, _, _, _, _⟩) rfl (fun w' hSw => by ((try dsimp only at hSw); go_simp <;> with_reducible rfl)) ?_
            try simp only [Act.put, List.setIfInBounds_toArray, List.set_cons_zero, List.set_cons_succ]
            refine tk 26 (oi := ⟨_, _, _, _, _, _⟩) rfl (fun w' hSw => by ((try dsimp only at hSw); go_simp <;> with_reducible rfl)) ?_
            try simp only [Act.put, List.setIfInBounds_toArray, List.set_cons_zero, List.set_cons_succ]
            refine wpAnyH_done (by kernel_rfl) ?_ _
            go_wp2_with fail
            refine (HS8.out _ _ H67.out.ms.is).mono ?_
            rintro e w8 ⟨rfl, hb8⟩
            have HG8 := Lib.hid (H67.out.on hb8)
            clear hb8
            go_wp2_with fail
            have H8x := Lib.hid (HG8.out.on (below_a w8 (.cells (msgV x8 none 0 0 none 0 0).toArray 42))).drew
            have R8 := Lib.hid (show Row (w8.alloc (.cells (msgV x8 none 0 0 none 0 0).toArray 42)).drew w8.heap.size 42 (msgV x8 none 0 0 none 0 0) from Row.new w8 _ _)
            have H8n := Lib.hid (show p < w8.heap.size from HG8.out.ms.is.lt)
            refine wp_region_held_drew (S := fun W => Row W (w.heap.size + 1) 24 [.int .i64 s, .int .i64 f, .int .i64 t] ∧ Row W w.heap.size 22 [.int .i64 a, .int .i64 b] ∧ Row W w8.heap.size 42 (msgV x8 none 0 0 none 0 0)) (by kernel_rfl) (by exact ⟨H8x.out.rv, H8x.out.ra, R8.out⟩) (fun hHeld => ?_)
            refine tk 0 (oi := ⟨_, _, _, _, _, _⟩) rfl (fun w' hSw => by ((try dsimp only at hSw); go_simp <;> with_reducible rfl)) ?_
            try simp only [Act.put, List.setIfInBounds_toArray, List.set_cons_zero, List.set_cons_succ]
            refine tk 1 (oi := ⟨_, _, _, _, _, _⟩) rfl (fun w' hSw => by ((try dsimp only at hSw); go_simp <;> with_reducible rfl)) ?_
            try simp only [Act.put, List.setIfInBounds_toArray, List.set_cons_zero, List.set_cons_succ]
            refine tk 2 (oi := ⟨_, _, _, _, _, _⟩) rfl (fun w' hSw => by ((try dsimp only at hSw); go_simp <;> with_reducible rfl)) ?_
            try simp only [Act.put, List.setIfInBounds_toArray, List.set_cons_zero, List.set_cons_succ]
            refine tk 3 (oi := ⟨_, _, _, _, _, _⟩) rfl (fun w' hSw => by ((try dsimp only at hSw); go_simp <;> with_reducible rfl)) ?_
            try simp only [Act.put, List.setIfInBounds_toArray, List.set_cons_zero, List.set_cons_succ]
            refine tk 4 (oi := ⟨_, _, _, _, _, _⟩) rfl (fun w' hSw => by ((try dsimp only at hSw); go_simp <;> with_reducible rfl)) ?_
            try simp only [Act.put, List.setIfInBounds_toArray, List.set_cons_zero, List.set_cons_succ]
            refine tk 5 (oi := ⟨_, _, _, _, _, _⟩) rfl (fun w' hSw => by (have y := hSw.1.cell (j := 1) rfl; go_simp <;> with_reducible rfl)) ?_
            try simp only [Act.put, List.setIfInBounds_toArray, List.set_cons_zero, List.set_cons_succ]
            refine tk 6 (oi := ⟨_, _, _, _, _, _⟩) rfl (fun w' hSw => by ((try dsimp only at hSw); go_simp <;> with_reducible rfl)) ?_
            try simp only [Act.put, List.setIfInBounds_toArray, List.set_cons_zero, List.set_cons_succ]
            refine tk 7 (oi := ⟨_, _, _, _, _, _⟩) rfl (fun w' hSw => by ((try dsimp only at hSw); go_simp <;> with_reducible rfl)) ?_
            try simp only [Act.put, List.setIfInBounds_toArray, List.set_cons_zero, List.set_cons_succ]
            refine tk 8 (oi := ⟨_, _, _, _, _, _⟩) rfl (fun w' hSw => by ((try dsimp only at hSw); go_simp <;> with_reducible rfl)) ?_
            try simp only [Act.put, List.setIfInBounds_toArray, List.set_cons_zero, List.set_cons_succ]
            refine tk 9 (oi := ⟨_, _, _, _, _, _⟩) rfl (fun w' hSw => by ((try dsimp only at hSw); go_simp <;> with_reducible rfl)) ?_
            try simp only [Act.put, List.setIfInBounds_toArray, List.set_cons_zero, List.set_cons_succ]
            refine tk 10 (oi := ⟨_, _, _, _, _, _⟩) rfl (fun w' hSw => by (have y := hSw.2.2.cell (j := 0) rfl; rw [hkd8.out] at y; go_simp <;> with_reducible rfl)) ?_
            try simp only [Act.put, List.setIfInBounds_toArray, List.set_cons_zero, List.set_cons_succ]
            refine tk 11 (oi := ⟨_, _, _, _, _, _⟩) rfl (fun w' hSw => by ((try dsimp only at hSw); go_simp <;> with_reducible rfl)) ?_
            try simp only [Act.put, List.setIfInBounds_toArray, List.set_cons_zero, List.set_cons_succ]
            refine tk 12 (oi := ⟨_, _, _, _, _, _⟩) rfl (fun w' hSw => by ((try dsimp only at hSw); go_simp <;> with_reducible rfl)) ?_
            try simp only [Act.put, List.setIfInBounds_toArray, List.set_cons_zero, List.set_cons_succ]
            refine tk 13 (oi := ⟨_, _, _, _, _, _⟩) rfl (fun w' hSw => by ((try dsimp only at hSw); go_simp <;> with_reducible rfl)) ?_
            try simp only [Act.put, List.setIfInBounds_toArray, List.set_cons_zero, List.set_cons_succ]
            refine tk 14 (oi := ⟨_, _, _, _, _, _⟩) rfl (fun w' hSw => by ((try dsimp only at hSw); go_simp <;> with_reducible rfl)) ?_
            try simp only [Act.put, List.setIfInBounds_toArray, List.set_cons_zero, List.set_cons_succ]
            refine tk 15 (oi := ⟨_, _, _, _, _, _⟩) rfl (fun w' hSw => by (have y := hSw.2.2.cell (j := 2) rfl; rw [hep8.out] at y; go_simp <;> with_reducible rfl)) ?_
            try simp only [Act.put, List.setIfInBounds_toArray, List.set_cons_zero, List.set_cons_succ]
            refine tk 16 (oi := ⟨_, _, _, _, _, _⟩) rfl (fun w' hSw => by ((try dsimp only at hSw); go_simp <;> with_reducible rfl)) ?_
            try simp only [Act.put, List.setIfInBounds_toArray, List.set_cons_zero, List.set_cons_succ]
            refine tk 17 (oi := ⟨_, _, _, _, _, _⟩) rfl (fun w' hSw => by (have y := hSw.2.1.cell (j := 1) rfl; go_simp <;> with_reducible rfl)) ?_
            try simp only [Act.put, List.setIfInBounds_toArray, List.set_cons_zero, List.set_cons_succ]
            refine tk 18 (oi := ⟨_, _, _, _, _, _⟩) rfl (fun w' hSw => by ((try dsimp only at hSw); go_simp <;> with_reducible rfl)) ?_
            try simp only [Act.put, List.setIfInBounds_toArray, List.set_cons_zero, List.set_cons_succ]
            refine tk 19 (oi := ⟨_, _, _, _, _, _⟩) rfl (fun w' hSw => by ((try dsimp only at hSw); go_simp <;> with_reducible rfl)) ?_
            try simp only [Act.put, List.setIfInBounds_toArray, List.set_cons_zero, List.set_cons_succ]
            refine tk 20 (oi := ⟨_, _, _, _, _, _⟩) rfl (fun w' hSw => by ((try dsimp only at hSw); go_simp <;> with_reducible rfl)) ?_
            try simp only [Act.put, List.setIfInBounds_toArray, List.set_cons_zero, List.set_cons_succ]
            refine tk 21 (oi := ⟨_, _, _, _, _, _⟩) rfl (fun w' hSw => by ((try dsimp only at hSw); go_simp <;> with_reducible rfl)) ?_
            try simp only [Act.put, List.setIfInBounds_toArray, List.set_cons_zero, List.set_cons_succ]
            refine rd1 22 (o := ⟨_, _, _, _, _, _⟩) rfl (fun K' hK => ?_)
            go_simp
            go_at_call 18
            refine (HP8.out _ _ H8x.out.ms.is).mono ?_
            rintro en w5 ⟨rfl, rfl⟩
            refine hK.out _ _ (by exact ⟨H8x.out.rv, H8x.out.ra, R8.out⟩) (fun hHeld => ?_)
            clear hK K'
            try simp only [Act.put, List.setIfInBounds_toArray, List.set_cons_zero, List.set_cons_succ]
            refine tk 23 (oi := ⟨_, _, _, _, _, _⟩) rfl (fun w' hSw => by ((try dsimp only at hSw); go_simp <;> with_reducible rfl)) ?_
            try simp only [Act.put, List.setIfInBounds_toArray, List.set_cons_zero, List.set_cons_succ]
            refine tk 24 (oi := ⟨_, _, _, _, _, _⟩) rfl (fun w' hSw => by ((try dsimp only at hSw); go_simp <;> with_reducible rfl)) ?_
            try simp only [Act.put, List.setIfInBounds_toArray, List.set_cons_zero, List.set_cons_succ]
            refine tk 25 (oi := ⟨_, _, _, _, _, _⟩) rfl (fun w' hSw => by ((try dsimp only at hSw); go_simp <;> with_reducible rfl)) ?_
            try simp only [Act.put, List.setIfInBounds_toArray, List.set_cons_zero, List.set_cons_succ]
            refine tk 26 (oi := ⟨_, _, _, _, _, _⟩) rfl (fun w' hSw => by ((try dsimp only at hSw); go_simp <;> with_reducible rfl)) ?_
            try simp only [Act.put, List.setIfInBounds_toArray, List.set_cons_zero, List.set_cons_succ]
            refine tk 27 (oi := ⟨_, _, _, _, _, _⟩) rfl (fun w' hSw => by ((try dsimp only at hSw); go_simp <;> with_reducible rfl)) ?_
            try simp only [Act.put, List.setIfInBounds_toArray, List.set_cons_zero, List.set_cons_succ]
            refine tk 28 (oi := ⟨_, _, _, _, _, _⟩) rfl (fun w' hSw => by (have y := hSw.1.cell (j := 1) rfl; go_simp <;> with_reducible rfl)) ?_
            try simp only [Act.put, List.setIfInBounds_toArray, List.set_cons_zero, List.set_cons_succ]
            refine tk 29 (oi := ⟨_, _, _, _, _, _⟩) rfl (fun w' hSw => by (refine yields_msg hSw.2.2 rfl (.tmp 23) ?_ ?_) <;> rfl) ?_
            try simp only [Act.put, List.setIfInBounds_toArray, List.set_cons_zero, List.set_cons_succ]
            refine rd1 30 (o := ⟨_, _, _, _, _, _⟩) rfl (fun K' hK => ?_)
            go_simp
            go_at_call 19
            refine (HA8.out _).mono ?_
            rintro en w5 ⟨rfl, hb5⟩
            have H5 := Lib.hid (H8x.out.on hb5)
            have R5 := Lib.hid (R8.out.keep (hb5.block _ R8.out.lt))
            refine hK.out _ _ (by exact ⟨H5.out.rv, H5.out.ra, R5.out⟩) (fun hHeld => ?_)
            clear hK K' hb5
            try simp only [Act.put, List.setIfInBounds_toArray, List.set_cons_zero, List.set_cons_succ]
            refine rd1 31 (o := ⟨_, _, _, _, _, _⟩) rfl (fun K' hK => ?_)
            go_simp
            go_at_call 15
            refine (HH8.out _ _ H5.out.ms.is).mono ?_
            rintro en w6 ⟨rfl, hd6⟩
            have H68 := Lib.hid (H5.out.mv hd6)
            have R6 := Lib.hid (R5.out.keep (hd6.2.block _ R5.out.lt (by have := H8n.out; omega)))
            refine hK.out _ _ (by exact ⟨H68.out.rv, H68.out.ra, R6.out⟩) (fun hHeld => ?_)
            clear hK K' hd6
            try simp only [Act.put, List.setIfInBounds_toArray, List.set_cons_zero, List.set_cons_succ]
            refine tk 32 (oi := ⟨_, _, _, _, _, _⟩) rfl (fun w' hSw => by ((try dsimp only at hSw); go_simp <;> with_reducible rfl)) ?_
            try simp only [Act.put, List.setIfInBounds_toArray, List.set_cons_zero, List.set_cons_succ]
            refine tk 33 (oi := ⟨_, _, _, _, _, _⟩) rfl (fun w' hSw => by ((try dsimp only at hSw); go_simp <;> with_reducible rfl)) ?_
            try simp only [Act.put, List.setIfInBounds_toArray, List.set_cons_zero, List.set_cons_succ]
            refine wpAnyH_done (by kernel_rfl) ?_ _
            go_wp2_with fail
            refine (HS9.out _ _ H68.out.ms.is).mono ?_
            rintro e w9 ⟨rfl, hb9⟩
            have HG9 := Lib.hid (H68.out.on hb9)
            clear hb9
            have HZ := Lib.hid (HG9.out.on (below_a w9 (.cells nilV.toArray 42)))
            have HPZ := Lib.hid (HP9.out _ _ HZ.out.ms.is)
            go_wp2_with ((refine (HPZ.out).mono ?_); rintro e w5 ⟨rfl, rfl⟩)
            refine (HB9.out _ _ HZ.out.ms.is).mono ?_
            rintro e wa ⟨rfl, hda⟩
            have HF := Lib.hid (HZ.out.mv hda)
            clear hda
            go_wp2_with fail
            refine (HAW.out _).mono ?_
            rintro e wb ⟨rfl, hbb⟩
            have hfin := HF.out.ms.bel.trans (hbb.mono HF.out.ms.bel.size)
            go_wp2
            go_ret
            exact ⟨rfl, hfin⟩
end Go.Proofs.Ytbjjgjifaomdlaa.Mv
