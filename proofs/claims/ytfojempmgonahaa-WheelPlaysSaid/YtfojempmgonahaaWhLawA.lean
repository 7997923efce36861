/- A timer that is set again. Conditions: none. -/
import Derived.Test.YtfojempmgonahaaWhAwk
set_option linter.unusedVariables false
set_option linter.unusedSimpArgs false
set_option maxRecDepth 100000
namespace Go.Proofs.Ytfojempmgonahaa.Wh
open Go Go.RowKit Go.Maps
theorem i64_mask (n : Int) (m : Nat) (hm : m < 63) : bits .and .i64 n ((2 ^ m - 1 : Nat) : Int) = n % ((2 ^ m : Nat) : Int) := by
  have hp : 2 ^ m ≤ 2 ^ 62 := Nat.pow_le_pow_right (by omega) (by omega)
  have hp0 : 0 < 2 ^ m := Nat.two_pow_pos m
  have hm2 : (BitVec.ofInt 64 ((2 ^ m - 1 : Nat) : Int)).toNat = 2 ^ m - 1 := by
    rw [BitVec.toNat_ofInt]
    generalize 2 ^ m = q at *
    omega
  have key : (BitVec.ofInt 64 n &&& BitVec.ofInt 64 ((2 ^ m - 1 : Nat) : Int)).toNat = (n % ((2 ^ 64 : Nat) : Int)).toNat % 2 ^ m := by
    rw [BitVec.toNat_and, BitVec.toNat_ofInt, hm2, Nat.and_two_pow_sub_one_eq_mod]
  show IntKind.i64.wrap ((BitVec.ofInt 64 n &&& BitVec.ofInt 64 ((2 ^ m - 1 : Nat) : Int)).toNat : Nat) = n % ((2 ^ m : Nat) : Int)
  rw [key, IntKind.wrap_i64]
  have hd : ((2 ^ m : Nat) : Int) ∣ ((2 ^ 64 : Nat) : Int) := Int.natCast_dvd_natCast.2 (Nat.pow_dvd_pow 2 (by omega))
  have e1 : (((n % ((2 ^ 64 : Nat) : Int)).toNat % 2 ^ m : Nat) : Int) = n % ((2 ^ m : Nat) : Int) := by
    rw [Int.natCast_emod, Int.toNat_of_nonneg (Int.emod_nonneg _ (by decide)), Int.emod_emod_of_dvd _ hd]
  rw [e1]
  have h1 := Int.emod_nonneg n (b := ((2 ^ m : Nat) : Int)) (by omega)
  have h2 := Int.emod_lt_of_pos n (b := ((2 ^ m : Nat) : Int)) (by omega)
  generalize n % ((2 ^ m : Nat) : Int) = r at *
  generalize 2 ^ m = q at *
  omega
theorem i64_and63 (n : Int) : bits .and .i64 n 63 = n % 64 := i64_mask n 6 (by omega)
theorem i64_and15 (n : Int) : bits .and .i64 n 15 = n % 16 := i64_mask n 4 (by omega)
theorem i64_and3 (n : Int) : bits .and .i64 n 3 = n % 4 := i64_mask n 2 (by omega)
/-- One timer, as long as it runs. -/
def oneL (now e : Int) : List Tm := if now < e then [(7, e)] else []
theorem one_outs (now e : Int) : outs (now + 1) (oneL now e) = if now + 1 = e then [7] else [] := by
  unfold outs at_ oneL
  by_cases h : now < e
  · rw [if_pos h]
    by_cases h2 : now + 1 = e
    · simp [h2]
    · have : ¬ e = now + 1 := fun h => h2 h.symm
      simp [h2, this]
  · have h2 : ¬ now + 1 = e := by omega
    simp [h, h2]
theorem one_rest (now e : Int) : rest (now + 1) (oneL now e) = oneL (now + 1) e := by
  unfold rest oneL
  by_cases h : now < e
  · rw [if_pos h]
    by_cases h2 : now + 1 < e
    · have : ¬ e = now + 1 := by omega
      simp [h2, this]
    · have : e = now + 1 := by omega
      simp [h2, this]
  · have h2 : ¬ now + 1 < e := by omega
    simp [h, h2]
theorem one_has (now e : Int) : has 7 (oneL now e) = decide (now < e) := by
  unfold has oneL
  by_cases h : now < e <;> simp [h]
theorem one_off (now e : Int) : off 7 (oneL now e) = [] := by
  unfold off oneL
  by_cases h : now < e <;> simp [h]
section
variable {w : World} {p bm dm : Nat} {G : List (Int × Nat)}
/-- A tick of a wheel with one timer. -/
def OneP (p bm dm : Nat) (now e : Int) (G : List (Int × Nat)) (w : World) (en : Ending) (w' : World) : Prop :=
  ∃ A n c G', en = .returned (.slice A n c) ∧ (n : Int) = (if now + 1 = e then 1 else 0) ∧ WheelW w' p bm dm (now + 1) (oneL (now + 1) e) G' ∧ Turn (Foot p bm dm G) w (Foot p bm dm G') w'
theorem tick_one {now e : Int} (h : WheelW w p bm dm now (oneL now e) G) (hn : now ≤ 1000000) :
    Calls Try.prog 18 #[.pointer (some ⟨p, 0, none⟩)] w (OneP p bm dm now e G w) := by
  refine (tick_held h hn).mono ?_
  rintro en w' ⟨A, n, c, G', rfl, hl, _, _, _, hw, T⟩
  refine ⟨A, n, c, G', rfl, ?_, by rw [← one_rest]; exact hw, T⟩
  rw [hl, one_outs]
  split <;> rfl
theorem set_one {now e n : Int} (h : WheelW w p bm dm now (oneL now e) G) (hn : now ≤ 1000000) (h1 : 1 ≤ n) (h2 : n ≤ 1000) :
    Calls Try.prog 11 #[.pointer (some ⟨p, 0, none⟩), .int .i64 7, .int .i64 n] w (Ends (.int .i64 0) p bm dm now (oneL now (now + n)) G w) := by
  have S := set_any h hn (x := 7) (n := n) (wfn 7 (by omega))
  have e1 : setR 7 n now (oneL now e) = (0, oneL now (now + n)) := by
    unfold setR
    have hl : (oneL now e).length ≤ 1 := by unfold oneL; split <;> simp
    rw [if_neg (by omega), if_neg (fun h => by have := h.2; omega), one_off]
    unfold oneL
    rw [if_pos (by omega)]
    rfl
  rw [e1] at S
  exact S
end
set_option maxHeartbeats 8000000 in
theorem again_walk (x y z : Int) (g : Bool) (w : World) : Calls Try.prog 5 #[.agg #[.int .i64 x, .int .i64 y, .int .i64 z], .bool g] w (Gives (.bool true) w) := by
  obtain ⟨W, hW⟩ : ∃ W, W = w.alloc (.cells #[.int .i64 x, .int .i64 y, .int .i64 z] 48) := ⟨_, rfl⟩
  have hb0 : Below w.heap.size w W := by rw [hW]; exact (Below.refl _ w).alloc (Nat.le_refl _) _
  have r1 : Row W w.heap.size 48 [.int .i64 x, .int .i64 y, .int .i64 z] := by rw [hW]; exact Row.new w _ _
  have H0 := Lib.hid (wnew_any W)
  have hx0 := Int.emod_nonneg x (show (64 : Int) ≠ 0 by decide)
  have hx1 := Int.emod_lt_of_pos x (show (0 : Int) < 64 by decide)
  have hy0 := Int.emod_nonneg y (show (64 : Int) ≠ 0 by decide)
  have hy1 := Int.emod_lt_of_pos y (show (0 : Int) < 64 by decide)
  have hz0 := Int.emod_nonneg z (show (64 : Int) ≠ 0 by decide)
  have hz1 := Int.emod_lt_of_pos z (show (0 : Int) < 64 by decide)
  have ex := i64_and63 x
  have ey := i64_and63 y
  have ez := i64_and63 z
  generalize x % 64 = a at *
  generalize y % 64 = b at *
  generalize z % 64 = c at *
  have wa : IntKind.i64.wrap (1 + a) = 1 + a := by rw [IntKind.wrap_i64]; omega
  have wc : IntKind.i64.wrap (1 + c) = 1 + c := by rw [IntKind.wrap_i64]; omega
  have HW := Lib.hid hW
  have HB0 := Lib.hid hb0
  have HR := Lib.hid r1
  clear hW hb0 r1
  go_enter Try.func5, Try.ntmps5
  go_wp2_with fail
  rw [← HW.out]
  refine H0.out.mono ?_
  rintro e w1 ⟨p, bm, dm, rfl, h1, hF, hB⟩
  have r1 := HR.out.keep (hB.block _ HR.out.lt)
  have v0 := r1.cell (j := 0) rfl
  have v1 := r1.cell (j := 1) rfl
  have v2 := r1.cell (j := 2) rfl
  have vl := r1.lt
  have HF := Lib.hid hF
  have HB := Lib.hid (HB0.out.trans (hB.mono HB0.out.size))
  have HBS := Lib.hid hB.size
  have HH1 := Lib.hid h1
  clear h1 hF hB r1
  go_wp2_with fail
  go_quiet (fail)
  have hd := HH1.out.drewN nq
  have hsz : (w1.drewN nq).heap.size = w1.heap.size := rfl
  have HD := Lib.hid (And.intro HH1.out.lt (Turn.drewN (Foot p bm dm []) w1 nq))
  generalize w1.drewN nq = w2 at *
  have S1 := set_one (e := 0) (n := 1 + a) hd (by omega) (by omega) (by omega)
  rw [show (0 : Int) + (1 + a) = 1 + a by omega] at S1
  have HS1 := Lib.hid S1
  clear S1 hd hsz v0 v1 v2 vl HH1
  go_wp2_with fail
  refine HS1.out.mono ?_
  rintro e w3 ⟨rfl, G3, h3, T3⟩
  have HT3 := Lib.hid (HD.out.2.trans T3)
  have H3 := Lib.hid h3
  clear h3 T3
  go_wp2_with fail
  go_loopw [9] (fun s wr => ∃ k : Nat, s = .int .i64 ((k : Int) + 1) ∧ (k : Int) ≤ b ∧ ∃ G, WheelW wr p bm dm (k : Int) (oneL (k : Int) (1 + a)) G ∧ Turn (Foot p bm dm []) w1 (Foot p bm dm G) wr) (fun s _ => (b + 1 - intOf s).toNat)
  case atStart => exact ⟨0, rfl, by omega, G3, H3.out, HT3.out⟩
  case round =>
    obtain ⟨k, rfl, hk, G4, h4, T4⟩ := hrel
    have H4 := Lib.hid h4
    have HT4 := Lib.hid T4
    clear h4 T4
    by_cases hlt : (k : Int) + 1 ≤ b
    · have hone := tick_one H4.out (by omega)
      unfold OneP at hone
      have HO := Lib.hid hone
      clear hone
      go_wp2_with fail
      refine HO.out.mono ?_
      rintro e w5 ⟨A5, n5, c5, G5, rfl, hn5, h5, T5⟩
      have H5 := Lib.hid h5
      have HT5 := Lib.hid (HT4.out.trans T5)
      clear h5 T5
      by_cases hka : (k : Int) + 1 = 1 + a
      · rw [if_pos hka] at hn5
        go_wp2
        exact ⟨⟨k + 1, by rw [← hka]; rfl, by omega, G5, H5.out, HT5.out⟩, by simp [intOf]; omega⟩
      · rw [if_neg hka] at hn5
        have hne : ¬ (n5 : Int) = 1 := by omega
        have hng : ¬ (1 : Int) < (n5 : Int) := by omega
        go_wp2
        exact ⟨⟨k + 1, by go_num, by omega, G5, H5.out, HT5.out⟩, by simp [intOf]; omega⟩
    · obtain rfl : b = (k : Int) := by omega
      rcases g with _ | _
      · have S2 := set_one (n := 1 + c) H4.out (by omega) (by omega) (by omega)
        have HS2 := Lib.hid S2
        have HO_ := Lib.hid True.intro
        clear S2
        go_wp2_with fail
        refine HS2.out.mono ?_
        rintro e w6 ⟨rfl, G6, h6, T6⟩
        have H6 := Lib.hid h6
        have HT6 := Lib.hid (HT4.out.trans T6)
        clear h6 T6
        go_wp2_with fail
        clear H4 HT4 HO_
        have HA := Lib.hid awake_any
        go_loopw [11] (fun s wr => ∃ m : Nat, s = .int .i64 ((m : Int) + 1) ∧ m ≤ 70 ∧ ∃ G, WheelW wr p bm dm ((k : Int) + (m : Int)) (oneL ((k : Int) + (m : Int)) ((k : Int) + (1 + c))) G ∧ Turn (Foot p bm dm []) w1 (Foot p bm dm G) wr) (fun s _ => (71 - intOf s).toNat)
        case atStart => exact ⟨0, rfl, by omega, G6, by rw [show (k : Int) + ((0 : Nat) : Int) = (k : Int) by omega]; exact H6.out, HT6.out⟩
        case round =>
          obtain ⟨m, rfl, hm, G7, h7, T7⟩ := hrel
          have H7 := Lib.hid h7
          have HT7 := Lib.hid T7
          clear h7 T7
          by_cases hlt : (m : Int) + 1 ≤ 70
          · have hone := tick_one H7.out (by omega)
            unfold OneP at hone
            have HO := Lib.hid hone
            clear hone
            go_wp2_with fail
            refine HO.out.mono ?_
            rintro e w8 ⟨A8, n8, c8, G8, rfl, hn8, h8, T8⟩
            have H8 := Lib.hid h8
            have HT8 := Lib.hid (HT7.out.trans T8)
            clear h8 T8
            by_cases hka : (m : Int) + 1 = 1 + c
            · rw [if_pos (by omega)] at hn8
              go_wp2
              exact ⟨⟨m + 1, by rw [← hka]; rfl, by omega, G8, by rw [show (k : Int) + ((m + 1 : Nat) : Int) = (k : Int) + (m : Int) + 1 by omega]; exact H8.out, HT8.out⟩, by simp [intOf]; omega⟩
            · rw [if_neg (by omega)] at hn8
              have hne : ¬ (n8 : Int) = 1 := by omega
              have hng : ¬ (1 : Int) < (n8 : Int) := by omega
              go_wp2
              exact ⟨⟨m + 1, by go_num, by omega, G8, by rw [show (k : Int) + ((m + 1 : Nat) : Int) = (k : Int) + (m : Int) + 1 by omega]; exact H8.out, HT8.out⟩, by simp [intOf]; omega⟩
          · go_wp2_with fail
            refine (HA.out wr).mono ?_
            rintro e w9 ⟨rfl, h9⟩
            have hfin := HB.out.trans ((HT7.out.down HF.out HBS.out).mono HB0.out.size)
            go_wp2
            go_ret
            exact ⟨rfl, hfin.trans (h9.mono (by have := hfin.size; have := HB.out.size; omega))⟩
      · have S2 := cancel_any H4.out (by omega) (x := 7) (wfn 7 (by omega))
        rw [one_off, show ([] : List Tm) = oneL (k : Int) (k : Int) by unfold oneL; rw [if_neg (by omega)], one_has] at S2
        have HO_ := Lib.hid True.intro
        by_cases hka : (k : Int) < 1 + a
        · rw [decide_eq_true hka] at S2
          have HS2 := Lib.hid S2
          clear S2
          go_wp2_with fail
          refine HS2.out.mono ?_
          rintro e w6 ⟨rfl, G6, h6, T6⟩
          have H6 := Lib.hid h6
          have HT6 := Lib.hid (HT4.out.trans T6)
          have hlen := len_any h6
          rw [show (oneL (k : Int) (k : Int)).length = 0 by unfold oneL; rw [if_neg (by omega)]; rfl] at hlen
          have HLN := Lib.hid hlen
          clear h6 T6 hlen
          go_wp2_with fail
          refine HLN.out.mono ?_
          rintro e w7 ⟨rfl, rfl⟩
          go_wp2_with fail
          clear H4 HT4 HO_
          have HA := Lib.hid awake_any
          go_loopw [11] (fun s wr => ∃ m : Nat, s = .int .i64 ((m : Int) + 1) ∧ m ≤ 70 ∧ ∃ G, WheelW wr p bm dm ((k : Int) + (m : Int)) (oneL ((k : Int) + (m : Int)) ((k : Int))) G ∧ Turn (Foot p bm dm []) w1 (Foot p bm dm G) wr) (fun s _ => (71 - intOf s).toNat)
          case atStart => exact ⟨0, rfl, by omega, G6, by rw [show (k : Int) + ((0 : Nat) : Int) = (k : Int) by omega]; exact H6.out, HT6.out⟩
          case round =>
            obtain ⟨m, rfl, hm, G7, h7, T7⟩ := hrel
            have H7 := Lib.hid h7
            have HT7 := Lib.hid T7
            clear h7 T7
            by_cases hlt : (m : Int) + 1 ≤ 70
            · have hone := tick_one H7.out (by omega)
              unfold OneP at hone
              have HO := Lib.hid hone
              clear hone
              go_wp2_with fail
              refine HO.out.mono ?_
              rintro e w8 ⟨A8, n8, c8, G8, rfl, hn8, h8, T8⟩
              have H8 := Lib.hid h8
              have HT8 := Lib.hid (HT7.out.trans T8)
              clear h8 T8
              by_cases hka : (m : Int) + 1 = 0
              · omega
              · rw [if_neg (by omega)] at hn8
                have hne : ¬ (n8 : Int) = 1 := by omega
                have hng : ¬ (1 : Int) < (n8 : Int) := by omega
                go_wp2
                exact ⟨⟨m + 1, by go_num, by omega, G8, by rw [show (k : Int) + ((m + 1 : Nat) : Int) = (k : Int) + (m : Int) + 1 by omega]; exact H8.out, HT8.out⟩, by simp [intOf]; omega⟩
            · go_wp2_with fail
              refine (HA.out wr).mono ?_
              rintro e w9 ⟨rfl, h9⟩
              have hfin := HB.out.trans ((HT7.out.down HF.out HBS.out).mono HB0.out.size)
              go_wp2
              go_ret
              exact ⟨rfl, hfin.trans (h9.mono (by have := hfin.size; have := HB.out.size; omega))⟩
        · rw [decide_eq_false hka] at S2
          have HS2 := Lib.hid S2
          clear S2
          go_wp2_with fail
          refine HS2.out.mono ?_
          rintro e w6 ⟨rfl, G6, h6, T6⟩
          have H6 := Lib.hid h6
          have HT6 := Lib.hid (HT4.out.trans T6)
          have hlen := len_any h6
          rw [show (oneL (k : Int) (k : Int)).length = 0 by unfold oneL; rw [if_neg (by omega)]; rfl] at hlen
          have HLN := Lib.hid hlen
          clear h6 T6 hlen
          go_wp2_with fail
          refine HLN.out.mono ?_
          rintro e w7 ⟨rfl, rfl⟩
          go_wp2_with fail
          clear H4 HT4 HO_
          have HA := Lib.hid awake_any
          go_loopw [11] (fun s wr => ∃ m : Nat, s = .int .i64 ((m : Int) + 1) ∧ m ≤ 70 ∧ ∃ G, WheelW wr p bm dm ((k : Int) + (m : Int)) (oneL ((k : Int) + (m : Int)) ((k : Int))) G ∧ Turn (Foot p bm dm []) w1 (Foot p bm dm G) wr) (fun s _ => (71 - intOf s).toNat)
          case atStart => exact ⟨0, rfl, by omega, G6, by rw [show (k : Int) + ((0 : Nat) : Int) = (k : Int) by omega]; exact H6.out, HT6.out⟩
          case round =>
            obtain ⟨m, rfl, hm, G7, h7, T7⟩ := hrel
            have H7 := Lib.hid h7
            have HT7 := Lib.hid T7
            clear h7 T7
            by_cases hlt : (m : Int) + 1 ≤ 70
            · have hone := tick_one H7.out (by omega)
              unfold OneP at hone
              have HO := Lib.hid hone
              clear hone
              go_wp2_with fail
              refine HO.out.mono ?_
              rintro e w8 ⟨A8, n8, c8, G8, rfl, hn8, h8, T8⟩
              have H8 := Lib.hid h8
              have HT8 := Lib.hid (HT7.out.trans T8)
              clear h8 T8
              by_cases hka : (m : Int) + 1 = 0
              · omega
              · rw [if_neg (by omega)] at hn8
                have hne : ¬ (n8 : Int) = 1 := by omega
                have hng : ¬ (1 : Int) < (n8 : Int) := by omega
                go_wp2
                exact ⟨⟨m + 1, by go_num, by omega, G8, by rw [show (k : Int) + ((m + 1 : Nat) : Int) = (k : Int) + (m : Int) + 1 by omega]; exact H8.out, HT8.out⟩, by simp [intOf]; omega⟩
            · go_wp2_with fail
              refine (HA.out wr).mono ?_
              rintro e w9 ⟨rfl, h9⟩
              have hfin := HB.out.trans ((HT7.out.down HF.out HBS.out).mono HB0.out.size)
              go_wp2
              go_ret
              exact ⟨rfl, hfin.trans (h9.mono (by have := hfin.size; have := HB.out.size; omega))⟩
end Go.Proofs.Ytfojempmgonahaa.Wh
