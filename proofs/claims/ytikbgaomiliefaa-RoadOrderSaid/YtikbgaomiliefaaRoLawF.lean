/- As many letters as may wait at a place. Conditions: the program's road. -/
import Derived.Test.YtikbgaomiliefaaRoAwk
set_option linter.unusedVariables false
set_option linter.unusedSimpArgs false
set_option maxRecDepth 100000
namespace Go.Proofs.Ytikbgaomiliefaa.Ro
open Go Go.RowKit
theorem i64_mask (n : Int) (m : Nat) (hm : m < 63) : bits .and .i64 n ((2 ^ m - 1 : Nat) : Int) = n % ((2 ^ m : Nat) : Int) := by
  have hp : 2 ^ m ≤ 2 ^ 62 := Nat.pow_le_pow_right (by omega) (by omega)
  have hp0 : 0 < 2 ^ m := Nat.two_pow_pos m
  have hm2 : (BitVec.ofInt 64 ((2 ^ m - 1 : Nat) : Int)).toNat = 2 ^ m - 1 := by
    rw [BitVec.toNat_ofInt]
    generalize 2 ^ m = q at *
    omega
  have key : (BitVec.ofInt 64 n &&& BitVec.ofInt 64 ((2 ^ m - 1 : Nat) : Int)).toNat = (n % ((2 ^ 64 : Nat) : Int)).toNat % 2 ^ m := by
    rw [BitVec.toNat_and, BitVec.toNat_ofInt, hm2, Nat.and_two_pow_sub_one_eq_mod]
  show IntKind.i64.wrap ((BitVec.ofInt 64 n &&& BitVec.ofInt 64 ((2 ^ m - 1 : Nat) : Int)).toNat : Nat) = n % ((2 ^ m : Nat) : Int)
  rw [key, IntKind.wrap_i64]
  have hd : ((2 ^ m : Nat) : Int) ∣ ((2 ^ 64 : Nat) : Int) := Int.natCast_dvd_natCast.2 (Nat.pow_dvd_pow 2 (by omega))
  have e1 : (((n % ((2 ^ 64 : Nat) : Int)).toNat % 2 ^ m : Nat) : Int) = n % ((2 ^ m : Nat) : Int) := by
    rw [Int.natCast_emod, Int.toNat_of_nonneg (Int.emod_nonneg _ (by decide)), Int.emod_emod_of_dvd _ hd]
  rw [e1]
  have h1 := Int.emod_nonneg n (b := ((2 ^ m : Nat) : Int)) (by omega)
  have h2 := Int.emod_lt_of_pos n (b := ((2 ^ m : Nat) : Int)) (by omega)
  generalize n % ((2 ^ m : Nat) : Int) = r at *
  generalize 2 ^ m = q at *
  omega
theorem i64_and63 (n : Int) : bits .and .i64 n 63 = n % 64 := i64_mask n 6 (by omega)
theorem i64_and15 (n : Int) : bits .and .i64 n 15 = n % 16 := i64_mask n 4 (by omega)
theorem i64_and3 (n : Int) : bits .and .i64 n 3 = n % 4 := i64_mask n 2 (by omega)
abbrev fL : Lt := (0, 1, ⟨#[]⟩)
def fQ (m : Nat) : Rd := [[], [], List.replicate m fL]
theorem f_send {m : Nat} : sendQ (fQ m) (0, 1, ⟨#[]⟩) = if 1024 ≤ m then (fQ m, 2) else (fQ (m + 1), 0) := by
  have h1 : haveQ (fQ m) 1 = List.replicate m fL := rfl
  have h2 : thereQ (fQ m) 0 = true := rfl
  have h3 : thereQ (fQ m) 1 = true := rfl
  have h4 : List.replicate m fL ++ [((0, 1, ⟨#[]⟩) : Lt)] = List.replicate (m + 1) fL := by rw [List.replicate_succ']
  unfold sendQ
  rw [if_neg (by simp only [h2, h3]; decide)]
  simp only [h1, h4, List.length_replicate]
  rfl
theorem f_twice {m : Nat} (h : 5 < m) : twiceQ (fQ m) 1 5 = if 1024 ≤ m then (fQ m, 2) else (fQ (m + 1), 0) := by
  have h1 : haveQ (fQ m) 1 = List.replicate m fL := rfl
  have h3 : thereQ (fQ m) 1 = true := rfl
  have h4 : cutT (List.replicate m fL) 5 0 [fL] = List.replicate (m + 1) fL := by
    rw [List.eq_replicate_iff]
    refine ⟨by rw [cutT_len (by simp; omega)]; simp, fun b hb => ?_⟩
    unfold cutT at hb
    simp [List.take_replicate, List.drop_replicate, List.mem_replicate] at hb
    rcases hb with hb | hb | hb
    · exact hb.2
    · exact hb
    · exact hb.2
  have h5 : (List.replicate m fL).getD (5 : Int).toNat noL = fL := by
    rw [List.getD_eq_getElem?_getD, List.getElem?_replicate_of_lt (show (5 : Int).toNat < m from h)]
    rfl
  unfold twiceQ
  rw [h3, h1, if_neg (by simp), if_neg (by rw [List.length_replicate]; omega), h5, List.length_replicate, show (5 : Int).toNat = 5 from rfl, h4]
  rfl
theorem f_far {m : Nat} (h : m ≤ 5000) : twiceQ (fQ m) 1 5000 = (fQ m, 3) := by
  have h1 : haveQ (fQ m) 1 = List.replicate m fL := rfl
  have h3 : thereQ (fQ m) 1 = true := rfl
  unfold twiceQ
  rw [h3, h1, if_neg (by simp), if_pos (.inr (by rw [List.length_replicate]; omega))]
theorem f_waits {m : Nat} : waitsQ (fQ m) 1 = (m : Int) := by
  have h1 : haveQ (fQ m) 1 = List.replicate m fL := rfl
  have h3 : thereQ (fQ m) 1 = true := rfl
  unfold waitsQ
  rw [h3, h1, if_neg (by simp), List.length_replicate]
theorem f_last {m : Nat} : sendQ (fQ m) (0, -1, ⟨#[]⟩) = ([[(0, -1, ⟨#[]⟩)], [], List.replicate m fL], 0) := rfl
set_option maxHeartbeats 8000000 in
theorem full_walk (C : Code) (x : Int) (w : World) : Calls Try.prog 5 #[.int .i64 x] w (Gives (.bool true) w) := by
  have H0 := Lib.hid (C.new 2 w (by omega) (by omega))
  have hx0 := Int.emod_nonneg x (show (4 : Int) ≠ 0 by decide)
  have hx1 := Int.emod_lt_of_pos x (show (0 : Int) < 4 by decide)
  have ex := i64_and3 x
  obtain ⟨n, hn⟩ : ∃ n : Nat, 1023 + x % 4 = (n : Int) := ⟨(1023 + x % 4).toNat, by omega⟩
  generalize x % 4 = a at *
  have wa : IntKind.i64.wrap (1023 + a) = (n : Int) := by rw [IntKind.wrap_i64]; omega
  have hn1 : 1023 ≤ n := by omega
  have hn2 : n ≤ 1026 := by omega
  clear hn hx0 hx1
  go_enter Try.func5, Try.ntmps5
  go_wp2_with fail
  refine H0.out.mono ?_
  rintro e w1 ⟨p, F1, rfl, h1, hF, hB⟩
  have HO1 := Lib.hid (show OS C w w1 p F1 (fQ 0) from ⟨h1, hF, hB⟩)
  clear h1 hF hB
  go_wp2_with fail
  go_loopw [6] (fun s wr => ∃ (k : Nat) (F : Nat → Prop), s = .int .i64 (k : Int) ∧ k ≤ n ∧ Hid (OS C w wr p F (fQ (min k 1024)))) (fun s _ => ((n : Int) - intOf s).toNat)
  case atStart => exact ⟨0, F1, rfl, by omega, HO1⟩
  case round =>
    obtain ⟨k, F, rfl, hk, HO⟩ := hrel
    by_cases hlt : k < n
    · have hltz : (k : Int) < (n : Int) := by omega
      by_cases hs : k < 1024
      · have hsz : (k : Int) < 1024 := by omega
        have HS := Lib.hid (C.send_is HO.out.road 0 1 ⟨#[]⟩ (in64 (by decide)) (in64 (by decide)) (by decide) (f_send.trans (if_neg (by omega))))
        go_wp2_with fail
        refine HS.out.mono ?_
        rintro e w2 ⟨rfl, F', h2, T2⟩
        have HO2 := Lib.hid (HO.out.code h2 T2)
        clear h2 T2
        go_wp2_with fail
        exact ⟨⟨k + 1, F', by go_num, by omega, by rw [show min (k + 1) 1024 = min k 1024 + 1 by omega]; exact HO2⟩, by simp [intOf]; omega⟩
      · have hsz : ¬ (k : Int) < 1024 := by omega
        have HS := Lib.hid (C.send_is HO.out.road 0 1 ⟨#[]⟩ (in64 (by decide)) (in64 (by decide)) (by decide) (f_send.trans (if_pos (by omega))))
        go_wp2_with fail
        refine HS.out.mono ?_
        rintro e w2 ⟨rfl, F', h2, T2⟩
        have HO2 := Lib.hid (HO.out.code h2 T2)
        clear h2 T2
        go_wp2_with fail
        exact ⟨⟨k + 1, F', by go_num, by omega, by rw [show min (k + 1) 1024 = min k 1024 by omega]; exact HO2⟩, by simp [intOf]; omega⟩
    · obtain rfl : k = n := by omega
      have hnl : ¬ (k : Int) < (k : Int) := by omega
      have HW := Lib.hid (fun w p F (h : C.Is w p F (fQ 1024)) => C.twice_is h 1 5000 (in64 (by decide)) (in64 (by decide)) (f_far (by omega)))
      have HN := Lib.hid (fun w p F (h : C.Is w p F (fQ 1024)) => C.waits_is h 1 (in64 (by decide)) f_waits)
      have HL := Lib.hid (fun w p F (h : C.Is w p F (fQ 1024)) => C.send_is h 0 (-1) ⟨#[]⟩ (in64 (by decide)) (in64 (by decide)) (by decide) f_last)
      have HA := Lib.hid (awake_any C)
      have htw : ∃ r : Int, (r = 0 ∧ k < 1024 ∨ r = 2 ∧ 1024 ≤ k) ∧ twiceQ (fQ (min k 1024)) 1 5 = (fQ 1024, r) := by
        by_cases h : k < 1024
        · exact ⟨0, .inl ⟨rfl, h⟩, by rw [f_twice (by omega), if_neg (by omega), show min k 1024 + 1 = 1024 by omega]⟩
        · exact ⟨2, .inr ⟨rfl, by omega⟩, by rw [f_twice (by omega), if_pos (by omega), show min k 1024 = 1024 by omega]⟩
      obtain ⟨r, hr, ht⟩ := htw
      have HT := Lib.hid (C.twice_is HO.out.road 1 5 (in64 (by decide)) (in64 (by decide)) ht)
      clear ht
      rcases hr with ⟨rfl, hk1⟩ | ⟨rfl, hk1⟩
      · have hz : ¬ (1024 : Int) ≤ (k : Int) := by omega
        go_wp2_with fail
        refine HT.out.mono ?_
        rintro e w2 ⟨rfl, F2, h2, T2⟩
        have HO2 := Lib.hid (HO.out.code h2 T2)
        have HW2 := Lib.hid (HW.out _ _ _ h2)
        clear h2 T2
        go_wp2_with fail
        refine HW2.out.mono ?_
        rintro e w3 ⟨rfl, F3, h3, T3⟩
        have HO3 := Lib.hid (HO2.out.code h3 T3)
        have HN3 := Lib.hid (HN.out _ _ _ h3)
        clear h3 T3
        go_wp2_with fail
        refine HN3.out.mono ?_
        rintro e w4 ⟨rfl, hb4⟩
        have HO4 := Lib.hid (HO3.out.on hb4)
        have HL4 := Lib.hid (HL.out _ _ _ HO4.out.road)
        clear hb4
        go_wp2_with fail
        refine HL4.out.mono ?_
        rintro e w5 ⟨rfl, F5, h5, T5⟩
        have HB5 := Lib.hid (HO4.out.code h5 T5).below
        clear h5 T5
        go_wp2_with fail
        refine (HA.out w5).mono ?_
        rintro e w6 ⟨rfl, h6⟩
        have hfin := HB5.out.trans (h6.mono HB5.out.size)
        go_wp2
        go_ret
        exact ⟨rfl, hfin⟩
      · have hz : (1024 : Int) ≤ (k : Int) := by omega
        go_wp2_with fail
        refine HT.out.mono ?_
        rintro e w2 ⟨rfl, F2, h2, T2⟩
        have HO2 := Lib.hid (HO.out.code h2 T2)
        have HW2 := Lib.hid (HW.out _ _ _ h2)
        clear h2 T2
        go_wp2_with fail
        refine HW2.out.mono ?_
        rintro e w3 ⟨rfl, F3, h3, T3⟩
        have HO3 := Lib.hid (HO2.out.code h3 T3)
        have HN3 := Lib.hid (HN.out _ _ _ h3)
        clear h3 T3
        go_wp2_with fail
        refine HN3.out.mono ?_
        rintro e w4 ⟨rfl, hb4⟩
        have HO4 := Lib.hid (HO3.out.on hb4)
        have HL4 := Lib.hid (HL.out _ _ _ HO4.out.road)
        clear hb4
        go_wp2_with fail
        refine HL4.out.mono ?_
        rintro e w5 ⟨rfl, F5, h5, T5⟩
        have HB5 := Lib.hid (HO4.out.code h5 T5).below
        clear h5 T5
        go_wp2_with fail
        refine (HA.out w5).mono ?_
        rintro e w6 ⟨rfl, h6⟩
        have hfin := HB5.out.trans (h6.mono HB5.out.size)
        go_wp2
        go_ret
        exact ⟨rfl, hfin⟩
end Go.Proofs.Ytikbgaomiliefaa.Ro
