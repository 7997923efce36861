/- Plain mathematics of layer 2: what is put is read back, whatever stands behind; what lacks some bytes is too short; bytes that are read are those that are put. Conditions: values are good ones. -/
import Derived.Test.YtcbkgcnajplagaaDoorJ07
set_option linter.unusedVariables false
set_option linter.unusedSimpArgs false
namespace Go.Proofs.YtcbkgcnajplagaaDoor.Be
open Go

theorem rd_i (r : List UInt8) (w : Nat) : rd (105 :: r) w = rdNum r := by rw [rd]; simp
theorem rd_d (c : UInt8) (r : List UInt8) (w : Nat) (h : isDig c = true) : rd (c :: r) w = rdText (c :: r) := by
  rw [rd, if_neg (by rintro rfl; revert h; decide), if_pos h]
theorem rd_l (r : List UInt8) (w : Nat) (h : w < 8) : rd (108 :: r) w = (match rdL r (w + 1) with | .error e => .error e | .ok (ts, n) => .ok (.mk 3 0 .empty ts, n + 1)) := by
  rw [rd, if_neg (by decide), if_neg (by decide), if_pos rfl, if_neg (by omega)]
  rcases rdL r (w + 1) with e | ⟨ts, n⟩ <;> rfl
theorem rdL_e (r : List UInt8) (w : Nat) : rdL (101 :: r) w = .ok ([], 1) := by rw [rdL, if_pos rfl]
theorem rdL_c (c : UInt8) (r : List UInt8) (w : Nat) (h : c ≠ 101) : rdL (c :: r) w = (match rd (c :: r) w with | .error e => .error e | .ok (t, n) => match rdL (r.drop (n - 1)) w with | .error e => .error e | .ok (ts, m) => .ok (t :: ts, n + m)) := by
  rw [rdL, if_neg h]
  rcases rd (c :: r) w with e | ⟨t, n⟩
  · rfl
  · simp only
    rcases rdL (r.drop (n - 1)) w with e | ⟨ts, m⟩ <;> rfl
theorem dec_head (n : Nat) : ∃ c r, Lib.decDigits n = c :: r ∧ isDig c = true ∧ (c = 48 → n = 0) := by
  induction n using Nat.strongRecOn with
  | _ n ih =>
    by_cases h : n < 10
    · refine ⟨_, [], dec_small h, isDig_of h, fun e => ?_⟩
      have := congrArg UInt8.toNat e
      rw [u8_ofNat (by omega)] at this
      simp at this; omega
    · obtain ⟨c, r, e, hd, h0⟩ := ih (n / 10) (by omega)
      refine ⟨c, r ++ [UInt8.ofNat (48 + n % 10)], by rw [dec_big h, e]; rfl, hd, fun e => ?_⟩
      have := h0 e
      omega
theorem nd101 : isDig 101 = false := by decide
theorem nd58 : isDig 58 = false := by decide
theorem rdNum_minus (r : List UInt8) : rdNum (45 :: r) = (if r.head? = some 48 then .error 20 else match dg 9223372036854775808 101 20 true 0 r with | .error e => .error e | .ok (m, n) => .ok (.mk 1 (-(m : Int)) .empty [], n + 2)) := rfl
theorem rdNum_plus (r : List UInt8) (h : r.head? ≠ some 45) : rdNum r = (match dg 9223372036854775807 101 20 true 0 r with | .error e => .error e | .ok (m, n) => .ok (.mk 1 m .empty [], n + 1)) := by
  unfold rdNum
  split
  · exact absurd rfl h
  · rfl
theorem itoa_cases (n : Int) (h0 : -9223372036854775808 ≤ n) (h1 : n ≤ 9223372036854775807) :
    (∃ m : Nat, m ≠ 0 ∧ m ≤ 9223372036854775808 ∧ n = -(m : Int) ∧ Lib.itoa n = 45 :: Lib.decDigits m) ∨ (∃ m : Nat, m ≤ 9223372036854775807 ∧ n = m ∧ Lib.itoa n = Lib.decDigits m) := by
  by_cases h : n < 0
  · exact .inl ⟨n.natAbs, by omega, by omega, by omega, by unfold Lib.itoa; rw [if_pos h]⟩
  · exact .inr ⟨n.toNat, by omega, by omega, by unfold Lib.itoa; rw [if_neg h]⟩
theorem rdNum_put (n : Int) (h0 : -9223372036854775808 ≤ n) (h1 : n ≤ 9223372036854775807) (rest : List UInt8) : rdNum (Lib.itoa n ++ 101 :: rest) = .ok (.mk 1 n .empty [], (Lib.itoa n).length + 2) := by
  rcases itoa_cases n h0 h1 with ⟨m, hm0, hm, rfl, e⟩ | ⟨m, hm, rfl, e⟩
  · obtain ⟨c, r, hc, hd, hz⟩ := dec_head m
    have hp := dg_put 9223372036854775808 101 20 nd101 m hm rest
    rw [e, List.cons_append, rdNum_minus, if_neg (by rw [hc]; simp; intro e; exact hm0 (hz e)), hp]
    simp
  · obtain ⟨c, r, hc, hd, hz⟩ := dec_head m
    have hp := dg_put 9223372036854775807 101 20 nd101 m hm rest
    rw [e, rdNum_plus _ (by rw [hc]; simp; rintro rfl; revert hd; decide), hp]
theorem rdNum_cut (n : Int) (h0 : -9223372036854775808 ≤ n) (h1 : n ≤ 9223372036854775807) (j : Nat) : rdNum ((Lib.itoa n).take j) = .error 21 := by
  rcases itoa_cases n h0 h1 with ⟨m, hm0, hm, rfl, e⟩ | ⟨m, hm, rfl, e⟩
  · rw [e]
    rcases j with _ | j
    · rfl
    · have hp := dg_cut 9223372036854775808 101 20 nd101 m hm j
      rw [List.take_succ_cons, rdNum_minus, hp, if_neg]
      obtain ⟨c, r, hc, hd, hz⟩ := dec_head m
      rw [hc]
      rcases j with _ | j
      · simp
      · simp; intro e; exact hm0 (hz e)
  · have hp := dg_cut 9223372036854775807 101 20 nd101 m hm j
    rw [e, rdNum_plus, hp]
    obtain ⟨c, r, hc, hd, hz⟩ := dec_head m
    rw [hc]
    rcases j with _ | j
    · simp
    · simp; rintro rfl; revert hd; decide
theorem rdText_put (s : ByteArray) (hs : s.size ≤ 65536) (rest : List UInt8) : rdText (Lib.itoa s.size ++ 58 :: s.data.toList ++ rest) = .ok (.mk 2 0 s [], (Lib.itoa s.size).length + 1 + s.size) := by
  have hp := dg_put 65536 58 23 nd58 s.size hs (s.data.toList ++ rest)
  rw [itoa_nat]
  unfold rdText
  rw [List.append_assoc, List.cons_append, hp]
  have hd : (Lib.decDigits s.size ++ 58 :: (s.data.toList ++ rest)).drop ((Lib.decDigits s.size).length + 1) = s.data.toList ++ rest := by
    rw [← List.singleton_append, ← List.append_assoc, List.drop_left' (by simp)]
  have hl : s.data.toList.length = s.size := by simp
  simp only [hd]
  rw [if_neg (by simp), List.take_left' (by simp)]
theorem rdText_cut (s : ByteArray) (hs : s.size ≤ 65536) (j : Nat) (hj : j < (Lib.itoa s.size ++ 58 :: s.data.toList).length) : rdText ((Lib.itoa s.size ++ 58 :: s.data.toList).take j) = .error 21 := by
  rw [itoa_nat] at hj ⊢
  by_cases h : j ≤ (Lib.decDigits s.size).length
  · unfold rdText
    rw [List.take_append_of_le_length h, dg_cut 65536 58 23 nd58 s.size hs j]
  · obtain ⟨i, rfl⟩ : ∃ i, j = (Lib.decDigits s.size).length + (i + 1) := ⟨j - (Lib.decDigits s.size).length - 1, by omega⟩
    have hp := dg_put 65536 58 23 nd58 s.size hs (s.data.toList.take i)
    unfold rdText
    rw [List.take_length_add_append, List.take_succ_cons, hp]
    have hd : (Lib.decDigits s.size ++ 58 :: s.data.toList.take i).drop ((Lib.decDigits s.size).length + 1) = s.data.toList.take i := by
      rw [← List.singleton_append, ← List.append_assoc, List.drop_left' (by simp)]
    simp only [hd]
    rw [if_pos]
    simp at hj ⊢
    omega

theorem enc_list (n : Int) (s : ByteArray) (l : List T) : enc (.mk 3 n s l) = 108 :: (encL l ++ [101]) := by rw [enc, if_neg (by decide), if_neg (by decide), if_pos rfl]
theorem enc_text (n : Int) (s : ByteArray) (l : List T) : enc (.mk 2 n s l) = Lib.itoa s.size ++ 58 :: s.data.toList := by rw [enc, if_neg (by decide), if_pos rfl]
theorem enc_num (n : Int) (s : ByteArray) (l : List T) : enc (.mk 1 n s l) = 105 :: (Lib.itoa n ++ [101]) := by rw [enc, if_pos rfl]
theorem kinds_cases {k n : Int} {s : ByteArray} {l : List T} (h : kindsOk (.mk k n s l) = true) : k = 1 ∨ k = 2 ∨ (k = 3 ∧ kindsOkL l = true) := by simpa [kindsOk, or_assoc] using h
/-- A value's bytes begin with no e. -/
theorem enc_head : ∀ t : T, kindsOk t = true → ∃ c r, enc t = c :: r ∧ c ≠ 101
  | .mk k n s l, h => by
    rcases kinds_cases h with rfl | rfl | ⟨rfl, _⟩
    · exact ⟨_, _, enc_num n s l, by decide⟩
    · obtain ⟨c, r, hc, hd, _⟩ := dec_head s.size
      rw [enc_text, itoa_nat, hc]
      exact ⟨c, _, rfl, by rintro rfl; revert hd; decide⟩
    · exact ⟨_, _, enc_list n s l, by decide⟩
mutual
theorem rd_enc : ∀ (t : T) (w : Nat) (rest : List UInt8), kindsOk t = true → wfT t = true → deepT t + w ≤ 8 → (enc t).length ≤ 65536 → rd (enc t ++ rest) w = .ok (tidy t, (enc t).length)
  | .mk k n s l, w, rest, hk, hw, hd, hl => by
    rcases kinds_cases hk with rfl | rfl | ⟨rfl, hkl⟩
    · have hn : -9223372036854775808 ≤ n ∧ n ≤ 9223372036854775807 := by
        simp only [wfT, Bool.and_eq_true, decide_eq_true_eq] at hw
        exact hw.1.1
      rw [enc_num, List.cons_append, rd_i, List.append_assoc, List.singleton_append, rdNum_put n hn.1 hn.2]
      simp [tidy]
    · rw [enc_text] at hl ⊢
      have hs : s.size ≤ 65536 := by simp at hl; omega
      obtain ⟨c, r, hc, hdg, _⟩ := dec_head s.size
      have := rdText_put s hs rest
      rw [show Lib.itoa s.size ++ 58 :: s.data.toList ++ rest = c :: (r ++ 58 :: s.data.toList ++ rest) by rw [itoa_nat, hc]; rfl] at this ⊢
      rw [rd_d _ _ _ hdg, this]
      simp [tidy]
      omega
    · have hdl : deepL l + (w + 1) ≤ 8 := by simp [deepT] at hd; omega
      have hwl : wfL l = true := by
        simp only [wfT, Bool.and_eq_true] at hw
        exact hw.2
      rw [enc_list] at hl ⊢
      rw [List.cons_append, rd_l _ _ (by omega), List.append_assoc, List.singleton_append, rdL_enc l (w + 1) rest hkl hwl hdl (by simp at hl; omega)]
      simp [tidy]
theorem rdL_enc : ∀ (l : List T) (w : Nat) (rest : List UInt8), kindsOkL l = true → wfL l = true → deepL l + w ≤ 8 → (encL l).length ≤ 65536 → rdL (encL l ++ 101 :: rest) w = .ok (tidyL l, (encL l).length + 1)
  | [], w, rest, _, _, _, _ => by
    rw [encL, List.nil_append, rdL_e]
    rfl
  | t :: ts, w, rest, hk, hw, hd, hl => by
    simp only [kindsOkL, Bool.and_eq_true] at hk
    simp only [wfL, Bool.and_eq_true] at hw
    simp only [deepL] at hd
    rw [encL, List.length_append] at hl
    obtain ⟨c, r, hc, hne⟩ := enc_head t hk.1
    have h1 := rd_enc t w (encL ts ++ 101 :: rest) hk.1 hw.1 (by omega) (by omega)
    have h2 := rdL_enc ts w rest hk.2 hw.2 (by omega) (by omega)
    rw [encL, List.append_assoc]
    rw [hc, List.cons_append] at h1 ⊢
    rw [rdL_c _ _ _ hne, h1]
    simp only
    rw [show (c :: r).length - 1 = r.length by simp, List.drop_left, h2]
    simp [tidyL]
    omega
end
mutual
theorem rd_cut : ∀ (t : T) (w j : Nat), kindsOk t = true → wfT t = true → deepT t + w ≤ 8 → (enc t).length ≤ 65536 → j < (enc t).length → rd ((enc t).take j) w = .error 21
  | .mk k n s l, w, j, hk, hw, hd, hl, hj => by
    rcases kinds_cases hk with rfl | rfl | ⟨rfl, hkl⟩
    · have hn : -9223372036854775808 ≤ n ∧ n ≤ 9223372036854775807 := by
        simp only [wfT, Bool.and_eq_true, decide_eq_true_eq] at hw
        exact hw.1.1
      rw [enc_num] at hj ⊢
      rcases j with _ | j
      · rw [List.take_zero, rd]
      · rw [List.take_succ_cons, rd_i, List.take_append_of_le_length (by simp at hj; omega), rdNum_cut n hn.1 hn.2]
    · rw [enc_text] at hl hj ⊢
      have hs : s.size ≤ 65536 := by simp at hl; omega
      rcases j with _ | j
      · rw [List.take_zero, rd]
      · obtain ⟨c, r, hc, hdg, _⟩ := dec_head s.size
        have := rdText_cut s hs (j + 1) hj
        rw [show Lib.itoa s.size ++ 58 :: s.data.toList = c :: (r ++ 58 :: s.data.toList) by rw [itoa_nat, hc]; rfl] at this ⊢
        rw [List.take_succ_cons] at this ⊢
        rw [rd_d _ _ _ hdg, this]
    · have hdl : deepL l + (w + 1) ≤ 8 := by simp [deepT] at hd; omega
      have hwl : wfL l = true := by
        simp only [wfT, Bool.and_eq_true] at hw
        exact hw.2
      rw [enc_list] at hl hj ⊢
      rcases j with _ | j
      · rw [List.take_zero, rd]
      · rw [List.take_succ_cons, rd_l _ _ (by omega), List.take_append_of_le_length (by simp at hj; omega), rdL_cut l (w + 1) j hkl hwl hdl (by simp at hl; omega)]
theorem rdL_cut : ∀ (l : List T) (w j : Nat), kindsOkL l = true → wfL l = true → deepL l + w ≤ 8 → (encL l).length ≤ 65536 → rdL ((encL l).take j) w = .error 21
  | [], w, j, _, _, _, _ => by
    rw [encL, List.take_nil, rdL]
  | t :: ts, w, j, hk, hw, hd, hl => by
    simp only [kindsOkL, Bool.and_eq_true] at hk
    simp only [wfL, Bool.and_eq_true] at hw
    simp only [deepL] at hd
    rw [encL, List.length_append] at hl
    obtain ⟨c, r, hc, hne⟩ := enc_head t hk.1
    rw [encL]
    by_cases hj : j < (enc t).length
    · rw [List.take_append_of_le_length (by omega)]
      have h1 := rd_cut t w j hk.1 hw.1 (by omega) (by omega) hj
      rw [hc] at h1 ⊢
      rcases j with _ | j
      · rw [List.take_zero, rdL]
      · rw [List.take_succ_cons] at h1 ⊢
        rw [rdL_c _ _ _ hne, h1]
    · obtain ⟨i, rfl⟩ : ∃ i, j = (enc t).length + i := ⟨j - (enc t).length, by omega⟩
      have h1 := rd_enc t w ((encL ts).take i) hk.1 hw.1 (by omega) (by omega)
      have h2 := rdL_cut ts w i hk.2 hw.2 (by omega) (by omega)
      rw [List.take_length_add_append]
      rw [hc, List.cons_append] at h1 ⊢
      rw [rdL_c _ _ _ hne, h1]
      simp only
      rw [show (c :: r).length - 1 = r.length by simp, List.drop_left, h2]
end
end Go.Proofs.YtcbkgcnajplagaaDoor.Be
