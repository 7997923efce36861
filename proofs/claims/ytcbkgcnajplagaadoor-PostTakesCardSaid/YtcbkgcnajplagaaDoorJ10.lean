/- Plain mathematics of layer 2: bytes that are read are those that are put; what is read is a good value. Conditions: none. -/
import Derived.Test.YtcbkgcnajplagaaDoorJ09
set_option linter.unusedVariables false
set_option linter.unusedSimpArgs false
namespace Go.Proofs.YtcbkgcnajplagaaDoor.Be
open Go

/-- A value that was read: good, and no other bytes. -/
structure Read (bs : List UInt8) (w : Nat) (t : T) (n : Nat) : Prop where
  kinds : kindsOk t = true
  deep : deepT t + w ≤ 8
  wf : wfT t = true
  clean : cleanT t = true
  tidy : tidy t = t
  bytes : enc t = bs.take n
  le : n ≤ bs.length
  ge : 2 ≤ n
structure ReadL (bs : List UInt8) (w : Nat) (ts : List T) (n : Nat) : Prop where
  kinds : kindsOkL ts = true
  deep : deepL ts + w ≤ 8
  wf : wfL ts = true
  clean : cleanL ts = true
  tidy : tidyL ts = ts
  bytes : encL ts ++ [101] = bs.take n
  le : n ≤ bs.length
  ge : 1 ≤ n
  count : 2 * ts.length + 1 ≤ n

theorem itoa_neg {m : Nat} (h : m ≠ 0) : Lib.itoa (-(m : Int)) = 45 :: Lib.decDigits m := by
  unfold Lib.itoa
  rw [if_pos (by omega), show (-(m : Int)).natAbs = m by omega]
theorem rdNum_inv {r : List UInt8} {w : Nat} {t : T} {n : Nat} (hw : w ≤ 8) (h : rdNum r = .ok (t, n)) : Read (105 :: r) w t n := by
  by_cases hm : r.head? = some 45
  · obtain ⟨r', rfl⟩ : ∃ r', r = 45 :: r' := by
      rcases r with _ | ⟨c, r'⟩
      · simp at hm
      · exact ⟨r', by simp at hm; rw [hm]⟩
    rw [rdNum_minus] at h
    split at h
    · cases h
    · rename_i h48
      rcases hx : dg 9223372036854775808 101 20 true 0 r' with e | ⟨m, k⟩
      · rw [hx] at h; cases h
      · rw [hx] at h
        simp only [Except.ok.injEq, Prod.mk.injEq] at h
        obtain ⟨rfl, rfl⟩ := h
        obtain ⟨h1, h2, h3, h4⟩ := dg_inv _ _ _ nd101 r' true 0 m k (fun _ => rfl) (by omega) hx
        simp only [if_true, List.nil_append] at h4
        have hm0 : m ≠ 0 := by
          rintro rfl
          rcases r' with _ | ⟨c, r''⟩
          · simp at h3; omega
          · obtain ⟨k, rfl⟩ : ∃ k', k = k' + 1 := ⟨k - 1, by omega⟩
            rw [List.take_succ_cons, dec_small (by omega)] at h4
            simp at h4
            exact h48 (by simp [h4.1])
        refine ⟨rfl, by simp [deepT]; omega, ?_, rfl, by simp [tidy], ?_, by simp; omega, by omega⟩
        · simp only [wfT, wfL, Bool.and_true, Bool.and_eq_true, decide_eq_true_eq]; omega
        · rw [enc_num, itoa_neg hm0, show k + 2 = (k + 1) + 1 by omega, List.take_succ_cons, List.take_succ_cons, h4]
          rfl
  · rw [rdNum_plus r hm] at h
    rcases hx : dg 9223372036854775807 101 20 true 0 r with e | ⟨m, k⟩
    · rw [hx] at h; cases h
    · rw [hx] at h
      simp only [Except.ok.injEq, Prod.mk.injEq] at h
      obtain ⟨rfl, rfl⟩ := h
      obtain ⟨h1, h2, h3, h4⟩ := dg_inv _ _ _ nd101 r true 0 m k (fun _ => rfl) (by omega) hx
      simp only [if_true, List.nil_append] at h4
      refine ⟨rfl, by simp [deepT]; omega, ?_, rfl, by simp [tidy], ?_, by simp; omega, by omega⟩
      · simp only [wfT, wfL, Bool.and_true, Bool.and_eq_true, decide_eq_true_eq]; omega
      · rw [enc_num, itoa_nat, List.take_succ_cons, h4]
theorem rdText_inv {bs : List UInt8} {w : Nat} {t : T} {n : Nat} (hw : w ≤ 8) (h : rdText bs = .ok (t, n)) : Read bs w t n := by
  unfold rdText at h
  rcases hx : dg 65536 58 23 true 0 bs with e | ⟨m, k⟩
  · rw [hx] at h; cases h
  · rw [hx] at h
    simp only at h
    split at h
    · cases h
    · rename_i hlt
      simp only [Except.ok.injEq, Prod.mk.injEq] at h
      obtain ⟨rfl, rfl⟩ := h
      obtain ⟨h1, h2, h3, h4⟩ := dg_inv _ _ _ nd58 bs true 0 m k (fun _ => rfl) (by omega) hx
      simp only [if_true, List.nil_append] at h4
      rw [List.length_drop] at hlt
      have hsz : (⟨((bs.drop k).take m).toArray⟩ : ByteArray).size = m := by
        simp [ByteArray.size]; omega
      have hd := dec_pos m
      have hkl : k = (Lib.decDigits m).length + 1 := by
        have := congrArg List.length h4
        simp at this; omega
      refine ⟨rfl, by simp [deepT]; omega, by simp [wfT, wfL], by simp [cleanT, cleanL], by simp [tidy], ?_, by omega, by omega⟩
      rw [enc_text, hsz, itoa_nat, List.take_add, h4]
      simp
theorem rd_inv_all (N : Nat) : (∀ (bs : List UInt8) (w : Nat) (t : T) (n : Nat), bs.length ≤ N → w ≤ 8 → rd bs w = .ok (t, n) → Read bs w t n) ∧
    (∀ (bs : List UInt8) (w : Nat) (ts : List T) (n : Nat), bs.length ≤ N → w ≤ 8 → rdL bs w = .ok (ts, n) → ReadL bs w ts n) := by
  induction N with
  | zero =>
    refine ⟨fun bs w t n hl hw h => ?_, fun bs w t n hl hw h => ?_⟩
    all_goals
      obtain rfl : bs = [] := List.eq_nil_of_length_eq_zero (by omega)
    · rw [rd] at h; cases h
    · rw [rdL] at h; cases h
  | succ N ih =>
    have hV : ∀ (bs : List UInt8) (w : Nat) (t : T) (n : Nat), bs.length ≤ N + 1 → w ≤ 8 → rd bs w = .ok (t, n) → Read bs w t n := by
      intro bs w t n hl hw h
      rcases bs with _ | ⟨c, r⟩
      · rw [rd] at h; cases h
      · rw [rd] at h
        split at h
        · rename_i hc
          subst hc
          exact rdNum_inv hw h
        · split at h
          · exact rdText_inv hw h
          · split at h
            · rename_i hc
              subst hc
              split at h
              · cases h
              · rename_i hw8
                rcases hx : rdL r (w + 1) with e | ⟨ts, k⟩
                · rw [hx] at h; cases h
                · rw [hx] at h
                  simp only [Except.ok.injEq, Prod.mk.injEq] at h
                  obtain ⟨rfl, rfl⟩ := h
                  obtain ⟨a1, a2, a3, a4, a5, a6, a7, a8, a9⟩ := ih.2 r (w + 1) ts k (by simp at hl; omega) (by omega) hx
                  refine ⟨by simp [kindsOk, a1], by simp [deepT]; omega, by simp [wfT, a3], by simp [cleanT, a4], by simp [tidy, a5], ?_, by simp; omega, by omega⟩
                  rw [enc_list, a6, List.take_succ_cons]
            · cases h
    refine ⟨hV, fun bs w ts n hl hw h => ?_⟩
    rcases bs with _ | ⟨c, r⟩
    · rw [rdL] at h; cases h
    · rw [rdL] at h
      split at h
      · rename_i hc
        subst hc
        simp only [Except.ok.injEq, Prod.mk.injEq] at h
        obtain ⟨rfl, rfl⟩ := h
        exact ⟨rfl, by simp [deepL]; omega, rfl, rfl, rfl, rfl, by simp, by omega, by simp⟩
      · rcases hx : rd (c :: r) w with e | ⟨t, k⟩
        · rw [hx] at h; cases h
        · rw [hx] at h
          simp only at h
          obtain ⟨a1, a2, a3, a4, a5, a6, a7, a8⟩ := hV _ _ _ _ hl hw hx
          rcases hy : rdL (r.drop (k - 1)) w with e | ⟨us, m⟩
          · rw [hy] at h; cases h
          · rw [hy] at h
            simp only [Except.ok.injEq, Prod.mk.injEq] at h
            obtain ⟨rfl, rfl⟩ := h
            obtain ⟨b1, b2, b3, b4, b5, b6, b7, b8, b9⟩ := ih.2 _ _ _ _ (by simp at hl ⊢; omega) hw hy
            rw [List.length_drop] at b7
            refine ⟨by simp [kindsOkL, a1, b1], by simp [deepL]; omega, by simp [wfL, a3, b3], by simp [cleanL, a4, b4], by simp [tidyL, a5, b5], ?_, by simp at a7 ⊢; omega, by omega, by simp; omega⟩
            rw [encL, List.append_assoc, b6, a6, List.take_add]
            congr 2
            rw [show k = (k - 1) + 1 by omega, List.drop_succ_cons]
            simp
theorem rd_inv {bs : List UInt8} {w : Nat} {t : T} {n : Nat} (hw : w ≤ 8) (h : rd bs w = .ok (t, n)) : Read bs w t n := (rd_inv_all bs.length).1 bs w t n (Nat.le_refl _) hw h
theorem rdL_inv {bs : List UInt8} {w : Nat} {ts : List T} {n : Nat} (hw : w ≤ 8) (h : rdL bs w = .ok (ts, n)) : ReadL bs w ts n := (rd_inv_all bs.length).2 bs w ts n (Nat.le_refl _) hw h
/-- Two good values have the same bytes just if they are the same. -/
theorem enc_apart {t u : T} (h1 : kindsOk t = true) (h2 : wfT t = true) (h3 : deepT t ≤ 8) (h4 : (enc t).length ≤ 65536) (k1 : kindsOk u = true) (k2 : wfT u = true) (k3 : deepT u ≤ 8) (k4 : (enc u).length ≤ 65536) : decide (enc t = enc u) = sameT t u := by
  rw [Bool.eq_iff_iff, decide_eq_true_iff, sameT_iff]
  refine ⟨fun h => ?_, fun h => by rw [← enc_tidy t, ← enc_tidy u, h]⟩
  have a := rd_enc t 0 [] h1 h2 h3 h4
  have b := rd_enc u 0 [] k1 k2 k3 k4
  rw [h, b] at a
  simpa using a.symm
end Go.Proofs.YtcbkgcnajplagaaDoor.Be
