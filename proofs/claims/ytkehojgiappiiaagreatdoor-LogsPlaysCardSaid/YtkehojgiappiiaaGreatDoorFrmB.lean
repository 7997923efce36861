/- Frames of bytes: there and back, cut, spoilt, put again: plain. Conditions: none. -/
import Derived.Test.YtkehojgiappiiaaGreatDoorTake
set_option linter.unusedVariables false
set_option linter.unusedSimpArgs false
namespace Go.Proofs.YtkehojgiappiiaaGreatDoor
open Go Go.RowKit

/-- A head, and what stands behind it. -/
def fr (n c : Nat) (r : List UInt8) : List UInt8 := hexL n ++ (hexL c ++ (124 :: r))
theorem fr_len (n c : Nat) (r : List UInt8) : (fr n c r).length = 13 + r.length := by
  simp only [fr, List.length_append, hexL_len, List.length_cons]
  omega
theorem fr_take6 (n c : Nat) (r : List UInt8) : (fr n c r).take 6 = hexL n := by
  unfold fr
  rw [List.take_append_of_le_length (by rw [hexL_len]; exact Nat.le_refl _), List.take_of_length_le (by rw [hexL_len]; exact Nat.le_refl _)]
theorem fr_drop6 (n c : Nat) (r : List UInt8) : (fr n c r).drop 6 = hexL c ++ (124 :: r) := by
  unfold fr
  exact List.drop_left' (hexL_len n)
theorem fr_mid (n c : Nat) (r : List UInt8) : ((fr n c r).drop 6).take 6 = hexL c := by
  rw [fr_drop6, List.take_append_of_le_length (by rw [hexL_len]; exact Nat.le_refl _), List.take_of_length_le (by rw [hexL_len]; exact Nat.le_refl _)]
theorem fr_drop12 (n c : Nat) (r : List UInt8) : (fr n c r).drop 12 = 124 :: r := by
  have : (fr n c r).drop 12 = ((fr n c r).drop 6).drop 6 := by rw [List.drop_drop]
  rw [this, fr_drop6]
  exact List.drop_left' (hexL_len c)
theorem fr_drop13 (n c : Nat) (r : List UInt8) : (fr n c r).drop 13 = r := by
  have : (fr n c r).drop 13 = ((fr n c r).drop 12).drop 1 := by rw [List.drop_drop]
  rw [this, fr_drop12]
  rfl
theorem fr_bar (n c : Nat) (r : List UInt8) : (fr n c r).getD 12 0 = 124 := by
  have h : (fr n c r)[12]? = ((fr n c r).drop 12)[0]? := by rw [List.getElem?_drop]
  rw [List.getD_eq_getElem?_getD, h, fr_drop12]
  rfl
theorem fr_at (n c j : Nat) (r : List UInt8) : (fr n c r).getD (13 + j) 0 = r.getD j 0 := by
  have h : (fr n c r)[13 + j]? = ((fr n c r).drop 13)[j]? := by rw [List.getElem?_drop]
  rw [List.getD_eq_getElem?_getD, h, fr_drop13, List.getD_eq_getElem?_getD]
theorem fr_nL (n c : Nat) (r : List UInt8) (hn : n < 16777216) : nL (fr n c r) = (n, 0) := by
  unfold nL
  rw [fr_take6, uh_hexL n hn]
theorem fr_cL (n c : Nat) (r : List UInt8) (hc : c < 16777216) : cL (fr n c r) = (c, 0) := by
  unfold cL
  rw [fr_mid, uh_hexL c hc]
theorem fr_head (n c : Nat) (r : List UInt8) (hn : n ≤ 262144) (hc : c < 16777216) : headOk (fr n c r) := by
  unfold headOk
  rw [fr_nL n c r (by omega), fr_cL n c r hc, fr_bar]
  exact ⟨rfl, hn, rfl, rfl⟩
theorem enc_fr (l : List UInt8) : enc l = fr l.length (sm l) (l ++ [10]) := rfl
theorem enc_app (l r : List UInt8) : enc l ++ r = fr l.length (sm l) (l ++ 10 :: r) := by
  simp only [enc, fr, List.append_assoc, List.cons_append, List.nil_append]
/-- A frame, whatever stands behind, is read. -/
theorem tk_enc (l r : List UInt8) (h : l.length ≤ 262144) : tkL (enc l ++ r) = (l, l.length + 14, 0) := by
  rw [enc_app]
  have e1 := fr_nL l.length (sm l) (l ++ 10 :: r) (by omega)
  have e2 := fr_cL l.length (sm l) (l ++ 10 :: r) (sm_lt l)
  have e3 : ((fr l.length (sm l) (l ++ 10 :: r)).drop 13).take l.length = l := by rw [fr_drop13]; simp
  have hf := fr_len l.length (sm l) (l ++ 10 :: r)
  rw [List.length_append, List.length_cons] at hf
  have e4 : (fr l.length (sm l) (l ++ 10 :: r)).getD (13 + l.length) 0 = 10 := by
    rw [fr_at, List.getD_eq_getElem?_getD, List.getElem?_append_right (Nat.le_refl _), Nat.sub_self]
    rfl
  rw [tk_fine (by omega) (fr_head _ _ _ h (sm_lt l)) (by rw [e1]; simp only; omega) (by rw [e1]; exact e4) (by rw [e1, e2]; simp only; rw [e3]), e1]
  simp only
  rw [e3, Nat.add_comm]
/-- A frame that is torn is not read. -/
theorem tk_torn (l : List UInt8) (j : Nat) (h : l.length ≤ 262144) (hj : j < l.length + 14) : (tkL ((enc l).take j)).2.2 ≠ 0 := by
  have hlen : ((enc l).take j).length = j := by rw [List.length_take, enc_len]; omega
  by_cases h13 : j < 13
  · rw [tk_short (by omega)]
    decide
  · have h1 : ((enc l).take j).take 13 = (enc l).take 13 := by rw [List.take_take, Nat.min_eq_left (by omega)]
    obtain ⟨a1, a2, a3⟩ := headOk_take ((enc l).take j)
    obtain ⟨b1, b2, b3⟩ := headOk_take (enc l)
    rw [h1] at a1 a2 a3
    have hh : headOk ((enc l).take j) := a3.1 (b3.2 (by rw [enc_fr]; exact fr_head _ _ _ h (sm_lt l)))
    have hn : (nL ((enc l).take j)).1 = l.length := by
      rw [← a1, b1, enc_fr, fr_nL _ _ _ (by omega)]
    rw [tk_cut (by omega) hh (by rw [hn, hlen]; omega)]
    decide
/-- Frames one behind the other. -/
def encs (ts : List (List UInt8)) : List UInt8 := ts.flatMap enc
theorem encs_cons (t : List UInt8) (ts : List (List UInt8)) : encs (t :: ts) = enc t ++ encs ts := by simp [encs]
theorem encs_append (a b : List (List UInt8)) : encs (a ++ b) = encs a ++ encs b := by simp [encs]
theorem encs_nil : encs [] = [] := rfl
/-- How many frames are whole within so many bytes. -/
def wh : List (List UInt8) → Nat → Nat
  | [], _ => 0
  | t :: ts, k => if t.length + 14 ≤ k then wh ts (k - (t.length + 14)) + 1 else 0
theorem allF_cut (l : List UInt8) : ∀ (ts : List (List UInt8)) (k f at_ : Nat), (∀ t ∈ ts, t.length ≤ 262144) → l.drop at_ = (encs ts).take k → (l.drop at_).length < f →
    allF l f at_ = (ts.take (wh ts k), at_ + (encs (ts.take (wh ts k))).length)
  | [], k, f, at_, _, hd, _ => by
    rw [encs_nil, List.take_nil] at hd
    rw [allF_no (by rw [hd]; exact tkL_nil)]
    rfl
  | t :: ts, k, f, at_, hts, hd, hf => by
    have ht := hts t (List.mem_cons_self ..)
    rw [encs_cons] at hd
    by_cases hk : t.length + 14 ≤ k
    · have hd2 : l.drop at_ = enc t ++ (encs ts).take (k - (t.length + 14)) := by
        rw [hd, List.take_append, enc_len, List.take_of_length_le (by rw [enc_len]; omega)]
      have hd3 : l.drop (at_ + (t.length + 14)) = (encs ts).take (k - (t.length + 14)) := by
        rw [← List.drop_drop, hd2]
        exact List.drop_left' (enc_len t)
      obtain ⟨g, rfl⟩ : ∃ g, f = g + 1 := ⟨f - 1, by omega⟩
      have hl2 : (l.drop (at_ + (t.length + 14))).length < g := by
        have e1 := congrArg List.length hd2
        rw [List.length_append, enc_len, ← hd3] at e1
        omega
      have hr : tkL (l.drop at_) = (t, t.length + 14, 0) := by rw [hd2]; exact tk_enc t _ ht
      rw [allF_ok hr, allF_cut l ts _ g _ (fun u hu => hts u (List.mem_cons_of_mem _ hu)) hd3 hl2, wh, if_pos hk, List.take_succ_cons, encs_cons, List.length_append, enc_len]
      simp only [Prod.mk.injEq, true_and]
      omega
    · have hd2 : l.drop at_ = (enc t).take k := by
        rw [hd, List.take_append_of_le_length (by rw [enc_len]; omega)]
      rw [allF_no (by rw [hd2]; exact tk_torn t k ht (by omega)), wh, if_neg hk]
      rfl
theorem alls_cut (ts : List (List UInt8)) (k : Nat) (h : ∀ t ∈ ts, t.length ≤ 262144) : alls ((encs ts).take k) = (ts.take (wh ts k), (encs (ts.take (wh ts k))).length) := by
  unfold alls
  rw [allF_cut _ ts k _ 0 h (by rw [List.drop_zero]) (by rw [List.drop_zero]; omega), Nat.zero_add]
/-- Six digits that are read are those of the number. -/
theorem hv_back : ∀ x : Fin 256, hv (UInt8.ofNat x.val) < 0 ∨ hexD (hv (UInt8.ofNat x.val)).toNat = UInt8.ofNat x.val := by decide +kernel
theorem hv_inv (c : UInt8) (h : ¬ hv c < 0) : hexD (hv c).toNat = c := by
  have := hv_back ⟨c.toNat, UInt8.toNat_lt c⟩
  simp only [UInt8.ofNat_toNat] at this
  exact this.resolve_left h
theorem uh_back (l : List UInt8) (h6 : l.length = 6) (n : Nat) (h : uhRes l = (n, 0)) : hexL n = l := by
  obtain ⟨c0, c1, c2, c3, c4, c5, rfl⟩ : ∃ c0 c1 c2 c3 c4 c5, l = [c0, c1, c2, c3, c4, c5] := by
    match l, h6 with
    | [c0, c1, c2, c3, c4, c5], _ => exact ⟨_, _, _, _, _, _, rfl⟩
  unfold uhRes at h
  cases hu : uh [c0, c1, c2, c3, c4, c5] 0 with
  | none => rw [hu] at h; simp at h
  | some m =>
    rw [hu] at h
    simp only [Prod.mk.injEq, and_true] at h
    subst h
    unfold uh at hu
    split at hu
    · simp at hu
    rename_i g0
    unfold uh at hu
    split at hu
    · simp at hu
    rename_i g1
    unfold uh at hu
    split at hu
    · simp at hu
    rename_i g2
    unfold uh at hu
    split at hu
    · simp at hu
    rename_i g3
    unfold uh at hu
    split at hu
    · simp at hu
    rename_i g4
    unfold uh at hu
    split at hu
    · simp at hu
    rename_i g5
    unfold uh at hu
    have i0 := hv_inv c0 g0
    have i1 := hv_inv c1 g1
    have i2 := hv_inv c2 g2
    have i3 := hv_inv c3 g3
    have i4 := hv_inv c4 g4
    have i5 := hv_inv c5 g5
    have l0 := (hv_lt c0).1
    have l1 := (hv_lt c1).1
    have l2 := (hv_lt c2).1
    have l3 := (hv_lt c3).1
    have l4 := (hv_lt c4).1
    have l5 := (hv_lt c5).1
    generalize hv c0 = v0 at *
    generalize hv c1 = v1 at *
    generalize hv c2 = v2 at *
    generalize hv c3 = v3 at *
    generalize hv c4 = v4 at *
    generalize hv c5 = v5 at *
    simp only [Option.some.injEq] at hu
    unfold hexL
    have d0 : m / 16 ^ 5 % 16 = v0.toNat := by omega
    have d1 : m / 16 ^ 4 % 16 = v1.toNat := by omega
    have d2 : m / 16 ^ 3 % 16 = v2.toNat := by omega
    have d3 : m / 16 ^ 2 % 16 = v3.toNat := by omega
    have d4 : m / 16 ^ 1 % 16 = v4.toNat := by omega
    have d5 : m / 16 ^ 0 % 16 = v5.toNat := by omega
    rw [d0, d1, d2, d3, d4, d5, i0, i1, i2, i3, i4, i5]
end Go.Proofs.YtkehojgiappiiaaGreatDoor
