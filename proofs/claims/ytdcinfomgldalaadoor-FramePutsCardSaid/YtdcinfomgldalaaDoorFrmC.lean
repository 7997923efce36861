/- Frames of bytes: what was read, put again; spoilt by up to three bytes in a row: plain. Conditions: none. -/
import Derived.Test.YtdcinfomgldalaaDoorFrmB
set_option linter.unusedVariables false
set_option linter.unusedSimpArgs false
namespace Go.Proofs.YtdcinfomgldalaaDoor
open Go Go.RowKit

theorem drop_getD {l : List UInt8} {k : Nat} (hk : k < l.length) : l.drop k = l.getD k 0 :: l.drop (k + 1) := by
  rw [List.drop_eq_getElem_cons hk, List.getD_eq_getElem?_getD, List.getElem?_eq_getElem hk]
  rfl
/-- What is read, put again, is what was read. -/
theorem tk_back {l t : List UInt8} {n : Nat} (h : tkL l = (t, n, 0)) : enc t = l.take n ∧ t.length ≤ 262144 := by
  obtain ⟨h13, hh, hn, hle, h10, ht, hs⟩ := tkL_ok h
  obtain ⟨g1, g2, g3, g4⟩ := hh
  have htl : t.length = (nL l).1 := by rw [ht, List.length_take, List.length_drop]; omega
  have e1 : hexL (nL l).1 = l.take 6 := by
    refine uh_back (l.take 6) (by rw [List.length_take]; omega) _ ?_
    rw [← g1]
    rfl
  have e2 : hexL (cL l).1 = (l.drop 6).take 6 := by
    refine uh_back ((l.drop 6).take 6) (by rw [List.length_take, List.length_drop]; omega) _ ?_
    rw [← g3]
    rfl
  have a1 : l = l.take 6 ++ l.drop 6 := (List.take_append_drop 6 l).symm
  have a2 : l.drop 6 = (l.drop 6).take 6 ++ l.drop 12 := by
    conv => lhs; rw [← List.take_append_drop 6 (l.drop 6), List.drop_drop]
  have a3 : l.drop 12 = 124 :: l.drop 13 := by rw [drop_getD (by omega), g4]
  have a4 : l.drop 13 = t ++ l.drop (13 + (nL l).1) := by
    rw [ht]
    conv => lhs; rw [← List.take_append_drop (nL l).1 (l.drop 13), List.drop_drop]
  have a5 : l.drop (13 + (nL l).1) = 10 :: l.drop (14 + (nL l).1) := by
    rw [drop_getD (by omega), h10]
    congr 2
    omega
  have he : l = enc t ++ l.drop (14 + (nL l).1) := by
    rw [enc_app, htl, hs]
    unfold fr
    rw [e1, e2, ← a5, ← a4, ← a3, ← a2, ← a1]
  refine ⟨?_, by omega⟩
  have h14 : (enc t).length = n := by rw [enc_len]; omega
  conv => rhs; rw [he]
  rw [← h14]
  exact (List.take_left).symm
theorem allF_back (l : List UInt8) : ∀ (f at_ : Nat) (ts : List (List UInt8)) (n : Nat), at_ ≤ l.length → allF l f at_ = (ts, n) → n ≤ l.length ∧ l.take at_ ++ encs ts = l.take n ∧ ∀ t ∈ ts, t.length ≤ 262144
  | 0, at_, ts, n, hat, h => by
    simp only [allF, Prod.mk.injEq] at h
    obtain ⟨rfl, rfl⟩ := h
    exact ⟨hat, by rw [encs_nil, List.append_nil], by simp⟩
  | f + 1, at_, ts, n, hat, h => by
    by_cases he : (tkL (l.drop at_)).2.2 = 0
    · obtain ⟨t, m, hr⟩ : ∃ t m, tkL (l.drop at_) = (t, m, 0) := ⟨_, _, by rw [← he]⟩
      rw [allF_ok hr] at h
      have hp := tkL_pos hr
      rw [List.length_drop] at hp
      obtain ⟨hb, hl⟩ := tk_back hr
      simp only [Prod.mk.injEq] at h
      obtain ⟨rfl, rfl⟩ := h
      obtain ⟨i1, i2, i3⟩ := allF_back l f (at_ + m) (allF l f (at_ + m)).1 (allF l f (at_ + m)).2 (by omega) rfl
      refine ⟨i1, ?_, ?_⟩
      · rw [← i2, encs_cons, hb, ← List.append_assoc, List.take_add]
      · intro u hu
        rcases List.mem_cons.1 hu with rfl | hu
        · exact hl
        · exact i3 u hu
    · rw [allF_no he] at h
      simp only [Prod.mk.injEq] at h
      obtain ⟨rfl, rfl⟩ := h
      exact ⟨hat, by rw [encs_nil, List.append_nil], by simp⟩
theorem alls_back (l : List UInt8) : (alls l).2 ≤ l.length ∧ encs (alls l).1 = l.take (alls l).2 ∧ ∀ t ∈ (alls l).1, t.length ≤ 262144 := by
  have h := allF_back l (l.length + 1) 0 (alls l).1 (alls l).2 (Nat.zero_le _) rfl
  rw [List.take_zero, List.nil_append] at h
  exact h
/-- A frame's text with other bytes is told by its sum. -/
theorem tk_spoilt (l m : List UInt8) (h : l.length ≤ 262144) (hm : m.length = l.length) (hs : ¬ sm m = sm l) : tkL (fr l.length (sm l) (m ++ [10])) = ([], 0, 41) := by
  have e1 := fr_nL l.length (sm l) (m ++ [10]) (by omega)
  have e2 := fr_cL l.length (sm l) (m ++ [10]) (sm_lt l)
  have e3 : ((fr l.length (sm l) (m ++ [10])).drop 13).take l.length = m := by rw [fr_drop13, ← hm]; simp
  have hf := fr_len l.length (sm l) (m ++ [10])
  rw [List.length_append, List.length_cons, List.length_nil] at hf
  have e4 : (fr l.length (sm l) (m ++ [10])).getD (13 + l.length) 0 = 10 := by
    rw [fr_at, ← hm, List.getD_eq_getElem?_getD, List.getElem?_append_right (Nat.le_refl _), Nat.sub_self]
    rfl
  exact tk_sum (by omega) (fr_head _ _ _ h (sm_lt l)) (by rw [e1]; simp only; omega) (by rw [e1]; exact e4) (by rw [e1, e2]; simp only; rw [e3]; exact hs)
theorem sm_eq {l m : List UInt8} (h : sm m = sm l) : crcL 0xb704ce#24 m = crcL 0xb704ce#24 l := BitVec.eq_of_toNat_eq h
/-- Up to three bytes in a row. -/
theorem sm_three {p q : List UInt8} {x y z x' y' z' : UInt8} (h : sm (p ++ x' :: y' :: z' :: q) = sm (p ++ x :: y :: z :: q)) : x' = x ∧ y' = y ∧ z' = z := crc_burst (sm_eq h)
theorem sm_two {p : List UInt8} {x y x' y' : UInt8} (h : sm (p ++ [x', y']) = sm (p ++ [x, y])) : x' = x ∧ y' = y := by
  have h1 := sm_eq h
  have h2 : crcL 0xb704ce#24 (p ++ x' :: y' :: 0 :: []) = crcL 0xb704ce#24 (p ++ x :: y :: 0 :: []) := by
    have e : ∀ a b : UInt8, p ++ a :: b :: 0 :: [] = (p ++ [a, b]) ++ [0] := by intro a b; simp
    rw [e, e, crcL_append _ (_ ++ _), crcL_append _ (_ ++ _), h1]
  obtain ⟨a, b, _⟩ := crc_burst h2
  exact ⟨a, b⟩
theorem sm_one {p : List UInt8} {x x' : UInt8} (h : sm (p ++ [x']) = sm (p ++ [x])) : x' = x := by
  have h1 := sm_eq h
  have h2 : crcL 0xb704ce#24 (p ++ x' :: 0 :: 0 :: []) = crcL 0xb704ce#24 (p ++ x :: 0 :: 0 :: []) := by
    have e : ∀ a : UInt8, p ++ a :: 0 :: 0 :: [] = (p ++ [a]) ++ [0, 0] := by intro a; simp
    rw [e, e, crcL_append _ (_ ++ _), crcL_append _ (_ ++ _), h1]
  exact (crc_burst h2).1
end Go.Proofs.YtdcinfomgldalaaDoor
