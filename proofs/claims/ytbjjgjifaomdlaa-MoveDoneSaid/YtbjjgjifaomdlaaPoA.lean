/- Which messages may be: plain. Conditions: none. -/
import Derived.Test.YtbjjgjifaomdlaaVMath
set_option linter.unusedVariables false
set_option linter.unusedSimpArgs false
namespace Go.Proofs.Ytbjjgjifaomdlaa.Po
/-- A message: kind, shard, epoch, client, seq, n, version, limit; the op's kind, id, k, vector; the reply's err, was, hits; text. -/
structure M where
  kd : Int
  sh : Int
  ep : Int
  cl : Int
  sq : Int
  nn : Int
  vr : Int
  lm : Int
  ok : Int
  oi : Int
  kk : Int
  vs : List Int
  er : Int
  wa : Bool
  hs : List (Int × Int)
  tx : ByteArray
deriving DecidableEq
def b2i (b : Bool) : Int := if b then 1 else 0
def W40 (n : Int) : Prop := 0 ≤ n ∧ n ≤ 1099511627776
instance (n : Int) : Decidable (W40 n) := by unfold W40; exact inferInstance
def okVs (l : List Int) : Bool := decide (l = []) || (decide (l.length ≤ 16) && l.all fun x => decide (-2147483648 ≤ x) && decide (x ≤ 2147483647))
def okHs (l : List (Int × Int)) : Bool := decide (l.length ≤ 64) && l.all fun x => decide (W40 x.2)
def S64 (n : Int) : Prop := -9223372036854775808 ≤ n ∧ n ≤ 9223372036854775807
instance (n : Int) : Decidable (S64 n) := by unfold S64; exact inferInstance
/-- May a message be? (Its numbers are numbers of Go: the numbers of the op and of hits have no bounds of their own.) -/
def mayM (m : M) : Bool := decide (W40 m.ep) && decide (W40 m.cl) && decide (W40 m.sq) && decide (W40 m.nn) && decide (W40 m.vr) && decide (W40 m.lm) && okHs m.hs &&
  decide (1 ≤ m.kd ∧ m.kd ≤ 19) && decide (0 ≤ m.sh ∧ m.sh ≤ 15) && okVs m.vs && decide (0 ≤ m.ok ∧ m.ok ≤ 3) && decide (0 ≤ m.kk ∧ m.kk ≤ 64) && decide (0 ≤ m.er ∧ m.er ≤ 255) && decide (m.tx.size ≤ 262144)
/-- Its free numbers are numbers of Go. -/
def FitM (m : M) : Prop := S64 m.oi ∧ ∀ x ∈ m.hs, S64 x.1
theorem mayM_iff {m : M} : mayM m = true ↔ W40 m.ep ∧ W40 m.cl ∧ W40 m.sq ∧ W40 m.nn ∧ W40 m.vr ∧ W40 m.lm ∧ okHs m.hs = true ∧ (1 ≤ m.kd ∧ m.kd ≤ 19) ∧ (0 ≤ m.sh ∧ m.sh ≤ 15) ∧ okVs m.vs = true ∧ (0 ≤ m.ok ∧ m.ok ≤ 3) ∧ (0 ≤ m.kk ∧ m.kk ≤ 64) ∧ (0 ≤ m.er ∧ m.er ≤ 255) ∧ m.tx.size ≤ 262144 := by
  simp only [mayM, Bool.and_eq_true, decide_eq_true_eq, and_assoc]
theorem okHs_iff {l : List (Int × Int)} : okHs l = true ↔ l.length ≤ 64 ∧ ∀ x ∈ l, W40 x.2 := by
  simp only [okHs, Bool.and_eq_true, decide_eq_true_eq, List.all_eq_true]
theorem okVs_iff {l : List Int} : okVs l = true ↔ l.length ≤ 16 ∧ ∀ x ∈ l, -2147483648 ≤ x ∧ x ≤ 2147483647 := by
  simp only [okVs, Bool.or_eq_true, Bool.and_eq_true, decide_eq_true_eq, List.all_eq_true]
  constructor
  · rintro (rfl | h)
    · simp
    · exact h
  · exact fun h => Or.inr h
theorem okVs_is (l : List Int) : okVs l = (decide (l.length = 0) || okV l) := by
  rw [Bool.eq_iff_iff, okVs_iff, Bool.or_eq_true, decide_eq_true_eq, okV_iff]
  constructor
  · intro h
    rcases Nat.eq_zero_or_pos l.length with h0 | h0
    · exact Or.inl h0
    · exact Or.inr ⟨h0, h.1, h.2⟩
  · rintro (h | h)
    · obtain rfl : l = [] := List.length_eq_zero_iff.1 h
      simp
    · exact h.2
def l6 (m : M) : List Int := [m.ep, m.cl, m.sq, m.nn, m.vr, m.lm]
theorem may_6 {m : M} {k : Nat} (hk : k < 6) (h : ¬ W40 ((l6 m).getD k 0)) : mayM m = false := by
  rw [Bool.eq_false_iff]
  intro hm
  obtain ⟨h1, h2, h3, h4, h5, h6, _⟩ := mayM_iff.1 hm
  match k, hk with
  | 0, _ => exact h h1
  | 1, _ => exact h h2
  | 2, _ => exact h h3
  | 3, _ => exact h h4
  | 4, _ => exact h h5
  | 5, _ => exact h h6
theorem six_may {m : M} (h : ∀ j, j < 6 → W40 ((l6 m).getD j 0)) : W40 m.ep ∧ W40 m.cl ∧ W40 m.sq ∧ W40 m.nn ∧ W40 m.vr ∧ W40 m.lm :=
  ⟨h 0 (by omega), h 1 (by omega), h 2 (by omega), h 3 (by omega), h 4 (by omega), h 5 (by omega)⟩
theorem may_h {m : M} {k : Nat} (hk : k < m.hs.length) (h : ¬ W40 (m.hs.getD k (0, 0)).2 ∨ 64 ≤ k) : mayM m = false := by
  rw [Bool.eq_false_iff]
  intro hm
  obtain ⟨_, _, _, _, _, _, h7, _⟩ := mayM_iff.1 hm
  rw [okHs_iff] at h7
  rcases h with h | h
  · refine h (h7.2 _ ?_)
    rw [List.getD_eq_getElem?_getD, List.getElem?_eq_getElem hk]
    exact List.getElem_mem hk
  · omega
theorem h_may {l : List (Int × Int)} (h : ∀ j, j < l.length → W40 (l.getD j (0, 0)).2 ∧ j < 64) : okHs l = true := by
  rw [okHs_iff]
  refine ⟨?_, fun x hx => ?_⟩
  · by_cases h0 : l.length = 0
    · omega
    · have := (h (l.length - 1) (by omega)).2
      omega
  · obtain ⟨j, hj, rfl⟩ := List.getElem_of_mem hx
    have := (h j hj).1
    rw [List.getD_eq_getElem?_getD, List.getElem?_eq_getElem hj] at this
    exact this
/-- What is asked besides the six and the hits. -/
def Rest (m : M) : Prop := (1 ≤ m.kd ∧ m.kd ≤ 19) ∧ (0 ≤ m.sh ∧ m.sh ≤ 15) ∧ okVs m.vs = true ∧ (0 ≤ m.ok ∧ m.ok ≤ 3) ∧ (0 ≤ m.kk ∧ m.kk ≤ 64) ∧ (0 ≤ m.er ∧ m.er ≤ 255) ∧ m.tx.size ≤ 262144
theorem may_rest {m : M} (h6 : ∀ j, j < 6 → W40 ((l6 m).getD j 0)) (hh : okHs m.hs = true) (hr : Rest m) : mayM m = true := by
  obtain ⟨a, b, c, d, e, f⟩ := six_may h6
  exact mayM_iff.2 ⟨a, b, c, d, e, f, hh, hr⟩
theorem may_no {m : M} (hr : ¬ Rest m) : mayM m = false := by
  rw [Bool.eq_false_iff]
  intro hm
  obtain ⟨_, _, _, _, _, _, _, h⟩ := mayM_iff.1 hm
  exact hr h
end Go.Proofs.Ytbjjgjifaomdlaa.Po
