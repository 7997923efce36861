/- A frame's bytes with up to three of them in a row others: plain. Conditions: none. -/
import Derived.Test.YtdcinfomgldalaaDoorFrmC
set_option linter.unusedVariables false
set_option linter.unusedSimpArgs false
namespace Go.Proofs.YtdcinfomgldalaaDoor
open Go Go.RowKit

theorem fr_set (n c i : Nat) (g : List UInt8) (b : UInt8) (h : i < g.length) : (fr n c (g ++ [10])).set (13 + i) b = fr n c (g.set i b ++ [10]) := by
  have e : fr n c (g ++ [10]) = (hexL n ++ (hexL c ++ [124])) ++ (g ++ [10]) := by simp [fr]
  have e2 : fr n c (g.set i b ++ [10]) = (hexL n ++ (hexL c ++ [124])) ++ (g.set i b ++ [10]) := by simp [fr]
  have hl : (hexL n ++ (hexL c ++ [124])).length = 13 := by rw [List.length_append, List.length_append, hexL_len, hexL_len]; rfl
  rw [e, e2, List.set_append_right _ _ (by rw [hl]; omega), hl, show 13 + i - 13 = i by omega, List.set_append_left _ _ h]
theorem fr_get (n c i : Nat) (g : List UInt8) (h : i < g.length) : (fr n c (g ++ [10])).getD (13 + i) 0 = g.getD i 0 := by
  rw [fr_at, List.getD_eq_getElem?_getD, List.getD_eq_getElem?_getD, List.getElem?_append_left h]
/-- The bytes of a text behind so many rounds: from k on each xor the next of d. -/
def G (l : List UInt8) (k : Nat) (d : Nat → UInt8) : Nat → List UInt8
  | 0 => l
  | j + 1 => (G l k d j).set (k + j) ((G l k d j).getD (k + j) 0 ^^^ d j)
theorem G_len (l : List UInt8) (k : Nat) (d : Nat → UInt8) : ∀ j, (G l k d j).length = l.length
  | 0 => rfl
  | j + 1 => by rw [G, List.length_set, G_len]
theorem set_mid (p q : List UInt8) (x b : UInt8) : (p ++ x :: q).set p.length b = p ++ b :: q := by
  rw [List.set_append_right _ _ (Nat.le_refl _), Nat.sub_self]
  rfl
theorem get_mid (p q : List UInt8) (x : UInt8) : (p ++ x :: q).getD p.length 0 = x := by
  rw [List.getD_eq_getElem?_getD, List.getElem?_append_right (Nat.le_refl _), Nat.sub_self]
  rfl
theorem G_one (p q : List UInt8) (x : UInt8) (d : Nat → UInt8) : G (p ++ x :: q) p.length d 1 = p ++ (x ^^^ d 0) :: q := by
  rw [G, G, Nat.add_zero, get_mid, set_mid]
theorem G_two (p q : List UInt8) (x y : UInt8) (d : Nat → UInt8) : G (p ++ x :: y :: q) p.length d 2 = p ++ (x ^^^ d 0) :: (y ^^^ d 1) :: q := by
  have e : p ++ (x ^^^ d 0) :: y :: q = (p ++ [x ^^^ d 0]) ++ y :: q := by simp
  have hl : p.length + 1 = (p ++ [x ^^^ d 0]).length := by simp
  rw [G, G_one, e, hl, get_mid, set_mid]
  simp
theorem G_three (p q : List UInt8) (x y z : UInt8) (d : Nat → UInt8) : G (p ++ x :: y :: z :: q) p.length d 3 = p ++ (x ^^^ d 0) :: (y ^^^ d 1) :: (z ^^^ d 2) :: q := by
  have e : p ++ (x ^^^ d 0) :: (y ^^^ d 1) :: z :: q = (p ++ [x ^^^ d 0, y ^^^ d 1]) ++ z :: q := by simp
  have hl : p.length + 2 = (p ++ [x ^^^ d 0, y ^^^ d 1]).length := by simp
  rw [G, G_two, e, hl, get_mid, set_mid]
  simp
theorem xor_self_zero {x d : UInt8} (h : x ^^^ d = x) : d = 0 := by
  have : x ^^^ (x ^^^ d) = x ^^^ x := by rw [h]
  rw [UInt8.xor_self, ← UInt8.xor_assoc, UInt8.xor_self, UInt8.zero_xor] at this
  exact this
/-- How many rounds there are. -/
def rnds (l : List UInt8) (k : Nat) : Nat := min 3 (l.length - k)
theorem split_at (l : List UInt8) (k : Nat) (h : k < l.length) : ∃ p x q, l = p ++ x :: q ∧ p.length = k :=
  ⟨l.take k, l[k], l.drop (k + 1), by rw [← List.drop_eq_getElem_cons h, List.take_append_drop], by simp; omega⟩
theorem G_told (l : List UInt8) (k : Nat) (d : Nat → UInt8) (hk : k < l.length) (hd : ¬ ∀ i, i < rnds l k → d i = 0) : ¬ sm (G l k d (rnds l k)) = sm l := by
  intro he
  apply hd
  obtain ⟨p, x, q, rfl, rfl⟩ := split_at l k hk
  match q with
  | [] =>
    have hr : rnds (p ++ [x]) p.length = 1 := by simp [rnds]
    rw [hr] at he ⊢
    rw [G_one] at he
    have h0 := xor_self_zero (sm_one he)
    intro i hi
    obtain rfl : i = 0 := by omega
    exact h0
  | [y] =>
    have hr : rnds (p ++ [x, y]) p.length = 2 := by simp [rnds]
    rw [hr] at he ⊢
    rw [G_two] at he
    obtain ⟨a, b⟩ := sm_two he
    have h0 := xor_self_zero a
    have h1 := xor_self_zero b
    intro i hi
    rcases (show i = 0 ∨ i = 1 by omega) with rfl | rfl
    · exact h0
    · exact h1
  | y :: z :: q =>
    have hr : rnds (p ++ x :: y :: z :: q) p.length = 3 := by simp [rnds]
    rw [hr] at he ⊢
    rw [G_three] at he
    obtain ⟨a, b, c⟩ := sm_three he
    have h0 := xor_self_zero a
    have h1 := xor_self_zero b
    have h2 := xor_self_zero c
    intro i hi
    rcases (show i = 0 ∨ i = 1 ∨ i = 2 by omega) with rfl | rfl | rfl
    · exact h0
    · exact h1
    · exact h2
/-- The bytes of the frame behind so many rounds. -/
def FG (l : List UInt8) (k : Nat) (d : Nat → UInt8) (j : Nat) : List UInt8 := fr l.length (sm l) (G l k d j ++ [10])
theorem FG_len (l : List UInt8) (k : Nat) (d : Nat → UInt8) (j : Nat) : (FG l k d j).length = l.length + 14 := by
  unfold FG
  rw [fr_len, List.length_append, G_len]
  simp only [List.length_cons, List.length_nil]
  omega
theorem FG_next (l : List UInt8) (k : Nat) (d : Nat → UInt8) (j : Nat) (h : k + j < l.length) : (FG l k d j).set (13 + (k + j)) ((FG l k d j).getD (13 + (k + j)) 0 ^^^ d j) = FG l k d (j + 1) := by
  have hl := G_len l k d j
  unfold FG
  rw [fr_get _ _ _ _ (by omega), fr_set _ _ _ _ _ (by omega)]
  rfl
theorem FG_take (l : List UInt8) (k : Nat) (d : Nat → UInt8) (hk : k < l.length) (hl : l.length ≤ 262144) (hd : ¬ ∀ i, i < rnds l k → d i = 0) : tkL (FG l k d (rnds l k)) = ([], 0, 41) :=
  tk_spoilt l _ hl (G_len ..) (G_told l k d hk hd)
end Go.Proofs.YtdcinfomgldalaaDoor
