/- Plain mathematics: vectors, and how far they are from one another. Conditions: none. -/
set_option linter.unusedVariables false
namespace Go.Proofs.Ytbjjgjifaomdlaa

/-- May these numbers be a vector? -/
def okV (l : List Int) : Bool := decide (1 ≤ l.length) && decide (l.length ≤ 16) && l.all fun x => decide (-2147483648 ≤ x) && decide (x ≤ 2147483647)
theorem okV_iff (l : List Int) : okV l = true ↔ 1 ≤ l.length ∧ l.length ≤ 16 ∧ ∀ x ∈ l, -2147483648 ≤ x ∧ x ≤ 2147483647 := by
  unfold okV
  simp [and_assoc]
theorem getD_mem {l : List Int} {k : Nat} (h : k < l.length) : l.getD k 0 ∈ l := by
  rw [List.getD_eq_getElem?_getD, List.getElem?_eq_getElem h]
  exact List.getElem_mem h
theorem okV_at {l : List Int} (h : okV l = true) {k : Nat} (hk : k < l.length) : -2147483648 ≤ l.getD k 0 ∧ l.getD k 0 ≤ 2147483647 := ((okV_iff l).1 h).2.2 _ (getD_mem hk)
theorem okV_no {l : List Int} {k : Nat} (hk : k < l.length) (h : l.getD k 0 < -2147483648 ∨ 2147483647 < l.getD k 0) : okV l = false := by
  rw [Bool.eq_false_iff]
  intro e
  have := okV_at e hk
  omega
def inR (x : Int) : Prop := -2147483648 ≤ x ∧ x ≤ 2147483647
/-- All of the first k are in bounds. -/
def goodTo (l : List Int) (k : Nat) : Prop := ∀ x ∈ l.take k, -2147483648 ≤ x ∧ x ≤ 2147483647
theorem goodTo_zero (l : List Int) : goodTo l 0 := by intro x hx; simp at hx
theorem take_snoc (l : List Int) (k : Nat) (hk : k < l.length) : l.take (k + 1) = l.take k ++ [l.getD k 0] := by
  rw [List.take_succ_eq_append_getElem hk, List.getD_eq_getElem?_getD, List.getElem?_eq_getElem hk]
  rfl
theorem goodTo_succ {l : List Int} {k : Nat} (hk : k < l.length) (h : goodTo l k) (h1 : ¬ l.getD k 0 < -2147483648) (h2 : ¬ 2147483647 < l.getD k 0) : goodTo l (k + 1) := by
  intro x hx
  rw [take_snoc l k hk] at hx
  rcases List.mem_append.1 hx with hx | hx
  · exact h x hx
  · simp only [List.mem_singleton] at hx
    subst hx
    omega
theorem goodTo_all {l : List Int} (h : goodTo l l.length) (h1 : 1 ≤ l.length) (h2 : l.length ≤ 16) : okV l = true := by
  rw [okV_iff]
  unfold goodTo at h
  rw [List.take_length] at h
  exact ⟨h1, h2, h⟩
/-- What Check says. -/
def ck (l : List Int) (dim : Int) : Int := if okV l = true ∧ (l.length : Int) = dim then 0 else 50
theorem ck_zero (l : List Int) (dim : Int) : ck l dim = 0 ↔ okV l = true ∧ (l.length : Int) = dim := by unfold ck; split <;> simp_all
theorem ck_or (l : List Int) (dim : Int) : ck l dim = 0 ∨ ck l dim = 50 := by unfold ck; split <;> simp
theorem ck_self (l : List Int) : ck l (l.length : Int) = if okV l = true then 0 else 50 := by unfold ck; simp

def gap (x y : Int) : Int := if x < y then y - x else x - y
theorem gap_nonneg (x y : Int) : 0 ≤ gap x y := by unfold gap; split <;> omega
theorem gap_comm (x y : Int) : gap x y = gap y x := by unfold gap; split <;> split <;> omega
theorem gap_self (x : Int) : gap x x = 0 := by unfold gap; split <;> omega
theorem gap_zero {x y : Int} (h : gap x y = 0) : x = y := by unfold gap at h; split at h <;> omega
theorem gap_tri (x y z : Int) : gap x z ≤ gap x y + gap y z := by unfold gap; repeat' split <;> try omega
theorem gap_le {x y : Int} (hx : -2147483648 ≤ x ∧ x ≤ 2147483647) (hy : -2147483648 ≤ y ∧ y ≤ 2147483647) : gap x y ≤ 4294967295 := by unfold gap; split <;> omega
theorem gap_add (x y z : Int) : gap (x + z) (y + z) = gap x y := by unfold gap; split <;> split <;> omega
/-- How far two lists of numbers are from one another. -/
def far : List Int → List Int → Int
  | x :: xs, y :: ys => gap x y + far xs ys
  | _, _ => 0
theorem far_nil (l : List Int) : far [] l = 0 := by unfold far; rfl
theorem far_snoc : ∀ (a b : List Int) (x y : Int), a.length = b.length → far (a ++ [x]) (b ++ [y]) = far a b + gap x y
  | [], [], x, y, _ => by simp [far]
  | u :: us, v :: vs, x, y, h => by
    simp only [List.cons_append, far]
    rw [far_snoc us vs x y (by simpa using h)]
    omega
  | [], v :: vs, x, y, h => by simp at h
  | u :: us, [], x, y, h => by simp at h
theorem far_nonneg : ∀ (a b : List Int), 0 ≤ far a b
  | [], b => by rw [far_nil]; omega
  | x :: xs, [] => by simp [far]
  | x :: xs, y :: ys => by simp only [far]; have := gap_nonneg x y; have := far_nonneg xs ys; omega
theorem far_comm : ∀ (a b : List Int), far a b = far b a
  | [], b => by cases b <;> simp [far]
  | x :: xs, [] => by simp [far]
  | x :: xs, y :: ys => by simp only [far]; rw [gap_comm, far_comm xs ys]
theorem far_self : ∀ (a : List Int), far a a = 0
  | [] => by simp [far]
  | x :: xs => by simp only [far]; rw [gap_self, far_self xs]; rfl
theorem far_zero : ∀ (a b : List Int), a.length = b.length → far a b = 0 → a = b
  | [], [], _, _ => rfl
  | x :: xs, [], h, _ => by simp at h
  | [], y :: ys, h, _ => by simp at h
  | x :: xs, y :: ys, h, e => by
    simp only [far] at e
    have := gap_nonneg x y
    have := far_nonneg xs ys
    rw [gap_zero (x := x) (y := y) (by omega), far_zero xs ys (by simpa using h) (by omega)]
theorem far_tri : ∀ (a b c : List Int), a.length = b.length → b.length = c.length → far a c ≤ far a b + far b c
  | [], b, c, _, _ => by have := far_nonneg [] b; have := far_nonneg b c; rw [far_nil]; omega
  | x :: xs, y :: ys, z :: zs, h, k => by
    simp only [far]
    have := gap_tri x y z
    have := far_tri xs ys zs (by simpa using h) (by simpa using k)
    omega
  | x :: xs, [], c, h, _ => by simp at h
  | x :: xs, y :: ys, [], _, k => by simp at k
/-- How far the first k are. -/
def farTo (a b : List Int) (k : Nat) : Int := far (a.take k) (b.take k)
theorem farTo_zero (a b : List Int) : farTo a b 0 = 0 := by simp [farTo, far]
theorem farTo_succ {a b : List Int} {k : Nat} (ha : k < a.length) (hb : k < b.length) : farTo a b (k + 1) = farTo a b k + gap (a.getD k 0) (b.getD k 0) := by
  unfold farTo
  rw [take_snoc a k ha, take_snoc b k hb, far_snoc _ _ _ _ (by simp; omega)]
theorem farTo_all {a b : List Int} {n : Nat} (ha : a.length = n) (hb : b.length = n) : farTo a b n = far a b := by
  unfold farTo
  rw [List.take_of_length_le (by omega), List.take_of_length_le (by omega)]
theorem farTo_le {a b : List Int} (ha : okV a = true) (hb : okV b = true) : ∀ {k : Nat}, k ≤ a.length → k ≤ b.length → 0 ≤ farTo a b k ∧ farTo a b k ≤ 4294967295 * (k : Int)
  | 0, _, _ => by rw [farTo_zero]; omega
  | k + 1, h1, h2 => by
    rw [farTo_succ (by omega) (by omega)]
    have := farTo_le ha hb (k := k) (by omega) (by omega)
    have := gap_nonneg (a.getD k 0) (b.getD k 0)
    have := gap_le (okV_at ha (k := k) (by omega)) (okV_at hb (k := k) (by omega))
    omega
theorem far_le {a b : List Int} (ha : okV a = true) (hb : okV b = true) (h : a.length = b.length) : far a b ≤ 68719476720 := by
  have := (farTo_le ha hb (k := a.length) (by omega) (by omega)).2
  rw [farTo_all rfl h.symm] at this
  have := ((okV_iff a).1 ha).2.1
  omega
/-- What Dist says. -/
def dstR (a b : List Int) : Int × Int := if okV a = true ∧ okV b = true ∧ b.length = a.length then (far a b, 0) else (0, 50)
theorem dstR_no {a b : List Int} (h : ¬ (okV a = true ∧ okV b = true ∧ b.length = a.length)) : dstR a b = (0, 50) := by unfold dstR; rw [if_neg h]
theorem dstR_yes {a b : List Int} (h : okV a = true ∧ okV b = true ∧ b.length = a.length) : dstR a b = (far a b, 0) := by unfold dstR; rw [if_pos h]
end Go.Proofs.Ytbjjgjifaomdlaa
