/- Plain mathematics of layer 2: values as trees, their bytes, and reading them back. Conditions: none. -/
import Derived.Lib.ItoaNum
set_option linter.unusedVariables false
set_option linter.unusedSimpArgs false
namespace Go.Proofs.YtmepahlmbopacaaDoor.Be
open Go

/-- A value: its kind, its number, its text, its list. -/
inductive T where
  | mk (k n : Int) (s : ByteArray) (l : List T)
def T.k : T → Int | .mk k _ _ _ => k
def T.n : T → Int | .mk _ n _ _ => n
def T.s : T → ByteArray | .mk _ _ s _ => s
def T.l : T → List T | .mk _ _ _ l => l

mutual
def enc : T → List UInt8
  | .mk k n s l => if k = 1 then 105 :: (Lib.itoa n ++ [101]) else if k = 2 then Lib.itoa s.size ++ 58 :: s.data.toList else if k = 3 then 108 :: (encL l ++ [101]) else []
def encL : List T → List UInt8
  | [] => []
  | t :: ts => enc t ++ encL ts
end
mutual
def kindsOk : T → Bool
  | .mk k _ _ l => decide (k = 1) || decide (k = 2) || (decide (k = 3) && kindsOkL l)
def kindsOkL : List T → Bool
  | [] => true
  | t :: ts => kindsOk t && kindsOkL ts
end
mutual
def deepT : T → Nat
  | .mk k _ _ l => if k = 3 then deepL l + 1 else 0
def deepL : List T → Nat
  | [] => 0
  | t :: ts => max (deepT t) (deepL ts)
end
mutual
def tidy : T → T
  | .mk k n s l => if k = 1 then .mk 1 n .empty [] else if k = 2 then .mk 2 0 s [] else .mk k 0 .empty (tidyL l)
def tidyL : List T → List T
  | [] => []
  | t :: ts => tidy t :: tidyL ts
end
mutual
def wfT : T → Bool
  | .mk k n _ l => decide (-9223372036854775808 ≤ n ∧ n ≤ 9223372036854775807) && decide (-9223372036854775808 ≤ k ∧ k ≤ 9223372036854775807) && wfL l
def wfL : List T → Bool
  | [] => true
  | t :: ts => wfT t && wfL ts
end
mutual
def cleanT : T → Bool
  | .mk k n s l => (decide (k = 1) || decide (n = 0)) && (decide (k = 2) || decide (s.size = 0)) && (decide (k = 3) || l.isEmpty) && cleanL l
def cleanL : List T → Bool
  | [] => true
  | t :: ts => cleanT t && cleanL ts
end
mutual
def sameT : T → T → Bool
  | .mk k n s l, u => if k ≠ u.k then false else if k = 1 then decide (n = u.n) else if k = 2 then decide (s = u.s) else sameL l u.l
def sameL : List T → List T → Bool
  | [], us => us.isEmpty
  | t :: ts, us => match us with
    | [] => false
    | u :: us => sameT t u && sameL ts us
end

mutual
theorem sameT_iff : ∀ t u : T, sameT t u = true ↔ tidy t = tidy u
  | .mk k n s l, .mk k' n' s' l' => by
    simp only [sameT, tidy, T.k, T.n, T.s, T.l]
    by_cases hk : k = k'
    · subst hk
      by_cases h1 : k = 1
      · simp [h1]
        exact decide_eq_true_iff
      · by_cases h2 : k = 2
        · simp [h1, h2]
          exact decide_eq_true_iff
        · simp [h1, h2, sameL_iff l l']
    · simp only [ne_eq, hk, not_false_eq_true, if_true]
      by_cases h1 : k = 1 <;> by_cases h2 : k = 2 <;> by_cases h1' : k' = 1 <;> by_cases h2' : k' = 2 <;> simp_all
theorem sameL_iff : ∀ l m : List T, sameL l m = true ↔ tidyL l = tidyL m
  | [], [] => by simp [sameL, tidyL]
  | [], u :: us => by simp [sameL, tidyL]
  | t :: ts, [] => by simp [sameL, tidyL]
  | t :: ts, u :: us => by simp [sameL, tidyL, sameT_iff t u, sameL_iff ts us]
end
mutual
theorem tidy_tidy : ∀ t : T, tidy (tidy t) = tidy t
  | .mk k n s l => by
    by_cases h1 : k = 1
    · simp [tidy, h1]
    · by_cases h2 : k = 2
      · simp [tidy, h2]
      · simp [tidy, h1, h2, tidyL_tidyL l]
theorem tidyL_tidyL : ∀ l : List T, tidyL (tidyL l) = tidyL l
  | [] => rfl
  | t :: ts => by simp [tidyL, tidy_tidy t, tidyL_tidyL ts]
end
theorem sameT_tidy (t : T) : sameT t (tidy t) = true := (sameT_iff _ _).2 (tidy_tidy t).symm
theorem sameT_refl (t : T) : sameT t t = true := (sameT_iff _ _).2 rfl
mutual
theorem enc_tidy : ∀ t : T, enc (tidy t) = enc t
  | .mk k n s l => by
    by_cases h1 : k = 1
    · simp [tidy, h1, enc]
    · by_cases h2 : k = 2
      · simp [tidy, h2, enc]
      · simp [tidy, h1, h2, enc, encL_tidyL l]
theorem encL_tidyL : ∀ l : List T, encL (tidyL l) = encL l
  | [] => rfl
  | t :: ts => by simp [tidyL, encL, enc_tidy t, encL_tidyL ts]
end
theorem enc_of_same {t u : T} (h : sameT t u = true) : enc t = enc u := by
  rw [← enc_tidy t, ← enc_tidy u, (sameT_iff t u).1 h]

/-! ## Reading -/
def isDig (c : UInt8) : Bool := decide (48 ≤ c.toNat) && decide (c.toNat ≤ 57)
/-- Digits up to the byte stop: the number, and how many bytes with the stop. -/
def dg (most : Nat) (stop : UInt8) (over : Int) : Bool → Nat → List UInt8 → Except Int (Nat × Nat)
  | _, _, [] => .error 21
  | first, m, c :: r =>
    if c = stop ∧ first = false then .ok (m, 1)
    else if isDig c = false ∨ (first = false ∧ m = 0) then .error 20
    else if most < 10 * m + (c.toNat - 48) then .error over
    else match dg most stop over false (10 * m + (c.toNat - 48)) r with
      | .error e => .error e
      | .ok (n, k) => .ok (n, k + 1)
def rdNum (r : List UInt8) : Except Int (T × Nat) :=
  match r with
  | 45 :: r' => if r'.head? = some 48 then .error 20 else
    match dg 9223372036854775808 101 20 true 0 r' with
    | .error e => .error e
    | .ok (m, n) => .ok (.mk 1 (-(m : Int)) .empty [], n + 2)
  | r => match dg 9223372036854775807 101 20 true 0 r with
    | .error e => .error e
    | .ok (m, n) => .ok (.mk 1 m .empty [], n + 1)
def rdText (bs : List UInt8) : Except Int (T × Nat) :=
  match dg 65536 58 23 true 0 bs with
  | .error e => .error e
  | .ok (n, k) => if (bs.drop k).length < n then .error 21 else .ok (.mk 2 0 ⟨((bs.drop k).take n).toArray⟩ [], k + n)
mutual
def rd (bs : List UInt8) (w : Nat) : Except Int (T × Nat) :=
  match bs with
  | [] => .error 21
  | c :: r =>
    if c = 105 then rdNum r
    else if isDig c = true then rdText (c :: r)
    else if c = 108 then
      if 8 ≤ w then .error 22 else
        match rdL r (w + 1) with
        | .error e => .error e
        | .ok (ts, n) => .ok (.mk 3 0 .empty ts, n + 1)
    else .error 20
termination_by (bs.length, 0)
def rdL (bs : List UInt8) (w : Nat) : Except Int (List T × Nat) :=
  match bs with
  | [] => .error 21
  | c :: r =>
    if c = 101 then .ok ([], 1) else
      match rd (c :: r) w with
      | .error e => .error e
      | .ok (t, n) =>
        match rdL (r.drop (n - 1)) w with
        | .error e => .error e
        | .ok (ts, m) => .ok (t :: ts, n + m)
termination_by (bs.length, 1)
decreasing_by
  · exact Prod.Lex.right _ (by decide)
  · exact Prod.Lex.left _ _ (by simp; omega)
end
end Go.Proofs.YtmepahlmbopacaaDoor.Be
