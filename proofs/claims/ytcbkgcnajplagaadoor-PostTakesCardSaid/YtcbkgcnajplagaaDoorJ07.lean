/- BMath, BMathB in one text. Conditions: as each part says. -/
import Derived.Lib.ItoaNum
section
set_option linter.unusedVariables false
set_option linter.unusedSimpArgs false
namespace Go.Proofs.YtcbkgcnajplagaaDoor.Be
open Go

/-- A value: its kind, its number, its text, its list. -/
inductive T where
  | mk (k n : Int) (s : ByteArray) (l : List T)
def T.k : T → Int | .mk k _ _ _ => k
def T.n : T → Int | .mk _ n _ _ => n
def T.s : T → ByteArray | .mk _ _ s _ => s
def T.l : T → List T | .mk _ _ _ l => l

mutual
def enc : T → List UInt8
  | .mk k n s l => if k = 1 then 105 :: (Lib.itoa n ++ [101]) else if k = 2 then Lib.itoa s.size ++ 58 :: s.data.toList else if k = 3 then 108 :: (encL l ++ [101]) else []
def encL : List T → List UInt8
  | [] => []
  | t :: ts => enc t ++ encL ts
end
mutual
def kindsOk : T → Bool
  | .mk k _ _ l => decide (k = 1) || decide (k = 2) || (decide (k = 3) && kindsOkL l)
def kindsOkL : List T → Bool
  | [] => true
  | t :: ts => kindsOk t && kindsOkL ts
end
mutual
def deepT : T → Nat
  | .mk k _ _ l => if k = 3 then deepL l + 1 else 0
def deepL : List T → Nat
  | [] => 0
  | t :: ts => max (deepT t) (deepL ts)
end
mutual
def tidy : T → T
  | .mk k n s l => if k = 1 then .mk 1 n .empty [] else if k = 2 then .mk 2 0 s [] else .mk k 0 .empty (tidyL l)
def tidyL : List T → List T
  | [] => []
  | t :: ts => tidy t :: tidyL ts
end
mutual
def wfT : T → Bool
  | .mk k n _ l => decide (-9223372036854775808 ≤ n ∧ n ≤ 9223372036854775807) && decide (-9223372036854775808 ≤ k ∧ k ≤ 9223372036854775807) && wfL l
def wfL : List T → Bool
  | [] => true
  | t :: ts => wfT t && wfL ts
end
mutual
def cleanT : T → Bool
  | .mk k n s l => (decide (k = 1) || decide (n = 0)) && (decide (k = 2) || decide (s.size = 0)) && (decide (k = 3) || l.isEmpty) && cleanL l
def cleanL : List T → Bool
  | [] => true
  | t :: ts => cleanT t && cleanL ts
end
mutual
def sameT : T → T → Bool
  | .mk k n s l, u => if k ≠ u.k then false else if k = 1 then decide (n = u.n) else if k = 2 then decide (s = u.s) else sameL l u.l
def sameL : List T → List T → Bool
  | [], us => us.isEmpty
  | t :: ts, us => match us with
    | [] => false
    | u :: us => sameT t u && sameL ts us
end

mutual
theorem sameT_iff : ∀ t u : T, sameT t u = true ↔ tidy t = tidy u
  | .mk k n s l, .mk k' n' s' l' => by
    simp only [sameT, tidy, T.k, T.n, T.s, T.l]
    by_cases hk : k = k'
    · subst hk
      by_cases h1 : k = 1
      · simp [h1]
        exact decide_eq_true_iff
      · by_cases h2 : k = 2
        · simp [h1, h2]
          exact decide_eq_true_iff
        · simp [h1, h2, sameL_iff l l']
    · simp only [ne_eq, hk, not_false_eq_true, if_true]
      by_cases h1 : k = 1 <;> by_cases h2 : k = 2 <;> by_cases h1' : k' = 1 <;> by_cases h2' : k' = 2 <;> simp_all
theorem sameL_iff : ∀ l m : List T, sameL l m = true ↔ tidyL l = tidyL m
  | [], [] => by simp [sameL, tidyL]
  | [], u :: us => by simp [sameL, tidyL]
  | t :: ts, [] => by simp [sameL, tidyL]
  | t :: ts, u :: us => by simp [sameL, tidyL, sameT_iff t u, sameL_iff ts us]
end
mutual
theorem tidy_tidy : ∀ t : T, tidy (tidy t) = tidy t
  | .mk k n s l => by
    by_cases h1 : k = 1
    · simp [tidy, h1]
    · by_cases h2 : k = 2
      · simp [tidy, h2]
      · simp [tidy, h1, h2, tidyL_tidyL l]
theorem tidyL_tidyL : ∀ l : List T, tidyL (tidyL l) = tidyL l
  | [] => rfl
  | t :: ts => by simp [tidyL, tidy_tidy t, tidyL_tidyL ts]
end
theorem sameT_tidy (t : T) : sameT t (tidy t) = true := (sameT_iff _ _).2 (tidy_tidy t).symm
theorem sameT_refl (t : T) : sameT t t = true := (sameT_iff _ _).2 rfl
mutual
theorem enc_tidy : ∀ t : T, enc (tidy t) = enc t
  | .mk k n s l => by
    by_cases h1 : k = 1
    · simp [tidy, h1, enc]
    · by_cases h2 : k = 2
      · simp [tidy, h2, enc]
      · simp [tidy, h1, h2, enc, encL_tidyL l]
theorem encL_tidyL : ∀ l : List T, encL (tidyL l) = encL l
  | [] => rfl
  | t :: ts => by simp [tidyL, encL, enc_tidy t, encL_tidyL ts]
end
theorem enc_of_same {t u : T} (h : sameT t u = true) : enc t = enc u := by
  rw [← enc_tidy t, ← enc_tidy u, (sameT_iff t u).1 h]

/-! ## Reading -/
def isDig (c : UInt8) : Bool := decide (48 ≤ c.toNat) && decide (c.toNat ≤ 57)
/-- Digits up to the byte stop: the number, and how many bytes with the stop. -/
def dg (most : Nat) (stop : UInt8) (over : Int) : Bool → Nat → List UInt8 → Except Int (Nat × Nat)
  | _, _, [] => .error 21
  | first, m, c :: r =>
    if c = stop ∧ first = false then .ok (m, 1)
    else if isDig c = false ∨ (first = false ∧ m = 0) then .error 20
    else if most < 10 * m + (c.toNat - 48) then .error over
    else match dg most stop over false (10 * m + (c.toNat - 48)) r with
      | .error e => .error e
      | .ok (n, k) => .ok (n, k + 1)
def rdNum (r : List UInt8) : Except Int (T × Nat) :=
  match r with
  | 45 :: r' => if r'.head? = some 48 then .error 20 else
    match dg 9223372036854775808 101 20 true 0 r' with
    | .error e => .error e
    | .ok (m, n) => .ok (.mk 1 (-(m : Int)) .empty [], n + 2)
  | r => match dg 9223372036854775807 101 20 true 0 r with
    | .error e => .error e
    | .ok (m, n) => .ok (.mk 1 m .empty [], n + 1)
def rdText (bs : List UInt8) : Except Int (T × Nat) :=
  match dg 65536 58 23 true 0 bs with
  | .error e => .error e
  | .ok (n, k) => if (bs.drop k).length < n then .error 21 else .ok (.mk 2 0 ⟨((bs.drop k).take n).toArray⟩ [], k + n)
mutual
def rd (bs : List UInt8) (w : Nat) : Except Int (T × Nat) :=
  match bs with
  | [] => .error 21
  | c :: r =>
    if c = 105 then rdNum r
    else if isDig c = true then rdText (c :: r)
    else if c = 108 then
      if 8 ≤ w then .error 22 else
        match rdL r (w + 1) with
        | .error e => .error e
        | .ok (ts, n) => .ok (.mk 3 0 .empty ts, n + 1)
    else .error 20
termination_by (bs.length, 0)
def rdL (bs : List UInt8) (w : Nat) : Except Int (List T × Nat) :=
  match bs with
  | [] => .error 21
  | c :: r =>
    if c = 101 then .ok ([], 1) else
      match rd (c :: r) w with
      | .error e => .error e
      | .ok (t, n) =>
        match rdL (r.drop (n - 1)) w with
        | .error e => .error e
        | .ok (ts, m) => .ok (t :: ts, n + m)
termination_by (bs.length, 1)
decreasing_by
  · exact Prod.Lex.right _ (by decide)
  · exact Prod.Lex.left _ _ (by simp; omega)
end
end Go.Proofs.YtcbkgcnajplagaaDoor.Be
end
section
set_option linter.unusedVariables false
set_option linter.unusedSimpArgs false
namespace Go.Proofs.YtcbkgcnajplagaaDoor.Be
open Go

theorem u8_ofNat {n : Nat} (h : n < 256) : (UInt8.ofNat n).toNat = n := by simp [UInt8.toNat_ofNat']; omega
theorem isDig_of {d : Nat} (h : d < 10) : isDig (UInt8.ofNat (48 + d)) = true := by
  simp only [isDig, u8_ofNat (show 48 + d < 256 by omega), Bool.and_eq_true, decide_eq_true_eq]; omega
theorem isDig_iff {c : UInt8} : isDig c = true ↔ 48 ≤ c.toNat ∧ c.toNat ≤ 57 := by simp [isDig]
theorem dec_small {n : Nat} (h : n < 10) : Lib.decDigits n = [UInt8.ofNat (48 + n)] := by rw [Lib.decDigits, dif_pos h]
theorem dec_big {n : Nat} (h : ¬ n < 10) : Lib.decDigits n = Lib.decDigits (n / 10) ++ [UInt8.ofNat (48 + n % 10)] := by rw [Lib.decDigits, dif_neg h]
theorem dec_pos (n : Nat) : 1 ≤ (Lib.decDigits n).length := by
  by_cases h : n < 10
  · simp [dec_small h]
  · simp [dec_big h]
theorem dec_snoc {m d : Nat} (hm : m ≠ 0) (hd : d < 10) : Lib.decDigits (10 * m + d) = Lib.decDigits m ++ [UInt8.ofNat (48 + d)] := by
  rw [dec_big (by omega), show (10 * m + d) / 10 = m by omega, show (10 * m + d) % 10 = d by omega]
theorem dec_len (k : Nat) : ∀ n : Nat, n < 10 ^ k → 1 ≤ k → (Lib.decDigits n).length ≤ k := by
  induction k with
  | zero => intro n _ h; omega
  | succ k ih =>
    intro n hn _
    by_cases h : n < 10
    · simp [dec_small h]
    · rw [dec_big h]
      have hk : 1 ≤ k := by
        rcases k with _ | k
        · simp at hn; omega
        · omega
      have := ih (n / 10) (by rw [Nat.pow_succ] at hn; omega) hk
      simp; omega
theorem itoa_len (n : Int) (h0 : -9223372036854775808 ≤ n) (h1 : n ≤ 9223372036854775807) : (Lib.itoa n).length ≤ 20 := by
  unfold Lib.itoa
  split
  · have := dec_len 19 n.natAbs (by omega) (by omega)
    simp; omega
  · have := dec_len 19 n.toNat (by omega) (by omega)
    omega
theorem itoa_pos (n : Int) : 1 ≤ (Lib.itoa n).length := by
  unfold Lib.itoa
  split
  · simp
  · exact dec_pos _
theorem itoa_nat (n : Nat) : Lib.itoa (n : Int) = Lib.decDigits n := by
  unfold Lib.itoa
  rw [if_neg (by omega)]
  rfl

/-- A count is added to what was read. -/
def more {α : Type} (k : Nat) : Except Int (α × Nat) → Except Int (α × Nat)
  | .error e => .error e
  | .ok (n, j) => .ok (n, j + k)
theorem more_zero {α : Type} (r : Except Int (α × Nat)) : more 0 r = r := by rcases r with e | ⟨n, j⟩ <;> rfl
theorem more_more {α : Type} (a b : Nat) (r : Except Int (α × Nat)) : more a (more b r) = more (b + a) r := by rcases r with e | ⟨n, j⟩ <;> simp [more, Nat.add_assoc]
theorem dg_step (most : Nat) (stop : UInt8) (over : Int) (first : Bool) (m : Nat) (d : Nat) (hd : d < 10) (hs : isDig stop = false) (hm : first = true ∨ m ≠ 0) (hle : 10 * m + d ≤ most) (tail : List UInt8) :
    dg most stop over first m (UInt8.ofNat (48 + d) :: tail) = more 1 (dg most stop over false (10 * m + d) tail) := by
  have hdig := isDig_of hd
  have hne : UInt8.ofNat (48 + d) ≠ stop := by rintro rfl; rw [hdig] at hs; cases hs
  have hv : (UInt8.ofNat (48 + d)).toNat - 48 = d := by rw [u8_ofNat (by omega)]; omega
  generalize UInt8.ofNat (48 + d) = c at hdig hne hv
  rw [dg, if_neg (fun h => hne h.1), if_neg (by rcases hm with h | h <;> simp [hdig, h]), hv, if_neg (by omega)]
  rcases dg most stop over false (10 * m + d) tail with e | ⟨n, k⟩ <;> rfl
theorem dg_dec (most : Nat) (stop : UInt8) (over : Int) (hs : isDig stop = false) : ∀ (n : Nat), n ≤ most → ∀ tail, dg most stop over true 0 (Lib.decDigits n ++ tail) = more (Lib.decDigits n).length (dg most stop over false n tail) := by
  intro n
  induction n using Nat.strongRecOn with
  | _ n ih =>
    intro hn tail
    by_cases h : n < 10
    · rw [dec_small h, List.singleton_append, dg_step most stop over true 0 n h hs (.inl rfl) (by omega)]
      simp
    · rw [dec_big h, List.append_assoc, List.singleton_append, ih (n / 10) (by omega) (by omega), dg_step most stop over false (n / 10) (n % 10) (by omega) hs (.inr (by omega)) (by omega), more_more]
      rw [show 10 * (n / 10) + n % 10 = n by omega]
      simp [Nat.add_comm]
theorem dg_put (most : Nat) (stop : UInt8) (over : Int) (hs : isDig stop = false) (n : Nat) (hn : n ≤ most) (rest : List UInt8) : dg most stop over true 0 (Lib.decDigits n ++ stop :: rest) = .ok (n, (Lib.decDigits n).length + 1) := by
  rw [dg_dec most stop over hs n hn, dg, if_pos ⟨rfl, rfl⟩]
  simp [more, Nat.add_comm]
/-- What begins digits is digits, or nothing. -/
theorem dec_take (n : Nat) : ∀ j, (Lib.decDigits n).take j = [] ∨ ∃ m, m ≤ n ∧ (Lib.decDigits n).take j = Lib.decDigits m := by
  induction n using Nat.strongRecOn with
  | _ n ih =>
    intro j
    by_cases hj : (Lib.decDigits n).length ≤ j
    · exact .inr ⟨n, Nat.le_refl _, List.take_of_length_le hj⟩
    · by_cases h : n < 10
      · rw [dec_small h] at hj ⊢
        have : j = 0 := by simp at hj; omega
        subst this
        exact .inl rfl
      · rw [dec_big h] at hj ⊢
        rw [List.take_append_of_le_length (by simp at hj; omega)]
        rcases ih (n / 10) (by omega) j with e | ⟨m, hm, e⟩
        · exact .inl e
        · exact .inr ⟨m, by omega, e⟩
theorem dg_cut (most : Nat) (stop : UInt8) (over : Int) (hs : isDig stop = false) (n : Nat) (hn : n ≤ most) (j : Nat) : dg most stop over true 0 ((Lib.decDigits n).take j) = .error 21 := by
  rcases dec_take n j with e | ⟨m, hm, e⟩
  · rw [e, dg]
  · rw [e]
    have := dg_dec most stop over hs m (by omega) []
    rw [List.append_nil] at this
    rw [this, dg]
    rfl
theorem dg_inv (most : Nat) (stop : UInt8) (over : Int) (hs : isDig stop = false) : ∀ (bs : List UInt8) (first : Bool) (m n k : Nat), (first = true → m = 0) → m ≤ most → dg most stop over first m bs = .ok (n, k) →
    n ≤ most ∧ 1 ≤ k ∧ k ≤ bs.length ∧ (if first then [] else Lib.decDigits m) ++ bs.take k = Lib.decDigits n ++ [stop] := by
  intro bs
  induction bs with
  | nil => intro first m n k _ _ h; rw [dg] at h; cases h
  | cons c r ih =>
    intro first m n k hf hm h
    rw [dg] at h
    split at h
    · rename_i hc
      obtain ⟨rfl, rfl⟩ := hc
      cases h
      exact ⟨hm, by omega, by simp, by simp⟩
    · split at h
      · cases h
      · split at h
        · cases h
        · rename_i hc hd ho
          have hdig : isDig c = true := by
            cases hx : isDig c
            · exact absurd (.inl hx) hd
            · rfl
          have hc' := isDig_iff.1 hdig
          revert h
          rcases hx : dg most stop over false (10 * m + (c.toNat - 48)) r with e | ⟨n', k'⟩
          · intro h; cases h
          · intro h
            cases h
            obtain ⟨h1, h2, h3, h4⟩ := ih false _ _ _ (by simp) (by omega) hx
            refine ⟨h1, by omega, by simp; omega, ?_⟩
            rw [← h4, List.take_succ_cons]
            have hcc : c = UInt8.ofNat (48 + (c.toNat - 48)) := by
              rw [show 48 + (c.toNat - 48) = c.toNat by omega]; simp
            cases first with
            | true =>
              obtain rfl := hf rfl
              simp only [if_true, Bool.false_eq_true, if_false, List.nil_append]
              rw [show 10 * 0 + (c.toNat - 48) = c.toNat - 48 by omega, dec_small (by omega), ← hcc]
              rfl
            | false =>
              have hm0 : m ≠ 0 := fun e => hd (.inr ⟨rfl, e⟩)
              simp only [Bool.false_eq_true, if_false]
              rw [dec_snoc hm0 (by omega), ← hcc, List.append_assoc]
              rfl
end Go.Proofs.YtcbkgcnajplagaaDoor.Be
end
