/- Vectors as text: digits, commas, and what text is which vector's. No run in this text. Conditions: none. -/
import Derived.Test.YtahgamjfglcenaaDoorMath
import Derived.Lib.AtoiTie
import Derived.Lib.SplitLaws
import Derived.Lib.ItoaLen
import Derived.Lib.Join
set_option linter.unusedVariables false
set_option linter.unusedSimpArgs false
namespace Go.Proofs.YtahgamjfglcenaaDoor
open Go
def okI (n : Int) : Prop := -2147483648 ≤ n ∧ n ≤ 2147483647
theorem dg_nat (u : Nat) (h : u < 10) : (UInt8.ofNat (48 + u)).toNat = 48 + u := by
  simp
  omega
theorem dig_all : ∀ u : Nat, ∀ b ∈ Lib.decDigits u, 48 ≤ b.toNat ∧ b.toNat ≤ 57 := by
  intro u
  induction u using Nat.strongRecOn with
  | ind u ih =>
    intro b hb
    rw [Lib.decDigits] at hb
    split at hb
    · rename_i h
      simp at hb
      subst hb
      have := dg_nat u h
      simp at this ⊢
      omega
    · rename_i h
      rw [List.mem_append] at hb
      rcases hb with hb | hb
      · exact ih (u / 10) (by omega) b hb
      · simp at hb
        subst hb
        have := dg_nat (u % 10) (by omega)
        simp at this ⊢
        omega
theorem dig_ne (u : Nat) : Lib.decDigits u ≠ [] := by
  rw [Lib.decDigits]
  split <;> simp
theorem dig_len (k u : Nat) (h : u < 10 ^ (k + 1)) : (Lib.decDigits u).length ≤ k + 1 := by
  induction k generalizing u with
  | zero =>
    rw [Lib.decDigits, dif_pos (by omega)]
    simp
  | succ k ih =>
    rw [Lib.decDigits]
    split
    · simp
    · rw [List.length_append]
      have := ih (u / 10) (by rw [Nat.div_lt_iff_lt_mul (by omega)]; rw [← Nat.pow_succ]; exact h)
      simp
      omega
theorem decFrom_snoc (l : List UInt8) (b : UInt8) (acc n d : Nat) (h : Lib.decFrom acc l = some n) (hd : Lib.digitVal b = some d) : Lib.decFrom acc (l ++ [b]) = some (n * 10 + d) := by
  have := Lib.decFrom_take (l ++ [b]) l.length acc n b d (by rw [List.take_left]; exact h) (by simp) hd
  rwa [List.take_of_length_le (by simp)] at this
theorem digitVal_of (u : Nat) (h : u < 10) : Lib.digitVal (UInt8.ofNat (48 + u)) = some u := by
  unfold Lib.digitVal
  rw [dg_nat u h, if_pos (by omega)]
  congr 1
  omega
theorem dec_dig (u : Nat) : Lib.decFrom 0 (Lib.decDigits u) = some u := by
  induction u using Nat.strongRecOn with
  | ind u ih =>
    rw [Lib.decDigits]
    split
    · rename_i h
      show (match Lib.digitVal _ with | some d => Lib.decFrom (0 * 10 + d) [] | none => none) = _
      rw [digitVal_of u h]
      simp [Lib.decFrom]
    · rename_i h
      rw [decFrom_snoc _ _ 0 (u / 10) (u % 10) (ih (u / 10) (by omega)) (digitVal_of _ (by omega))]
      congr 1
      omega
/-- The sign's place, if there is one. -/
def sg (n : Int) : Nat := if n < 0 then 1 else 0
theorem itoa_eq (n : Int) : Lib.itoa n = (if n < 0 then [45] else []) ++ Lib.decDigits n.natAbs := by
  unfold Lib.itoa
  split
  · rfl
  · rw [show n.toNat = n.natAbs by omega]
    rfl
theorem itoa_ne (n : Int) : Lib.itoa n ≠ [] := by
  rw [itoa_eq]
  have := dig_ne n.natAbs
  simp [this]
theorem itoa_no (n : Int) : (44 : UInt8) ∉ Lib.itoa n := by
  rw [itoa_eq]
  intro h
  rw [List.mem_append] at h
  rcases h with h | h
  · split at h <;> simp at h
  · have := dig_all _ _ h
    simp at this
theorem itoa_len {n : Int} (h : okI n) : (Lib.itoa n).length ≤ 11 := by
  rw [itoa_eq, List.length_append]
  have := dig_len 9 n.natAbs (by unfold okI at h; omega)
  split <;> simp <;> omega
theorem atoi_itoa {n : Int} (h : okI n) : Lib.atoiAll (Lib.itoa n) = .ok n := by
  rw [Lib.atoiAll_short _ (by have := itoa_len h; omega)]
  have hd : Lib.decNat (Lib.decDigits n.natAbs) = some n.natAbs := by
    unfold Lib.decNat
    have := dig_ne n.natAbs
    rw [if_neg (by simpa using this)]
    exact dec_dig _
  rw [itoa_eq]
  by_cases hn : n < 0
  · rw [if_pos hn]
    show Lib.NumEnd.ofOption (Lib.atoi (45 :: Lib.decDigits n.natAbs)) = _
    unfold Lib.atoi
    dsimp only
    rw [if_pos (by decide), hd]
    show Lib.NumEnd.ok (-(n.natAbs : Int)) = _
    congr 1
    omega
  · rw [if_neg hn, List.nil_append]
    obtain ⟨b, r, hbr⟩ : ∃ b r, Lib.decDigits n.natAbs = b :: r := by
      cases hh : Lib.decDigits n.natAbs with
      | nil => exact absurd hh (dig_ne _)
      | cons b r => exact ⟨b, r, rfl⟩
    have hb := dig_all n.natAbs b (by rw [hbr]; exact List.mem_cons_self ..)
    have h45 : (b == 45) = false := by
      rw [beq_eq_false_iff_ne]
      rintro rfl
      simp at hb
    have h43 : (b == 43) = false := by
      rw [beq_eq_false_iff_ne]
      rintro rfl
      simp at hb
    rw [hbr] at hd ⊢
    unfold Lib.atoi
    dsimp only
    rw [h45, h43, hd]
    show Lib.NumEnd.ok ((n.natAbs : Nat) : Int) = _
    congr 1
    omega
theorem itoa_inj {m n : Int} (hm : okI m) (hn : okI n) (h : Lib.itoa m = Lib.itoa n) : m = n := by
  have := atoi_itoa hm
  rw [h, atoi_itoa hn] at this
  injection this with this
  exact this.symm
/-- A vector's text. -/
def prn (v : List Int) : List UInt8 := Lib.join (v.map Lib.itoa) [44]
def prnB (v : List Int) : ByteArray := ⟨(prn v).toArray⟩
def itS (n : Int) : ByteArray := ⟨(Lib.itoa n).toArray⟩
theorem prn_nil : prn [] = [] := rfl
theorem prn_one (a : Int) : prn [a] = Lib.itoa a := Lib.join_one _ _
theorem prn_cons (a b : Int) (r : List Int) : prn (a :: b :: r) = Lib.itoa a ++ 44 :: prn (b :: r) := by
  unfold prn
  rw [List.map_cons, List.map_cons, Lib.join_cons, Lib.join_cons]
  simp [Lib.joinTail]
theorem prn_snoc (v : List Int) (a : Int) (hv : v ≠ []) : prn (v ++ [a]) = prn v ++ 44 :: Lib.itoa a := by
  induction v with
  | nil => exact absurd rfl hv
  | cons x r ih =>
    rcases r with _ | ⟨y, r⟩
    · show prn [x, a] = _
      rw [prn_cons, prn_one, prn_one]
    · show prn (x :: y :: (r ++ [a])) = _
      rw [prn_cons, prn_cons]
      have := ih (by simp)
      rw [List.cons_append] at this
      rw [this]
      simp
theorem prn_len (v : List Int) (h : ∀ x ∈ v, okI x) : (prn v).length ≤ 12 * v.length := by
  induction v with
  | nil => simp [prn_nil]
  | cons a r ih =>
    rcases r with _ | ⟨b, r⟩
    · rw [prn_one]
      have := itoa_len (h a (by simp))
      simp
      omega
    · rw [prn_cons]
      have h1 := itoa_len (h a (by simp))
      have h2 := ih (fun x hx => h x (List.mem_cons_of_mem _ hx))
      simp at h2 ⊢
      omega
theorem prn_len' (v : List Int) (h : ∀ x ∈ v, okI x) (h1 : 1 ≤ v.length) : (prn v).length + 1 ≤ 12 * v.length := by
  induction v with
  | nil => simp at h1
  | cons a r ih =>
    rcases r with _ | ⟨b, r⟩
    · rw [prn_one]
      have := itoa_len (h a (by simp))
      simp
      omega
    · rw [prn_cons]
      have h1 := itoa_len (h a (by simp))
      have h2 := ih (fun x hx => h x (List.mem_cons_of_mem _ hx)) (by simp)
      simp at h2 ⊢
      omega
/-- A comma parts a text in one way. -/
theorem comma_one {a b x y : List UInt8} (ha : (44 : UInt8) ∉ a) (hb : (44 : UInt8) ∉ b) (h : a ++ 44 :: x = b ++ 44 :: y) : a = b ∧ x = y := by
  induction a generalizing b with
  | nil =>
    rcases b with _ | ⟨c, b⟩
    · simpa using h
    · simp at h
      exact absurd (by rw [h.1]; simp) hb
  | cons c a ih =>
    rcases b with _ | ⟨d, b⟩
    · simp at h
      exact absurd (by rw [← h.1]; simp) ha
    · simp at h
      obtain ⟨rfl, h⟩ := h
      obtain ⟨rfl, e⟩ := ih (fun h => ha (List.mem_cons_of_mem _ h)) (fun h => hb (List.mem_cons_of_mem _ h)) h
      exact ⟨rfl, e⟩
theorem index_comma (a t : List UInt8) (h : (44 : UInt8) ∉ a) : Lib.index (a ++ 44 :: t) [44] = (a.length : Int) := by
  induction a with
  | nil => rw [List.nil_append, Lib.index]; simp [List.isPrefixOf]
  | cons b a ih =>
    have hne : b ≠ 44 := fun e => h (by rw [e]; simp)
    have hp : ([44] : List UInt8).isPrefixOf (b :: (a ++ 44 :: t)) = false := by simp [List.isPrefixOf, Ne.symm hne]
    rw [List.cons_append, Lib.index, hp, ih (fun hh => h (List.mem_cons_of_mem _ hh))]
    simp
theorem split_prn (v : List Int) (hv : v ≠ []) : Lib.splitK [44] 0 ((prn v).count 44) (prn v) = v.map Lib.itoa := by
  induction v with
  | nil => exact absurd rfl hv
  | cons a r ih =>
    rcases r with _ | ⟨b, r⟩
    · rw [prn_one, List.count_eq_zero_of_not_mem (itoa_no a)]
      rfl
    · have hc : (prn (a :: b :: r)).count 44 = (prn (b :: r)).count 44 + 1 := by
        rw [prn_cons, List.count_append, List.count_eq_zero_of_not_mem (itoa_no a), List.count_cons_self]
        omega
      have hi : Lib.index (prn (a :: b :: r)) [44] = ((Lib.itoa a).length : Int) := by rw [prn_cons]; exact index_comma _ _ (itoa_no a)
      rw [hc, Lib.splitK, hi]
      rw [if_neg (by simp), List.map_cons, ← ih (by simp)]
      congr 1
      · rw [prn_cons, Int.toNat_natCast, Nat.add_zero, List.take_left]
      · congr 1
        rw [prn_cons, Int.toNat_natCast]
        simp
theorem map_inj {v w : List Int} (hv : ∀ x ∈ v, okI x) (hw : ∀ x ∈ w, okI x) (h : v.map Lib.itoa = w.map Lib.itoa) : v = w := by
  induction v generalizing w with
  | nil => cases w <;> simp_all
  | cons a r ih =>
    rcases w with _ | ⟨b, s⟩
    · simp at h
    · simp at h
      rw [itoa_inj (hv a (by simp)) (hw b (by simp)) h.1, ih (fun x hx => hv x (List.mem_cons_of_mem _ hx)) (fun x hx => hw x (List.mem_cons_of_mem _ hx)) h.2]
theorem okV_I {v : List Int} (h : okV v = true) : ∀ x ∈ v, okI x := ((okV_iff v).1 h).2.2
theorem okV_ne {v : List Int} (h : okV v = true) : v ≠ [] := by
  have := ((okV_iff v).1 h).1
  intro e
  subst e
  simp at this
theorem prn_inj {v w : List Int} (hv : okV v = true) (hw : okV w = true) (h : prn v = prn w) : v = w := by
  have h1 := split_prn v (okV_ne hv)
  rw [h, split_prn w (okV_ne hw)] at h1
  exact (map_inj (okV_I hw) (okV_I hv) h1).symm
theorem prnB_inj {v w : List Int} (hv : okV v = true) (hw : okV w = true) (h : prnB v = prnB w) : v = w := by
  unfold prnB at h
  injection h with h
  exact prn_inj hv hw (by simpa using congrArg Array.toList h)
theorem prnB_list (v : List Int) : (prnB v).data.toList = prn v := by simp [prnB]
theorem itS_list (n : Int) : (itS n).data.toList = Lib.itoa n := by simp [itS]
theorem prnB_size {v : List Int} (h : okV v = true) : (prnB v).size ≤ 191 := by
  have h1 := prn_len' v (okV_I h) ((okV_iff v).1 h).1
  have h2 := ((okV_iff v).1 h).2.1
  show (prn v).toArray.size ≤ 191
  simp
  omega
theorem bytes_of_list {s : ByteArray} {l : List UInt8} (h : s.data.toList = l) : s = ⟨l.toArray⟩ := by
  subst h
  simp
def comma : ByteArray := ⟨#[44]⟩
/-- The parts of a vector's text are its numbers'. -/
theorem parts_of {v : List Int} (h : okV v = true) : Lib.splitB comma 0 (Lib.countB (prnB v) comma) (prnB v) = v.map itS := by
  have h1 := Lib.splitB_data comma 0 (Lib.countB (prnB v) comma) (prnB v)
  have hc : Lib.countB (prnB v) comma = (prn v).count 44 := by
    show Lib.count (prnB v).data.toList [44] = _
    rw [prnB_list, Lib.count_one]
  have h2 : Lib.splitK comma.data.toList 0 (Lib.countB (prnB v) comma) (prnB v).data.toList = v.map Lib.itoa := by
    rw [hc, prnB_list]
    exact split_prn v (okV_ne h)
  rw [h2] at h1
  generalize Lib.splitB comma 0 (Lib.countB (prnB v) comma) (prnB v) = L at h1
  clear h2 hc h
  induction L generalizing v with
  | nil => cases v <;> simp_all
  | cons x L ih =>
    rcases v with _ | ⟨a, v⟩
    · simp at h1
    · simp at h1
      rw [List.map_cons, ← ih h1.2, bytes_of_list h1.1]
      rfl
end Go.Proofs.YtahgamjfglcenaaDoor
