/- What a failure leaves of each block, where each has one loose write at the most; what mixed of the laws returns. Conditions: those named in each. -/
import Derived.Test.YtebcodbpgleoiaaLawT
set_option linter.unusedVariables false
set_option linter.unusedSimpArgs false
namespace Go.Proofs.Ytebcodbpgleoiaa
open Go Go.RowKit
/-- The loose writes of the first k blocks. -/
def lw (Z : Nat → ByteArray) (k : Nat) : List (Nat × ByteArray) := ((List.range k).filter (fun j => !(Z j).toList.isEmpty)).map (fun j => (j, Z j))
section
variable {Z : Nat → ByteArray}
theorem lw_succ (k : Nat) : lw Z (k + 1) = lw Z k ++ (bif (Z k).toList.isEmpty then [] else [(k, Z k)]) := by
  unfold lw
  rw [List.range_succ, List.filter_append, List.map_append]
  cases h : (Z k).toList.isEmpty <;> simp [h]
theorem lw_mem {k : Nat} {p : Nat × ByteArray} (h : p ∈ lw Z k) : p.1 < k ∧ p.2 = Z p.1 ∧ (Z p.1).toList.isEmpty = false := by
  unfold lw at h
  obtain ⟨j, hj, rfl⟩ := List.mem_map.1 h
  obtain ⟨h1, h2⟩ := List.mem_filter.1 hj
  exact ⟨List.mem_range.1 h1, rfl, by simpa using h2⟩
theorem lw_split (k i : Nat) : ∃ R, lw Z (k + 1 + i) = lw Z (k + 1) ++ R ∧ ∀ p ∈ R, k < p.1 := by
  induction i with
  | zero => exact ⟨[], by simp, by simp⟩
  | succ i ih =>
    obtain ⟨R, h1, h2⟩ := ih
    refine ⟨R ++ (bif (Z (k + 1 + i)).toList.isEmpty then [] else [(k + 1 + i, Z (k + 1 + i))]), ?_, ?_⟩
    · rw [← Nat.add_assoc, lw_succ, h1, List.append_assoc]
    · intro p hp
      rcases List.mem_append.1 hp with hp | hp
      · exact h2 p hp
      · cases h : (Z (k + 1 + i)).toList.isEmpty <;> rw [h] at hp <;> simp at hp
        subst hp
        show k < k + 1 + i
        omega
/-- A failure that so many writes survive. -/
def failM (l : List (Nat × ByteArray)) (su : List ByteArray) (m : Nat) (torn : Int) : List ByteArray :=
  match l[m]? with
  | some p => tornP p (setsP (l.take m) su) torn
  | none => setsP l su
theorem failP_m (l : List (Nat × ByteArray)) (su : List ByteArray) (keep torn : Int) : failP l su keep torn = failM l su (shr keep l.length) torn := rfl
theorem setsP_far {l : List (Nat × ByteArray)} {i : Nat} (h : ∀ p ∈ l, p.1 ≠ i) (su : List ByteArray) : (setsP l su)[i]? = su[i]? := (setsP_at l i su).elim id fun ⟨p, hp, e⟩ => absurd e (h p hp)
theorem failM_far {l : List (Nat × ByteArray)} {i : Nat} (h : ∀ p ∈ l, p.1 ≠ i) (su : List ByteArray) (m : Nat) (torn : Int) : (failM l su m torn)[i]? = su[i]? := by
  unfold failM
  rcases hm : l[m]? with _ | p
  · exact setsP_far h su
  · show (tornP p (setsP (l.take m) su) torn)[i]? = _
    unfold tornP
    rw [List.getElem?_set_ne (h p (List.mem_of_getElem? hm))]
    exact setsP_far (fun q hq => h q (List.mem_of_mem_take hq)) su
theorem fail_empty {k i m : Nat} (he : (Z k).toList.isEmpty = true) (su : List ByteArray) (torn : Int) : (failM (lw Z (k + 1 + i)) su m torn)[k]? = su[k]? :=
  failM_far (fun p hp e => by have := (lw_mem hp).2.2; rw [e, he] at this; exact absurd this (by decide)) su m torn
theorem fail_lost {k i m : Nat} (hm : m < (lw Z k).length) (su : List ByteArray) (torn : Int) : (failM (lw Z (k + 1 + i)) su m torn)[k]? = su[k]? := by
  obtain ⟨R, h1, h2⟩ := lw_split (Z := Z) k i
  rw [h1, lw_succ, List.append_assoc]
  unfold failM
  rw [List.getElem?_append_left hm, List.getElem?_eq_getElem hm]
  show (tornP _ (setsP (List.take m _) su) torn)[k]? = _
  unfold tornP
  have hb := (lw_mem (List.getElem_mem hm)).1
  rw [List.getElem?_set_ne (by omega), List.take_append_of_le_length (by omega)]
  exact setsP_far (fun q hq => by have := (lw_mem (List.mem_of_mem_take hq)).1; omega) su
theorem fail_torn {k i m : Nat} (he : (Z k).toList.isEmpty = false) (hm : m = (lw Z k).length) (su : List ByteArray) (hk : k < su.length) (torn : Int) : (failM (lw Z (k + 1 + i)) su m torn)[k]? = some (tearB (Z k) (su.getD k ⟨#[]⟩) (shr torn (Z k).size)) := by
  obtain ⟨R, h1, h2⟩ := lw_split (Z := Z) k i
  rw [h1, lw_succ, he, List.append_assoc]
  subst hm
  unfold failM
  rw [List.getElem?_append_right (Nat.le_refl _), Nat.sub_self]
  show (tornP (k, Z k) (setsP (List.take _ _) su) torn)[k]? = _
  rw [List.take_left]
  unfold tornP
  rw [List.getElem?_set_self (by rw [setsP_len]; exact hk)]
  have hf := setsP_far (l := lw Z k) (i := k) (fun q hq => by have := (lw_mem hq).1; omega) su
  show some (tearB (Z k) ((setsP (lw Z k) su).getD k _) (shr torn (Z k).size)) = _
  rw [List.getD_eq_getElem?_getD, hf, ← List.getD_eq_getElem?_getD]
theorem fail_whole {k i m : Nat} (he : (Z k).toList.isEmpty = false) (hm : (lw Z k).length < m) (su : List ByteArray) (hk : k < su.length) (torn : Int) : (failM (lw Z (k + 1 + i)) su m torn)[k]? = some (Z k) := by
  obtain ⟨R, h1, h2⟩ := lw_split (Z := Z) k i
  have hl : lw Z (k + 1) = lw Z k ++ [(k, Z k)] := by rw [lw_succ, he]; rfl
  have hlen : (lw Z (k + 1)).length = (lw Z k).length + 1 := by rw [hl, List.length_append]; rfl
  have hset : ∀ R', (∀ p ∈ R', k < p.1) → (setsP (lw Z (k + 1) ++ R') su)[k]? = some (Z k) := by
    intro R' h'
    rw [setsP_app, setsP_far (fun p hp => by have := h' p hp; omega), hl, setsP_snoc]
    exact List.getElem?_set_self (by rw [setsP_len]; exact hk)
  rw [h1]
  unfold failM
  rcases hg : (lw Z (k + 1) ++ R)[m]? with _ | p
  · exact hset R h2
  · show (tornP p (setsP (List.take m _) su) torn)[k]? = _
    rw [List.getElem?_append_right (by omega)] at hg
    have hp := h2 p (List.mem_of_getElem? hg)
    unfold tornP
    rw [List.getElem?_set_ne (by omega), List.take_append, List.take_of_length_le (by omega)]
    exact hset _ (fun q hq => h2 q (List.mem_of_mem_take hq))
end
theorem getD_of {l : List ByteArray} {k : Nat} {x : ByteArray} (h : l[k]? = some x) : l.getD k ⟨#[]⟩ = x := by rw [List.getD_eq_getElem?_getD, h]; rfl
theorem getD_same {l m : List ByteArray} {k : Nat} (h : l[k]? = m[k]?) : l.getD k ⟨#[]⟩ = m.getD k ⟨#[]⟩ := by rw [List.getD_eq_getElem?_getD, h, ← List.getD_eq_getElem?_getD]
theorem fail_four {Z : Nat → ByteArray} {S : List ByteArray} {m k : Nat} (torn : Int) (hk : k < 4) (hS : S.length = 4) :
    ((Z k).toList.isEmpty = true → (failM (lw Z 4) S m torn).getD k ⟨#[]⟩ = S.getD k ⟨#[]⟩) ∧
    ((Z k).toList.isEmpty = false → (lw Z k).length < m → (failM (lw Z 4) S m torn).getD k ⟨#[]⟩ = Z k) ∧
    ((Z k).toList.isEmpty = false → (lw Z k).length = m → (failM (lw Z 4) S m torn).getD k ⟨#[]⟩ = tearB (Z k) (S.getD k ⟨#[]⟩) (shr torn (Z k).size)) ∧
    (m < (lw Z k).length → (failM (lw Z 4) S m torn).getD k ⟨#[]⟩ = S.getD k ⟨#[]⟩) := by
  have e : 4 = k + 1 + (3 - k) := by omega
  rw [e]
  exact ⟨fun he => getD_same (fail_empty he S torn), fun he hm => getD_of (fail_whole he hm S (by omega) torn), fun he hm => getD_of (fail_torn he hm.symm S (by omega) torn), fun hm => getD_same (fail_lost hm S torn)⟩
theorem lw_more {Z : Nat → ByteArray} (k : Nat) : (lw Z (k + 1)).length = (lw Z k).length + bif (Z k).toList.isEmpty then 0 else 1 := by
  rw [lw_succ, List.length_append]
  cases (Z k).toList.isEmpty <;> rfl
theorem bytes_ne {s s' : ByteArray} (h : ¬ s = s') : (s.toList == s'.toList) = false := by
  rw [beq_eq_false_iff_ne, Ne, Go.ByteArray.toList_eq, Go.ByteArray.toList_eq]
  intro e
  exact h (ByteArray.ext (Array.toList_inj.1 e))
theorem tearB_out {s had : ByteArray} {k : Nat} (h : ¬ k < had.size) : tearB s had k = s.extract 0 k := by
  unfold tearB
  rw [Nat.min_eq_right (by omega)]
  simp
theorem mixed_any (a b : ByteArray) (t : Nat) (ht : t ≤ a.size) (ha : a.size ≤ 1000000) (hb : b.size ≤ 1000000) (w : World) : Calls Try.prog 21 #[.string (tearB a b t), .string a, .string b] w fun e w' => e = .returned (.bool true) ∧ w' = w := by
  obtain ⟨x, hx⟩ : ∃ x, tearB a b t = x := ⟨_, rfl⟩
  have HX := Lib.hid hx
  rw [hx]
  clear hx
  go_enter Try.func21, Try.ntmps21
  go_wp2_with fail
  go_loopw [7] (fun i wr => ∃ k : Nat, i = .int .i64 (k : Int) ∧ k ≤ t ∧ w = wr) (fun i _ => t - (intOf i).toNat)
  case atStart => exact ⟨0, rfl, Nat.zero_le _, rfl⟩
  case round =>
    obtain ⟨k, rfl, hk, rfl⟩ := hrel
    have hkz : (k : Int) ≤ (a.size : Int) := by omega
    by_cases hkb : k < b.size
    · have hkbz : (k : Int) < (b.size : Int) := by omega
      have htk := tearB_in (s := a) (had := b) (k := k) (by omega)
      by_cases he : tearB a b k = x
      · rw [htk] at he
        go_wp2_with fail
        go_ret
        exact ⟨rfl, rfl⟩
      · have hkt : k < t := by
          rcases Nat.lt_or_ge k t with h | h
          · exact h
          · obtain rfl : k = t := by omega
            exact absurd HX.out he
        rw [htk] at he
        have hne := bytes_ne he
        clear he htk
        go_wp2_with fail
        go_roundw
        case rel => exact ⟨k + 1, by go_num, by omega, by first | trivial | rfl⟩
        case measure => simp [intOf]; omega
    · have hkbz : ¬ (k : Int) < (b.size : Int) := by omega
      have htk := tearB_out (s := a) (had := b) (k := k) hkb
      by_cases he : tearB a b k = x
      · rw [htk] at he
        go_wp2_with fail
        go_ret
        exact ⟨rfl, rfl⟩
      · have hkt : k < t := by
          rcases Nat.lt_or_ge k t with h | h
          · exact h
          · obtain rfl : k = t := by omega
            exact absurd HX.out he
        rw [htk] at he
        have hne := bytes_ne he
        clear he htk
        go_wp2_with fail
        go_roundw
        case rel => exact ⟨k + 1, by go_num, by omega, by first | trivial | rfl⟩
        case measure => simp [intOf]; omega
end Go.Proofs.Ytebcodbpgleoiaa
