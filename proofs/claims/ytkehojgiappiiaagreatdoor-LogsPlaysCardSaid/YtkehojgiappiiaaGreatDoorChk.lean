/- Bytes in the blocks of a half: what writes make of them, whole or torn, and what is read: plain. Conditions: none. -/
import Derived.Test.YtkehojgiappiiaaGreatDoorAbs
import Derived.Test.YtkehojgiappiiaaGreatDoorFrmB
set_option linter.unusedVariables false
set_option linter.unusedSimpArgs false
namespace Go.Proofs.YtkehojgiappiiaaGreatDoor
open Go Go.RowKit
/-- Block i's bytes of a half that holds bytes. -/
def chk (E : List UInt8) (i : Nat) : ByteArray := ⟨((E.drop (128 * i)).take 128).toArray⟩
theorem chk_list (E : List UInt8) (i : Nat) : (chk E i).data.toList = (E.drop (128 * i)).take 128 := rfl
theorem chk_size (E : List UInt8) (i : Nat) : (chk E i).size = min 128 (E.length - 128 * i) := by
  show ((E.drop (128 * i)).take 128).length = _
  rw [List.length_take, List.length_drop]
theorem chk_le (E : List UInt8) (i : Nat) : (chk E i).size ≤ 128 := by rw [chk_size]; omega
theorem chk_ext {E D : List UInt8} {i j : Nat} (h : (E.drop (128 * i)).take 128 = (D.drop (128 * j)).take 128) : chk E i = chk D j := by
  unfold chk
  rw [h]
theorem chk_full {E : List UInt8} {m i : Nat} (h : 128 * (i + 1) ≤ m) : chk (E.take m) i = chk E i := by
  refine chk_ext ?_
  rw [List.drop_take, List.take_take, Nat.min_eq_left (by omega)]
theorem chk_over {E : List UInt8} {m i : Nat} (h : m ≤ 128 * i) : chk (E.take m) i = ⟨#[]⟩ := by
  unfold chk
  rw [List.drop_take, show m - 128 * i = 0 by omega, List.take_zero, List.take_nil]
theorem chk_none {E : List UInt8} {i : Nat} (h : E.length ≤ 128 * i) : chk E i = ⟨#[]⟩ := by
  unfold chk
  rw [List.drop_eq_nil_of_le h, List.take_nil]
theorem chk_drop (E : List UInt8) (k i : Nat) : chk (E.drop (128 * k)) i = chk E (k + i) := by
  refine chk_ext ?_
  rw [List.drop_drop, show 128 * k + 128 * i = 128 * (k + i) by omega]
/-- A half that holds bytes. -/
def AtH (su : List ByteArray) (b n : Nat) (E : List UInt8) : Prop := ∀ i, i < n → su[b + i]? = some (chk E i)
theorem AtH.len {su : List ByteArray} {b n : Nat} {E : List UInt8} (h : AtH su b n E) (hn : 0 < n) : b + n ≤ su.length := by
  have := (List.getElem?_eq_some_iff.1 (h (n - 1) (by omega))).1
  omega
theorem AtH.get {su : List ByteArray} {b n i : Nat} {E : List UInt8} (h : AtH su b n E) (hi : i < n) : su.getD (b + i) ⟨#[]⟩ = chk E i := by
  rw [List.getD_eq_getElem?_getD, h i hi]
  rfl
theorem AtH.same {su sv : List ByteArray} {b n : Nat} {E : List UInt8} (h : AtH su b n E) (hs : ∀ j, b ≤ j → j < b + n → sv[j]? = su[j]?) : AtH sv b n E :=
  fun i hi => (hs (b + i) (by omega) (by omega)).trans (h i hi)
/-- Writes by which a half comes to hold more and more of some bytes. -/
inductive Way (b n : Nat) (E : List UInt8) : Nat → List (Nat × ByteArray) → Nat → Prop
  | nil (m : Nat) : Way b n E m [] m
  | cons {m m' m'' i : Nat} {l : List (Nat × ByteArray)} (hm : m ≤ m') (hE : m' ≤ E.length) (hi : i < n) (hj : ∀ j, j ≠ i → chk (E.take m') j = chk (E.take m) j) (hw : Way b n E m' l m'') : Way b n E m ((b + i, chk (E.take m') i) :: l) m''
section
variable {b n : Nat} {E : List UInt8} {m m' m'' : Nat} {l l' : List (Nat × ByteArray)} {su : List ByteArray}
theorem Way.le (h : Way b n E m l m') : m ≤ m' := by
  induction h with
  | nil => exact Nat.le_refl _
  | cons hm _ _ _ _ ih => omega
theorem Way.app (h : Way b n E m l m') (k : Way b n E m' l' m'') : Way b n E m (l ++ l') m'' := by
  induction h with
  | nil => exact k
  | cons hm hE hi hj _ ih => exact .cons hm hE hi hj (ih k)
theorem Way.grow (h : Way b n E m l m') (X : List UInt8) : Way b n (E ++ X) m l m' := by
  induction h with
  | nil => exact .nil _
  | @cons m m' m'' i l hm hE hi hj hw ih =>
    have e : (E ++ X).take m' = E.take m' := List.take_append_of_le_length hE
    have e0 : (E ++ X).take m = E.take m := List.take_append_of_le_length (by omega)
    rw [← e]
    exact .cons hm (by rw [List.length_append]; omega) hi (by rw [e, e0]; exact hj) ih
theorem Way.place (h : Way b n E m l m') : ∀ p ∈ l, b ≤ p.1 ∧ p.1 < b + n := by
  induction h with
  | nil => intro p hp; simp at hp
  | cons hm hE hi hj _ ih =>
    intro p hp
    rcases List.mem_cons.1 hp with rfl | hp
    · simp only; omega
    · exact ih p hp
theorem at_step {i : Nat} {s : ByteArray} (h : AtH su b n (E.take m)) (hi : i < n) (hj : ∀ j, j ≠ i → chk (E.take m') j = chk (E.take m) j) (hs : s = chk (E.take m') i) : AtH (su.set (b + i) s) b n (E.take m') := by
  intro k hk
  by_cases hki : k = i
  · subst hki
    rw [List.getElem?_set_self (by have := h.len (by omega); omega), hs]
  · rw [List.getElem?_set_ne (by omega), h k hk, hj k hki]
theorem Way.at_ (h : Way b n E m l m') : ∀ su, AtH su b n (E.take m) → AtH (setsP l su) b n (E.take m') := by
  induction h with
  | nil => exact fun _ h => h
  | cons hm hE hi hj _ ih => exact fun su hs => ih _ (at_step hs hi hj rfl)
theorem Way.cut (h : Way b n E m l m') : ∀ k, k ≤ l.length → ∃ mk, Way b n E m (l.take k) mk ∧ Way b n E mk (l.drop k) m' := by
  induction h with
  | nil m => exact fun k _ => ⟨m, by rw [List.take_nil]; exact .nil _, by rw [List.drop_nil]; exact .nil _⟩
  | @cons m m' m'' i l hm hE hi hj hw ih =>
    intro k hk
    rcases k with _ | k
    · exact ⟨m, .nil _, .cons hm hE hi hj hw⟩
    · obtain ⟨mk, h1, h2⟩ := ih k (by rw [List.length_cons] at hk; omega)
      exact ⟨mk, .cons hm hE hi hj h1, h2⟩
theorem tear_chk {i t : Nat} (hm : m ≤ m') (hE : m' ≤ E.length) (ht : t ≤ (chk (E.take m') i).size) (hj : ∀ j, j ≠ i → chk (E.take m') j = chk (E.take m) j) :
    ∃ k, m ≤ k ∧ k ≤ m' ∧ tearB (chk (E.take m') i) (chk (E.take m) i) t = chk (E.take k) i ∧ ∀ j, j ≠ i → chk (E.take k) j = chk (E.take m) j := by
  have hl' : (E.take m').length = m' := by rw [List.length_take]; omega
  have hl : (E.take m).length = m := by rw [List.length_take]; omega
  have s1 := chk_size (E.take m') i
  have s0 := chk_size (E.take m) i
  rw [hl'] at s1
  rw [hl] at s0
  have key : ∀ k x, m ≤ k → k ≤ m' → x = tearB (chk (E.take m') i) (chk (E.take m) i) t → x.data.toList = ((E.take k).drop (128 * i)).take 128 → (∀ j, j ≠ i → chk (E.take k) j = chk (E.take m) j) → ∃ k, m ≤ k ∧ k ≤ m' ∧ tearB (chk (E.take m') i) (chk (E.take m) i) t = chk (E.take k) i ∧ ∀ j, j ≠ i → chk (E.take k) j = chk (E.take m) j := by
    intro k x h1 h2 h3 h4 h5
    refine ⟨k, h1, h2, ?_, h5⟩
    rw [← h3]
    exact bytes_ext h4
  by_cases hov : (chk (E.take m) i).size < t
  · refine key (128 * i + t) _ (by omega) (by omega) rfl ?_ ?_
    · rw [tearB_over hov, Lib.extract_data, chk_list, List.drop_zero, List.drop_take, List.drop_take]
      rw [List.take_take, List.take_take, List.take_take]
      congr 1
      omega
    · intro j hji
      rw [← hj j hji]
      rcases Nat.lt_or_gt_of_ne hji with h | h
      · rw [chk_full (by omega), chk_full (by omega)]
      · rw [hj j hji, chk_over (by omega), chk_over (by omega)]
  · refine key m _ (Nat.le_refl _) hm rfl ?_ (fun _ _ => rfl)
    have e2 : ((E.take m).drop (128 * i)).take 128 = ((E.take m).drop (128 * i)).take t ++ (((E.take m).drop (128 * i)).drop t).take (128 - t) := by
      rw [← List.take_add]
      congr 1
      omega
    have e3 : ((E.take m).drop (128 * i)).take t = (E.drop (128 * i)).take t := by
      rw [List.drop_take, List.take_take]
      congr 1
      omega
    rw [tearB_in hov, ByteArray.data_append, Array.toList_append, Lib.extract_data, Lib.extract_to_end, chk_list, chk_list, e2, ← e2, List.drop_zero, List.drop_take, List.take_take, List.take_take, List.drop_take, e2, e3]
    congr 1
    congr 1
    omega
theorem failP_some {keep torn : Int} {k : Nat} {p : Nat × ByteArray} (hk : shr keep l.length = k) (hp : l[k]? = some p) : failP l su keep torn = tornP p (setsP (l.take k) su) torn := by
  unfold failP
  rw [hk, hp]
theorem failP_none' {keep torn : Int} (hp : l[shr keep l.length]? = none) : failP l su keep torn = setsP l su := by
  unfold failP
  rw [hp]
/-- Where the power fails a half holds a beginning of the bytes; what other blocks have is as it was. -/
theorem Way.fail (h : Way b n E m l m') (hE : m' ≤ E.length) (hs : AtH su b n (E.take m)) (keep torn : Int) :
    ∃ k, m ≤ k ∧ k ≤ m' ∧ AtH (failP l su keep torn) b n (E.take k) ∧ (l = [] → k = m') ∧ (shr keep l.length = l.length → k = m') := by
  have hle := shr_le keep l.length
  generalize hk : shr keep l.length = k at *
  rcases Nat.lt_or_ge k l.length with hlt | hge
  · obtain ⟨mk, h1, h2⟩ := h.cut k hle
    have hp : l[k]? = some l[k] := List.getElem?_eq_getElem hlt
    rw [failP_some hk hp]
    have ha := h1.at_ su hs
    rw [List.drop_eq_getElem_cons hlt] at h2
    generalize hq : l[k] = q at h2
    generalize l.drop (k + 1) = lr at h2
    generalize hqq : q :: lr = ql at h2
    cases h2 with
    | nil => simp at hqq
    | @cons _ mn _ i l2 hm hE' hi hj hw =>
      simp only [List.cons.injEq] at hqq
      obtain ⟨rfl, rfl⟩ := hqq
      obtain ⟨kk, a1, a2, a3, a4⟩ := tear_chk (t := shr torn (chk (E.take mn) i).size) hm hE' (shr_le _ _) hj
      refine ⟨kk, by have := h1.le; omega, by have := hw.le; omega, ?_, fun e => by subst e; simp at hlt, fun e => by omega⟩
      refine at_step ha hi a4 ?_
      rw [ha.get hi]
      exact a3
  · rw [failP_none' (by rw [hk]; exact List.getElem?_eq_none hge)]
    exact ⟨m', h.le, Nat.le_refl _, h.at_ su hs, fun _ => rfl, fun _ => rfl⟩
theorem failP_len (l : List (Nat × ByteArray)) (su : List ByteArray) (keep torn : Int) : (failP l su keep torn).length = su.length := by
  unfold failP
  split
  · unfold tornP; rw [List.length_set, setsP_len]
  · rw [setsP_len]
theorem failP_at {keep torn : Int} {i : Nat} (h : ∀ p ∈ l, p.1 ≠ i) : (failP l su keep torn)[i]? = su[i]? := by
  unfold failP
  split
  next p hp =>
    unfold tornP
    rw [List.getElem?_set_ne (h p (List.mem_of_getElem? hp))]
    exact (setsP_at _ i su).elim id fun ⟨q, hq, e⟩ => absurd e (h q (List.mem_of_mem_take hq))
  next => exact (setsP_at _ i su).elim id fun ⟨q, hq, e⟩ => absurd e (h q hq)
theorem setsP_other {i : Nat} (h : ∀ p ∈ l, p.1 ≠ i) : (setsP l su)[i]? = su[i]? := (setsP_at _ i su).elim id fun ⟨q, hq, e⟩ => absurd e (h q hq)
end
/-- The writes by which blocks come to have bytes. -/
def layW (nw : List ByteArray) : Nat → Nat → List UInt8 → List (Nat × ByteArray)
  | _, 0, _ => []
  | b, n + 1, s => (if nw.getD b ⟨#[]⟩ = chk s 0 then [] else [(b, chk s 0)]) ++ layW nw (b + 1) n (s.drop 128)
theorem layW_len (nw : List ByteArray) : ∀ n b s, (layW nw b n s).length ≤ n
  | 0, _, _ => Nat.le_refl _
  | n + 1, b, s => by
    have := layW_len nw n (b + 1) (s.drop 128)
    rw [layW, List.length_append]
    split
    · simp; omega
    · simp; omega
theorem layW_place (nw : List ByteArray) : ∀ n b s, ∀ p ∈ layW nw b n s, b ≤ p.1 ∧ p.1 < b + n
  | 0, _, _, p, hp => by simp [layW] at hp
  | n + 1, b, s, p, hp => by
    rw [layW] at hp
    rcases List.mem_append.1 hp with h | h
    · split at h
      · simp at h
      · simp only [List.mem_singleton] at h
        subst h
        simp only
        omega
    · have := layW_place nw n (b + 1) (s.drop 128) p h
      omega
theorem chk_next (s : List UInt8) (i : Nat) : chk (s.drop 128) i = chk s (i + 1) := by
  have := chk_drop s 1 i
  rw [Nat.mul_one] at this
  rw [this, Nat.add_comm]
theorem layW_sets (nw : List ByteArray) : ∀ n b s X, (∀ j, b ≤ j → j < b + n → X[j]? = nw[j]?) → b + n ≤ X.length → (∀ i, i < n → (setsP (layW nw b n s) X)[b + i]? = some (chk s i)) ∧ ∀ j, j < b ∨ b + n ≤ j → (setsP (layW nw b n s) X)[j]? = X[j]?
  | 0, b, s, X, _, _ => ⟨fun i hi => by omega, fun j _ => rfl⟩
  | n + 1, b, s, X, hX, hl => by
    rw [layW, setsP_app]
    obtain ⟨Y, hY, hYl, h0, h1⟩ : ∃ Y, setsP (if nw.getD b ⟨#[]⟩ = chk s 0 then [] else [(b, chk s 0)]) X = Y ∧ Y.length = X.length ∧ Y[b]? = some (chk s 0) ∧ ∀ j, j ≠ b → Y[j]? = X[j]? := by
      split
      next h =>
        refine ⟨X, rfl, rfl, ?_, fun _ _ => rfl⟩
        rw [← h, List.getD_eq_getElem?_getD, ← hX b (Nat.le_refl _) (by omega), List.getElem?_eq_getElem (by omega)]
        rfl
      next h => exact ⟨X.set b (chk s 0), rfl, List.length_set .., List.getElem?_set_self (by omega), fun j hj => List.getElem?_set_ne (by omega)⟩
    rw [hY]
    obtain ⟨a1, a2⟩ := layW_sets nw n (b + 1) (s.drop 128) Y (fun j hj hj2 => (h1 j (by omega)).trans (hX j (by omega) (by omega))) (by omega)
    refine ⟨fun i hi => ?_, fun j hj => (a2 j (by omega)).trans (h1 j (by omega))⟩
    rcases i with _ | i
    · exact (a2 b (by omega)).trans h0
    · have := a1 i (by omega)
      rw [chk_next] at this
      rwa [show b + 1 + i = b + (i + 1) by omega] at this
theorem layW_nil (nw : List ByteArray) : ∀ n b s, (∀ i, i < n → nw[b + i]? = some (chk s i)) → layW nw b n s = []
  | 0, _, _, _ => rfl
  | n + 1, b, s, h => by
    have h0 := h 0 (by omega)
    rw [Nat.add_zero] at h0
    rw [layW, List.getD_eq_getElem?_getD, h0, layW_nil nw n (b + 1) (s.drop 128) fun i hi => by
      have := h (i + 1) (by omega)
      rw [chk_next]
      rwa [show b + 1 + i = b + (i + 1) by omega]]
    simp
/-- .. as a way from what the half held. -/
theorem layW_way (nw : List ByteArray) (b n : Nat) (E : List UInt8) : ∀ c i m, 128 * i ≤ m → m ≤ 128 * (i + 1) → m ≤ E.length → i + c ≤ n → E.length ≤ 128 * (i + c) → (∀ j, i ≤ j → j < i + c → nw[b + j]? = some (chk (E.take m) j)) → Way b n E m (layW nw (b + i) c (E.drop (128 * i))) E.length
  | 0, i, m, h1, h2, h3, h4, h5, h6 => by
    have : m = E.length := by omega
    subst this
    exact .nil _
  | c + 1, i, m, h1, h2, h3, h4, h5, h6 => by
    have hm' : ∃ m', m' = min (128 * (i + 1)) E.length := ⟨_, rfl⟩
    obtain ⟨m', hm'⟩ := hm'
    have e1 : chk (E.drop (128 * i)) 0 = chk (E.take m') i := by
      rw [chk_drop, Nat.add_zero]
      rcases Nat.lt_or_ge E.length (128 * (i + 1)) with h | h
      · rw [show m' = E.length by omega, List.take_length]
      · rw [chk_full (by omega)]
    have e2 : (E.drop (128 * i)).drop 128 = E.drop (128 * (i + 1)) := by rw [List.drop_drop]; congr 1
    have hhad : nw.getD (b + i) ⟨#[]⟩ = chk (E.take m) i := by
      rw [List.getD_eq_getElem?_getD, h6 i (Nat.le_refl _) (by omega)]
      rfl
    have hrest : ∀ j, i + 1 ≤ j → j < i + 1 + c → nw[b + j]? = some (chk (E.take m') j) := fun j hj hj2 => by
      rw [h6 j (by omega) (by omega), chk_over (by omega), chk_over (by omega)]
    have ih := layW_way nw b n E c (i + 1) m' 
    rw [layW, hhad, e1, e2, show b + i + 1 = b + (i + 1) by omega]
    by_cases hs : chk (E.take m) i = chk (E.take m') i
    · rw [if_pos hs, List.nil_append]
      have hz := congrArg ByteArray.size hs
      rw [chk_size, chk_size, List.length_take, List.length_take] at hz
      have : m = m' := by omega
      subst this
      rcases Nat.lt_or_ge m (128 * (i + 1)) with h | h
      · have hE : m = E.length := by omega
        have hd : E.drop (128 * (i + 1)) = [] := List.drop_eq_nil_of_le (by omega)
        rw [layW_nil, ← hE]
        · exact .nil _
        · intro j hj
          rw [hd, chk_none (by simp), show b + (i + 1) + j = b + (i + 1 + j) by omega, h6 _ (by omega) (by omega), chk_over (by omega)]
      · exact ih (by omega) (by omega) h3 (by omega) (by omega) hrest
    · rw [if_neg hs]
      refine .cons (by omega) (by omega) (by omega) (fun j hj => ?_) ?_
      · rcases Nat.lt_or_gt_of_ne hj with h | h
        · rw [chk_full (by omega), chk_full (by omega)]
        · rw [chk_over (by omega), chk_over (by omega)]
      · rcases Nat.lt_or_ge m' (128 * (i + 1)) with h | h
        · have hE : m' = E.length := by omega
          have hd : E.drop (128 * (i + 1)) = [] := List.drop_eq_nil_of_le (by omega)
          rw [layW_nil, ← hE]
          · exact .nil _
          · intro j hj
            rw [hd, chk_none (by simp), show b + (i + 1) + j = b + (i + 1 + j) by omega, h6 _ (by omega) (by omega), chk_over (by omega)]
        · exact ih (by omega) (by omega) (by omega) (by omega) (by omega) hrest
/-- What reading a half tells. -/
def readL (nw : List ByteArray) : Nat → Nat → List UInt8
  | _, 0 => []
  | b, n + 1 => (nw.getD b ⟨#[]⟩).data.toList ++ (if (nw.getD b ⟨#[]⟩).size < 128 then [] else readL nw (b + 1) n)
theorem readL_at (nw : List ByteArray) (E : List UInt8) (b : Nat) : ∀ n i, (∀ j, j < n → nw[b + i + j]? = some (chk E (i + j))) → E.length ≤ 128 * (i + n) → readL nw (b + i) n = E.drop (128 * i)
  | 0, i, _, hE => by rw [readL, List.drop_eq_nil_of_le (by omega)]
  | n + 1, i, h, hE => by
    have h0 := h 0 (by omega)
    rw [Nat.add_zero, Nat.add_zero] at h0
    have hg : nw.getD (b + i) ⟨#[]⟩ = chk E i := by rw [List.getD_eq_getElem?_getD, h0]; rfl
    have ih := readL_at nw E b n (i + 1) (fun j hj => by
      have := h (j + 1) (by omega)
      rwa [show b + (i + 1) + j = b + i + (j + 1) by omega, show i + 1 + j = i + (j + 1) by omega]) (by omega)
    rw [readL, hg, chk_list, chk_size]
    split
    next hs => rw [List.append_nil, List.take_of_length_le (by rw [List.length_drop]; omega)]
    next hs =>
      rw [show b + i + 1 = b + (i + 1) by omega, ih, show 128 * (i + 1) = 128 * i + 128 by omega, ← List.drop_drop, List.take_append_drop]
theorem AtH.read {nw : List ByteArray} {b n : Nat} {E : List UInt8} (h : AtH nw b n E) (hE : E.length ≤ 128 * n) : readL nw b n = E := by
  have := readL_at nw E b n 0 (fun j hj => by rw [Nat.add_zero, Nat.zero_add]; exact h j hj) (by omega)
  rwa [Nat.mul_zero, List.drop_zero] at this
/-- Whole frames within a beginning. -/
theorem wh_ge : ∀ (R : List (List UInt8)) (k m : Nat), k ≤ R.length → (encs (R.take k)).length ≤ m → k ≤ wh R m
  | _, 0, _, _, _ => Nat.zero_le _
  | [], k + 1, m, h, _ => by simp at h
  | t :: R, k + 1, m, h, hm => by
    rw [List.take_succ_cons, encs_cons, List.length_append, enc_len] at hm
    rw [wh, if_pos (by omega)]
    have := wh_ge R k (m - (t.length + 14)) (by rw [List.length_cons] at h; omega) (by omega)
    omega
theorem wh_len : ∀ (R : List (List UInt8)) (m : Nat), wh R m ≤ R.length ∧ (encs (R.take (wh R m))).length ≤ m
  | [], m => by simp [wh, encs]
  | t :: R, m => by
    rw [wh]
    split
    next h =>
      have := wh_len R (m - (t.length + 14))
      rw [List.take_succ_cons, encs_cons, List.length_append, enc_len, List.length_cons]
      omega
    next h => exact ⟨Nat.zero_le _, by simp [encs]⟩
theorem wh_all (R : List (List UInt8)) : wh R (encs R).length = R.length :=
  Nat.le_antisymm (wh_len R _).1 (wh_ge R R.length _ (Nat.le_refl _) (by rw [List.take_length]; exact Nat.le_refl _))
theorem encs_take_pre (R : List (List UInt8)) (k : Nat) : encs R = encs (R.take k) ++ encs (R.drop k) := by
  rw [← encs_append, List.take_append_drop]
theorem encs_cut (R : List (List UInt8)) (k m : Nat) (h : (encs (R.take k)).length ≤ m) : encs (R.take k) = ((encs R).take m).take (encs (R.take k)).length := by
  have e := encs_take_pre R k
  rw [List.take_take, Nat.min_eq_left h, e]
  exact (List.take_left' rfl).symm
end Go.Proofs.YtkehojgiappiiaaGreatDoor
