/- A ring of places: which node is the first from a place on: plain. Conditions: none. -/
import Derived.LoopTactic
import Derived.Lib.Hide
set_option linter.unusedVariables false
set_option linter.unusedSimpArgs false
namespace Go.Proofs.YtmepahlmbopacaaDoor
open Go
/-- How far it is from s on to q, round and round. -/
def farR (s q : Int) : Int := (q - s) % 16777216
def InR (q : Int) : Prop := 0 ≤ q ∧ q < 16777216
theorem far_self (s : Int) : farR s s = 0 := by unfold farR; omega
theorem far_pos (s q : Int) : 0 ≤ farR s q := by unfold farR; omega
theorem far_eq {s q r : Int} (hq : InR q) (hr : InR r) (h : farR s q = farR s r) : q = r := by unfold farR InR at *; omega
/-- The least node at the first place from s on. Z: which node is at which place. -/
def IsHome (Z : List (Int × Int)) (s m : Int) : Prop := ∃ q, (m, q) ∈ Z ∧ (∀ x ∈ Z, farR s q ≤ farR s x.2) ∧ ∀ n, (n, q) ∈ Z → m ≤ n
theorem IsHome.uniq {Z : List (Int × Int)} {s m k : Int} (hZ : ∀ x ∈ Z, InR x.2) (h : IsHome Z s m) (h' : IsHome Z s k) : m = k := by
  obtain ⟨q, h1, h2, h3⟩ := h
  obtain ⟨r, k1, k2, k3⟩ := h'
  have e : q = r := far_eq (s := s) (hZ _ h1) (hZ _ k1) (Int.le_antisymm (h2 _ k1) (k2 _ h1))
  subst e
  have := h3 _ k1
  have := k3 _ h1
  omega
/-- One node more. -/
theorem IsHome.less {Z Y : List (Int × Int)} {s m k : Int} (h : IsHome Z s m) (hsub : ∀ x ∈ Y, x ∈ Z) (hk : ∀ x ∈ Z, x ∈ Y ∨ x.1 = k) (hm : m ≠ k) : IsHome Y s m := by
  obtain ⟨q, h1, h2, h3⟩ := h
  refine ⟨q, (hk _ h1).resolve_right hm, fun x hx => h2 x (hsub x hx), fun n hn => h3 n (hsub _ hn)⟩
theorem IsHome.at_ {Z : List (Int × Int)} {s m : Int} (hs : InR s) (hZ : ∀ x ∈ Z, InR x.2) (h : IsHome Z s m) {n : Int} (hn : (n, s) ∈ Z) : (m, s) ∈ Z ∧ ∀ k, (k, s) ∈ Z → m ≤ k := by
  obtain ⟨q, h1, h2, h3⟩ := h
  have h4 := h2 _ hn
  simp only [far_self] at h4
  have h5 := far_pos s q
  have e : q = s := far_eq (s := s) (hZ _ h1) hs (by rw [far_self]; omega)
  subst e
  exact ⟨h1, h3⟩
/-- What is laid: the places, each once, and the least node at each. -/
structure RS (Z : List (Int × Int)) (PL : List Int) (f : Int → Option Int) : Prop where
  nd : PL.Nodup
  mem : ∀ p, p ∈ PL ↔ ∃ n, (n, p) ∈ Z
  is_ : ∀ p m, f p = some m → (m, p) ∈ Z ∧ ∀ n, (n, p) ∈ Z → m ≤ n
  no : ∀ p, f p = none → ∀ n, (n, p) ∉ Z
  len : PL.length ≤ Z.length
  ok : ∀ x ∈ Z, InR x.2
def upd (f : Int → Option Int) (p n : Int) : Int → Option Int := fun q => if q = p then some n else f q
theorem RS.nil : RS [] [] (fun _ => none) := ⟨List.nodup_nil, fun p => by simp, fun p m h => by simp at h, fun p _ n h => by simp at h, Nat.le_refl _, fun x h => by simp at h⟩
theorem RS.new {Z : List (Int × Int)} {PL : List Int} {f : Int → Option Int} (h : RS Z PL f) {n p : Int} (hp : InR p) (hf : f p = none) : RS (Z ++ [(n, p)]) (PL ++ [p]) (upd f p n) := by
  have hno := h.no p hf
  refine ⟨?_, fun q => ?_, fun q m hq => ?_, fun q hq k hk => ?_, by simp; exact h.len, fun x hx => ?_⟩
  · rw [List.nodup_append]
    refine ⟨h.nd, by simp, fun a ha b hb => ?_⟩
    simp at hb
    subst hb
    intro e
    subst e
    obtain ⟨k, hk⟩ := (h.mem a).1 ha
    exact hno k hk
  · rw [List.mem_append, h.mem]
    constructor
    · rintro (⟨k, hk⟩ | hq)
      · exact ⟨k, List.mem_append_left _ hk⟩
      · simp at hq
        subst hq
        exact ⟨n, by simp⟩
    · rintro ⟨k, hk⟩
      rcases List.mem_append.1 hk with hk | hk
      · exact .inl ⟨k, hk⟩
      · simp at hk
        exact .inr (by simp [hk.2])
  · unfold upd at hq
    by_cases e : q = p
    · subst e
      rw [if_pos rfl] at hq
      injection hq with hq
      subst hq
      refine ⟨by simp, fun k hk => ?_⟩
      rcases List.mem_append.1 hk with hk | hk
      · exact absurd hk (hno k)
      · simp at hk
        omega
    · rw [if_neg e] at hq
      obtain ⟨h1, h2⟩ := h.is_ q m hq
      refine ⟨List.mem_append_left _ h1, fun k hk => ?_⟩
      rcases List.mem_append.1 hk with hk | hk
      · exact h2 k hk
      · simp at hk
        exact absurd hk.2 e
  · unfold upd at hq
    by_cases e : q = p
    · rw [if_pos e] at hq
      cases hq
    · rw [if_neg e] at hq
      rcases List.mem_append.1 hk with hk | hk
      · exact h.no q hq k hk
      · simp at hk
        exact e hk.2
  · rcases List.mem_append.1 hx with hx | hx
    · exact h.ok x hx
    · simp at hx
      subst hx
      exact hp
theorem RS.old {Z : List (Int × Int)} {PL : List Int} {f : Int → Option Int} (h : RS Z PL f) {n p o : Int} (hf : f p = some o) : RS (Z ++ [(n, p)]) PL (upd f p (min n o)) := by
  obtain ⟨g1, g2⟩ := h.is_ p o hf
  refine ⟨h.nd, fun q => ?_, fun q m hq => ?_, fun q hq k hk => ?_, by simp; have := h.len; omega, fun x hx => ?_⟩
  · rw [h.mem]
    constructor
    · rintro ⟨k, hk⟩
      exact ⟨k, List.mem_append_left _ hk⟩
    · rintro ⟨k, hk⟩
      rcases List.mem_append.1 hk with hk | hk
      · exact ⟨k, hk⟩
      · simp at hk
        exact ⟨o, by rw [hk.2]; exact g1⟩
  · unfold upd at hq
    by_cases e : q = p
    · subst e
      rw [if_pos rfl] at hq
      injection hq with hq
      subst hq
      constructor
      · rw [List.mem_append]
        rcases Int.le_total n o with hno | hno
        · rw [Int.min_eq_left hno]
          exact .inr (by simp)
        · rw [Int.min_eq_right hno]
          exact .inl g1
      · intro k hk
        rcases List.mem_append.1 hk with hk | hk
        · have := g2 k hk
          omega
        · simp at hk
          omega
    · rw [if_neg e] at hq
      obtain ⟨h1, h2⟩ := h.is_ q m hq
      refine ⟨List.mem_append_left _ h1, fun k hk => ?_⟩
      rcases List.mem_append.1 hk with hk | hk
      · exact h2 k hk
      · simp at hk
        exact absurd hk.2 e
  · unfold upd at hq
    by_cases e : q = p
    · rw [if_pos e] at hq
      cases hq
    · rw [if_neg e] at hq
      rcases List.mem_append.1 hk with hk | hk
      · exact h.no q hq k hk
      · simp at hk
        exact e hk.2
  · rcases List.mem_append.1 hx with hx | hx
    · exact h.ok x hx
    · simp at hx
      subst hx
      exact (h.ok (o, p) g1 : InR p)
/-- A search where what is asked turns from no to yes once: how many noes there are. -/
theorem count_mono (p : Nat → Bool) : ∀ n, (∀ a b, a ≤ b → b < n → p a = true → p b = true) → (List.range n).countP (fun i => !p i) ≤ n ∧ (∀ i, i < (List.range n).countP (fun i => !p i) → p i = false) ∧ ∀ i, (List.range n).countP (fun i => !p i) ≤ i → i < n → p i = true
  | 0, _ => ⟨Nat.le_refl _, fun i hi => by simp at hi, fun i _ hi => by omega⟩
  | n + 1, hm => by
    obtain ⟨h1, h2, h3⟩ := count_mono p n (fun a b hab hb => hm a b hab (by omega))
    rw [List.range_succ, List.countP_append]
    generalize hc : (List.range n).countP (fun i => !p i) = c at *
    by_cases hp : p n = true
    · have e : [n].countP (fun i => !p i) = 0 := by simp [hp]
      rw [e, Nat.add_zero]
      refine ⟨by omega, h2, fun i hi hin => ?_⟩
      by_cases e : i = n
      · subst e
        exact hp
      · exact h3 i hi (by omega)
    · have e : [n].countP (fun i => !p i) = 1 := by simp [hp]
      rw [e]
      have hcn : c = n := by
        rcases Nat.lt_or_ge c n with h | h
        · exact absurd (hm c n (by omega) (by omega) (h3 c (Nat.le_refl _) h)) hp
        · omega
      subst hcn
      refine ⟨Nat.le_refl _, fun i hi => ?_, fun i hi hin => by omega⟩
      by_cases e : i = c
      · subst e
        simpa using hp
      · exact h2 i (by omega)
def upto (PS : List Int) (s : Int) : Nat := (List.range PS.length).countP (fun i => !decide (s ≤ PS.getD i 0))
def firstOf (PS : List Int) (s : Int) : Nat := if upto PS s = PS.length then 0 else upto PS s
theorem sorted_get {PS : List Int} (h : PS.Pairwise (· ≤ ·)) {a b : Nat} (hab : a ≤ b) (hb : b < PS.length) : PS.getD a 0 ≤ PS.getD b 0 := by
  rcases Nat.lt_or_ge a b with hlt | hge
  · have := List.pairwise_iff_getElem.1 h a b (by omega) hb hlt
    rw [List.getD_eq_getElem?_getD, List.getD_eq_getElem?_getD, List.getElem?_eq_getElem (by omega), List.getElem?_eq_getElem hb]
    exact this
  · obtain rfl : a = b := by omega
    exact Int.le_refl _
theorem upto_facts {PS : List Int} (h : PS.Pairwise (· ≤ ·)) (s : Int) : upto PS s ≤ PS.length ∧ (∀ i, i < upto PS s → PS.getD i 0 < s) ∧ ∀ i, upto PS s ≤ i → i < PS.length → s ≤ PS.getD i 0 := by
  obtain ⟨h1, h2, h3⟩ := count_mono (fun i => decide (s ≤ PS.getD i 0)) PS.length (fun a b hab hb ha => by
    have := sorted_get h hab hb
    simp only [decide_eq_true_eq] at *
    omega)
  refine ⟨h1, fun i hi => ?_, fun i hi hin => ?_⟩
  · have := h2 i hi
    simp only [decide_eq_false_iff_not] at this
    omega
  · have := h3 i hi hin
    simpa using this
theorem first_lt {PS : List Int} (h : PS.Pairwise (· ≤ ·)) (s : Int) (hn : 0 < PS.length) : firstOf PS s < PS.length := by
  have := (upto_facts h s).1
  unfold firstOf
  split <;> omega
theorem home_is {Z : List (Int × Int)} {PL PS : List Int} {f : Int → Option Int} (h : RS Z PL f) (hp : PS.Perm PL) (hs : PS.Pairwise (· ≤ ·)) {s : Int} (hS : InR s) (hn : 0 < PS.length) :
    ∃ m, f (PS.getD (firstOf PS s) 0) = some m ∧ IsHome Z s m := by
  have hlt := first_lt hs s hn
  have getm : ∀ i, i < PS.length → PS.getD i 0 ∈ PL := fun i hi => by
    rw [List.getD_eq_getElem?_getD, List.getElem?_eq_getElem hi]
    exact hp.mem_iff.1 (List.getElem_mem _)
  have hin := getm _ hlt
  obtain ⟨k, hk⟩ := (h.mem _).1 hin
  rcases hf : f (PS.getD (firstOf PS s) 0) with _ | m
  · exact absurd hk (h.no _ hf k)
  · obtain ⟨g1, g2⟩ := h.is_ _ m hf
    refine ⟨m, rfl, PS.getD (firstOf PS s) 0, g1, fun x hx => ?_, g2⟩
    have hxm : x.2 ∈ PS := hp.mem_iff.2 ((h.mem _).2 ⟨x.1, hx⟩)
    obtain ⟨j, hj, e⟩ := List.getElem_of_mem hxm
    have ej : PS.getD j 0 = x.2 := by rw [List.getD_eq_getElem?_getD, List.getElem?_eq_getElem hj, ← e]; rfl
    have o1 := h.ok _ g1
    have o2 := h.ok _ hx
    obtain ⟨u1, u2, u3⟩ := upto_facts hs s
    simp only at o1
    unfold firstOf at *
    unfold farR
    unfold InR at *
    split at hlt
    · rename_i hc
      rw [if_pos hc] at *
      have a1 := u2 j (by omega)
      have a2 := sorted_get hs (Nat.zero_le j) hj
      have a3 := u2 0 (by omega)
      rw [ej] at a1 a2
      omega
    · rename_i hc
      rw [if_neg hc] at *
      have a1 := u3 _ (Nat.le_refl _) hlt
      rcases Nat.lt_or_ge j (upto PS s) with hj2 | hj2
      · have a2 := u2 j hj2
        rw [ej] at a2
        omega
      · have a2 := sorted_get hs hj2 hj
        rw [ej] at a2
        omega
end Go.Proofs.YtmepahlmbopacaaDoor
