/- Two slices of what was found: the top of the two together is the top of their tops. Conditions: none. -/
import Derived.Test.YtahgamjfglcenaaRTop
set_option linter.unusedVariables false
set_option linter.unusedSimpArgs false
namespace Go.Proofs.Ytahgamjfglcenaa
open Go Go.RowKit
theorem le_best {m : List Hit} {y : Hit} (hy : y ∈ m) : ∃ z, Best m z ∧ z.1 = y.1 ∧ (z = y ∨ hlt z y = true) := by
  obtain ⟨z, hz, e⟩ := best_exists ⟨y, hy, rfl⟩
  refine ⟨z, hz, e, ?_⟩
  cases h : hlt z y with
  | true => exact .inr rfl
  | false => exact .inl (hlt_total h (hz.2 y hy e.symm))
theorem pigeon : ∀ (a b : List Int), a.Nodup → (∀ x ∈ a, x ∈ b) → a.length ≤ b.length
  | [], _, _, _ => Nat.zero_le _
  | x :: a, b, hn, hs => by
    obtain ⟨h1, h2⟩ := List.nodup_cons.1 hn
    have hx := hs x (List.mem_cons_self ..)
    have h3 := pigeon a (b.erase x) h2 (fun y hy => (List.mem_erase_of_ne (fun e => by subst e; exact h1 hy)).2 (hs y (List.mem_cons_of_mem _ hy)))
    rw [List.length_erase_of_mem hx] at h3
    have h4 := List.length_pos_of_mem hx
    simp only [List.length_cons]
    omega
theorem below_take {S : List Hit} (h : S.Pairwise (fun a b => hlt a b = true)) {j : Nat} (hj : j < S.length) {z : Hit} (hz : z ∈ S) (hl : hlt z S[j] = true) : z ∈ S.take j := by
  obtain ⟨i, hi, rfl⟩ := List.getElem_of_mem hz
  rw [List.pairwise_iff_getElem] at h
  have hij : i < j := by
    rcases Nat.lt_trichotomy i j with g | g | g
    · exact g
    · subst g
      rw [hlt_irrefl] at hl
      cases hl
    · have hn := hlt_asymm (h j i hj hi g)
      rw [hn] at hl
      cases hl
  exact List.mem_take_iff_getElem.2 ⟨i, by omega, rfl⟩
theorem top_nodup {l S : List Hit} (h : TopR l S) : (S.map (·.1)).Nodup := by
  rw [List.Nodup, List.pairwise_map]
  refine List.Pairwise.imp_of_mem (fun {a b} ha hb hl e => ?_) h.1
  have := top_ids h ha hb e
  subst this
  rw [hlt_irrefl] at hl
  cases hl
theorem kept {l l0 S S0 : List Hit} {k : Nat} (hT : TopR l S) (h0 : TopR l0 S0) (hs : ∀ y ∈ l0, y ∈ l) {x : Hit} (hx : x ∈ S.take k) (hx0 : x ∈ l0) : x ∈ S0.take k := by
  have hb := (hT.2 x).1 (List.mem_of_mem_take hx)
  have hxS0 : x ∈ S0 := (h0.2 x).2 ⟨hx0, fun y hy e => hb.2 y (hs y hy) e⟩
  obtain ⟨i, hi, rfl⟩ := List.getElem_of_mem hxS0
  rcases Nat.lt_or_ge i k with g | g
  · exact List.mem_take_iff_getElem.2 ⟨i, by omega, rfl⟩
  · exfalso
    obtain ⟨j, hj, e⟩ := List.mem_take_iff_getElem.1 hx
    have hp := pigeon ((S0.take k).map (·.1)) ((S.take j).map (·.1)) (List.Nodup.sublist ((List.take_sublist k S0).map _) (top_nodup h0)) (fun id hid => by
      obtain ⟨y, hy, rfl⟩ := List.mem_map.1 hid
      have hyS0 := List.mem_of_mem_take hy
      have hyx : hlt y S0[i] = true := by
        obtain ⟨p, hp, rfl⟩ := List.mem_take_iff_getElem.1 hy
        exact List.pairwise_iff_getElem.1 h0.1 p i (by omega) hi (by omega)
      obtain ⟨z, hz, ez, hzy⟩ := le_best (hs y ((h0.2 y).1 hyS0).1)
      have hzx : hlt z S0[i] = true := by
        rcases hzy with h | h
        · rw [h]
          exact hyx
        · exact hlt_trans h hyx
      rw [← e] at hzx
      exact List.mem_map.2 ⟨z, below_take hT.1 (by omega) ((hT.2 z).2 hz) hzx, ez⟩)
    rw [List.length_map, List.length_map, List.length_take, List.length_take] at hp
    omega
theorem merge_take {l0 l1 S S0 S1 S' : List Hit} {k : Nat} (hT : TopR (l0 ++ l1) S) (h0 : TopR l0 S0) (h1 : TopR l1 S1) (hT' : TopR (S0.take k ++ S1.take k) S') : S.take k = S'.take k := by
  have hin : ∀ y ∈ S0.take k ++ S1.take k, y ∈ l0 ++ l1 := fun y hy => by
    rcases List.mem_append.1 hy with h | h
    · exact List.mem_append_left _ ((h0.2 y).1 (List.mem_of_mem_take h)).1
    · exact List.mem_append_right _ ((h1.2 y).1 (List.mem_of_mem_take h)).1
  have hkeep : ∀ x ∈ S.take k, x ∈ S' := fun x hx => by
    have hb := (hT.2 x).1 (List.mem_of_mem_take hx)
    refine (hT'.2 x).2 ⟨?_, fun y hy e => hb.2 y (hin y hy) e⟩
    rcases List.mem_append.1 hb.1 with h | h
    · exact List.mem_append_left _ (kept hT h0 (fun y hy => List.mem_append_left _ hy) hx h)
    · exact List.mem_append_right _ (kept hT h1 (fun y hy => List.mem_append_right _ hy) hx h)
  have hout : ∀ y ∈ S', y ∉ S.take k → ∃ z ∈ S.drop k, z = y ∨ hlt z y = true := fun y hy hn => by
    obtain ⟨z, hz, ez, hzy⟩ := le_best (hin y ((hT'.2 y).1 hy).1)
    have hzS := (hT.2 z).2 hz
    rw [← List.take_append_drop k S] at hzS
    rcases List.mem_append.1 hzS with h | h
    · have := top_ids hT' (hkeep z h) hy ez
      rw [this] at h
      exact absurd h hn
    · exact ⟨z, h, hzy⟩
  have hlow : ∀ x ∈ S.take k, ∀ z ∈ S.drop k, hlt x z = true := by
    have hp := hT.1
    rw [← List.take_append_drop k S] at hp
    exact fun x hx z hz => (List.pairwise_append.1 hp).2.2 x hx z hz
  obtain ⟨R, hR⟩ : ∃ R, R = S'.filter (fun y => decide (y ∉ S.take k)) := ⟨_, rfl⟩
  have hmR : ∀ y, y ∈ R ↔ y ∈ S' ∧ y ∉ S.take k := fun y => by
    rw [hR, List.mem_filter, decide_eq_true_iff]
  have e : S' = S.take k ++ R := by
    refine sorted_eq _ _ hT'.1 (List.pairwise_append.2 ⟨hT.1.sublist (List.take_sublist ..), by rw [hR]; exact hT'.1.filter _, fun x hx y hy => ?_⟩) (fun z => ?_)
    · obtain ⟨hy1, hy2⟩ := (hmR y).1 hy
      obtain ⟨z, hz, hzy⟩ := hout y hy1 hy2
      rcases hzy with h | h
      · rw [← h]
        exact hlow x hx z hz
      · exact hlt_trans (hlow x hx z hz) h
    · rw [List.mem_append, hmR]
      constructor
      · intro hz
        by_cases h : z ∈ S.take k
        · exact .inl h
        · exact .inr ⟨hz, h⟩
      · rintro (h | h)
        · exact hkeep z h
        · exact h.1
  rcases Nat.lt_or_ge S.length k with g | g
  · have hnil : R = [] := by
      rw [List.eq_nil_iff_forall_not_mem]
      intro y hy
      obtain ⟨hy1, hy2⟩ := (hmR y).1 hy
      obtain ⟨z, hz, _⟩ := hout y hy1 hy2
      rw [List.drop_of_length_le (by omega)] at hz
      cases hz
    rw [e, hnil, List.append_nil, List.take_take, Nat.min_self]
  · rw [e, List.take_left' (by rw [List.length_take]; omega)]
end Go.Proofs.Ytahgamjfglcenaa
