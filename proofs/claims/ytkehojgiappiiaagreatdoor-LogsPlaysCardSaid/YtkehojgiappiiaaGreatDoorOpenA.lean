/- Opening a log: what is on a disk, and what clean leaves there: plain. Conditions: none. -/
import Derived.Test.YtkehojgiappiiaaGreatDoorAddOk
set_option linter.unusedVariables false
set_option linter.unusedSimpArgs false
namespace Go.Proofs.YtkehojgiappiiaaGreatDoor
open Go Go.RowKit
/-- A disk without loose writes that holds the first bytes of a log's records. -/
structure DiskD (N t : Nat) (R : List (List UInt8)) (m : Nat) (su : List ByteArray) : Prop where
  h4 : 4 ≤ N
  hN : N ≤ 16384
  ht : t ≤ 1000000
  small : ∀ r ∈ R, r.length ≤ 32768
  fit : (encs R).length ≤ 128 * hB N t
  heads : Heads t su
  at_ : AtH su (hF N t) (hB N t) ((encs R).take m)
section
variable {N t m : Nat} {R : List (List UInt8)} {su : List ByteArray} {l : List (Nat × ByteArray)}
/-- The writes of clean. -/
def cleanW (N t : Nat) (E : List UInt8) (su : List ByteArray) : List (Nat × ByteArray) := layW su (hF N t + E.length / 128) (hB N t - E.length / 128) (E.drop (128 * (E.length / 128)))
theorem heads_same {sv : List ByteArray} (h : Heads t su) (g : ∀ i, i < 2 → sv[i]? = su[i]?) : Heads t sv := by
  obtain ⟨a, b, ha, hb, e⟩ := h
  exact ⟨a, b, by rw [List.getD_eq_getElem?_getD, g 0 (by omega), ← List.getD_eq_getElem?_getD]; exact ha, by rw [List.getD_eq_getElem?_getD, g 1 (by omega), ← List.getD_eq_getElem?_getD]; exact hb, e⟩
theorem DiskD.opened (h : DiskD N t R m su) (hlen : su.length = N) : LogD N t (R.take (wh R m)) (R.take (wh R m)).length (setsP (cleanW N t (encs (R.take (wh R m))) su) su) [] := by
  have hw := wh_len R m
  obtain ⟨E, hE⟩ : ∃ E, E = encs (R.take (wh R m)) := ⟨_, rfl⟩
  have hcut := encs_cut R (wh R m) m hw.2
  rw [← hE] at hcut hw ⊢
  have hpart := encs_part R (wh R m)
  rw [← hE] at hpart
  have hF3 := hFB N t h.h4
  have hfit := h.fit
  have hk : E.length / 128 ≤ hB N t := by omega
  have hset := layW_sets su (hB N t - E.length / 128) (hF N t + E.length / 128) (E.drop (128 * (E.length / 128))) su (fun _ _ _ => rfl) (by omega)
  have hat : AtH (setsP (cleanW N t E su) su) (hF N t) (hB N t) E := by
    intro i hi
    rcases Nat.lt_or_ge i (E.length / 128) with hlt | hge
    · have h2 := hset.2 (hF N t + i) (.inl (by omega))
      unfold cleanW
      rw [h2, h.at_ i hi]
      have e := chk_full (E := (encs R).take m) (m := E.length) (i := i) (by omega)
      rw [← hcut] at e
      rw [e]
    · have h1 := hset.1 (i - E.length / 128) (by omega)
      unfold cleanW
      rw [chk_drop, show hF N t + E.length / 128 + (i - E.length / 128) = hF N t + i by omega, show E.length / 128 + (i - E.length / 128) = i by omega] at h1
      exact h1
  refine ⟨h.h4, h.hN, h.ht, fun r hr => h.small r (List.mem_of_mem_take hr), by rw [← hE]; omega, heads_same h.heads fun i hi => hset.2 i (.inl (by omega)), ⟨E.length, ?_, ?_, ?_⟩, Nat.le_refl _⟩
  · rw [← hE, List.take_length]
    exact hat
  · rw [← hE]
    exact .nil _
  · rw [List.take_length, ← hE]
theorem DiskD.reads (h : DiskD N t R m su) : readL su (hF N t) (hB N t) = (encs R).take m := h.at_.read (by rw [List.length_take]; have := h.fit; omega)
theorem DiskD.all (h : DiskD N t R m su) : alls ((encs R).take m) = (R.take (wh R m), (encs (R.take (wh R m))).length) := alls_cut R m fun r hr => by have := h.small r hr; omega
/-- Where the power fails, the first records are there, all sure ones among them. -/
theorem LogD.fail {sr : Nat} (h : LogD N t R sr su l) (keep torn : Int) : ∃ m, DiskD N t R m (failP l su keep torn) ∧ sr ≤ wh R m ∧ (l = [] ∨ shr keep l.length = l.length → wh R m = R.length) := by
  obtain ⟨m, h1, h2, h3⟩ := h.way
  obtain ⟨k, a1, a2, a3, a4, a5⟩ := h2.fail (Nat.le_refl _) h1 keep torn
  have hp := h2.place
  have hF3 := hFB N t h.h4
  refine ⟨k, ⟨h.h4, h.hN, h.ht, h.small, h.fit, heads_same h.heads fun i hi => failP_at fun p hpp e => by have := (hp p hpp).1; omega, a3⟩, wh_ge R sr k h.sr (by omega), fun hall => ?_⟩
  have : k = (encs R).length := hall.elim a4 a5
  rw [this, wh_all]
theorem wh_exact : ∀ (R : List (List UInt8)) (k : Nat), k ≤ R.length → wh R (encs (R.take k)).length = k
  | [], k, h => by
    have : k = 0 := by simpa using h
    subst this
    rfl
  | r :: R, 0, _ => by
    rw [List.take_zero, encs_nil, List.length_nil, wh, if_neg (by omega)]
  | r :: R, k + 1, h => by
    rw [List.take_succ_cons, encs_cons, List.length_append, enc_len, wh, if_pos (by omega), Nat.add_sub_cancel_left, wh_exact R k (by rw [List.length_cons] at h; omega)]
/-- Where nothing that is loose survives, the sure records are there. -/
theorem LogD.lost {sr : Nat} (h : LogD N t R sr su l) : DiskD N t R (encs (R.take sr)).length su ∧ wh R (encs (R.take sr)).length = sr := by
  obtain ⟨m, h1, h2, h3⟩ := h.way
  rw [← h3] at h1
  exact ⟨⟨h.h4, h.hN, h.ht, h.small, h.fit, h.heads, h1⟩, wh_exact R sr h.sr⟩
theorem tearB_none (s had : ByteArray) : tearB s had 0 = had := by
  unfold tearB
  rw [Nat.min_eq_left (Nat.zero_le _)]
  simp
theorem failP_lost (l : List (Nat × ByteArray)) (su : List ByteArray) : failP l su 0 0 = su := by
  have : shr 0 l.length = 0 := by simp [shr]
  unfold failP
  rw [this]
  rcases l with _ | ⟨p, l⟩
  · rfl
  · show tornP p su 0 = su
    unfold tornP
    rw [show shr 0 p.2.size = 0 by simp [shr], tearB_none]
    refine List.ext_getElem? fun i => ?_
    by_cases hi : p.1 = i
    · subst hi
      by_cases hl : p.1 < su.length
      · rw [List.getElem?_set_self hl, List.getD_eq_getElem?_getD, List.getElem?_eq_getElem hl]
        rfl
      · rw [List.getElem?_eq_none (by rw [List.length_set]; omega), List.getElem?_eq_none (by omega)]
    · rw [List.getElem?_set_ne hi]
/-- A new disk. -/
theorem diskD_new (N : Nat) (h4 : 4 ≤ N) (hN : N ≤ 16384) : DiskD N 0 [] 0 (none_ N) := by
  have hg : ∀ i, i < N → (none_ N)[i]? = some ⟨#[]⟩ := fun i hi => by
    unfold none_
    rw [List.getElem?_replicate, if_pos hi]
  have hF3 := hFB N 0 h4
  refine ⟨h4, hN, by omega, by simp, by simp [encs], ⟨0, 0, .inl ⟨?_, rfl⟩, .inl ⟨?_, rfl⟩, rfl⟩, fun i hi => ?_⟩
  · rw [List.getD_eq_getElem?_getD, hg 0 (by omega)]; rfl
  · rw [List.getD_eq_getElem?_getD, hg 1 (by omega)]; rfl
  · rw [hg _ (by omega), chk_over (Nat.zero_le _)]
end
end Go.Proofs.YtkehojgiappiiaaGreatDoor
