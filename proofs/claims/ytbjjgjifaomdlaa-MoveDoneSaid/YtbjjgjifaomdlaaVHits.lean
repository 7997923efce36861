/- What was found: pairs of numbers, and their order. Conditions: none. -/
import Derived.Test.YtbjjgjifaomdlaaVKit
set_option linter.unusedVariables false
set_option linter.unusedSimpArgs false
namespace Go.Proofs.Ytbjjgjifaomdlaa
open Go Go.RowKit
/-- Its number, and how far it is. -/
abbrev Hit := Int × Int
def hcell (h : Hit) : List Value := [.int .i64 h.1, .int .i64 h.2]
def hitV (h : Hit) : Value := .agg #[.int .i64 h.1, .int .i64 h.2]
def hits (l : List Hit) : List Value := l.flatMap hcell
theorem hits_len (l : List Hit) : (hits l).length = l.length * 2 := by
  induction l with
  | nil => rfl
  | cons t r ih => unfold hits at *; simp only [List.flatMap_cons, List.length_append, ih, hcell, List.length_cons, List.length_nil]; omega
theorem hits_at (l : List Hit) (k : Nat) (hk : k < l.length) : (hits l)[2 * k]? = some (.int .i64 (l.getD k (0, 0)).1) ∧ (hits l)[2 * k + 1]? = some (.int .i64 (l.getD k (0, 0)).2) := by
  induction l generalizing k with
  | nil => simp at hk
  | cons t r ih =>
    have e : hits (t :: r) = .int .i64 t.1 :: .int .i64 t.2 :: hits r := by simp [hits, hcell]
    rw [e]
    rcases k with _ | k
    · simp
    · have := ih k (by simpa using hk)
      rw [show 2 * (k + 1) = 2 * k + 1 + 1 by omega]
      simpa using this
theorem hits_append (a b : List Hit) : hits (a ++ b) = hits a ++ hits b := by simp [hits]
theorem hits_one (l : List Hit) : ∀ u ∈ hits l, u.oneCell' = true := by
  intro u hu
  obtain ⟨x, _, h⟩ := List.mem_flatMap.1 hu
  simp [hcell] at h
  rcases h with rfl | rfl <;> rfl
theorem hits_take (l : List Hit) (k : Nat) : (hits l).take (2 * k) = hits (l.take k) := by
  induction l generalizing k with
  | nil => simp [hits]
  | cons t r ih =>
    have e : hits (t :: r) = .int .i64 t.1 :: .int .i64 t.2 :: hits r := by simp [hits, hcell]
    rcases k with _ | k
    · simp [hits]
    · rw [e, show 2 * (k + 1) = 2 * k + 1 + 1 by omega, List.take_succ_cons, List.take_succ_cons, ih]
      simp [hits, hcell]
theorem Reads.hits_len {w : World} {B n : Nat} {A : Option Addr} {l : List Hit} (h : Reads w B 2 A n (hits l)) : n = l.length := by
  have := h.1
  rw [Ytbjjgjifaomdlaa.hits_len] at this
  omega
theorem Reads.hit_at {w : World} {B n k : Nat} {A : Option Addr} {l : List Hit} (h : Reads w B 2 A n (hits l)) (hk : k < n) : ∃ ad, A = some ad ∧ ad.block < B ∧ k < l.length ∧
    w.cell? (ad.add (k * 2)) = some (.int .i64 (l.getD k (0, 0)).1) ∧ w.cell? ⟨(ad.add (k * 2)).block, (ad.add (k * 2)).off + 1, none⟩ = some (.int .i64 (l.getD k (0, 0)).2) := by
  have hl := h.hits_len
  have hk' : k < l.length := by omega
  obtain ⟨ad, e, hb, hc⟩ := h.2 (by omega)
  obtain ⟨t1, t2⟩ := hits_at l k hk'
  refine ⟨ad, e, hb, hk', ?_, ?_⟩
  · rw [Nat.mul_comm]
    exact hc _ _ t1
  · show w.cell? ((ad.add (k * 2)).add 1) = _
    rw [add_of_add, Nat.mul_comm]
    exact hc _ _ t2
/-- One stands ahead of another: by how far, then by number. -/
def hlt (a b : Hit) : Bool := decide (a.2 < b.2) || (a.2 == b.2 && decide (a.1 < b.1))
theorem hlt_iff (a b : Hit) : hlt a b = true ↔ a.2 < b.2 ∨ (a.2 = b.2 ∧ a.1 < b.1) := by unfold hlt; simp
theorem hlt_irrefl (a : Hit) : hlt a a = false := by rw [Bool.eq_false_iff, Ne, hlt_iff]; omega
theorem hlt_trans {a b c : Hit} (h : hlt a b = true) (k : hlt b c = true) : hlt a c = true := by rw [hlt_iff] at *; omega
theorem hlt_asymm {a b : Hit} (h : hlt a b = true) : hlt b a = false := by rw [Bool.eq_false_iff, Ne, hlt_iff]; rw [hlt_iff] at h; omega
theorem hlt_total {a b : Hit} (h : hlt a b = false) (k : hlt b a = false) : a = b := by
  rw [Bool.eq_false_iff, Ne, hlt_iff] at *
  exact Prod.ext (by omega) (by omega)
end Go.Proofs.Ytbjjgjifaomdlaa
