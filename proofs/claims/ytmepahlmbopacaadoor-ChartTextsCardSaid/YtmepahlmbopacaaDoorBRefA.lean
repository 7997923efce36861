/- What Same, Clean, size and Small of the document's answers return, whatever the values. Conditions: the values read as trees. -/
import Derived.Test.YtmepahlmbopacaaDoorBOnly
set_option linter.unusedVariables false
set_option linter.unusedSimpArgs false
namespace Go.Proofs.YtmepahlmbopacaaDoor.Be
open Go Go.RowKit

/-- It returns v, and what was there is as it was. -/
def Gives (v : Value) (w : World) (e : Ending) (w' : World) : Prop := e = .returned v ∧ Below w.heap.size w w'
/-- An element of a list that reads. -/
theorem elem_at {ok : Nat → Prop} {w : World} {A : Option Addr} {l : List T} {xs : List Value} {k : Nat} (hr : ReadsP ok w 4 A l.length xs) (hl : RdL ok w l xs) (hk : k < l.length) :
    ∃ b o A' c', A = some ⟨b, o, none⟩ ∧ ok b ∧ b < w.heap.size ∧ w.frozen? ⟨b, o, none⟩ = false ∧ RdA ok w l[k] (.agg #[.int .i64 l[k].k, .int .i64 l[k].n, .string l[k].s, .slice A' l[k].l.length c']) ∧
      w.cell? ⟨b, o + k * 4, none⟩ = some (.int .i64 l[k].k) ∧ w.cell? ⟨b, o + k * 4 + 1, none⟩ = some (.int .i64 l[k].n) ∧ w.cell? ⟨b, o + k * 4 + 2, none⟩ = some (.string l[k].s) ∧ w.cell? ⟨b, o + k * 4 + 3, none⟩ = some (.slice A' l[k].l.length c') := by
  obtain ⟨ad, rfl, hb, hlt, hf, hc⟩ := hr.at_ (by omega)
  obtain ⟨cs, hcs, hx⟩ := hl.get hk
  generalize l[k] = u at hcs
  obtain ⟨ku, nu, su, lu⟩ := u
  rw [Rd] at hcs
  obtain ⟨A', c', ys, rfl, h2, h3, h4, h5, h6⟩ := hcs
  have hsp : ad = ⟨ad.block, ad.off, none⟩ := by
    obtain ⟨u0, hu0⟩ : ∃ u0, xs[0]? = some u0 := by
      have := hr.len
      exact ⟨xs[0]'(by omega), List.getElem?_eq_getElem (by omega)⟩
    have h0 := hc 0 u0 hu0
    obtain ⟨ab, ao, asp⟩ := ad
    cases asp with
    | none => rfl
    | some z => simp [World.cell?, Addr.add] at h0; split at h0 <;> cases h0
  obtain ⟨ab, ao, asp⟩ := ad
  injection hsp with _ _ hs
  subst hs
  have hcell : ∀ j, j < 4 → ∀ u, ([.int .i64 ku, .int .i64 nu, .string su, .slice A' lu.length c'] : List Value)[j]? = some u → w.cell? ⟨ab, ao + (k * 4 + j), none⟩ = some u := by
    intro j hj u hu
    have := hc (k * 4 + j) u (by rw [hx j hj]; exact hu)
    rwa [add_flat] at this
  refine ⟨ab, ao, A', c', rfl, hb, hlt, hf, ⟨A', c', ys, rfl, h2, h3, h4, h5, h6⟩, ?_, ?_, ?_, ?_⟩
  · exact hcell 0 (by omega) _ rfl
  · rw [Nat.add_assoc]; exact hcell 1 (by omega) _ rfl
  · rw [Nat.add_assoc]; exact hcell 2 (by omega) _ rfl
  · rw [Nat.add_assoc]; exact hcell 3 (by omega) _ rfl

theorem box_start (w : World) (c0 c1 c2 c3 : Value) : (w.alloc (.cells #[c0, c1, c2, c3] 60)).heap[w.heap.size]? = some (.cells #[c0, c1, c2, c3] 60 (0, 0)) ∧ Below w.heap.size w (w.alloc (.cells #[c0, c1, c2, c3] 60)) ∧ (w.alloc (.cells #[c0, c1, c2, c3] 60)).heap.size = w.heap.size + 1 :=
  ⟨heap_alloc_new w _, (Below.refl _ _).alloc (Nat.le_refl _) _, by simp⟩
end Go.Proofs.YtmepahlmbopacaaDoor.Be
