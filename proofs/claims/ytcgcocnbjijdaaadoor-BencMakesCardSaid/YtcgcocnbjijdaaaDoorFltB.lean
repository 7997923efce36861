/- What rest of package benc returns, whatever was seen: what of a list is not gone over yet. Conditions: the map's keys are none, or addresses of cells that are not frozen. -/
import Derived.Test.YtcgcocnbjijdaaaDoorFltA
import Derived.MapKept
set_option linter.unusedVariables false
set_option linter.unusedSimpArgs false
namespace Go.Proofs.YtcgcocnbjijdaaaDoor
open Go Go.RowKit

variable {B0 : Nat}
/-- A block that is a map of what was seen. -/
def MapOk (B0 : Nat) (w : World) (mb : Nat) : Prop := ∃ es clock, w.heap[mb]? = some (.map es clock) ∧ ∀ e ∈ es.toList, GoodKey B0 w e.key ∧ ∃ z : Int, e.val = .int .i64 z ∧ 0 ≤ z ∧ z ≤ 9223372036854775807
def MapNew (w : World) (mb : Nat) : Prop := w.heap[mb]? = some (.map #[] 0)
theorem MapNew.ok {w : World} {mb : Nat} (h : MapNew w mb) : MapOk B0 w mb := ⟨_, _, h, by simp⟩
theorem run_check_any (b : Bool) (d : Nat) {w : World} {k : Value} (h : GoodKey B0 w k) : (Instr.checkKey b (d + 1) 79 k).run Tryd.prog w = .ok () w := by
  rcases h with rfl | ⟨a, c, t, fr, rfl, _, _⟩
  · simp [Instr.checkKey, run_underlying Tryd.underlying79]
  · simp [Instr.checkKey, run_underlying Tryd.underlying79]
theorem run_findKey_any (k : Value) (es : List MapEntry) (w : World) (hk : GoodKey B0 w k) (hes : ∀ e ∈ es, GoodKey B0 w e.key) :
    ∃ r q, (Instr.findKey 79 k es).run Tryd.prog w = .ok r (w.drewN q) ∧ (r = none ∨ ∃ j e, r = some (j, e.val) ∧ e ∈ es) ∧ (es = [] → r = none) := by
  rcases es with _ | ⟨e, es⟩
  · exact ⟨none, 0, by simp [Instr.findKey, run_underlying Tryd.underlying79, Instr.findNow]; rfl, .inl rfl, fun _ => rfl⟩
  · obtain ⟨r, q, hr, h1, h2⟩ := run_find_any k (e :: es) 0 w hk hes
    have hn : ∀ i, Instr.findNow (.pointer 24) k (e :: es) i = none := by
      intro i
      have : ∀ v, Instr.sameNow (.pointer 24) k v = none := by
        intro v
        unfold Instr.sameNow
        split <;> simp_all
      simp [Instr.findNow, this]
    exact ⟨r, q, by simp [Instr.findKey, run_underlying Tryd.underlying79, hn, hr], h1, h2⟩
theorem run_lookup_any {w : World} {mb : Nat} {k : Value} (hm : MapOk B0 w mb) (hk : GoodKey B0 w k) :
    ∃ (n : Int) (known : Bool) (q : Nat), (Instr.lookup 68 (.map (some mb)) k true).run Tryd.prog w = .ok (.tuple #[.int .i64 n, .bool known]) (w.drewN q) ∧ 0 ≤ n ∧ n ≤ 9223372036854775807 ∧ (known = false → n = 0) ∧ (MapNew w mb → known = false) := by
  obtain ⟨es, clock, hb, hes⟩ := hm
  obtain ⟨r, q, hr, h1, h2⟩ := run_findKey_any k es.toList w hk (fun e he => (hes e he).1)
  have hz : ∀ W : World, (zeroValue 3).run Tryd.prog W = .ok (.int .i64 0) W := fun W => by kernel_rfl
  rcases h1 with rfl | ⟨j, e, rfl, he⟩
  · refine ⟨0, false, q, ?_, by omega, by omega, fun _ => rfl, fun _ => rfl⟩
    unfold Instr.lookup
    simp [run_underlying Tryd.underlying68, Go.MapKept.run_getObj_map hb, run_check_any _ 9999 hk, hr, hz]
  · obtain ⟨_, z, hv, hz0, hz1⟩ := hes e he
    refine ⟨z, true, q, ?_, hz0, hz1, fun h => by simp at h, fun h => ?_⟩
    · unfold Instr.lookup
      simp [run_underlying Tryd.underlying68, Go.MapKept.run_getObj_map hb, run_check_any _ 9999 hk, hr, hv]
    · unfold MapNew at h
      rw [hb] at h
      injection h with h
      injection h with h _
      subst h
      have := h2 rfl
      cases this
end Go.Proofs.YtcgcocnbjijdaaaDoor
