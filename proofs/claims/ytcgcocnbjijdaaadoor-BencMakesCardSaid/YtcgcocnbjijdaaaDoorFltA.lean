/- What a map with pointers as keys does, whatever it is asked: it answers, and stays such a map. Conditions: its keys are none, or addresses of cells that are not frozen. -/
import Derived.Test.YtcgcocnbjijdaaaDoorRdA
import Derived.Laws.NewFold
set_option linter.unusedVariables false
set_option linter.unusedSimpArgs false
namespace Go.Proofs.YtcgcocnbjijdaaaDoor
open Go Go.RowKit

/-- A key that may be asked: none, or the address of a cell that is not frozen. -/
def GoodKey (B0 : Nat) (w : World) (k : Value) : Prop := k = .pointer none ∨ ∃ ad c t fr, k = .pointer (some ad) ∧ w.heap[ad.block]? = some (.cells c t fr) ∧ w.frozen? ad = false ∧ ad.block < B0
variable {B0 : Nat}
theorem run_choose_any (q : Question) (w : World) : ∃ r n, (choose q).run Tryd.prog w = .ok r (w.drewN n) := by
  rw [run_choose_drew]
  split
  · exact ⟨_, 0, rfl⟩
  · exact ⟨_, 1, rfl⟩
theorem run_same_any (w : World) {a b : Addr} {ca cb : Array Value} {ta tb : TypeId} {fa fb : Nat × Nat} (ha : w.heap[a.block]? = some (.cells ca ta fa)) (hb : w.heap[b.block]? = some (.cells cb tb fb)) (hf : w.frozen? a = false) :
    ∃ r q, (sameAddr a b).run Tryd.prog w = .ok r (w.drewN q) := by
  obtain ⟨X, hX⟩ : ∃ X, (sameAddr a b).run Tryd.prog w = X := ⟨_, rfl⟩
  rw [hX]
  by_cases hbl : a.block = b.block
  · simp [sameAddr, hbl] at hX
    exact ⟨_, 0, hX.symm⟩
  · simp [sameAddr, hbl, hf, noView, viewAt, World.shape?, ha, hb, mayBeOne, stringish] at hX
    repeat' split at hX
    all_goals first | exact ⟨_, 0, hX.symm⟩ | exact ⟨_, 1, hX.symm⟩
theorem size24 : (Tryd.prog.info? 24).map (fun i => i.size) = some 4 := by kernel_rfl
/-- Whether two keys are the same: it answers, whatever it answers. -/
theorem run_eqlIn_any (w : World) {k k' : Value} (h : GoodKey B0 w k) (h' : GoodKey B0 w k') (d : Nat) : ∃ r q, (Op.equalIn (d + 1) 79 k k').run Tryd.prog w = .ok r (w.drewN q) := by
  obtain ⟨i24, hi, hsz⟩ := Option.map_eq_some_iff.1 size24
  rcases h with rfl | ⟨a, c, t, fr, rfl, ha, hf⟩
  · rcases h' with rfl | ⟨b, c', t', fr', rfl, hb, hf'⟩
    · exact ⟨true, 0, by simp [Op.equalIn, run_underlying Tryd.underlying79]; rfl⟩
    · exact ⟨false, 0, by simp [Op.equalIn, run_underlying Tryd.underlying79]; rfl⟩
  · rcases h' with rfl | ⟨b, c', t', fr', rfl, hb, hf'⟩
    · exact ⟨false, 0, by simp [Op.equalIn, run_underlying Tryd.underlying79]; rfl⟩
    · obtain ⟨r, q, hr⟩ := run_same_any w ha hb hf.1
      exact ⟨r, q, by simp [Op.equalIn, run_underlying Tryd.underlying79, sizeOf, typeInfo, hi, hsz, hr]⟩
theorem run_eql_any (w : World) {k k' : Value} (h : GoodKey B0 w k) (h' : GoodKey B0 w k') : ∃ r q, (Op.equal 79 k k').run Tryd.prog w = .ok r (w.drewN q) := run_eqlIn_any w h h' 9999
theorem GoodKey.drewN {w : World} {k : Value} (h : GoodKey B0 w k) (q : Nat) : GoodKey B0 (w.drewN q) k := h
theorem run_find_any (k : Value) : ∀ (es : List MapEntry) (i : Nat) (w : World), GoodKey B0 w k → (∀ e ∈ es, GoodKey B0 w e.key) →
    ∃ r q, (Instr.findAsking 79 k es i).run Tryd.prog w = .ok r (w.drewN q) ∧ (r = none ∨ ∃ j e, r = some (j, e.val) ∧ e ∈ es) ∧ (es = [] → r = none)
  | [], i, w, _, _ => ⟨none, 0, by simp [Instr.findAsking]; rfl, .inl rfl, fun _ => rfl⟩
  | e :: es, i, w, hk, hes => by
    obtain ⟨r, q, hr⟩ := run_eql_any w hk (hes e (List.mem_cons_self ..))
    cases r with
    | true => exact ⟨some (i, e.val), q, by simp [Instr.findAsking, hr], .inr ⟨i, e, rfl, List.mem_cons_self ..⟩, fun h => by cases h⟩
    | false =>
      obtain ⟨r', q', hr', h1, _⟩ := run_find_any k es (i + 1) (w.drewN q) (hk.drewN q) (fun e he => (hes e (List.mem_cons_of_mem _ he)).drewN q)
      refine ⟨r', q + q', by simp [Instr.findAsking, hr, hr'], ?_, fun h => by cases h⟩
      rcases h1 with h1 | ⟨j, e', h1, h2⟩
      · exact .inl h1
      · exact .inr ⟨j, e', h1, List.mem_cons_of_mem _ h2⟩
end Go.Proofs.YtcgcocnbjijdaaaDoor
