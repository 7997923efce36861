/- What a map with pointers as keys does when it is written: it stays such a map. Conditions: its keys are none, or addresses of cells that are not frozen. -/
import Derived.Test.YtcgcocnbjijdaaaDoorFltB
set_option linter.unusedVariables false
set_option linter.unusedSimpArgs false
namespace Go.Proofs.YtcgcocnbjijdaaaDoor
open Go Go.RowKit

variable {B0 : Nat}
def putM (w : World) (mb : Nat) (o : Obj) : World := { w with heap := w.heap.setIfInBounds mb o }
theorem putM_at (w : World) (mb : Nat) (o : Obj) (h : mb < w.heap.size) : (putM w mb o).heap[mb]? = some o := by simp [putM, h]
theorem putM_other (w : World) (mb : Nat) (o : Obj) (k : Nat) (h : k ≠ mb) : (putM w mb o).heap[k]? = w.heap[k]? := by
  simp only [putM]
  rw [Array.getElem?_setIfInBounds_ne (by omega)]
theorem GoodKey.putM {w : World} {k : Value} {mb : Nat} {es : Array MapEntry} {clock : Nat} (h : GoodKey B0 w k) (hb : w.heap[mb]? = some (.map es clock)) (o : Obj) : GoodKey B0 (putM w mb o) k := by
  rcases h with rfl | ⟨a, c, t, fr, rfl, ha, hf⟩
  · exact .inl rfl
  · have hne : a.block ≠ mb := by
      rintro rfl
      rw [hb] at ha
      cases ha
    have e := putM_other w mb o a.block hne
    exact .inr ⟨a, c, t, fr, rfl, by rw [e]; exact ha, by rw [World.frozen?_of_block (w := w) e]; exact hf.1, hf.2⟩
theorem run_stays_any (old new : Value) (w : World) : ∃ k q, (Instr.keyThatStays old new).run Tryd.prog w = .ok k (w.drewN q) ∧ (k = old ∨ k = new) := by
  obtain ⟨X, hX⟩ : ∃ X, (Instr.keyThatStays old new).run Tryd.prog w = X := ⟨_, rfl⟩
  rw [hX]
  unfold Instr.keyThatStays at hX
  cases h : Instr.sameBits 10000 old new with
  | true =>
    simp [h] at hX
    exact ⟨new, 0, hX.symm, .inr rfl⟩
  | false =>
    simp [h] at hX
    repeat' split at hX
    · exact ⟨new, 0, hX.symm, .inr rfl⟩
    · exact ⟨new, 1, hX.symm, .inr rfl⟩
    · exact ⟨old, 1, hX.symm, .inl rfl⟩
theorem mem_modify {es : Array MapEntry} {i : Nat} {f : MapEntry → MapEntry} {e : MapEntry} (h : e ∈ (es.modify i f).toList) : e ∈ es.toList ∨ ∃ e0 ∈ es.toList, e = f e0 := by
  obtain ⟨j, hj⟩ := List.getElem?_of_mem h
  rw [Array.getElem?_toList, Array.getElem?_modify] at hj
  split at hj
  · obtain ⟨e0, h0, rfl⟩ := Option.map_eq_some_iff.1 hj
    exact .inr ⟨e0, by simpa using Array.mem_of_getElem? h0, rfl⟩
  · exact .inl (by simpa using Array.mem_of_getElem? hj)
theorem run_update_any {w : World} {mb : Nat} {k : Value} {z : Int} (hm : MapOk B0 w mb) (hk : GoodKey B0 w k) (hz0 : 0 ≤ z) (hz1 : z ≤ 9223372036854775807) :
    ∃ w', (Instr.mapUpdate 68 (.map (some mb)) k (.int .i64 z)).run Tryd.prog w = .ok () w' ∧ MapOk B0 w' mb ∧ w.grownBy w' (some mb) := by
  obtain ⟨es, clock, hb, hes⟩ := hm
  have hlt := (Array.getElem?_eq_some_iff.1 hb).1
  obtain ⟨r, q, hr, h1, _⟩ := run_findKey_any k es.toList w hk (fun e he => (hes e he).1)
  have hbq : (w.drewN q).heap[mb]? = some (.map es clock) := hb
  rcases h1 with rfl | ⟨j, e, rfl, he⟩
  · refine ⟨putM (w.drewN q) mb (.map (es.push { key := k, val := .int .i64 z, born := clock }) (clock + 1)), ?_, ⟨_, _, putM_at _ _ _ hlt, fun e he => ?_⟩, ⟨rfl, rfl, rfl, by simp [putM], fun i hi hne => putM_other _ _ _ _ (fun h => hne (by rw [h]))⟩⟩
    · unfold Instr.mapUpdate
      simp [run_underlying Tryd.underlying68, Go.MapKept.run_getObj_map hb, run_check_any _ 9999 hk, hr, Go.MapKept.run_setObj_map _ hbq]
      rfl
    · simp at he
      rcases he with he | rfl
      · obtain ⟨g, hv⟩ := hes e (by simpa using he)
        exact ⟨GoodKey.putM (w := w.drewN q) g hbq _, hv⟩
      · exact ⟨GoodKey.putM (w := w.drewN q) hk hbq _, z, rfl, hz0, hz1⟩
  · obtain ⟨k1, q1, hs, hk1⟩ := run_stays_any (((es[j]?).map (·.key)).getD k) k (w.drewN q)
    have hg1 : GoodKey B0 w k1 := by
      rcases hk1 with rfl | rfl
      · cases hx : es[j]? with
        | none => simpa [hx] using hk
        | some e0 => simpa [hx] using (hes e0 (by simpa using Array.mem_of_getElem? hx)).1
      · exact hk
    have hbq1 : ((w.drewN q).drewN q1).heap[mb]? = some (.map es clock) := hb
    refine ⟨putM ((w.drewN q).drewN q1) mb (.map (es.modify j fun e => { e with key := k1, val := .int .i64 z }) clock), ?_, ⟨_, _, putM_at _ _ _ hlt, fun e he => ?_⟩, ⟨rfl, rfl, rfl, by simp [putM], fun i hi hne => putM_other _ _ _ _ (fun h => hne (by rw [h]))⟩⟩
    · unfold Instr.mapUpdate
      have hbq2 : (w.drewN (q + q1)).heap[mb]? = some (.map es clock) := hb
      simp [run_underlying Tryd.underlying68, Go.MapKept.run_getObj_map hb, run_check_any _ 9999 hk, hr, hs, Go.MapKept.run_setObj_map _ hbq2]
      rfl
    · rcases mem_modify he with he | ⟨e0, he, rfl⟩
      · obtain ⟨g, hv⟩ := hes e he
        exact ⟨GoodKey.putM (w := (w.drewN q).drewN q1) g hbq1 _, hv⟩
      · exact ⟨GoodKey.putM (w := (w.drewN q).drewN q1) hg1 hbq1 _, z, rfl, hz0, hz1⟩
end Go.Proofs.YtcgcocnbjijdaaaDoor
