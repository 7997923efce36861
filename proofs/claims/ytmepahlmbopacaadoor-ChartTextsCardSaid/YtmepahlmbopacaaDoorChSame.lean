/- Same and SameMoves of the document's answers, of what is the same. Conditions: the lists read as such. -/
import Derived.Test.YtmepahlmbopacaaDoorChRDiff
import Derived.Laws.StructEq
set_option linter.unusedVariables false
set_option linter.unusedSimpArgs false
set_option maxRecDepth 100000
namespace Go.Proofs.YtmepahlmbopacaaDoor.Ct
open Go Go.RowKit
theorem neq_move (x : Mv) (w : World) : (binOp .neq 39 (.agg #[.int .i64 x.s, .int .i64 x.f, .int .i64 x.t]) (.agg #[.int .i64 x.s, .int .i64 x.f, .int .i64 x.t])).run Tryd.prog w = .ok (.bool false) w := by
  have u3 := Tryd.underlying3
  have a3 := Tryd.isAgg3
  have z3 := Tryd.sizeOf3
  have hS : Tryd.prog.underlying 39 = some (.struct (Tryd.prog.fieldsOf 39)) := by kernel_rfl
  have hp : Tryd.prog.stoodInHeld 39 = false := by kernel_rfl
  rw [run_neq_struct, show (10000 : Nat) = 9999 + 1 from rfl, run_equalIn_agg w 9999 39 _ _ hS hp]
  simp only [Program.fieldsOf, Tryd.underlying39]
  go_simp
theorem guardMv : Tryd.prog.eqGuardType Tryd.prog.depth 39 = false := by kernel_rfl
def mv0 : Mv := ⟨0, 0, 0⟩
theorem mvs_at : ∀ (l : List Mv) (k : Nat), k < l.length → (mvs l)[k * 3]? = some (.int .i64 (l.getD k mv0).s) ∧ (mvs l)[k * 3 + 1]? = some (.int .i64 (l.getD k mv0).f) ∧ (mvs l)[k * 3 + 2]? = some (.int .i64 (l.getD k mv0).t)
  | m :: r, 0, _ => ⟨rfl, rfl, rfl⟩
  | m :: r, k + 1, h => by
    have := mvs_at r k (by simpa using h)
    have e : mvs (m :: r) = mv3 m ++ mvs r := rfl
    have e3 : (mv3 m).length = 3 := rfl
    rw [e, List.getElem?_append_right (by omega), List.getElem?_append_right (by omega), List.getElem?_append_right (by omega), e3, show (k + 1) * 3 - 3 = k * 3 by omega, show (k + 1) * 3 + 1 - 3 = k * 3 + 1 by omega, show (k + 1) * 3 + 2 - 3 = k * 3 + 2 by omega]
    exact this
theorem move_at {w : World} {B n k : Nat} {A : Option Addr} {l : List Mv} (h : Reads w B 3 A n (mvs l)) (hk : k < n) : ∃ ad, A = some ad ∧ ad.block < B ∧ k < l.length ∧
    w.cell? (ad.add (k * 3)) = some (.int .i64 (l.getD k mv0).s) ∧ w.cell? ⟨(ad.add (k * 3)).block, (ad.add (k * 3)).off + 1, none⟩ = some (.int .i64 (l.getD k mv0).f) ∧ w.cell? ⟨(ad.add (k * 3)).block, (ad.add (k * 3)).off + 2, none⟩ = some (.int .i64 (l.getD k mv0).t) := by
  have hl := h.1
  rw [mvs_len] at hl
  obtain ⟨ad, e, hb, hc⟩ := h.2 (by omega)
  obtain ⟨t0, t1, t2⟩ := mvs_at l k (by omega)
  refine ⟨ad, e, hb, by omega, hc _ _ t0, ?_, ?_⟩
  · show w.cell? ((ad.add (k * 3)).add 1) = _
    rw [add_of_add]
    exact hc _ _ t1
  · show w.cell? ((ad.add (k * 3)).add 2) = _
    rw [add_of_add]
    exact hc _ _ t2
def SaysC (v : Value) (w : World) (e : Ending) (w' : World) : Prop := e = .returned v ∧ ∃ q, w' = w.drewN q
set_option maxHeartbeats 2000000 in
theorem sameMoves_any (A A' : Option Addr) (n c c' B B' : Nat) (x : List Mv) (w : World) (hx : Reads w B 3 A n (mvs x)) (hy : Reads w B' 3 A' n (mvs x)) (hm : n ≤ 1000) :
    Calls Tryd.prog 12 #[.slice A n c, .slice A' n c'] w (SaysC (.bool true) w) := by
  have hg := guardMv
  go_enter Tryd.func12, Tryd.ntmps12
  go_wp2_with fail
  go_loopw [5] (fun i wr => ∃ k q : Nat, k ≤ n ∧ i = .int .i64 k ∧ wr = w.drewN q) (fun i _ => n - (intOf i).toNat)
  case atStart => exact ⟨0, 0, Nat.zero_le _, rfl, rfl⟩
  case round =>
    obtain ⟨k, q, hk, rfl, rfl⟩ := hrel
    by_cases hlt' : k < n
    · obtain ⟨ad, rfl, _, hkx, c0, c1, c2⟩ := move_at hx hlt'
      obtain ⟨ad', rfl, _, hky, d0, d1, d2⟩ := move_at hy hlt'
      have hltz : (k : Int) < (n : Int) := by omega
      have hneq := neq_move (x.getD k mv0)
      generalize x.getD k mv0 = X at *
      go_wp2_with fail
      go_quiet (fail)
      go_wp2_with fail
      exact ⟨⟨k + 1, _, hlt', by go_num, rfl⟩, by simp [intOf]; omega⟩
    · obtain rfl : k = n := by omega
      have hnl : ¬ (k : Int) < (k : Int) := by omega
      go_wp2_with fail
      go_ret
      exact ⟨rfl, _, rfl⟩
set_option maxHeartbeats 2000000 in
theorem sameC_any {w : World} {B B' : Nat} {A A' : Option Addr} {n c c' : Nat} {l : List Int} (e : Int) (hR : Reads w B 1 A n (ints l)) (hB : B ≤ w.heap.size) (hR' : Reads w B' 1 A' n (ints l)) (hB' : B' ≤ w.heap.size) (hm : n ≤ maxLen) :
    Calls Tryd.prog 11 #[.agg #[.int .i64 e, .slice A n c], .agg #[.int .i64 e, .slice A' n c']] w (Gives (.bool true) w) := by
  obtain ⟨W, hW⟩ : ∃ W, W = (w.alloc (.cells #[.int .i64 e, .slice A n c] 24)).alloc (.cells #[.int .i64 e, .slice A' n c'] 24) := ⟨_, rfl⟩
  have hB0 : Below w.heap.size w W := by rw [hW]; exact ((Below.refl _ w).alloc (Nat.le_refl _) _).alloc (by simp) _
  have HS := Lib.hid (sameInts_any A A' n n c c' w.heap.size w.heap.size l l W ((hR.more hB).below hB0) ((hR'.more hB').below hB0) hm hm)
  rw [decide_eq_true (rfl : l = l)] at HS
  have HW := Lib.hid hW
  have HB0 := Lib.hid hB0
  clear hW hB0 hR hR' hB hB'
  go_enter Tryd.func11, Tryd.ntmps11
  go_wp2_with fail
  rw [← HW.out]
  refine HS.out.mono ?_
  rintro en w1 ⟨rfl, q, rfl⟩
  go_wp2_with fail
  go_ret
  exact ⟨rfl, below_drewN HB0.out q⟩
end Go.Proofs.YtmepahlmbopacaaDoor.Ct
