/- What the document's move returns. Conditions: numbers that may be. -/
import Derived.Test.YtbjjgjifaomdlaaPoRowB
import Derived.Test.YtbjjgjifaomdlaaGSame
import Derived.Test.YtbjjgjifaomdlaaMvMath
set_option linter.unusedVariables false
set_option linter.unusedSimpArgs false
set_option maxRecDepth 100000
namespace Go.Proofs.Ytbjjgjifaomdlaa.Mv
open Go Go.RowKit
open Po (M msgV)
/-- A move as eight values. -/
def mvV (m : Mv) : List Value := [.int .i64 m.nm, .int .i64 m.ep, .int .i64 m.ph, .int .i64 m.vr, .int .i64 m.sh, .int .i64 m.fr, .int .i64 m.to, .string m.tx]
def nilV : List Value := msgV nilM none 0 0 none 0 0
set_option maxHeartbeats 1000000 in
theorem node_any (m : Mv) (h : FitV m) (w : World) : Calls Try.prog 24 #[.agg (mvV m).toArray] w (Gives (.int .i64 (nodeM m)) w) := by
  have h1 := phases h
  have hb0 : Below w.heap.size w (w.alloc (.cells (mvV m).toArray 31)) := (Below.refl _ w).alloc (Nat.le_refl _) _
  unfold nodeM
  unfold mvV at hb0 ⊢
  obtain ⟨nm, ep, ph, vr, sh, fr, to, tx⟩ := m
  simp only at h1 hb0 ⊢
  clear h
  rcases h1 with rfl | rfl | rfl | rfl | rfl | rfl | rfl | rfl | rfl
  all_goals
    go_enter Try.func24, Try.ntmps24
    go_wp2
    go_ret
    exact ⟨rfl, hb0⟩
set_option maxHeartbeats 1000000 in
theorem asks_any (p : Int) (h : 1 ≤ p ∧ p ≤ 9) (w : World) : Calls Try.prog 25 #[.int .i64 p] w (Gives (.int .i64 (asks p)) w) := by
  have h1 : p = 1 ∨ p = 2 ∨ p = 3 ∨ p = 4 ∨ p = 5 ∨ p = 6 ∨ p = 7 ∨ p = 8 ∨ p = 9 := by omega
  clear h
  rcases h1 with rfl | rfl | rfl | rfl | rfl | rfl | rfl | rfl | rfl
  all_goals
    go_enter Try.func25, Try.ntmps25
    go_wp2
    go_ret
    exact ⟨rfl, (Below.refl _ w).alloc (Nat.le_refl _) _⟩
theorem row_new1 (w : World) (o : Obj) (T : TypeId) (xs : List Value) : Row ((w.alloc o).alloc (.cells xs.toArray T)) (w.heap.size + 1) T xs := by
  have := Row.new (w.alloc o) T xs
  rwa [World.size_alloc] at this
theorem mv8 : (Try.prog.info? 31).map (·.size) = some 8 := by kernel_rfl
theorem res_mv {fn : Func} {p u : Tmp} (hf : fn.results = #[.cell p 31, .tmp u]) (tmps : Array Value) {w : World} {b : Nat} {m : Mv} (h : Row w b 31 (mvV m)) (hp : tmps.getD p undef = .pointer (some ⟨b, 0, none⟩)) {z : Value} (hz : tmps.getD u undef = z) :
    (results fn tmps).run Try.prog w = .ok (.tuple #[.agg (mvV m).toArray, z]) w := by
  have a1 := run_loadVar_mid w b 0 31 (mvV m) _ (fun j v hv => by rw [Nat.zero_add]; exact h.cell hv) Try.underlying31 rfl mv8
  have hp' : tmps[p]?.getD undef = .pointer (some ⟨b, 0, none⟩) := by simpa using hp
  have hz' : tmps[u]?.getD undef = z := by simpa using hz
  simp only [results, hf]
  simp [Sem.run_bind, Result.andThen, hp', hz', asAddr, a1]
set_option maxHeartbeats 1000000 in
theorem rabort_any (m : Mv) (h : FitV m) (w : World) : Calls Try.prog 12 #[.agg (mvV m).toArray] w (Gives (.tuple #[.agg (mvV (abortM m).1).toArray, .int .i64 (abortM m).2]) w) := by
  have h1 := phases h
  obtain ⟨nm, ep, ph, vr, sh, fr, to, tx⟩ := m
  simp only at h1
  clear h
  rcases h1 with rfl | rfl | rfl | rfl | rfl | rfl | rfl | rfl | rfl
  all_goals
    unfold mvV
    go_enter Try.func12, Try.ntmps12
    go_wp2
    refine bodyPost_ret (res_mv (m := (abortM _).1) Try.results12 _ (b := w.heap.size + 1) ?_ rfl rfl) rfl ⟨rfl, ((Below.refl _ w).alloc (Nat.le_refl _) _).alloc (by simp) _⟩
    exact row_new1 w _ 31 _
end Go.Proofs.Ytbjjgjifaomdlaa.Mv
