/- Words for a message's sixteen cells in a variable: loads, stores, results. Conditions: none. -/
import Derived.Test.YtbjjgjifaomdlaaPoA
import Derived.Test.YtbjjgjifaomdlaaVKit
import Derived.Test.YtbjjgjifaomdlaaVHits
import Derived.Deep.MidRow
import Derived.Laws.ResultCell
import Derived.Laws.Tables
set_option linter.unusedVariables false
set_option linter.unusedSimpArgs false
set_option maxRecDepth 100000
namespace Go.Proofs.Ytbjjgjifaomdlaa.Po
open Go Go.RowKit
/-- A message as sixteen values. -/
def msgV (m : M) (A : Option Addr) (n c : Nat) (A' : Option Addr) (n' c' : Nat) : List Value := [.int .i64 m.kd, .int .i64 m.sh, .int .i64 m.ep, .int .i64 m.cl, .int .i64 m.sq, .int .i64 m.nn, .int .i64 m.vr, .int .i64 m.lm, .int .i64 m.ok, .int .i64 m.oi, .slice A n c, .int .i64 m.kk, .int .i64 m.er, .bool m.wa, .slice A' n' c', .string m.tx]
theorem msg16 : (Try.prog.info? 42).map (·.size) = some 16 := by kernel_rfl
theorem setRow_facts {W : World} {b : Nat} {T : TypeId} {xs : List Value} (hR : Row W b T xs) (ys : List Value) : Row (W.setRow b ys.toArray) b T ys ∧ (W.setRow b ys.toArray).heap.size = W.heap.size ∧ W.grownBy (W.setRow b ys.toArray) (some b) := by
  unfold Row at *
  refine ⟨?_, ?_, rfl, rfl, rfl, ?_, fun i hi hne => ?_⟩
  · simp only [World.setRow, Array.getElem?_modify, if_true, hR]
    rfl
  · simp [World.setRow]
  · simp [World.setRow]
  · simp only [World.setRow, Array.getElem?_modify]
    have : b ≠ i := fun e => hne (by rw [e])
    rw [if_neg this]
section
variable {ops : Array Oper} {rest : List Oper} {o : Oper} {a : Act} {Q : Exit → Act → World → Prop} {W : World}
theorem ld_msg {b : Nat} {xs : List Value} (hR : Row W b 42 xs) (hl : xs.length = 16) (hgd : o.guard = none) (x : Operand) (ho : o.op = .load 42 x) (hx : a.eval x = .pointer (some ⟨b, 0, none⟩))
    (h : wpList Try.prog ops Q rest (a.put o.dst (.agg xs.toArray)) W) : wpList Try.prog ops Q (o :: rest) a W :=
  wpList_load_mid hgd 42 x ho b 0 hx xs _ (fun j v hv => by rw [Nat.zero_add]; exact hR.cell hv) Try.underlying42 rfl (by rw [hl]; exact msg16) h
theorem st_msg {b : Nat} {xs ys : List Value} (hR : Row W b 42 xs) (hx16 : xs.length = 16) (hl : ys.length = 16) (h1 : ∀ v ∈ ys, v.oneCell' = true) (hgd : o.guard = none) (x y : Operand) (ho : o.op = .store 42 x y) (hx : a.eval x = .pointer (some ⟨b, 0, none⟩)) (hy : a.eval y = .agg ys.toArray)
    (h : ∀ W', Row W' b 42 ys → W'.heap.size = W.heap.size → W.grownBy W' (some b) → wpList Try.prog ops Q rest (a.put o.dst undef) W') : wpList Try.prog ops Q (o :: rest) a W := by
  refine wpList_plain hgd fun K hK => ?_
  have hst := run_storeVar_row (P := Try.prog) W b 42 42 xs.toArray ys.toArray hR (by simpa [hl] using msg16) (by simp [hl, hx16]) (all_oneCell_toArray h1)
  obtain ⟨f1, f2, f3⟩ := setRow_facts hR ys
  unfold Oper.wp execOp
  simp only [ho, hx, hy, Instr.storeAt, Instr.sureAddr, Sem.run_bind, Sem.run_pure, Result.andThen_ok, hst]
  exact hK _ _ (h _ f1 f2 f3)
end
theorem res_msg {fn : Func} {p u : Tmp} (hf : fn.results = #[.cell p 42, .tmp u]) (tmps : Array Value) {w : World} {b : Nat} {xs : List Value} (h : Row w b 42 xs) (hl : xs.length = 16) (hp : tmps.getD p undef = .pointer (some ⟨b, 0, none⟩)) {z : Value} (hz : tmps.getD u undef = z) :
    (results fn tmps).run Try.prog w = .ok (.tuple #[.agg xs.toArray, z]) w := by
  have a1 := run_loadVar_mid w b 0 42 xs _ (fun j v hv => by rw [Nat.zero_add]; exact h.cell hv) Try.underlying42 rfl (by rw [hl]; exact msg16)
  have hp' : tmps[p]?.getD undef = .pointer (some ⟨b, 0, none⟩) := by simpa using hp
  have hz' : tmps[u]?.getD undef = z := by simpa using hz
  simp only [results, hf]
  simp [Sem.run_bind, Result.andThen, hp', hz', asAddr, a1]
/-- A message's cells, with the values of its slices. -/
def msgC (m : M) (va vb : Value) : List Value := [.int .i64 m.kd, .int .i64 m.sh, .int .i64 m.ep, .int .i64 m.cl, .int .i64 m.sq, .int .i64 m.nn, .int .i64 m.vr, .int .i64 m.lm, .int .i64 m.ok, .int .i64 m.oi, va, .int .i64 m.kk, .int .i64 m.er, .bool m.wa, vb, .string m.tx]
theorem msgC_V (m : M) (A : Option Addr) (n c : Nat) (A' : Option Addr) (n' c' : Nat) : msgC m (.slice A n c) (.slice A' n' c') = msgV m A n c A' n' c' := rfl
theorem msgC_one (m : M) (A : Option Addr) (n c : Nat) (A' : Option Addr) (n' c' : Nat) : ∀ v ∈ msgC m (.slice A n c) (.slice A' n' c'), v.oneCell' = true := fun v hv => by
  simp only [msgC, List.mem_cons, List.not_mem_nil, or_false] at hv
  rcases hv with rfl | rfl | rfl | rfl | rfl | rfl | rfl | rfl | rfl | rfl | rfl | rfl | rfl | rfl | rfl | rfl <;> rfl
/-- A message with nothing in it. -/
def zM : M := ⟨0, 0, 0, 0, 0, 0, 0, 0, 0, 0, 0, [], 0, false, [], ⟨#[]⟩⟩
def zC : List Value := msgC zM (.slice none 0 0) (.slice none 0 0)
end Go.Proofs.Ytbjjgjifaomdlaa.Po
