/- Words for regions whose order is drawn: rows loaded and stored. Conditions: none. -/
import Derived.Test.YtbjjgjifaomdlaaMvRef
import Derived.Deep.RegionHeld3
import Derived.Deep.Cut
import Derived.Deep.CutRange
import Derived.Deep.QuietTactic
import Derived.BigQuiet
set_option linter.unusedVariables false
set_option linter.unusedSimpArgs false
set_option maxRecDepth 100000
namespace Go.Proofs.Ytbjjgjifaomdlaa.Mv
open Go Go.RowKit
open Po (M msgV)
section
variable {P : Program} {ops : Array Oper} {Q : Exit → Act → World → Prop} {md : Region.Mode} {S : World → Prop} {fuel : Nat} {listed : Array Bool} {a : Act} {w : World}
/-- An operation that yields where S holds is taken. -/
theorem tk (i : Nat) {oi : Oper} {v : Value} (hi : ops[i]? = some oi) (hy : ∀ w, S w → (execOp a.eval oi).run P w = .ok (.value v) w) (h : wpAnyH P md ops Q S fuel (listed.setIfInBounds i true) (a.put oi.dst v) w)
    (hs : Region.noSelect ops = true := by kernel_rfl) (hf : Region.free md ops listed i = true := by kernel_rfl) (hr : (Region.ready md ops listed).contains i = true := by kernel_rfl) (hQ : ∀ c a w, Q (.panic c) (a.put oi.dst v) w → Q (.panic c) a w := by exact fun _ _ _ h => h)
    (hw : Region.wanted oi (yielded ops a.tmps) = true := by rfl) (hS : S w := by assumption) : wpAnyH P md ops Q S (fuel + 1) listed a w := wpAnyH_take hi hs hf hr hQ (.inl ⟨hw, hy⟩) hS h
/-- One alone comes up. -/
theorem rd1 (i : Nat) {o : Oper} (ho : ops[i]? = some o) (h : ∀ K' : Act → World → Prop, Shut (∀ a w, S w → (S w → wpAnyH P md ops Q S fuel (listed.setIfInBounds i true) a w) → K' a w) → if Region.wanted o (yielded ops a.tmps) = true then Oper.wp P o a w K' Q else K' (a.put o.dst undef) w) (hr : Region.ready md ops listed = [i] := by kernel_rfl) : wpAnyH P md ops Q S (fuel + 1) listed a w :=
  wpAnyH_ready hr (by simp) (AllReadyH.cons ho h AllReadyH.nil)
end
theorem yields_msg {o : Oper} {ρ : Operand → Value} {b : Nat} {xs : List Value} {w : World} (h : Row w b 42 xs) (hl : xs.length = 16) (x : Operand) (ho : o.op = .load 42 x) (hx : ρ x = .pointer (some ⟨b, 0, none⟩)) : (execOp ρ o).run Try.prog w = .ok (.value (.agg xs.toArray)) w := by
  have hr := run_loadVar_mid (P := Try.prog) w b 0 42 xs _ (fun j v hv => by rw [Nat.zero_add]; exact h.cell hv) Try.underlying42 rfl (by rw [hl]; exact Po.msg16)
  unfold execOp
  simp only [ho, hx, Instr.loadAt, Instr.sureAddr, Sem.run_bind, Sem.run_pure, Result.andThen_ok, hr]
theorem yields_mv {o : Oper} {ρ : Operand → Value} {b : Nat} {m : Mv} {w : World} (h : Row w b 31 (mvV m)) (x : Operand) (ho : o.op = .load 31 x) (hx : ρ x = .pointer (some ⟨b, 0, none⟩)) : (execOp ρ o).run Try.prog w = .ok (.value (.agg (mvV m).toArray)) w := by
  have hr := run_loadVar_mid (P := Try.prog) w b 0 31 (mvV m) _ (fun j v hv => by rw [Nat.zero_add]; exact h.cell hv) Try.underlying31 rfl mv8
  unfold execOp
  simp only [ho, hx, Instr.loadAt, Instr.sureAddr, Sem.run_bind, Sem.run_pure, Result.andThen_ok, hr]
theorem step_st_row {ops : Array Oper} {o : Oper} {a : Act} {K : Act → World → Prop} {Q : Exit → Act → World → Prop} {E : Prop} {W : World} {b : Nat} {ty : TypeId} {xs ys : List Value} (hR : Row W b ty xs) (hl : ys.length = xs.length) (hi : (Try.prog.info? ty).map (·.size) = some ys.length) (h1 : ∀ v ∈ ys, v.oneCell' = true) (hgd : o.guard = none) (x y : Operand) (ho : o.op = .store ty x y) (hx : a.eval x = .pointer (some ⟨b, 0, none⟩)) (hy : a.eval y = .agg ys.toArray)
    (h : ∀ W', Row W' b ty ys → W'.heap.size = W.heap.size → W.grownBy W' (some b) → K (a.put o.dst undef) W') : if Region.wanted o (yielded ops a.tmps) = true then Oper.wp Try.prog o a W K Q else E := by
  have hw : Region.wanted o (yielded ops a.tmps) = true := by simp [Region.wanted, hgd]
  rw [if_pos hw]
  have hst := run_storeVar_row (P := Try.prog) W b ty ty xs.toArray ys.toArray hR (by simpa using hi) (by simp [hl]) (all_oneCell_toArray h1)
  obtain ⟨f1, f2, f3⟩ := Po.setRow_facts hR ys
  unfold Oper.wp execOp
  simp only [ho, hx, hy, Instr.storeAt, Instr.sureAddr, Sem.run_bind, Sem.run_pure, Result.andThen_ok, hst]
  exact h _ f1 f2 f3
theorem cell_grown {W W' : World} {g j b : Nat} {v : Value} (h : W.cell? ⟨g, j, none⟩ = some v) (hg : W.grownBy W' (some b)) (hne : g ≠ b) : W'.cell? ⟨g, j, none⟩ = some v := by
  have hlt : g < W.heap.size := by
    rcases Nat.lt_or_ge g W.heap.size with h' | h'
    · exact h'
    · simp [World.cell?, Array.getElem?_eq_none h'] at h
  have := hg.block g hlt (fun e => hne (by injection e))
  rw [← h]
  simp only [World.cell?, this]
theorem row_grown {W W' : World} {g b : Nat} {T : TypeId} {xs : List Value} (h : Row W g T xs) (hg : W.grownBy W' (some b)) (hne : g ≠ b) : Row W' g T xs := h.keep (hg.block g h.lt (fun e => hne (by injection e)))
theorem below_grown {B : Nat} {a w1 w2 : World} (h : Below B a w1) {g : Nat} (hg : w1.grownBy w2 (some g)) (hB : B ≤ g) (hs : w2.heap.size = w1.heap.size) (hw : B ≤ w1.heap.size) : Below B a w2 :=
  ⟨hg.os.trans h.os, hg.tape.trans h.tape, hg.output.trans h.output, by rw [hs]; exact h.size, fun i hi => (hg.block i (Nat.lt_of_lt_of_le hi hw) (fun e => by cases e; omega)).trans (h.block i hi)⟩
theorem nil_one : ∀ v ∈ nilV, v.oneCell' = true := Po.msgC_one nilM none 0 0 none 0 0
theorem msg_one (m : M) (A : Option Addr) (n c : Nat) (A' : Option Addr) (n' c' : Nat) : ∀ v ∈ msgV m A n c A' n' c', v.oneCell' = true := Po.msgC_one m A n c A' n' c'
theorem mv_one (m : Mv) : ∀ v ∈ mvV m, v.oneCell' = true := fun v hv => by
  simp only [mvV, List.mem_cons, List.not_mem_nil, or_false] at hv
  rcases hv with rfl | rfl | rfl | rfl | rfl | rfl | rfl | rfl <;> rfl
/-- What Says returns. -/
def saysV (m : Mv) : Value := .tuple #[.int .i64 (saysM m).1, .agg (msgV (saysM m).2.1 none 0 0 none 0 0).toArray, .bool (saysM m).2.2]
theorem res_says {fn : Func} {a p u : Tmp} (hf : fn.results = #[.tmp a, .cell p 42, .tmp u]) (tmps : Array Value) {w : World} {b : Nat} {xs : List Value} (h : Row w b 42 xs) (hl : xs.length = 16) {y : Value} (hy : tmps.getD a undef = y) (hp : tmps.getD p undef = .pointer (some ⟨b, 0, none⟩)) {z : Value} (hz : tmps.getD u undef = z) :
    (results fn tmps).run Try.prog w = .ok (.tuple #[y, .agg xs.toArray, z]) w := by
  have a1 := run_loadVar_mid w b 0 42 xs _ (fun j v hv => by rw [Nat.zero_add]; exact h.cell hv) Try.underlying42 rfl (by rw [hl]; exact Po.msg16)
  have hy' : tmps[a]?.getD undef = y := by simpa using hy
  have hp' : tmps[p]?.getD undef = .pointer (some ⟨b, 0, none⟩) := by simpa using hp
  have hz' : tmps[u]?.getD undef = z := by simpa using hz
  simp only [results, hf]
  simp [Sem.run_bind, Result.andThen, hy', hp', hz', asAddr, a1]
theorem wp_world {P : Program} {c : Code} {Q : Exit → Act → World → Prop} {a : Act} {w : World} (S : World → Prop) (h : S w) (k : ∀ W, S W → Code.wp P c Q a W) : Code.wp P c Q a w := k w h
def saidK (K : Int) (m : Mv) : M := { nilM with kd := K, sh := m.sh, nn := m.nm, tx := if m.ph = 2 ∨ m.ph = 4 then m.tx else ⟨#[]⟩, vr := if m.ph = 3 then m.vr else 0, ep := if m.ph = 4 ∨ m.ph = 8 then m.ep else 0 }
def said0 (K sh nm : Int) : M := { nilM with kd := K, sh := sh, nn := nm }
theorem said_k (m : Mv) : saidM m = saidK (asks m.ph) m := rfl
/-- While a message is made: its row N, the row R of what is returned. -/
structure Mk (w W : World) (N R : Nat) (x : M) : Prop where
  row : Row W N 42 (msgV x none 0 0 none 0 0)
  res : Row W R 42 nilV
  bel : Below w.heap.size w W
  lo : w.heap.size ≤ R
  lt : R < N
section
variable {w W : World} {N R : Nat} {x y : M}
theorem Mk.cast (h : Mk w W N R x) (e : x = y) : Mk w W N R y := e ▸ h
theorem Mk.sets (h : Mk w W N R x) (j : Nat) (u : Value) (e : (msgV x none 0 0 none 0 0).set j u = msgV y none 0 0 none 0 0) : Mk w (W.setCell ⟨N, j, none⟩ u) N R y :=
  ⟨e ▸ h.row.set j u, h.res.keep (heap_set_ne _ ⟨N, j, none⟩ _ (by have := h.lt; simp; omega)), below_setCell h.bel (p := ⟨N, j, none⟩) (by have := h.lt; have := h.lo; simp; omega) u, h.lo, h.lt⟩
theorem Mk.tx (h : Mk w W N R x) (t : ByteArray) : Mk w (W.setCell ⟨N, 15, none⟩ (.string t)) N R { x with tx := t } := h.sets 15 _ rfl
theorem Mk.vr (h : Mk w W N R x) (t : Int) : Mk w (W.setCell ⟨N, 6, none⟩ (.int .i64 t)) N R { x with vr := t } := h.sets 6 _ rfl
theorem Mk.ep (h : Mk w W N R x) (t : Int) : Mk w (W.setCell ⟨N, 2, none⟩ (.int .i64 t)) N R { x with ep := t } := h.sets 2 _ rfl
theorem Mk.on {W2 : World} (h : Mk w W N R x) (hb : Below W.heap.size W W2) : Mk w W2 N R x := ⟨h.row.keep (hb.block _ h.row.lt), h.res.keep (hb.block _ h.res.lt), h.bel.trans (hb.mono h.bel.size), h.lo, h.lt⟩
theorem Mk.drew (h : Mk w W N R x) : Mk w W.drew N R x := ⟨h.row, h.res, h.bel.drew, h.lo, h.lt⟩
end
end Go.Proofs.Ytbjjgjifaomdlaa.Mv
