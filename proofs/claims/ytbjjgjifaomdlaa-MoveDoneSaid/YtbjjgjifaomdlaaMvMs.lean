/- The law's move beside what the law keeps, and what a law asks of answers. Conditions: none. -/
import Derived.Test.YtbjjgjifaomdlaaMvCn
set_option linter.unusedVariables false
set_option linter.unusedSimpArgs false
set_option maxRecDepth 100000
namespace Go.Proofs.Ytbjjgjifaomdlaa.Mv
open Go Go.RowKit
open Po (M msgV)
/-- The program's move, since w. -/
structure MS (w wr : World) (p : Nat) (m : Mv) : Prop where
  is : IsM wr p m
  lo : w.heap.size ≤ p
  bel : Below w.heap.size w wr
section
variable {w wr w2 : World} {p N : Nat} {m m' : Mv}
theorem MS.on (h : MS w wr p m) (hb : Below wr.heap.size wr w2) : MS w w2 p m := ⟨h.is.keep (hb.block _ h.is.lt), h.lo, h.bel.trans (hb.mono h.bel.size)⟩
theorem MS.code {v : Value} {e : Ending} (h : MS w wr p m) (hd : Does p v m' wr e w2) : MS w w2 p m' :=
  ⟨hd.2.1, h.lo, h.bel.trans (hd.2.2.down (fun b e => by rw [e]; exact h.lo) h.bel.size)⟩
theorem MS.mv (h : MS w wr p m) (hd : IsM w2 p m' ∧ Turn (fun b => b = p) wr (fun b => b = p) w2) : MS w w2 p m' :=
  ⟨hd.1, h.lo, h.bel.trans (hd.2.down (fun b e => by rw [e]; exact h.lo) h.bel.size)⟩
theorem MS.drewN (h : MS w wr p m) (q : Nat) : MS w (wr.drewN q) p m := ⟨h.is.keep rfl, h.lo, below_drewN h.bel q⟩
theorem MS.set (h : MS w wr p m) (hN : N ≠ p) (hlo : w.heap.size ≤ N) (j : Nat) (v : Value) : MS w (wr.setCell ⟨N, j, none⟩ v) p m :=
  ⟨h.is.keep (heap_set_ne _ ⟨N, j, none⟩ _ (by simp; exact fun e => hN e.symm)), h.lo, below_setCell h.bel (p := ⟨N, j, none⟩) hlo v⟩
theorem MS.grown (h : MS w wr p m) (hg : wr.grownBy w2 (some N)) (hN : N ≠ p) (hlo : w.heap.size ≤ N) (hs : w2.heap.size = wr.heap.size) : MS w w2 p m :=
  ⟨h.is.keep (hg.block _ h.is.lt (fun e => hN (by injection e with e; exact e.symm))), h.lo, below_grown h.bel hg hlo hs h.bel.size⟩
/-- What does not turn while the move does. -/
theorem Does.row {v : Value} {e : Ending} {T : TypeId} {xs : List Value} (hd : Does p v m' wr e w2) (hr : Row wr N T xs) (hN : N ≠ p) : Row w2 N T xs := hr.keep (hd.2.2.block N hr.lt hN)
theorem Does.size {v : Value} {e : Ending} (hd : Does p v m' wr e w2) : wr.heap.size ≤ w2.heap.size := hd.2.2.size
end
theorem res_msg1 {fn : Func} {p : Tmp} (hf : fn.results = #[.cell p 42]) (tmps : Array Value) {w : World} {b : Nat} {xs : List Value} (h : Row w b 42 xs) (hl : xs.length = 16) (hp : tmps.getD p undef = .pointer (some ⟨b, 0, none⟩)) :
    (results fn tmps).run Try.prog w = .ok (.agg xs.toArray) w := by
  have a1 := run_loadVar_mid w b 0 42 xs _ (fun j v hv => by rw [Nat.zero_add]; exact h.cell hv) Try.underlying42 rfl (by rw [hl]; exact Po.msg16)
  have hp' : tmps[p]?.getD undef = .pointer (some ⟨b, 0, none⟩) := by simpa using hp
  simp only [results, hf]
  simp [Sem.run_bind, Result.andThen, hp', asAddr, a1]
theorem msgA (m : M) (A : Option Addr) (n c : Nat) (A' : Option Addr) (n' c' : Nat) : (msgV m A n c A' n' c').toArray = #[.int .i64 m.kd, .int .i64 m.sh, .int .i64 m.ep, .int .i64 m.cl, .int .i64 m.sq, .int .i64 m.nn, .int .i64 m.vr, .int .i64 m.lm, .int .i64 m.ok, .int .i64 m.oi, .slice A n c, .int .i64 m.kk, .int .i64 m.er, .bool m.wa, .slice A' n' c', .string m.tx] := rfl
def text4 : ByteArray := { data := #[116, 101, 120, 116] }
def answerM (x : M) : M := { nilM with kd := x.kd + 1, sh := x.sh, nn := x.nn, vr := 5, tx := text4 }
set_option maxHeartbeats 2000000 in
theorem answer_any (x : M) (hx : 0 ≤ x.kd ∧ x.kd ≤ 100) (A : Option Addr) (n c : Nat) (A' : Option Addr) (n' c' : Nat) (w : World) :
    Calls Try.prog 19 #[.agg (msgV x A n c A' n' c').toArray] w (fun e w' => e = .returned (.agg (msgV (answerM x) none 0 0 none 0 0).toArray) ∧ Below w.heap.size w w') := by
  have hk : IntKind.i64.wrap (x.kd + 1) = x.kd + 1 := by rw [IntKind.wrap_i64]; omega
  have hb : ∀ o1 o2, Below w.heap.size w ((w.alloc o1).alloc o2) := fun o1 o2 => ((Below.refl _ w).alloc (Nat.le_refl _) _).alloc (by simp) _
  clear hx
  unfold msgV
  go_enter Try.func19, Try.ntmps19
  go_wp2
  exact bodyPost_ret (res_msg1 Try.results19 _ (row_new1 w _ 42 (msgV (answerM x) none 0 0 none 0 0)) rfl rfl) rfl ⟨rfl, hb _ _⟩
end Go.Proofs.Ytbjjgjifaomdlaa.Mv
