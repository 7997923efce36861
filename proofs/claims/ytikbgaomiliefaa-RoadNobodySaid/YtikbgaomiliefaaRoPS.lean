/- What a road of the program's must do, and the law's two roads in memory, side by side. Conditions: none. -/
import Derived.Test.YtikbgaomiliefaaRoNew
import Derived.Test.YtikbgaomiliefaaRoOpen
set_option linter.unusedVariables false
set_option linter.unusedSimpArgs false
set_option maxRecDepth 100000
namespace Go.Proofs.Ytikbgaomiliefaa.Ro
open Go Go.RowKit
def In64 (x : Int) : Prop := -9223372036854775808 ≤ x ∧ x ≤ 9223372036854775807
theorem in64_wf {n : Int} (h : (Lit.int .i64 n).wf = true) : In64 n := by
  have := (Lit.wf_int_iff .i64 n).1 h
  have h1 : IntKind.i64.min = -9223372036854775808 := by decide
  have h2 : IntKind.i64.max = 9223372036854775807 := by decide
  rw [h1, h2] at this
  exact this
abbrev ptr (p : Nat) : Value := .pointer (some ⟨p, 0, none⟩)
/-- What a call leaves: its answer, and the road. -/
def Does (Is : World → Nat → (Nat → Prop) → Rd → Prop) (p : Nat) (F : Nat → Prop) (v : Value) (Q : Rd) (w : World) (e : Ending) (w' : World) : Prop := e = .returned v ∧ ∃ F', Is w' p F' Q ∧ Turn F w F' w'
/-- The program's road: what it is in memory, and what its calls do. (Shown of the code for each commit.) -/
structure Code where
  Is : World → Nat → (Nat → Prop) → Rd → Prop
  lt : ∀ {w p F Q}, Is w p F Q → ∀ b, F b → b < w.heap.size
  keep : ∀ {w w2 p F Q}, Is w p F Q → w.heap.size ≤ w2.heap.size → (∀ b, F b → w2.heap[b]? = w.heap[b]?) → Is w2 p F Q
  len : ∀ {w p F Q}, Is w p F Q → Q.length ≤ 9 ∧ ∀ i, (Q.getD i []).length ≤ 1024
  new_no : ∀ (k : Int) (w : World), In64 k → (k < 1 ∨ 8 < k) → Calls Try.prog 9 #[.int .i64 k] w fun e w' => e = .returned (.tuple #[.pointer none, .int .i64 1]) ∧ Below w.heap.size w w'
  new : ∀ (k : Nat) (w : World), 1 ≤ k → k ≤ 8 → Calls Try.prog 9 #[.int .i64 (k : Int)] w fun e w' => ∃ p F, e = .returned (.tuple #[ptr p, .int .i64 0]) ∧ Is w' p F (List.replicate (k + 1) []) ∧ (∀ b, F b → w.heap.size ≤ b) ∧ Below w.heap.size w w'
  send : ∀ {w p F Q} (l : Lt), Is w p F Q → In64 l.1 → In64 l.2.1 → l.2.2.size ≤ maxLen → Calls Try.prog 12 #[ptr p, .agg #[.int .i64 l.1, .int .i64 l.2.1, .string l.2.2]] w (Does Is p F (.int .i64 (sendQ Q l).2) (sendQ Q l).1 w)
  next : ∀ {w p F Q} (k : Int), Is w p F Q → In64 k → Calls Try.prog 14 #[ptr p, .int .i64 k] w (Does Is p F (.tuple #[.agg #[.int .i64 (nextQ Q k).2.1.1, .int .i64 (nextQ Q k).2.1.2.1, .string (nextQ Q k).2.1.2.2], .int .i64 (nextQ Q k).2.2]) (nextQ Q k).1 w)
  drop : ∀ {w p F Q} (k a : Int), Is w p F Q → In64 k → In64 a → Calls Try.prog 16 #[ptr p, .int .i64 k, .int .i64 a] w (Does Is p F (.int .i64 (dropQ Q k a).2) (dropQ Q k a).1 w)
  twice : ∀ {w p F Q} (k a : Int), Is w p F Q → In64 k → In64 a → Calls Try.prog 18 #[ptr p, .int .i64 k, .int .i64 a] w (Does Is p F (.int .i64 (twiceQ Q k a).2) (twiceQ Q k a).1 w)
  swap : ∀ {w p F Q} (k a : Int), Is w p F Q → In64 k → In64 a → Calls Try.prog 20 #[ptr p, .int .i64 k, .int .i64 a] w (Does Is p F (.int .i64 (swapQ Q k a).2) (swapQ Q k a).1 w)
  clear : ∀ {w p F Q} (k : Int), Is w p F Q → In64 k → Calls Try.prog 22 #[ptr p, .int .i64 k] w (Does Is p F (.int .i64 (clearQ Q k).2) (clearQ Q k).1 w)
  waits : ∀ {w p F Q} (k : Int), Is w p F Q → In64 k → Calls Try.prog 24 #[ptr p, .int .i64 k] w fun e w' => e = .returned (.int .i64 (waitsQ Q k)) ∧ Below w.heap.size w w'
theorem in64 {x : Int} (h : -1000000 ≤ x ∧ x ≤ 1000000) : In64 x := by unfold In64; omega
section
variable {w : World} {p : Nat} {F : Nat → Prop} {Q Q' : Rd} {r : Int}
theorem Code.send_is (C : Code) (h : C.Is w p F Q) (a b : Int) (t : ByteArray) (h1 : In64 a) (h2 : In64 b) (h3 : t.size ≤ maxLen) (e : sendQ Q (a, b, t) = (Q', r)) : Calls Try.prog 12 #[ptr p, .agg #[.int .i64 a, .int .i64 b, .string t]] w (Does C.Is p F (.int .i64 r) Q' w) := by
  have := C.send (a, b, t) h h1 h2 h3
  rwa [e] at this
theorem Code.next_is (C : Code) (h : C.Is w p F Q) (k : Int) (h1 : In64 k) {a b : Int} {t : ByteArray} (e : nextQ Q k = (Q', (a, b, t), r)) : Calls Try.prog 14 #[ptr p, .int .i64 k] w (Does C.Is p F (.tuple #[.agg #[.int .i64 a, .int .i64 b, .string t], .int .i64 r]) Q' w) := by
  have := C.next k h h1
  rwa [e] at this
theorem Code.drop_is (C : Code) (h : C.Is w p F Q) (k a : Int) (h1 : In64 k) (h2 : In64 a) (e : dropQ Q k a = (Q', r)) : Calls Try.prog 16 #[ptr p, .int .i64 k, .int .i64 a] w (Does C.Is p F (.int .i64 r) Q' w) := by
  have := C.drop k a h h1 h2
  rwa [e] at this
theorem Code.twice_is (C : Code) (h : C.Is w p F Q) (k a : Int) (h1 : In64 k) (h2 : In64 a) (e : twiceQ Q k a = (Q', r)) : Calls Try.prog 18 #[ptr p, .int .i64 k, .int .i64 a] w (Does C.Is p F (.int .i64 r) Q' w) := by
  have := C.twice k a h h1 h2
  rwa [e] at this
theorem Code.swap_is (C : Code) (h : C.Is w p F Q) (k a : Int) (h1 : In64 k) (h2 : In64 a) (e : swapQ Q k a = (Q', r)) : Calls Try.prog 20 #[ptr p, .int .i64 k, .int .i64 a] w (Does C.Is p F (.int .i64 r) Q' w) := by
  have := C.swap k a h h1 h2
  rwa [e] at this
theorem Code.clear_is (C : Code) (h : C.Is w p F Q) (k : Int) (h1 : In64 k) (e : clearQ Q k = (Q', r)) : Calls Try.prog 22 #[ptr p, .int .i64 k] w (Does C.Is p F (.int .i64 r) Q' w) := by
  have := C.clear k h h1
  rwa [e] at this
theorem Code.waits_is (C : Code) (h : C.Is w p F Q) (k : Int) (h1 : In64 k) (e : waitsQ Q k = r) : Calls Try.prog 24 #[ptr p, .int .i64 k] w fun e w' => e = .returned (.int .i64 r) ∧ Below w.heap.size w w' := by
  have := C.waits k h h1
  rwa [e] at this
end
/-- Both roads. -/
structure PS (C : Code) (w wr : World) (p : Nat) (F : Nat → Prop) (Q1 Q2 : Rd) (X : Nat) (A : Option Addr) (n c : Nat) : Prop where
  road : C.Is wr p F Q1
  far : ∀ b, F b → w.heap.size ≤ b
  below : Below w.heap.size w wr
  row : Row wr X 29 [.slice A n c]
  xlo : w.heap.size ≤ X
  xoff : ¬ F X
  rat : RAt wr (F2 F X) Q2 A n c
section
variable {C : Code} {w wr w2 w3 : World} {p X N : Nat} {F F' : Nat → Prop} {Q1 Q2 Q1' Q2' : Rd} {A A' : Option Addr} {n c n' c' : Nat}
theorem PS.fx (h : PS C w wr p F Q1 Q2 X A n c) : ∀ b, F2 F X b → b < wr.heap.size := fun b hb => hb.elim (C.lt h.road b) (fun e => by rw [e]; exact h.row.lt)
theorem PS.on (h : PS C w wr p F Q1 Q2 X A n c) (hb : Below wr.heap.size wr w2) : PS C w w2 p F Q1 Q2 X A n c :=
  ⟨C.keep h.road hb.size (fun b hF => hb.block _ (C.lt h.road b hF)), h.far, h.below.trans (hb.mono h.below.size), h.row.keep (hb.block _ h.row.lt), h.xlo, h.xoff, h.rat.turn (Turn.below _ hb)⟩
theorem turn_f2 (T : Turn F wr F' w2) (hX : X < wr.heap.size) : Turn (F2 F X) wr (F2 F' X) w2 :=
  ⟨T.os, T.tape, T.output, T.size, fun b hb hf => T.block b hb (fun h => hf (.inl h)), fun b hb => hb.elim (fun h => (T.foot b h).elim (fun h => .inl (.inl h)) .inr) (fun h => .inl (.inr h))⟩
/-- The program's road has moved on. -/
theorem PS.code (h : PS C w wr p F Q1 Q2 X A n c) (hr : C.Is w2 p F' Q1') (T : Turn F wr F' w2) : PS C w w2 p F' Q1' Q2 X A n c :=
  ⟨hr, T.far h.far h.below.size, h.below.trans (T.down h.far h.below.size), h.row.keep (T.block X h.row.lt h.xoff), h.xlo, fun hF => (T.foot X hF).elim h.xoff (fun hge => by have := h.row.lt; omega), h.rat.turn (turn_f2 T h.row.lt)⟩
/-- A fresh block of the law's own is set: nothing of both turns. -/
theorem PS.sets (h : PS C w wr p F Q1 Q2 X A n c) (hN : ¬ F N) (hX : N ≠ X) (hA : ∀ ad, A = some ad → True) (hlo : w.heap.size ≤ N) (j : Nat) (v : Value) (hr : RAt wr (F2 (F2 F X) N) Q2 A n c) : PS C w (wr.setCell ⟨N, j, none⟩ v) p F Q1 Q2 X A n c :=
  ⟨C.keep h.road (by simp) (fun b hF => heap_set_ne _ ⟨N, j, none⟩ _ (fun e => hN (by have e : b = N := e; rw [← e]; exact hF))), h.far, below_setCell h.below (p := ⟨N, j, none⟩) hlo v, h.row.keep (heap_set_ne _ ⟨N, j, none⟩ _ (fun e => hX (by have e : X = N := e; exact e.symm))), h.xlo, h.xoff,
    (hr.turn (Turn.set (F2 (F2 F X) N) wr (a := ⟨N, j, none⟩) (.inr rfl) v)).mono (fun b hb _ => .inl hb)⟩
/-- The document's road moves on: what is apart from the block X, too, is stored there. -/
theorem PS.doc (h : PS C w wr p F Q1 Q2 X A n c) (hr : RAt wr (F2 F X) Q2' A' n' c') : PS C w (wr.setCell ⟨X, 0, none⟩ (.slice A' n' c')) p F Q1 Q2' X A' n' c' :=
  ⟨C.keep h.road (by simp) (fun b hF => heap_set_ne _ ⟨X, 0, none⟩ _ (fun e => h.xoff (by have e : b = X := e; rw [← e]; exact hF))), h.far, below_setCell h.below (p := ⟨X, 0, none⟩) h.xlo _, h.row.set 0 (.slice A' n' c'), h.xlo, h.xoff,
    hr.turn (Turn.set (F2 F X) wr (a := ⟨X, 0, none⟩) (.inr rfl) _)⟩
/-- One road of the program's, since w. -/
structure OS (C : Code) (w wr : World) (p : Nat) (F : Nat → Prop) (Q : Rd) : Prop where
  road : C.Is wr p F Q
  far : ∀ b, F b → w.heap.size ≤ b
  below : Below w.heap.size w wr
theorem OS.on (h : OS C w wr p F Q1) (hb : Below wr.heap.size wr w2) : OS C w w2 p F Q1 :=
  ⟨C.keep h.road hb.size (fun b hF => hb.block _ (C.lt h.road b hF)), h.far, h.below.trans (hb.mono h.below.size)⟩
theorem OS.code (h : OS C w wr p F Q1) (hr : C.Is w2 p F' Q1') (T : Turn F wr F' w2) : OS C w w2 p F' Q1' :=
  ⟨hr, T.far h.far h.below.size, h.below.trans (T.down h.far h.below.size)⟩
theorem OS.set (h : OS C w wr p F Q1) (hN : ¬ F N) (hlo : w.heap.size ≤ N) (j : Nat) (v : Value) : OS C w (wr.setCell ⟨N, j, none⟩ v) p F Q1 :=
  ⟨C.keep h.road (by simp) (fun b hF => heap_set_ne _ ⟨N, j, none⟩ _ (fun e => hN (by have e : b = N := e; rw [← e]; exact hF))), h.far, below_setCell h.below (p := ⟨N, j, none⟩) hlo v⟩
end
end Go.Proofs.Ytikbgaomiliefaa.Ro
