/- The law's own blocks beside both roads. Conditions: none. -/
import Derived.Test.YtikbgaomiliefaaRoAwk
set_option linter.unusedVariables false
set_option linter.unusedSimpArgs false
set_option maxRecDepth 100000
namespace Go.Proofs.Ytikbgaomiliefaa.Ro
open Go Go.RowKit
/-- The road's blocks, the document's road's own, and the law's. -/
def GX (F : Nat → Prop) (X lo hi b : Nat) : Prop := F b ∨ b = X ∨ (lo ≤ b ∧ b ≤ hi)
def OX (X lo hi b : Nat) : Prop := b = X ∨ (lo ≤ b ∧ b ≤ hi)
section
variable {C : Code} {w wr w2 w3 w4 : World} {p X lo hi : Nat} {F F' : Nat → Prop} {Q Q1 Q2 Q1' Q2' : Rd} {A A' : Option Addr} {n c n' c' : Nat}
theorem turn_gx (T : Turn F wr F' w2) : Turn (GX F X lo hi) wr (GX F' X lo hi) w2 :=
  ⟨T.os, T.tape, T.output, T.size, fun b hb hf => T.block b hb (fun h => hf (.inl h)), fun b hb => hb.elim (fun h => (T.foot b h).elim (fun h => .inl (.inl h)) .inr) (fun h => .inl (.inr h))⟩
theorem turn_ox (T : Turn (OX X lo hi) wr (OX X lo hi) w2) : Turn (GX F X lo hi) wr (GX F X lo hi) w2 :=
  ⟨T.os, T.tape, T.output, T.size, fun b hb hf => T.block b hb (fun h => hf (.inr h)), fun b hb => .inl hb⟩
theorem ox_set (w : World) (b j : Nat) (v : Value) (h : OX X lo hi b) : Turn (OX X lo hi) w (OX X lo hi) (w.setCell ⟨b, j, none⟩ v) := Turn.set _ w (a := ⟨b, j, none⟩) h v
theorem ox_below (hb : Below wr.heap.size wr w2) : Turn (OX X lo hi) wr (OX X lo hi) w2 := Turn.below _ hb
theorem gx_start (h : PS C w wr p F Q1 Q2 X A n c) (hb : Below wr.heap.size wr w2) (hlo : wr.heap.size ≤ lo) : RAt w2 (GX F X lo hi) Q2 A n c :=
  (h.rat.mono (F' := GX F X lo hi) (fun b hb hl => hb.elim .inl (fun h => h.elim .inr (fun h => by omega)))).turn (Turn.below _ hb)
theorem gx_lt (h : PS C w w3 p F Q1 Q2 X A n c) (hhi : hi < w3.heap.size) : ∀ b, GX F X lo hi b → b < w3.heap.size := by
  rintro b (h1 | h1 | h1)
  · exact C.lt h.road b h1
  · rw [h1]; exact h.row.lt
  · omega
/-- The law's own blocks lie apart from what the program's road has become. -/
theorem own_off (h : PS C w wr p F Q1 Q2 X A n c) (hlo : wr.heap.size ≤ lo) (T : Turn F w2 F' w3) (hhi : hi < w2.heap.size) : ∀ b, lo ≤ b → b ≤ hi → ¬ F' b := fun b h1 h2 hF =>
  (T.foot b hF).elim (fun h3 => by have := C.lt h.road b h3; omega) (fun h3 => by omega)
theorem PS.fin (h : PS C w w3 p F Q1 Q2 X A n c) (hO : ∀ b, lo ≤ b → b ≤ hi → ¬ F b) (hlo : w.heap.size ≤ lo) (T : Turn (OX X lo hi) w3 (OX X lo hi) w4) (hrow : Row w4 X 29 [.slice A' n' c']) (hr : RAt w4 (GX F X lo hi) Q2' A' n' c') :
    PS C w w4 p F Q1 Q2' X A' n' c' := by
  have hno : ∀ b, F b → ¬ OX X lo hi b := fun b hF ho => ho.elim (fun e => h.xoff (by rw [← e]; exact hF)) (fun h1 => hO b h1.1 h1.2 hF)
  have hfar : ∀ b, OX X lo hi b → w.heap.size ≤ b := fun b ho => ho.elim (fun e => by rw [e]; exact h.xlo) (fun h1 => Nat.le_trans hlo h1.1)
  exact ⟨C.keep h.road T.size (fun b hF => T.block b (C.lt h.road b hF) (hno b hF)), h.far, h.below.trans (T.down hfar h.below.size), hrow, h.xlo, h.xoff, hr.mono (fun b hb _ => hb.elim .inl (fun e => .inr (.inl e)))⟩
end
end Go.Proofs.Ytikbgaomiliefaa.Ro
