/- The law's two wheels in memory, side by side. Conditions: none. -/
import Derived.Test.YtfojempmgonahaaWhRTick
import Derived.Test.YtfojempmgonahaaWhRel
import Derived.Test.YtfojempmgonahaaWhOpenO
set_option linter.unusedVariables false
set_option linter.unusedSimpArgs false
set_option maxRecDepth 100000
namespace Go.Proofs.Ytfojempmgonahaa.Wh
open Go Go.RowKit Go.Maps
/-- The wheel's blocks, and the document's wheel's own. -/
def FX (p bm dm : Nat) (G : List (Int × Nat)) (X b : Nat) : Prop := Foot p bm dm G b ∨ b = X
def Off (wr : World) (F : Nat → Prop) (A : Option Addr) : Prop := ∀ ad, A = some ad → ad.block < wr.heap.size ∧ ¬ F ad.block
section
variable {w wr w2 w3 w4 : World} {p bm dm X : Nat} {now now' : Int} {L L' : List Tm} {G G' : List (Int × Nat)} {A A2 A' A2' : Option Addr} {n c n2 c2 n' c' n2' c2' : Nat} {q q' : Q}
theorem turn_fx (T : Turn (Foot p bm dm G) wr (Foot p bm dm G') w2) (hX : X < wr.heap.size) : Turn (FX p bm dm G X) wr (FX p bm dm G' X) w2 :=
  ⟨T.os, T.tape, T.output, T.size, fun b hb hf => T.block b hb (fun h => hf (.inl h)), fun b hb => hb.elim (fun h => (T.foot b h).elim (fun h => .inl (.inl h)) .inr) (fun h => .inl (.inr h))⟩
theorem Off.turn {F F' : Nat → Prop} (h : Off wr F A) (T : Turn F wr F' w2) : Off w2 F' A := fun ad hA => ⟨Nat.lt_of_lt_of_le (h ad hA).1 T.size, fun hF => (T.foot _ hF).elim (h ad hA).2 (fun hge => by have := (h ad hA).1; omega)⟩
theorem Off.reads {F F' : Nat → Prop} {xs : List Value} (h : Off wr F A) (hr : Reads wr wr.heap.size 1 A n xs) (T : Turn F wr F' w2) : Reads w2 w2.heap.size 1 A n xs :=
  ⟨hr.1, fun hn => by
    obtain ⟨ad, rfl, hb, hc⟩ := hr.2 hn
    exact ⟨ad, rfl, Nat.lt_of_lt_of_le hb T.size, fun j u hu => (World.cell?_of_block (T.block _ (by rw [block_of_add]; exact hb) (by rw [block_of_add]; exact (h ad rfl).2))).trans (hc j u hu)⟩⟩
/-- The document's wheel by value, apart from blocks that turn. -/
structure QX (wr : World) (F : Nat → Prop) (q : Q) (A : Option Addr) (n c : Nat) (A2 : Option Addr) (n2 c2 : Nat) : Prop where
  qat : QAt q wr wr.heap.size A n c A2 n2 c2
  o1 : Off wr F A
  o2 : Off wr F A2
theorem QX.turn {F F' : Nat → Prop} (h : QX wr F q A n c A2 n2 c2) (T : Turn F wr F' w2) : QX w2 F' q A n c A2 n2 c2 :=
  ⟨⟨h.o1.reads h.qat.ids T, h.o2.reads h.qat.left T, h.qat.hc, h.qat.hm, h.qat.hc2, h.qat.hm2, h.qat.eq⟩, h.o1.turn T, h.o2.turn T⟩
theorem off_fresh {F : Nat → Prop} (h : Off wr F A) (hf : Fresh wr w2 A A') (hF : ∀ b, F b → b < wr.heap.size) (hs : wr.heap.size ≤ w2.heap.size) : Off w2 F A' := fun ad hA => by
  rcases hf ad hA with ⟨h1, h2⟩ | h1
  · exact ⟨h2, fun hb => by have := hF _ hb; omega⟩
  · exact ⟨Nat.lt_of_lt_of_le (h ad h1).1 hs, (h ad h1).2⟩
theorem off_none (wr : World) (F : Nat → Prop) : Off wr F none := fun ad h => by cases h
/-- Both wheels. -/
structure PS (w wr : World) (p bm dm : Nat) (now : Int) (L : List Tm) (G : List (Int × Nat)) (X : Nat) (A : Option Addr) (n c : Nat) (A2 : Option Addr) (n2 c2 : Nat) : Prop where
  wheel : WheelW wr p bm dm now L G
  far : ∀ b, Foot p bm dm G b → w.heap.size ≤ b
  below : Below w.heap.size w wr
  row : Row wr X 27 [.slice A n c, .slice A2 n2 c2]
  xlo : w.heap.size ≤ X
  xoff : ¬ Foot p bm dm G X
  qx : QX wr (FX p bm dm G X) (qOf now L) A n c A2 n2 c2
theorem PS.fx (h : PS w wr p bm dm now L G X A n c A2 n2 c2) : ∀ b, FX p bm dm G X b → b < wr.heap.size := fun b hb => hb.elim (h.wheel.lt b) (fun e => by rw [e]; exact h.row.lt)
theorem PS.on (h : PS w wr p bm dm now L G X A n c A2 n2 c2) (hb : Below wr.heap.size wr w2) : PS w w2 p bm dm now L G X A n c A2 n2 c2 :=
  ⟨h.wheel.below hb, h.far, h.below.trans (hb.mono h.below.size), h.row.keep (hb.block _ h.row.lt), h.xlo, h.xoff, h.qx.turn (Turn.below _ hb)⟩
theorem PS.turn (h : PS w wr p bm dm now L G X A n c A2 n2 c2) (hw : WheelW w2 p bm dm now' L' G') (T : Turn (Foot p bm dm G) wr (Foot p bm dm G') w2) (hq : qOf now' L' = qOf now L) : PS w w2 p bm dm now' L' G' X A n c A2 n2 c2 :=
  ⟨hw, T.far h.far h.below.size, h.below.trans (T.down h.far h.below.size), h.row.keep (T.block X h.row.lt h.xoff), h.xlo, fun hF => (T.foot X hF).elim h.xoff (fun hge => by have := h.row.lt; omega), by rw [hq]; exact h.qx.turn (turn_fx T h.row.lt)⟩
theorem PS.next (h : PS w wr p bm dm now L G X A n c A2 n2 c2) (hq : QAt (qOf now' L') w2 w2.heap.size A' n' c' A2' n2' c2') (hb : Below wr.heap.size wr w2) (f1 : Fresh wr w2 A A') (f2 : Fresh wr w2 A2 A2') (hb3 : Below w2.heap.size w2 w3)
    (hw : WheelW w4 p bm dm now' L' G') (T : Turn (Foot p bm dm G) w3 (Foot p bm dm G') w4) :
    PS w ((w4.setCell ⟨X, 0, none⟩ (.slice A' n' c')).setCell ⟨X, 1, none⟩ (.slice A2' n2' c2')) p bm dm now' L' G' X A' n' c' A2' n2' c2' := by
  have hs := hb.size
  have hs3 := hb3.size
  have hX := h.row.lt
  have qx2 : QX w2 (FX p bm dm G X) (qOf now' L') A' n' c' A2' n2' c2' := ⟨hq, off_fresh h.qx.o1 f1 h.fx hs, off_fresh h.qx.o2 f2 h.fx hs⟩
  have qx4 := (qx2.turn (Turn.below _ hb3)).turn (turn_fx T (by omega))
  have hxo : ¬ Foot p bm dm G' X := fun hF => (T.foot X hF).elim h.xoff (fun hge => by omega)
  have row4 : Row w4 X 27 [.slice A n c, .slice A2 n2 c2] := ((h.row.keep (hb.block _ hX)).keep (hb3.block _ (by omega))).keep (T.block X (by omega) h.xoff)
  have b3 : Below w.heap.size w w3 := (h.below.trans (hb.mono h.below.size)).trans (hb3.mono (Nat.le_trans h.below.size hs))
  have b4 := b3.trans (T.down h.far b3.size)
  have T5 : Turn (FX p bm dm G' X) w4 (FX p bm dm G' X) ((w4.setCell ⟨X, 0, none⟩ (.slice A' n' c')).setCell ⟨X, 1, none⟩ (.slice A2' n2' c2')) :=
    (Turn.set (FX p bm dm G' X) w4 (a := ⟨X, 0, none⟩) (.inr rfl) _).trans (Turn.set (FX p bm dm G' X) _ (a := ⟨X, 1, none⟩) (.inr rfl) _)
  exact ⟨hw.keep fun b hF => (heap_set_ne _ ⟨X, 1, none⟩ _ (fun e => hxo (by have e : b = X := e; rw [← e]; exact hF))).trans (heap_set_ne _ ⟨X, 0, none⟩ _ (fun e => hxo (by have e : b = X := e; rw [← e]; exact hF))), T.far h.far b3.size,
    below_setCell (below_setCell b4 (p := ⟨X, 0, none⟩) h.xlo _) (p := ⟨X, 1, none⟩) h.xlo _, (row4.set 0 (.slice A' n' c')).set 1 (.slice A2' n2' c2'), h.xlo, hxo, qx4.turn T5⟩
theorem PS.len (h : PS w wr p bm dm now L G X A n c A2 n2 c2) : n = L.length ∧ n ≤ 4096 := by
  have h1 := h.qx.qat.ids.len
  rw [(qlen now L).1] at h1
  exact ⟨h1, by have := h.wheel.len; omega⟩
end
end Go.Proofs.Ytfojempmgonahaa.Wh
