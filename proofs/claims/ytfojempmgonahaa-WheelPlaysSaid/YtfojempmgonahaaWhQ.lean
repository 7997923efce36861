/- The document's wheel in memory, told by value. Conditions: none. -/
import Derived.Test.YtfojempmgonahaaWhCut
set_option linter.unusedVariables false
set_option linter.unusedSimpArgs false
set_option maxRecDepth 100000
namespace Go.Proofs.Ytfojempmgonahaa.Wh
open Go Go.RowKit
/-- A wheel of the document, told by value. -/
structure QAt (q : Q) (w : World) (B : Nat) (A : Option Addr) (n c : Nat) (A2 : Option Addr) (n2 c2 : Nat) : Prop where
  ids : Reads w B 1 A n (ints q.ids)
  left : Reads w B 1 A2 n2 (ints q.left)
  hc : n ≤ c
  hm : c ≤ maxLen
  hc2 : n2 ≤ c2
  hm2 : c2 ≤ maxLen
  eq : n2 = n
theorem QAt.below {q : Q} {w w' : World} {B : Nat} {A : Option Addr} {n c : Nat} {A2 : Option Addr} {n2 c2 : Nat} (h : QAt q w B A n c A2 n2 c2) (hb : Below B w w') : QAt q w' B A n c A2 n2 c2 :=
  ⟨h.ids.below hb, h.left.below hb, h.hc, h.hm, h.hc2, h.hm2, h.eq⟩
theorem QAt.more {q : Q} {w : World} {B B' : Nat} {A : Option Addr} {n c : Nat} {A2 : Option Addr} {n2 c2 : Nat} (h : QAt q w B A n c A2 n2 c2) (hb : B ≤ B') : QAt q w B' A n c A2 n2 c2 :=
  ⟨h.ids.more hb, h.left.more hb, h.hc, h.hm, h.hc2, h.hm2, h.eq⟩
/-- A slice that is new since w, or the old one. -/
def Fresh (w w' : World) (A0 A : Option Addr) : Prop := ∀ ad, A = some ad → (w.heap.size ≤ ad.block ∧ ad.block < w'.heap.size) ∨ A0 = some ad
theorem Fresh.old (w w' : World) (A : Option Addr) : Fresh w w' A A := fun _ h => .inr h
theorem own_addr {w : World} {base n c : Nat} {A : Option Addr} {xs : List Value} (h : w.ownsRow base 3 1 (.slice A n c) n xs) : ∀ ad, A = some ad → base ≤ ad.block ∧ ad.block < w.heap.size := by
  intro ad hA
  subst hA
  rcases h.2 with ⟨e, _⟩ | ⟨g, cap, cur, e, hb, _⟩
  · injection e with e
    cases e
  · injection e with e
    injection e with e
    subst e
    exact ⟨hb, (h.lt g rfl).2⟩
theorem fresh_own {w w2 w' : World} {base : Nat} {A0 A : Option Addr} {n c : Nat} {xs : List Value} (h : w2.ownsRow base 3 1 (.slice A n c) n xs) (hb : w.heap.size ≤ base) (hs : w2.heap.size ≤ w'.heap.size) : Fresh w w' A0 A := fun ad hA => by
  obtain ⟨h1, h2⟩ := own_addr h ad hA
  exact .inl ⟨by omega, by omega⟩
def QPost (q : Q) (out : Value) (A0 A20 : Option Addr) (w : World) (e : Ending) (w' : World) : Prop := ∃ A n c A2 n2 c2, e = .returned (.tuple #[.agg #[.slice A n c, .slice A2 n2 c2], out]) ∧ QAt q w' w'.heap.size A n c A2 n2 c2 ∧ Below w.heap.size w w' ∧ Fresh w w' A0 A ∧ Fresh w w' A20 A2
end Go.Proofs.Ytfojempmgonahaa.Wh
