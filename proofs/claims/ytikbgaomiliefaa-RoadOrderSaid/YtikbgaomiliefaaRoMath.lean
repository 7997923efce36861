/- The document's road as plain lists of letters. Conditions: none. -/
set_option linter.unusedVariables false
namespace Go.Proofs.Ytikbgaomiliefaa.Ro
/-- A letter: from, to, its text. -/
abbrev Lt := Int × Int × ByteArray
abbrev Rd := List (List Lt)
def thereQ (Q : Rd) (to : Int) : Bool := decide (-1 ≤ to ∧ to < (Q.length : Int) - 1)
def spot (to : Int) : Nat := (to + 1).toNat
def haveQ (Q : Rd) (to : Int) : List Lt := Q.getD (spot to) []
def withQ (Q : Rd) (to : Int) (l : List Lt) : Rd := Q.take (spot to) ++ [l] ++ Q.drop (spot to + 1)
def cutT (l : List Lt) (a m : Nat) (more : List Lt) : List Lt := l.take a ++ more ++ l.drop (a + m)
def sendQ (Q : Rd) (l : Lt) : Rd × Int :=
  if thereQ Q l.1 = false ∨ thereQ Q l.2.1 = false ∨ 1048576 < l.2.2.size then (Q, 1)
  else if 1024 ≤ (haveQ Q l.2.1).length then (Q, 2)
  else (withQ Q l.2.1 (haveQ Q l.2.1 ++ [l]), 0)
def noL : Lt := (0, 0, ⟨#[]⟩)
def nextQ (Q : Rd) (to : Int) : Rd × Lt × Int :=
  if thereQ Q to = false then (Q, noL, 1)
  else match haveQ Q to with
    | [] => (Q, noL, 3)
    | l :: r => (withQ Q to r, l, 0)
def dropQ (Q : Rd) (to at_ : Int) : Rd × Int :=
  if thereQ Q to = false then (Q, 1)
  else if at_ < 0 ∨ ((haveQ Q to).length : Int) ≤ at_ then (Q, 3)
  else (withQ Q to (cutT (haveQ Q to) at_.toNat 1 []), 0)
def twiceQ (Q : Rd) (to at_ : Int) : Rd × Int :=
  if thereQ Q to = false then (Q, 1)
  else if at_ < 0 ∨ ((haveQ Q to).length : Int) ≤ at_ then (Q, 3)
  else if 1024 ≤ (haveQ Q to).length then (Q, 2)
  else (withQ Q to (cutT (haveQ Q to) at_.toNat 0 [(haveQ Q to).getD at_.toNat noL]), 0)
def swapQ (Q : Rd) (to at_ : Int) : Rd × Int :=
  if thereQ Q to = false then (Q, 1)
  else if at_ < 0 ∨ ((haveQ Q to).length : Int) - 1 ≤ at_ then (Q, 3)
  else (withQ Q to (cutT (haveQ Q to) at_.toNat 2 [(haveQ Q to).getD (at_.toNat + 1) noL, (haveQ Q to).getD at_.toNat noL]), 0)
def waitsQ (Q : Rd) (to : Int) : Int := if thereQ Q to = false then 0 else ((haveQ Q to).length : Int)
def clearQ (Q : Rd) (to : Int) : Rd × Int := if thereQ Q to = false then (Q, 1) else (withQ Q to [], 0)
theorem cutT_len {l : List Lt} {a m : Nat} {x : List Lt} (h : a + m ≤ l.length) : (cutT l a m x).length = l.length - m + x.length := by
  unfold cutT
  simp
  omega
theorem there_iff {Q : Rd} {to : Int} : thereQ Q to = true ↔ -1 ≤ to ∧ to < (Q.length : Int) - 1 := by unfold thereQ; exact decide_eq_true_iff
theorem spot_lt {Q : Rd} {to : Int} (h : thereQ Q to = true) : spot to < Q.length ∧ (spot to : Int) = to + 1 := by
  have := there_iff.1 h
  unfold spot
  omega
theorem with_len {Q : Rd} {to : Int} {l : List Lt} (h : thereQ Q to = true) : (withQ Q to l).length = Q.length := by
  have := (spot_lt h).1
  unfold withQ
  simp
  omega
end Go.Proofs.Ytikbgaomiliefaa.Ro
