/- The document's wheel as plain lists: numbers, rising, and how many ticks each has yet. Conditions: none. -/
set_option linter.unusedVariables false
namespace Go.Proofs.Ytfojempmgonahaa.Wh
/-- Where a number stands, or would stand. -/
def placeN : List Int → Int → Nat
  | [], _ => 0
  | x :: r, id => if x < id then placeN r id + 1 else 0
def isAt (l : List Int) (id : Int) : Bool := decide (placeN l id < l.length ∧ l.getD (placeN l id) 0 = id)
theorem place_le : ∀ (l : List Int) (id : Int), placeN l id ≤ l.length
  | [], _ => Nat.le_refl _
  | x :: r, id => by
    unfold placeN
    split
    · have := place_le r id
      simp only [List.length_cons]
      omega
    · exact Nat.zero_le _
theorem place_step : ∀ (l : List Int) (id : Int) (k : Nat), k ≤ placeN l id → k < l.length → (l.getD k 0 < id ↔ k + 1 ≤ placeN l id)
  | [], _, _, _, h => by simp at h
  | x :: r, id, 0, _, _ => by
    unfold placeN
    split
    · rename_i h
      simp [h]
    · rename_i h
      simp [h]
  | x :: r, id, k + 1, h, hl => by
    unfold placeN at h ⊢
    split at h
    · rename_i hx
      rw [if_pos hx]
      have := place_step r id k (by omega) (by simpa using hl)
      simp only [List.getD_cons_succ]
      rw [this]
      omega
    · omega
def cutL (l : List Int) (at_ many : Nat) (more : List Int) : List Int := l.take at_ ++ more ++ l.drop (at_ + many)
/-- Numbers and ticks. -/
structure Q where
  ids : List Int
  left : List Int
def many (q : Q) (id : Int) : Nat := if isAt q.ids id then 1 else 0
def setQ (q : Q) (id t : Int) : Q × Int :=
  if t < 1 ∨ 1048576 < t then (q, 1)
  else if isAt q.ids id = false ∧ 4096 ≤ q.ids.length then (q, 2)
  else (⟨cutL q.ids (placeN q.ids id) (many q id) [id], cutL q.left (placeN q.ids id) (many q id) [t]⟩, 0)
def cancelQ (q : Q) (id : Int) : Q × Bool :=
  if isAt q.ids id then (⟨cutL q.ids (placeN q.ids id) 1 [], cutL q.left (placeN q.ids id) 1 []⟩, true) else (q, false)
def leftQ (q : Q) (id : Int) : Int × Int := if isAt q.ids id then (q.left.getD (placeN q.ids id) 0, 0) else (0, 3)
/-- Of numbers and ticks: what stays, with a tick less, and what ran out. -/
def tickL : List Int → List Int → List Int × List Int × List Int
  | i :: r, t :: u => let x := tickL r u; if t = 1 then (x.1, x.2.1, i :: x.2.2) else (i :: x.1, (t - 1) :: x.2.1, x.2.2)
  | _, _ => ([], [], [])
def tickQ (q : Q) : Q × List Int := (⟨(tickL q.ids q.left).1, (tickL q.ids q.left).2.1⟩, (tickL q.ids q.left).2.2)
theorem place_none {l : List Int} {id : Int} (h : ∀ x ∈ l, x < id) : placeN l id = l.length := by
  induction l with
  | nil => rfl
  | cons x r ih =>
    unfold placeN
    rw [if_pos (h x (by simp)), ih (fun y hy => h y (by simp [hy]))]
    rfl
theorem cutL_len {l : List Int} {a m : Nat} {x : List Int} (h : a + m ≤ l.length) : (cutL l a m x).length = l.length - m + x.length := by
  unfold cutL
  simp
  omega
end Go.Proofs.Ytfojempmgonahaa.Wh
