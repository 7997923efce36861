/- A move, plain, as the document tells. Conditions: none. -/
import Derived.Test.YtbjjgjifaomdlaaPoA
set_option linter.unusedVariables false
set_option linter.unusedSimpArgs false
namespace Go.Proofs.Ytbjjgjifaomdlaa.Mv
open Go
open Po (M)
/-- A message with nothing in it. -/
def nilM : M := ⟨0, 0, 0, 0, 0, 0, 0, 0, 0, 0, 0, [], 0, false, [], ⟨#[]⟩⟩
structure Mv where
  nm : Int
  ep : Int
  ph : Int
  vr : Int
  sh : Int
  fr : Int
  to : Int
  tx : ByteArray
/-- May a move be? -/
def okN (n e s f t : Int) : Prop := 1 ≤ n ∧ n ≤ 1099511627776 ∧ 1 ≤ e ∧ e ≤ 1099511627776 ∧ 0 ≤ s ∧ s ≤ 15 ∧ 0 ≤ f ∧ f ≤ 7 ∧ 0 ≤ t ∧ t ≤ 7 ∧ f ≠ t
def newM (n e s f t : Int) : Mv := ⟨n, e, 1, 0, s, f, t, ⟨#[]⟩⟩
/-- The phases there are, and numbers that may be. -/
structure FitV (m : Mv) : Prop where
  ph : 1 ≤ m.ph ∧ m.ph ≤ 9
  ok : okN m.nm m.ep m.sh m.fr m.to
def nodeM (m : Mv) : Int := if m.ph = 1 ∨ m.ph = 3 ∨ m.ph = 5 ∨ m.ph = 8 then m.fr else if m.ph = 2 ∨ m.ph = 4 ∨ m.ph = 7 then m.to else -1
def asks (p : Int) : Int := if p = 1 then 7 else if p = 2 then 9 else if p = 3 then 11 else if p = 4 then 13 else if p = 5 ∨ p = 7 then 15 else if p = 8 then 17 else 0
/-- Is there something to be said? -/
def open_ (m : Mv) : Bool := !(decide (m.ph = 6) || decide (m.ph = 9))
def saidM (m : Mv) : M :=
  { nilM with kd := asks m.ph, sh := m.sh, nn := m.nm, tx := if m.ph = 2 ∨ m.ph = 4 then m.tx else ⟨#[]⟩, vr := if m.ph = 3 then m.vr else 0, ep := if m.ph = 4 ∨ m.ph = 8 then m.ep else 0 }
def saysM (m : Mv) : Int × M × Bool := if open_ m = true then (nodeM m, saidM m, true) else (-1, nilM, false)
def stepM (m : Mv) (x : M) : Mv := { m with ph := m.ph + 1, vr := if m.ph = 1 then x.vr else m.vr, tx := if m.ph = 1 ∨ m.ph = 3 then x.tx else m.tx }
def hearsM (m : Mv) (f : Int) (x : M) : Mv × Bool :=
  if open_ m = false ∨ f ≠ nodeM m ∨ x.sh ≠ m.sh ∨ x.nn ≠ m.nm then (m, false)
  else if x.kd = 19 ∧ m.ph ≤ 4 ∧ x.vr = asks m.ph then ({ m with ph := 7 }, true)
  else if x.kd ≠ asks m.ph + 1 then (m, false)
  else (stepM m x, true)
def abortM (m : Mv) : Mv × Int := if m.ph = 1 ∨ m.ph = 2 ∨ m.ph = 3 then ({ m with ph := 7 }, 0) else if m.ph = 4 then (m, 180) else (m, 3)
theorem phases {m : Mv} (h : FitV m) : m.ph = 1 ∨ m.ph = 2 ∨ m.ph = 3 ∨ m.ph = 4 ∨ m.ph = 5 ∨ m.ph = 6 ∨ m.ph = 7 ∨ m.ph = 8 ∨ m.ph = 9 := by
  have := h.ph
  omega
theorem new_fit {n e s f t : Int} (h : okN n e s f t) : FitV (newM n e s f t) := ⟨by simp [newM], h⟩
theorem node_open {m : Mv} (h : FitV m) : nodeM m < 0 ↔ open_ m = false := by
  have ho := h.ok
  unfold okN at ho
  unfold nodeM open_
  rcases phases h with e | e | e | e | e | e | e | e | e <;> simp [e] <;> omega
theorem hears_fit {m : Mv} (h : FitV m) (f : Int) (x : M) : FitV (hearsM m f x).1 := by
  have hp := h.ph
  have ho := h.ok
  unfold hearsM
  split
  · exact h
  · rename_i hn
    split
    · exact ⟨by simp, ho⟩
    · split
      · exact h
      · refine ⟨?_, ho⟩
        have h9 : m.ph ≠ 9 := fun e => hn (.inl (by simp [open_, e]))
        simp only [stepM]
        omega
theorem abort_fit {m : Mv} (h : FitV m) : FitV (abortM m).1 := by
  unfold abortM
  split
  · exact ⟨by simp, h.ok⟩
  · split <;> exact h
/-- What it said is answered: it goes on. -/
theorem hears_answer {m : Mv} (h : FitV m) (ho : open_ m = true) (x : M) (h1 : x.kd = asks m.ph + 1) (h2 : x.sh = m.sh) (h3 : x.nn = m.nm) : hearsM m (nodeM m) x = (stepM m x, true) := by
  unfold hearsM
  rw [if_neg (by simp [ho, h2, h3]), if_neg, if_neg (by simp [h1])]
  rintro ⟨a, _, _⟩
  rw [a] at h1
  unfold asks at h1
  have := h.ph
  split at h1 <;> (try omega) <;> split at h1 <;> (try omega) <;> split at h1 <;> (try omega) <;> split at h1 <;> (try omega) <;> split at h1 <;> (try omega) <;> split at h1 <;> omega
theorem hears_other {m : Mv} {f : Int} {x : M} (h : f ≠ nodeM m ∨ x.sh ≠ m.sh ∨ x.nn ≠ m.nm) : hearsM m f x = (m, false) := by
  unfold hearsM
  rw [if_pos (.inr h)]
/-- A refusal of what is said. -/
theorem hears_moved {m : Mv} (h : FitV m) (hp : m.ph ≤ 4) (x : M) (h1 : x.kd = 19) (h2 : x.sh = m.sh) (h3 : x.nn = m.nm) (h4 : x.vr = asks m.ph) : hearsM m (nodeM m) x = ({ m with ph := 7 }, true) := by
  have h0 := h.ph
  unfold hearsM
  rw [if_neg (by simp [open_, h2, h3]; omega), if_pos ⟨h1, hp, h4⟩]
/-- A message of another kind, which refuses nothing that is said. -/
theorem hears_kind {m : Mv} (x : M) (f : Int) (h1 : x.kd ≠ asks m.ph + 1) (h2 : ¬ (x.kd = 19 ∧ m.ph ≤ 4 ∧ x.vr = asks m.ph)) : hearsM m f x = (m, false) := by
  unfold hearsM
  rw [if_neg h2, if_pos h1, ite_self]
/-- It is over: nothing is heard. -/
theorem hears_over {m : Mv} (ho : open_ m = false) (f : Int) (x : M) : hearsM m f x = (m, false) := by
  unfold hearsM
  rw [if_pos (.inl ho)]
theorem says_open {m : Mv} (ho : open_ m = true) : saysM m = (nodeM m, saidM m, true) := by unfold saysM; rw [if_pos ho]
theorem says_over {m : Mv} (ho : open_ m = false) : saysM m = (-1, nilM, false) := by unfold saysM; rw [if_neg (by simp [ho])]
/-- The phase behind i answers of a move (0 to 5). -/
def after (m : Mv) (v : Int) (t : ByteArray) : Nat → Mv
  | 0 => m
  | i + 1 => stepM (after m v t i) { nilM with vr := v, tx := t }
theorem after_ph (n e s f t v : Int) (x : ByteArray) : ∀ i, (after (newM n e s f t) v x i).ph = (i : Int) + 1 ∧ (after (newM n e s f t) v x i).nm = n ∧ (after (newM n e s f t) v x i).ep = e ∧ (after (newM n e s f t) v x i).sh = s ∧ (after (newM n e s f t) v x i).fr = f ∧ (after (newM n e s f t) v x i).to = t
  | 0 => by simp [after, newM]
  | i + 1 => by
    obtain ⟨h1, h2, h3, h4, h5, h6⟩ := after_ph n e s f t v x i
    refine ⟨?_, h2, h3, h4, h5, h6⟩
    simp only [after, stepM, h1]
    omega
theorem after_kept (n e s f t v : Int) (x : ByteArray) : ∀ i, 1 ≤ i → (after (newM n e s f t) v x i).vr = v ∧ (after (newM n e s f t) v x i).tx = x
  | 0, h => absurd h (by decide)
  | 1, _ => by simp [after, newM, stepM]
  | i + 2, _ => by
    obtain ⟨h1, h2⟩ := after_kept n e s f t v x (i + 1) (by omega)
    have h3 := (after_ph n e s f t v x (i + 1)).1
    have h4 : ¬ (after (newM n e s f t) v x (i + 1)).ph = 1 := by rw [h3]; omega
    rw [after]
    simp only [stepM, h1, h2, if_neg h4]
    exact ⟨trivial, by split <;> rfl⟩
end Go.Proofs.Ytbjjgjifaomdlaa.Mv
