/- The document's wheel and the program's, as lists: what the one answers the other does. Conditions: the timers rise. -/
import Derived.Test.YtfojempmgonahaaWhOpen
set_option linter.unusedVariables false
set_option linter.unusedSimpArgs false
set_option maxRecDepth 100000
namespace Go.Proofs.Ytfojempmgonahaa.Wh
open Go Go.RowKit Go.Maps
def qOf (now : Int) (L : List Tm) : Q := ⟨L.map Prod.fst, L.map fun p => p.2 - now⟩
def Rise (L : List Tm) : Prop := L.Pairwise fun p q => p.1 < q.1
theorem ins_cons (x e : Int) (p : Tm) (r : List Tm) : ins x e (p :: r) = if p.1 < x then p :: ins x e r else (x, e) :: p :: r := rfl
theorem cut_succ (y : Int) (l : List Int) (k m : Nat) (more : List Int) : cutL (y :: l) (k + 1) m more = y :: cutL l k m more := by
  unfold cutL
  rw [show k + 1 + m = (k + m) + 1 by omega, List.take_succ_cons, List.drop_succ_cons]
  rfl
theorem gone_of {x : Int} {r : List Tm} (h : ∀ p ∈ r, x < p.1) : has x r = false := by
  rw [Bool.eq_false_iff, Ne, has_iff]
  rintro ⟨p, hp, e⟩
  have := h p hp
  omega
theorem ins_head {x e : Int} : ∀ {r : List Tm}, (∀ p ∈ r, x < p.1) → ins x e r = (x, e) :: r
  | [], _ => rfl
  | p :: r, h => by
    unfold ins
    rw [if_neg (by have := h p (List.mem_cons_self ..); omega)]
theorem place_head {x : Int} {l : List Int} (h : ∀ y ∈ l, x < y) : placeN l x = 0 := by
  cases l with
  | nil => rfl
  | cons y r =>
    unfold placeN
    rw [if_neg (by have := h y (List.mem_cons_self ..); omega)]
theorem isAt_has : ∀ {L : List Tm} (x : Int), Rise L → isAt (L.map Prod.fst) x = has x L
  | [], x, _ => by simp [isAt, has, placeN]
  | p :: r, x, h => by
    obtain ⟨h1, h2⟩ := List.pairwise_cons.1 h
    have ih := isAt_has x h2
    unfold isAt at ih ⊢
    rw [List.map_cons]
    unfold placeN
    by_cases hp : p.1 < x
    · rw [if_pos hp]
      have e : has x (p :: r) = has x r := by
        have : ¬ p.1 = x := by omega
        simp [has, this]
      rw [e, ← ih]
      refine decide_eq_decide.2 ?_
      simp
    · rw [if_neg hp]
      by_cases he : p.1 = x
      · simp [he, has]
      · have hr : has x r = false := gone_of (fun q hq => by have := h1 q hq; omega)
        have : has x (p :: r) = false := by
          unfold has at hr ⊢
          rw [List.any_cons, hr]
          simp [he]
        rw [this]
        simp [he]
theorem cut_off (f : Tm → Int) : ∀ {L : List Tm} (x : Int), Rise L → has x L = true → cutL (L.map f) (placeN (L.map Prod.fst) x) 1 [] = (off x L).map f
  | [], x, _, h => by simp [has] at h
  | p :: r, x, h, hx => by
    obtain ⟨h1, h2⟩ := List.pairwise_cons.1 h
    rw [List.map_cons, List.map_cons]
    unfold placeN
    by_cases hp : p.1 < x
    · have hne : ¬ p.1 = x := by omega
      have hr : has x r = true := by simpa [has, hne] using hx
      rw [if_pos hp, cut_succ, cut_off f x h2 hr]
      have : off x (p :: r) = p :: off x r := by simp [off, hne]
      rw [this]
      rfl
    · rw [if_neg hp]
      have he : p.1 = x := by
        obtain ⟨q, hq, e⟩ := (has_iff x _).1 hx
        rcases List.mem_cons.1 hq with rfl | hq
        · exact e
        · have := h1 q hq
          omega
      have hr : has x r = false := gone_of (fun q hq => by have := h1 q hq; omega)
      have : off x (p :: r) = r := by
        have e1 : off x (p :: r) = off x r := by simp [off, he]
        rw [e1, off_self hr]
      rw [this]
      simp [cutL]
theorem cut_ins (f : Tm → Int) : ∀ {L : List Tm} (x e : Int), Rise L → cutL (L.map f) (placeN (L.map Prod.fst) x) (if has x L = true then 1 else 0) [f (x, e)] = (ins x e (off x L)).map f
  | [], x, e, _ => by simp [has, off, ins, cutL, placeN]
  | p :: r, x, e, h => by
    obtain ⟨h1, h2⟩ := List.pairwise_cons.1 h
    rw [List.map_cons, List.map_cons]
    unfold placeN
    by_cases hp : p.1 < x
    · have hne : ¬ p.1 = x := by omega
      have hr : has x (p :: r) = has x r := by simp [has, hne]
      rw [if_pos hp, cut_succ, hr, cut_ins f x e h2]
      have : off x (p :: r) = p :: off x r := by simp [off, hne]
      rw [this, ins_cons, if_pos hp]
      rfl
    · rw [if_neg hp]
      by_cases he : p.1 = x
      · have hr : has x r = false := gone_of (fun q hq => by have := h1 q hq; omega)
        have h3 : off x (p :: r) = r := by
          have e1 : off x (p :: r) = off x r := by simp [off, he]
          rw [e1, off_self hr]
        have h4 : has x (p :: r) = true := by simp [has, he]
        rw [h3, h4, ins_head (fun q hq => by have := h1 q hq; omega)]
        simp [cutL]
      · have hall : ∀ q ∈ p :: r, x < q.1 := fun q hq => by
          rcases List.mem_cons.1 hq with rfl | hq
          · omega
          · have := h1 q hq
            omega
        have h4 : has x (p :: r) = false := gone_of hall
        rw [off_self h4, h4, ins_head hall]
        simp [cutL]
theorem cancel_is {L : List Tm} (x now : Int) (h : Rise L) : cancelQ (qOf now L) x = (qOf now (off x L), has x L) := by
  unfold cancelQ qOf
  simp only
  rw [isAt_has x h]
  cases hx : has x L with
  | false =>
    rw [off_self hx]
    rfl
  | true =>
    rw [cut_off Prod.fst x h hx, cut_off (fun p => p.2 - now) x h hx]
    rfl
theorem set_is {L : List Tm} (x n now : Int) (h : Rise L) : setQ (qOf now L) x n = (qOf now (setR x n now L).2, (setR x n now L).1) := by
  unfold setQ setR many
  have hi := isAt_has x h
  have hl : (L.map Prod.fst).length = L.length := List.length_map ..
  unfold qOf
  simp only
  rw [hi, hl]
  split
  · rfl
  · split
    · rfl
    · have h1 := cut_ins Prod.fst x (now + n) h
      have h2 := cut_ins (fun p => p.2 - now) x (now + n) h
      simp only [show now + n - now = n by omega] at h2
      rw [h1, h2]
theorem place_lt {L : List Tm} (x : Int) (h : Rise L) (hx : has x L = true) (f : Tm → Int) : (L.map f).getD (placeN (L.map Prod.fst) x) 0 = f (x, endOf x L) := by
  induction L with
  | nil => simp [has] at hx
  | cons p r ih =>
    obtain ⟨h1, h2⟩ := List.pairwise_cons.1 h
    rw [List.map_cons, List.map_cons]
    unfold placeN
    by_cases hp : p.1 < x
    · have hne : ¬ p.1 = x := by omega
      have hr : has x r = true := by simpa [has, hne] using hx
      rw [if_pos hp, List.getD_cons_succ, ih h2 hr]
      have : endOf x (p :: r) = endOf x r := by
        unfold endOf
        rw [List.find?_cons]
        simp [hne]
      rw [this]
    · rw [if_neg hp]
      have he : p.1 = x := by
        obtain ⟨q, hq, e⟩ := (has_iff x _).1 hx
        rcases List.mem_cons.1 hq with rfl | hq
        · exact e
        · have := h1 q hq
          omega
      have : endOf x (p :: r) = p.2 := by
        unfold endOf
        rw [List.find?_cons]
        simp [he]
      rw [this, List.getD_cons_zero, ← he]
theorem left_is {L : List Tm} (x now : Int) (h : Rise L) : leftQ (qOf now L) x = leftL x now L := by
  unfold leftQ leftL qOf
  simp only
  rw [isAt_has x h]
  cases hx : has x L with
  | false => rfl
  | true => rw [place_lt x h hx]
theorem tick_is {L : List Tm} (now : Int) : tickQ (qOf now L) = (qOf (now + 1) (rest (now + 1) L), outs (now + 1) L) := by
  unfold tickQ qOf
  simp only
  have key : tickL (L.map Prod.fst) (L.map fun p => p.2 - now) = ((rest (now + 1) L).map Prod.fst, (rest (now + 1) L).map (fun p => p.2 - (now + 1)), outs (now + 1) L) := by
    induction L with
    | nil => rfl
    | cons p r ih =>
      rw [List.map_cons, List.map_cons]
      unfold tickL
      rw [ih]
      by_cases hp : p.2 = now + 1
      · have h1 : p.2 - now = 1 := by omega
        have h2 : rest (now + 1) (p :: r) = rest (now + 1) r := by simp [rest, hp]
        have h3 : outs (now + 1) (p :: r) = p.1 :: outs (now + 1) r := by simp [outs, at_, hp]
        rw [h2, h3, if_pos h1]
      · have h1 : ¬ p.2 - now = 1 := by omega
        have h2 : rest (now + 1) (p :: r) = p :: rest (now + 1) r := by simp [rest, hp]
        have h3 : outs (now + 1) (p :: r) = outs (now + 1) r := by simp [outs, at_, hp]
        rw [h2, h3, if_neg h1, List.map_cons, List.map_cons]
        simp only [show p.2 - now - 1 = p.2 - (now + 1) by omega]
  rw [key]
theorem qlen (now : Int) (L : List Tm) : (qOf now L).ids.length = L.length ∧ (qOf now L).left.length = L.length := by simp [qOf]
end Go.Proofs.Ytfojempmgonahaa.Wh
