/- A wheel of the program in memory, told by its timers. Conditions: none. -/
import Derived.Test.YtfojempmgonahaaWhMap
import Derived.Test.YtfojempmgonahaaWhMath
set_option linter.unusedVariables false
set_option linter.unusedSimpArgs false
set_option maxRecDepth 100000
namespace Go.Proofs.Ytfojempmgonahaa.Wh
open Go Go.RowKit Go.Maps
/-- A number, and the tick at which its timer runs out. -/
abbrev Tm := Int × Int
def at_ (t : Int) (L : List Tm) : List Tm := L.filter fun p => decide (p.2 = t)
def off (x : Int) (L : List Tm) : List Tm := L.filter fun p => decide (p.1 ≠ x)
def has (x : Int) (L : List Tm) : Bool := L.any fun p => decide (p.1 = x)
def endOf (x : Int) (L : List Tm) : Int := ((L.find? fun p => decide (p.1 = x)).map Prod.snd).getD 0
def ins (x t : Int) : List Tm → List Tm
  | [] => [(x, t)]
  | p :: r => if p.1 < x then p :: ins x t r else (x, t) :: p :: r
def endsE (L : List Tm) : List Ent := L.map fun p => (p.1, .int .i64 p.2)
def setE (t : Int) (L : List Tm) : List Ent := (at_ t L).map fun p => (p.1, .agg #[])
def dueE (G : List (Int × Nat)) : List Ent := G.map fun q => (q.1, .map (some q.2))
def noTick (t : Int) (G : List (Int × Nat)) : List (Int × Nat) := G.filter fun q => decide (q.1 ≠ t)
theorem has_iff (x : Int) (L : List Tm) : has x L = true ↔ ∃ p ∈ L, p.1 = x := by simp [has]
theorem has_no {x : Int} {L : List Tm} (h : has x L = false) : ∀ p ∈ L, p.1 ≠ x := by
  intro p hp e
  have := (has_iff x L).2 ⟨p, hp, e⟩
  rw [h] at this
  cases this
theorem has_off (x : Int) (L : List Tm) : has x (off x L) = false := by
  rw [Bool.eq_false_iff, Ne, has_iff]
  rintro ⟨p, hp, e⟩
  have : p.1 ≠ x := by simpa using (List.mem_filter.1 hp).2
  exact this e
theorem off_self {x : Int} {L : List Tm} (h : has x L = false) : off x L = L := by
  unfold off
  rw [List.filter_eq_self]
  intro p hp
  simpa using has_no h p hp
theorem mem_off {x : Int} {L : List Tm} {p : Tm} : p ∈ off x L ↔ p ∈ L ∧ p.1 ≠ x := by simp [off]
theorem mem_at {t : Int} {L : List Tm} {p : Tm} : p ∈ at_ t L ↔ p ∈ L ∧ p.2 = t := by simp [at_]
theorem mem_ins {x t : Int} : ∀ {L : List Tm} {p : Tm}, p ∈ ins x t L ↔ p = (x, t) ∨ p ∈ L
  | [], p => by simp [ins]
  | q :: r, p => by
    unfold ins
    split
    · rw [List.mem_cons, mem_ins, List.mem_cons]
      constructor
      · rintro (h | h | h)
        · exact .inr (.inl h)
        · exact .inl h
        · exact .inr (.inr h)
      · rintro (h | h | h)
        · exact .inr (.inl h)
        · exact .inl h
        · exact .inr (.inr h)
    · rw [List.mem_cons]
theorem ins_perm (x t : Int) : ∀ (L : List Tm), (ins x t L).Perm ((x, t) :: L)
  | [] => List.Perm.refl _
  | q :: r => by
    unfold ins
    split
    · exact ((ins_perm x t r).cons q).trans (List.Perm.swap ..)
    · exact List.Perm.refl _
theorem ins_rise {x t : Int} : ∀ {L : List Tm}, L.Pairwise (fun p q => p.1 < q.1) → has x L = false → (ins x t L).Pairwise (fun p q => p.1 < q.1)
  | [], _, _ => by simp [ins]
  | q :: r, h, hn => by
    obtain ⟨h1, h2⟩ := List.pairwise_cons.1 h
    have hr : has x r = false := by
      unfold has at hn ⊢
      rw [List.any_cons, Bool.or_eq_false_iff] at hn
      exact hn.2
    have hq : q.1 ≠ x := has_no hn q (List.mem_cons_self ..)
    unfold ins
    split
    · rename_i hlt
      refine List.pairwise_cons.2 ⟨fun p hp => ?_, ins_rise h2 hr⟩
      rcases mem_ins.1 hp with rfl | hp
      · exact hlt
      · exact h1 p hp
    · rename_i hlt
      refine List.pairwise_cons.2 ⟨fun p hp => ?_, h⟩
      rcases List.mem_cons.1 hp with rfl | hp
      · show x < p.1; omega
      · have := h1 p hp
        show x < p.1; omega
theorem isId_ends (x : Int) (L : List Tm) : isId x (endsE L) = has x L := by unfold isId endsE has; rw [List.any_map]; rfl
theorem noId_ends (x : Int) (L : List Tm) : noId x (endsE L) = endsE (off x L) := by unfold noId endsE off; rw [List.filter_map]; rfl
theorem noId_set (x t : Int) (L : List Tm) : noId x (setE t L) = setE t (off x L) := by
  unfold noId setE off at_
  rw [List.filter_map, List.filter_filter, List.filter_filter]
  congr 1
  refine List.filter_congr fun p _ => ?_
  simp [Bool.and_comm]
theorem val_ends (x : Int) (L : List Tm) : valOf x (.int .i64 0) (endsE L) = .int .i64 (endOf x L) := by
  unfold valOf endsE endOf
  induction L with
  | nil => rfl
  | cons p r ih =>
    rw [List.map_cons, List.find?_cons, List.find?_cons]
    by_cases h : p.1 = x
    · simp [h]
    · simp only [h, decide_false]
      exact ih
theorem isId_due (t : Int) (G : List (Int × Nat)) : isId t (dueE G) = G.any fun q => decide (q.1 = t) := by unfold isId dueE; rw [List.any_map]; rfl
theorem noId_due (t : Int) (G : List (Int × Nat)) : noId t (dueE G) = dueE (noTick t G) := by unfold noId dueE noTick; rw [List.filter_map]; rfl
theorem Apart.eq {E : List Ent} (h : Apart E) : ∀ {p q : Ent}, p ∈ E → q ∈ E → p.1 = q.1 → p = q := by
  induction E with
  | nil => intro p q hp; simp at hp
  | cons r E ih =>
    obtain ⟨h1, h2⟩ := List.pairwise_cons.1 h
    intro p q hp hq e
    rcases List.mem_cons.1 hp with ep | hp1
    · rcases List.mem_cons.1 hq with eq | hq1
      · rw [ep, eq]
      · rw [ep] at e
        exact absurd e (h1 q hq1)
    · rcases List.mem_cons.1 hq with eq | hq1
      · rw [eq] at e
        exact absurd e.symm (h1 p hp1)
      · exact ih h2 hp1 hq1 e
theorem noTick_mem {t : Int} {G : List (Int × Nat)} {q : Int × Nat} : q ∈ noTick t G ↔ q ∈ G ∧ q.1 ≠ t := by simp [noTick]
theorem few : ∀ (G : List (Int × Nat)) (L : List Tm), Apart (dueE G) → (∀ q ∈ G, at_ q.1 L ≠ []) → G.length ≤ L.length
  | [], L, _, _ => Nat.zero_le _
  | q :: r, L, h, hn => by
    obtain ⟨h1, h2⟩ := List.pairwise_cons.1 h
    have ih := few r (L.filter fun p => decide (p.2 ≠ q.1)) h2 (fun u hu => by
      have hne := hn u (List.mem_cons_of_mem _ hu)
      have hq : q.1 ≠ u.1 := h1 (u.1, .map (some u.2)) (List.mem_map.2 ⟨u, hu, rfl⟩)
      obtain ⟨p, hp⟩ := List.exists_mem_of_ne_nil _ hne
      obtain ⟨a, b⟩ := mem_at.1 hp
      exact List.ne_nil_of_mem (mem_at.2 ⟨List.mem_filter.2 ⟨a, by simpa [b] using fun e => hq e.symm⟩, b⟩))
    obtain ⟨p, hp⟩ := List.exists_mem_of_ne_nil _ (hn q (List.mem_cons_self ..))
    obtain ⟨a, b⟩ := mem_at.1 hp
    have : (L.filter fun p => decide (p.2 ≠ q.1)).length < L.length := by
      rcases Nat.lt_or_ge (L.filter fun p => decide (p.2 ≠ q.1)).length L.length with hl | hl
      · exact hl
      · have he := List.length_filter_eq_length_iff.1 (Nat.le_antisymm (List.length_filter_le _ L) hl) p a
        simp [b] at he
    simp only [List.length_cons]
    omega
/-- A wheel's blocks. -/
def Foot (p bm dm : Nat) (G : List (Int × Nat)) (b : Nat) : Prop := b = p ∨ b = bm ∨ b = dm ∨ ∃ q ∈ G, q.2 = b
/-- A wheel in memory, but for that none of its sets is empty. -/
structure Mid (w : World) (p bm dm : Nat) (now : Int) (L : List Tm) (G : List (Int × Nat)) : Prop where
  row : Row w p 53 [.pointer (some ⟨p, 0, none⟩), .int .i64 now, .map (some bm), .map (some dm)]
  ends : MapAt w bm (endsE L)
  due : MapAt w dm (dueE G)
  sets : ∀ q ∈ G, MapAt w q.2 (setE q.1 L)
  all : ∀ x ∈ L, ∃ q ∈ G, q.1 = x.2
  gap : ∀ q ∈ G, ∀ r ∈ G, q.2 = r.2 → q = r
  out : ∀ q ∈ G, q.2 ≠ p ∧ q.2 ≠ bm ∧ q.2 ≠ dm
  e1 : p ≠ bm
  e2 : p ≠ dm
  e3 : bm ≠ dm
  rise : L.Pairwise fun x y => x.1 < y.1
  wf : ∀ x ∈ L, (Lit.int .i64 x.1).wf = true ∧ now < x.2 ∧ x.2 ≤ now + 1048576
  now0 : 0 ≤ now
  len : L.length ≤ 4096
/-- A wheel in memory. -/
structure WheelW (w : World) (p bm dm : Nat) (now : Int) (L : List Tm) (G : List (Int × Nat)) : Prop extends Mid w p bm dm now L G where
  ne : ∀ q ∈ G, at_ q.1 L ≠ []
section
variable {w w' w1 w2 : World} {p bm dm : Nat} {now : Int} {L : List Tm} {G : List (Int × Nat)}
theorem Mid.lt (h : Mid w p bm dm now L G) : ∀ b, Foot p bm dm G b → b < w.heap.size := by
  rintro b (rfl | rfl | rfl | ⟨q, hq, rfl⟩)
  · exact h.row.lt
  · exact h.ends.lt
  · exact h.due.lt
  · exact (h.sets q hq).lt
theorem Mid.keep (h : Mid w p bm dm now L G) (hk : ∀ b, Foot p bm dm G b → w'.heap[b]? = w.heap[b]?) : Mid w' p bm dm now L G :=
  { h with
    row := h.row.keep (hk p (.inl rfl))
    ends := h.ends.keep (hk bm (.inr (.inl rfl)))
    due := h.due.keep (hk dm (.inr (.inr (.inl rfl))))
    sets := fun q hq => (h.sets q hq).keep (hk _ (.inr (.inr (.inr ⟨q, hq, rfl⟩)))) }
theorem WheelW.keep (h : WheelW w p bm dm now L G) (hk : ∀ b, Foot p bm dm G b → w'.heap[b]? = w.heap[b]?) : WheelW w' p bm dm now L G := ⟨h.toMid.keep hk, h.ne⟩
theorem WheelW.below (h : WheelW w p bm dm now L G) (hb : Below w.heap.size w w') : WheelW w' p bm dm now L G := h.keep fun b hF => hb.block b (h.lt b hF)
theorem WheelW.drewN (h : WheelW w p bm dm now L G) (q : Nat) : WheelW (w.drewN q) p bm dm now L G := h.keep fun _ _ => rfl
theorem WheelW.turn {Z Z' : Nat → Prop} (h : WheelW w p bm dm now L G) (T : Turn Z w Z' w') (hd : ∀ b, Foot p bm dm G b → ¬ Z b) : WheelW w' p bm dm now L G := h.keep fun b hF => T.block b (h.lt b hF) (hd b hF)
theorem Mid.c0 (h : Mid w p bm dm now L G) : w.cell? ⟨p, 0, none⟩ = some (.pointer (some ⟨p, 0, none⟩)) := h.row.cell rfl
theorem Mid.c1 (h : Mid w p bm dm now L G) : w.cell? ⟨p, 1, none⟩ = some (.int .i64 now) := h.row.cell rfl
theorem Mid.c2 (h : Mid w p bm dm now L G) : w.cell? ⟨p, 2, none⟩ = some (.map (some bm)) := h.row.cell rfl
theorem Mid.c3 (h : Mid w p bm dm now L G) : w.cell? ⟨p, 3, none⟩ = some (.map (some dm)) := h.row.cell rfl
theorem Mid.z (h : Mid w p bm dm now L G) (j : Nat) : w.frozen? ⟨p, j, none⟩ = false := h.row.frozen j
theorem Mid.one (h : Mid w p bm dm now L G) {x y : Tm} (hx : x ∈ L) (hy : y ∈ L) (e : x.1 = y.1) : x = y := by
  have h1 := h.ends.apart.eq (p := (x.1, .int .i64 x.2)) (q := (y.1, .int .i64 y.2)) (List.mem_map.2 ⟨x, hx, rfl⟩) (List.mem_map.2 ⟨y, hy, rfl⟩) e
  injection h1 with h1 h2
  injection h2 with _ h2
  exact Prod.ext h1 h2
theorem Mid.tick1 (h : Mid w p bm dm now L G) {q r : Int × Nat} (hq : q ∈ G) (hr : r ∈ G) (e : q.1 = r.1) : q = r := by
  have h1 := h.due.apart.eq (p := (q.1, .map (some q.2))) (q := (r.1, .map (some r.2))) (List.mem_map.2 ⟨q, hq, rfl⟩) (List.mem_map.2 ⟨r, hr, rfl⟩) e
  injection h1 with h1 h2
  injection h2 with h2
  injection h2 with h2
  exact Prod.ext h1 h2
theorem Mid.val_due (h : Mid w p bm dm now L G) {q : Int × Nat} (hq : q ∈ G) : valOf q.1 (.map none) (dueE G) = .map (some q.2) :=
  valOf_mem h.due.apart (p := (q.1, .map (some q.2))) (List.mem_map.2 ⟨q, hq, rfl⟩) rfl
theorem WheelW.glen (h : WheelW w p bm dm now L G) : G.length ≤ 4096 := Nat.le_trans (few G L h.due.apart h.ne) h.len
theorem grown_turn {Z : Nat → Prop} {row : Nat} (hg : w.grownBy w' (some row)) (hF : Z row) : Turn Z w Z w' := ⟨hg.os, hg.tape, hg.output, hg.size, fun b hb hf => hg.block b hb (fun e => by injection e with e; subst e; exact hf hF), fun _ h => .inl h⟩
theorem endOf_mem (h : Mid w p bm dm now L G) {x : Tm} (hx : x ∈ L) : endOf x.1 L = x.2 := by
  have h1 := valOf_mem (z := .int .i64 0) h.ends.apart (p := (x.1, .int .i64 x.2)) (List.mem_map.2 ⟨x, hx, rfl⟩) rfl
  rw [val_ends] at h1
  injection h1
end
end Go.Proofs.Ytfojempmgonahaa.Wh
