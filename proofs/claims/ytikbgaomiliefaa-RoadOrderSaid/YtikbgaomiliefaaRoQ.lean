/- A queue of the program's road: letters in a slice that may be written. Conditions: none. -/
import Derived.Test.YtikbgaomiliefaaRoMem
import Derived.Laws.IdiomCopy
import Derived.Lib.AppendZerosOnto
import Derived.Deep.RegionLaw
set_option linter.unusedVariables false
set_option linter.unusedSimpArgs false
set_option maxRecDepth 100000
namespace Go.Proofs.Ytikbgaomiliefaa.Ro
open Go Go.RowKit
/-- Letters at a place of a block, with room behind them. -/
structure QB (w : World) (b off n c : Nat) (L : List Lt) : Prop where
  len : n = L.length
  le : n ≤ c
  max : c ≤ maxLen
  shape : ∃ t k, k ≠ 0 ∧ w.shape? b = some (t, k)
  room : ∀ j, j < c * 3 → (w.cell? ⟨b, off + j, none⟩).isSome = true ∧ w.frozen? ⟨b, off + j, none⟩ = false
  reads : ∀ j u, (lts L)[j]? = some u → w.cell? ⟨b, off + j, none⟩ = some u
/-- A queue. -/
def QA (w : World) (s : Sl) (L : List Lt) : Prop := (s = (none, 0, 0) ∧ L = []) ∨ ∃ b off n c, s = (some ⟨b, off, none⟩, n, c) ∧ QB w b off n c L
/-- The block of a queue. -/
def Ob (A : Option Addr) (b : Nat) : Prop := ∃ ad, A = some ad ∧ ad.block = b
section
variable {w w' : World} {b off n c : Nat} {s : Sl} {L : List Lt}
theorem shape_of_block {b : Nat} (e : w'.heap[b]? = w.heap[b]?) : w'.shape? b = w.shape? b := by simp only [World.shape?, e]
theorem cell_blk {a : Addr} (e : w'.heap[a.block]? = w.heap[a.block]?) : w'.cell? a = w.cell? a := World.cell?_of_block e
theorem frozen_of_block {a : Addr} (e : w'.heap[a.block]? = w.heap[a.block]?) : w'.frozen? a = w.frozen? a := by simp only [World.frozen?, e]
theorem shape_lt {b : Nat} {x : TypeId × Nat} (h : w.shape? b = some x) : b < w.heap.size := by
  rcases Nat.lt_or_ge b w.heap.size with h' | h'
  · exact h'
  · simp [World.shape?, Array.getElem?_eq_none h'] at h
theorem QB.lt (h : QB w b off n c L) : b < w.heap.size := by
  obtain ⟨t, k, _, e⟩ := h.shape
  exact shape_lt e
theorem QB.keep (h : QB w b off n c L) (e : w'.heap[b]? = w.heap[b]?) : QB w' b off n c L :=
  ⟨h.len, h.le, h.max, by rw [shape_of_block e]; exact h.shape, fun j hj => by rw [cell_blk (a := ⟨b, off + j, Option.none⟩) e, frozen_of_block (w := w) (w' := w') (a := ⟨b, off + j, Option.none⟩) e]; exact h.room j hj, fun j u hu => (cell_blk (a := ⟨b, off + j, Option.none⟩) e).trans (h.reads j u hu)⟩
theorem QA.keep (h : QA w s L) (e : ∀ b, Ob s.1 b → w'.heap[b]? = w.heap[b]?) : QA w' s L := by
  rcases h with h | ⟨b, off, n, c, rfl, h⟩
  · exact .inl h
  · exact .inr ⟨b, off, n, c, rfl, h.keep (e b ⟨_, rfl, rfl⟩)⟩
theorem QA.lt (h : QA w s L) : ∀ b, Ob s.1 b → b < w.heap.size := by
  rintro b ⟨ad, hA, rfl⟩
  rcases h with ⟨rfl, _⟩ | ⟨b, off, n, c, rfl, h⟩
  · cases hA
  · injection hA with hA
    subst hA
    exact h.lt
theorem QA.len (h : QA w s L) : s.2.1 = L.length := by
  rcases h with ⟨rfl, rfl⟩ | ⟨b, off, n, c, rfl, h⟩
  · rfl
  · exact h.len
theorem QA.ne (h : QA w s L) (hn : 0 < L.length) : ∃ b off n c, s = (some ⟨b, off, none⟩, n, c) ∧ QB w b off n c L := by
  rcases h with ⟨rfl, rfl⟩ | h
  · simp at hn
  · exact h
theorem setCells_heap (b : Nat) : ∀ (vs : List Value) (o : Nat) (w : World) (x : Nat), x ≠ b → (w.setCells b o vs).heap[x]? = w.heap[x]?
  | [], _, _, _, _ => rfl
  | v :: r, o, w, x, h => by
    rw [World.setCells, setCells_heap b r (o + 1) _ x h]
    exact heap_set_ne w ⟨b, o, none⟩ v h
theorem setCells_size (b : Nat) : ∀ (vs : List Value) (o : Nat) (w : World), (w.setCells b o vs).heap.size = w.heap.size
  | [], _, _ => rfl
  | v :: r, o, w => by rw [World.setCells, setCells_size b r]; simp
theorem setCells_os (b : Nat) : ∀ (vs : List Value) (o : Nat) (w : World), (w.setCells b o vs).os = w.os ∧ (w.setCells b o vs).tape = w.tape ∧ (w.setCells b o vs).output = w.output
  | [], _, _ => ⟨rfl, rfl, rfl⟩
  | v :: r, o, w => by rw [World.setCells]; exact setCells_os b r (o + 1) _
theorem shape_setCell (w : World) (a : Addr) (v : Value) (b : Nat) : (w.setCell a v).shape? b = w.shape? b := by
  by_cases h : b = a.block
  · subst h
    simp only [World.shape?, World.setCell, Array.getElem?_modify]
    cases he : w.heap[a.block]? with
    | none => simp
    | some o =>
      cases o <;> simp
      split <;> simp
  · exact shape_of_block (heap_set_ne w a v h)
theorem shape_setCells (b : Nat) : ∀ (vs : List Value) (o : Nat) (w : World) (x : Nat), (w.setCells b o vs).shape? x = w.shape? x
  | [], _, _, _ => rfl
  | v :: r, o, w, x => by rw [World.setCells, shape_setCells b r, shape_setCell]
theorem Turn.sets {F : Nat → Prop} (hb : F b) (o : Nat) (vs : List Value) : Turn F w F (w.setCells b o vs) :=
  ⟨(setCells_os b vs o w).1, (setCells_os b vs o w).2.1, (setCells_os b vs o w).2.2, Nat.le_of_eq (setCells_size b vs o w).symm, fun x _ hx => setCells_heap b vs o w x (fun e => hx (e ▸ hb)), fun _ h => .inl h⟩
theorem some_sets (vs : List Value) (o : Nat) (w : World) (h : ∀ j, j < vs.length → (w.cell? ⟨b, o + j, none⟩).isSome = true) (k : Nat) (hk : (w.cell? ⟨b, k, none⟩).isSome = true) : ((w.setCells b o vs).cell? ⟨b, k, none⟩).isSome = true := by
  by_cases hin : o ≤ k ∧ k < o + vs.length
  · have := World.cell?_setCells_in b vs o w h (k - o) (by omega)
    rw [show o + (k - o) = k by omega] at this
    rw [this]
    rfl
  · rw [World.cell?_setCells_out b vs o w ⟨b, k, none⟩ (fun _ _ => by show k < o ∨ o + vs.length ≤ k; omega)]
    exact hk
theorem get_sets (vs : List Value) (o : Nat) (w : World) (h : ∀ j, j < vs.length → (w.cell? ⟨b, o + j, none⟩).isSome = true) (k : Nat) : (w.setCells b o vs).cell? ⟨b, k, none⟩ = if o ≤ k ∧ k < o + vs.length then vs[k - o]? else w.cell? ⟨b, k, none⟩ := by
  by_cases hin : o ≤ k ∧ k < o + vs.length
  · have := World.cell?_setCells_in b vs o w h (k - o) (by omega)
    rw [show o + (k - o) = k by omega] at this
    rw [this, if_pos hin, List.getElem?_eq_getElem]
  · rw [if_neg hin]
    exact World.cell?_setCells_out b vs o w ⟨b, k, none⟩ (fun _ _ => by show k < o ∨ o + vs.length ≤ k; omega)
theorem QB.drew (h : QB w b off n c L) : QB w.drew b off n c L := ⟨h.len, h.le, h.max, h.shape, h.room, h.reads⟩
/-- Cells are stored in the middle. -/
theorem QB.sets (h : QB w b off n c L) (p : Nat) (vs : List Value) (L' : List Lt) (n' : Nat) (hp : p + vs.length ≤ c * 3) (hpl : p ≤ (lts L).length) (hn : n' = L'.length) (hc : n' ≤ c)
    (hL : ∃ r, (lts L).take p ++ (vs ++ (lts L).drop (p + vs.length)) = lts L' ++ r) : QB (w.setCells b (off + p) vs) b off n' c L' := by
  have hs : ∀ j, j < vs.length → (w.cell? ⟨b, off + p + j, none⟩).isSome = true := fun j hj => by rw [Nat.add_assoc]; exact (h.room (p + j) (by omega)).1
  refine ⟨hn, hc, h.max, by rw [shape_setCells]; exact h.shape, fun j hj => ⟨some_sets vs (off + p) w hs _ (h.room j hj).1, by rw [World.frozen?_setCells]; exact (h.room j hj).2⟩, fun j u hu => ?_⟩
  obtain ⟨r, hr⟩ := hL
  have h2 : ((lts L).take p ++ (vs ++ (lts L).drop (p + vs.length)))[j]? = some u := by
    rw [hr, List.getElem?_append_left (List.getElem?_eq_some_iff.1 hu).1]
    exact hu
  have hlt : ((lts L).take p).length = p := by rw [List.length_take]; omega
  rw [get_sets vs (off + p) w hs]
  by_cases h0 : j < p
  · rw [List.getElem?_append_left (by omega), List.getElem?_take, if_pos h0] at h2
    rw [if_neg (by omega)]
    exact h.reads j u h2
  · rw [List.getElem?_append_right (by omega), hlt] at h2
    by_cases h1 : j < p + vs.length
    · rw [List.getElem?_append_left (by omega)] at h2
      rw [if_pos (by omega), ← h2]
      congr 1
      omega
    · rw [List.getElem?_append_right (by omega), List.getElem?_drop] at h2
      rw [if_neg (by omega)]
      refine h.reads j u ?_
      rw [← h2]
      congr 1
      omega
/-- Another length, the same cells. -/
theorem QB.front (h : QB w b off n c L) (k : Nat) (hk : k ≤ n) : QB w b off k c (L.take k) := by
  have hl := h.len
  have hle := h.le
  refine ⟨by rw [List.length_take]; omega, by omega, h.max, h.shape, h.room, fun j u hu => h.reads j u ?_⟩
  rw [← lts_take, List.getElem?_take] at hu
  split at hu
  · exact hu
  · simp at hu
/-- The first ones are left out. -/
theorem QB.back (h : QB w b off n c L) (k : Nat) (hk : k ≤ n) (hc : k < c) : QB w b (off + k * 3) (n - k) (c - k) (L.drop k) := by
  have hl := h.len
  have hle := h.le
  have hm := h.max
  refine ⟨by rw [List.length_drop]; omega, by omega, by omega, h.shape, fun j hj => by rw [Nat.add_assoc]; exact h.room _ (by omega), fun j u hu => ?_⟩
  rw [Nat.add_assoc]
  refine h.reads _ u ?_
  rw [← lts_drop, List.getElem?_drop] at hu
  exact hu
theorem QB.none (h : QB w b off n c L) : QB w b off 0 0 [] := ⟨rfl, Nat.le_refl _, Nat.zero_le _, h.shape, fun j hj => by omega, fun j u hu => by simp [lts] at hu⟩
/-- A row of the call's own is a queue. -/
theorem qb_own {base : Nat} {E : TypeId} {A : Option Addr} (h : w.ownsRow base E 3 (.slice A n c) n (lts L)) (hn : 0 < n) : ∃ b, A = some ⟨b, 0, Option.none⟩ ∧ base ≤ b ∧ QB w b 0 n c L := by
  have hr := Ro.Reads.lts_len (Reads.of_own h)
  rcases h.2 with ⟨e, _⟩ | ⟨g, cap, cur, e, hb, hg, h1, h2, h3, h4⟩
  · injection e with _ e
    omega
  · injection e with e _ e3
    subst e e3
    refine ⟨g, rfl, hb, hr, h1, h2, ⟨E, cur.size, by omega, by simp only [World.shape?, hg]⟩, fun j hj => ⟨?_, ?_⟩, fun j u hu => ?_⟩
    · simp only [World.cell?, hg, Nat.zero_add]
      rw [Array.getElem?_eq_getElem (by omega)]
      rfl
    · simp only [World.frozen?, hg]
      simp
    · rw [Nat.zero_add]
      simp only [World.cell?, hg]
      rw [← h4, List.getElem?_take] at hu
      split at hu
      · simpa using hu
      · simp at hu
end
end Go.Proofs.Ytikbgaomiliefaa.Ro
