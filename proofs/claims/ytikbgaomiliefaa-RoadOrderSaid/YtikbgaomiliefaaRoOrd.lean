/- RoadOrder, plain; and what it keeps in memory: a road, five lists of strings, five numbers. Conditions: none. -/
import Derived.Test.YtikbgaomiliefaaRoLawB
import Derived.Test.YtikbgaomiliefaaRoCode
set_option linter.unusedVariables false
set_option linter.unusedSimpArgs false
set_option maxRecDepth 100000
namespace Go.Proofs.Ytikbgaomiliefaa.Ro
open Go Go.RowKit
def upd {α : Type} (f : Nat → α) (j : Nat) (x : α) : Nat → α := fun i => if i = j then x else f i
theorem upd_same {α : Type} (f : Nat → α) (j : Nat) (x : α) : upd f j x j = x := if_pos rfl
theorem upd_ne {α : Type} (f : Nat → α) {i j : Nat} (x : α) (h : i ≠ j) : upd f j x i = f i := if_neg h
def five {α : Type} (f : Nat → α) : List α := [f 0, f 1, f 2, f 3, f 4]
theorem lt5 {j : Nat} (h : j < 5) : j = 0 ∨ j = 1 ∨ j = 2 ∨ j = 3 ∨ j = 4 := by omega
theorem five_at {α : Type} (f : Nat → α) {j : Nat} (h : j < 5) : (five f)[j]? = some (f j) := by rcases lt5 h with rfl | rfl | rfl | rfl | rfl <;> rfl
theorem five_getD {α : Type} (f : Nat → α) (d : α) {j : Nat} (h : j < 5) : (five f).getD j d = f j := by rcases lt5 h with rfl | rfl | rfl | rfl | rfl <;> rfl
theorem five_set {α : Type} (f : Nat → α) (x : α) {j : Nat} (h : j < 5) : (five f).set j x = five (upd f j x) := by rcases lt5 h with rfl | rfl | rfl | rfl | rfl <;> rfl
theorem five_map {α β : Type} (f : Nat → α) (g : α → β) : (five f).map g = five (fun i => g (f i)) := rfl
theorem five_fun {α : Type} {f g : Nat → α} (h : ∀ i, i < 5 → f i = g i) : five f = five g := by
  unfold five
  rw [h 0 (by omega), h 1 (by omega), h 2 (by omega), h 3 (by omega), h 4 (by omega)]
abbrev lL (j : Nat) (s : ByteArray) : Lt := (-1, (j : Int) - 1, s)
/-- What waits: at each place what was sent there, less what came. -/
def Q5 (S : Nat → List ByteArray) (c : Nat → Nat) : Rd := five (fun j => ((S j).drop (c j)).map (lL j))
section
variable {S : Nat → List ByteArray} {c : Nat → Nat} {j : Nat} {s : ByteArray}
theorem q5_spot (hj : j < 5) : spot ((j : Int) - 1) = j := by unfold spot; omega
theorem q5_there (hj : j < 5) : thereQ (Q5 S c) ((j : Int) - 1) = true := there_iff.2 ⟨by omega, by show (j : Int) - 1 < ((5 : Nat) : Int) - 1; omega⟩
theorem q5_have (hj : j < 5) : haveQ (Q5 S c) ((j : Int) - 1) = ((S j).drop (c j)).map (lL j) := by
  unfold haveQ
  rw [q5_spot hj]
  exact five_getD _ _ hj
theorem q5_send (hj : j < 5) (hc : c j ≤ (S j).length) (hl : (S j).length < 1024) (hs : s.size ≤ 1000) : sendQ (Q5 S c) (-1, (j : Int) - 1, s) = (Q5 (upd S j (S j ++ [s])) c, 0) := by
  have h1 := q5_there (S := S) (c := c) hj
  have h2 : thereQ (Q5 S c) (-1) = true := q5_there (S := S) (c := c) (j := 0) (by omega)
  have h3 : ¬ 1048576 < s.size := by omega
  unfold sendQ
  rw [if_neg (by simp only [h1, h2, h3]; decide)]
  simp only [q5_have hj]
  rw [if_neg (by simp; omega), with_sets h1, q5_spot hj]
  unfold Q5
  rw [five_set _ _ hj]
  congr 1
  refine five_fun (fun i hi => ?_)
  by_cases hij : i = j
  · subst hij
    rw [upd_same, upd_same, List.drop_append_of_le_length hc, List.map_append]
    rfl
  · rw [upd_ne _ _ hij, upd_ne _ _ hij]
theorem q5_none (hj : j < 5) (hc : c j = (S j).length) : nextQ (Q5 S c) ((j : Int) - 1) = (Q5 S c, noL, 3) := by
  unfold nextQ
  rw [q5_there hj, if_neg (by simp), q5_have hj, List.drop_eq_nil_of_le (by omega)]
  rfl
theorem q5_next (hj : j < 5) (hc : c j < (S j).length) : nextQ (Q5 S c) ((j : Int) - 1) = (Q5 S (upd c j (c j + 1)), lL j ((S j).getD (c j) ⟨#[]⟩), 0) := by
  unfold nextQ
  rw [q5_there hj, if_neg (by simp), q5_have hj, List.drop_eq_getElem_cons hc]
  simp only [List.map_cons]
  rw [with_sets (q5_there hj), q5_spot hj, List.getD_eq_getElem?_getD, List.getElem?_eq_getElem hc]
  unfold Q5
  rw [five_set _ _ hj]
  have e : five (upd (fun j => ((S j).drop (c j)).map (lL j)) j (((S j).drop (c j + 1)).map (lL j))) = five (fun i => ((S i).drop (upd c j (c j + 1) i)).map (lL i)) := five_fun (fun i hi => by
    by_cases hij : i = j
    · subst hij
      rw [upd_same, upd_same]
    · rw [upd_ne _ _ hij, upd_ne _ _ hij])
  rw [e]
  rfl
end
def strs (l : List ByteArray) : List Value := l.map Value.string
theorem strs_one (l : List ByteArray) : ∀ u ∈ strs l, u.oneCell' = true := by
  intro u hu
  obtain ⟨x, _, rfl⟩ := List.mem_map.1 hu
  rfl
theorem strs_snoc (l : List ByteArray) (s : ByteArray) : strs l ++ [.string s] = strs (l ++ [s]) := by simp [strs]
/-- Five rows of strings, each of its own. -/
structure Own5 (w : World) (base : Nat) (v : Nat → Value) (S : Nat → List ByteArray) : Prop where
  own : ∀ j, j < 5 → w.ownsRow base 9 1 (v j) (S j).length (strs (S j))
  apart : ∀ i j, i < 5 → j < 5 → i ≠ j → ∀ g, (v i).ownBlock = some g → (v j).ownBlock ≠ some g
section
variable {w w1 w2 : World} {base : Nat} {v : Nat → Value} {S : Nat → List ByteArray} {c : Nat → Nat} {p X Y : Nat} {F F' : Nat → Prop}
theorem Own5.keep (h : Own5 w base v S) (k : ∀ j, j < 5 → ∀ g, (v j).ownBlock = some g → w2.heap[g]? = w.heap[g]?) : Own5 w2 base v S :=
  ⟨fun j hj => own_keep (h.own j hj) (k j hj), h.apart⟩
theorem Own5.step (h : Own5 w base v S) {j : Nat} (hj : j < 5) {v' : Value} {s : List ByteArray} (ho : w2.ownsRow base 9 1 v' s.length (strs s)) (hg : w.grownBy w2 (v j).ownBlock)
    (hv : v'.ownBlock = (v j).ownBlock ∨ ∀ k, v'.ownBlock = some k → w.heap.size ≤ k) : Own5 w2 base (upd v j v') (upd S j s) := by
  have hlt : ∀ i, i < 5 → ∀ g, (v i).ownBlock = some g → g < w.heap.size := fun i hi g hg => ((h.own i hi).lt g hg).2
  have far : ∀ i, i < 5 → i ≠ j → ∀ g, (v i).ownBlock = some g → v'.ownBlock ≠ some g := fun i hi hij g hg' => by
    rcases hv with hv | hv
    · rw [hv]
      exact h.apart i j hi hj hij g hg'
    · intro he
      have := hv g he
      have := hlt i hi g hg'
      omega
  refine ⟨fun i hi => ?_, fun i k hi hk hik g hg' => ?_⟩
  · by_cases hij : i = j
    · subst hij
      rw [upd_same, upd_same]
      exact ho
    · rw [upd_ne _ _ hij, upd_ne _ _ hij]
      refine (h.own i hi).kept hg ?_
      cases hb : (v i).ownBlock with
      | none => exact .inl rfl
      | some g => exact .inr (fun e => h.apart i j hi hj hij g hb e.symm)
  · by_cases hij : i = j
    · subst hij
      rw [upd_same] at hg'
      rw [upd_ne _ _ (Ne.symm hik)]
      exact fun e => far k hk (Ne.symm hik) g e hg'
    · rw [upd_ne _ _ hij] at hg'
      by_cases hkj : k = j
      · subst hkj
        rw [upd_same]
        exact far i hi hij g hg'
      · rw [upd_ne _ _ hkj]
        exact h.apart i k hi hk hik g hg'
/-- What the law keeps. -/
structure OR (w wr : World) (p : Nat) (F : Nat → Prop) (X Y : Nat) (v : Nat → Value) (S : Nat → List ByteArray) (c : Nat → Nat) : Prop where
  os : OS code w wr p F (Q5 S c)
  sx : Row wr X 54 (five v)
  cy : Row wr Y 3 (five (fun j => .int .i64 (c j : Int)))
  xlo : w.heap.size ≤ X
  ylo : w.heap.size ≤ Y
  xy : X ≠ Y
  xF : ¬ F X
  yF : ¬ F Y
  rows : Own5 wr w.heap.size v S
  vF : ∀ j, j < 5 → ∀ g, (v j).ownBlock = some g → ¬ F g ∧ g ≠ X ∧ g ≠ Y
  cle : ∀ j, j < 5 → c j ≤ (S j).length
theorem OR.lo {wr : World} (h : OR w wr p F X Y v S c) : ∀ b, F b → b < wr.heap.size := code.lt h.os.road
theorem OR.on {wr : World} (h : OR w wr p F X Y v S c) (hb : Below wr.heap.size wr w2) : OR w w2 p F X Y v S c :=
  ⟨h.os.on hb, h.sx.keep (hb.block _ h.sx.lt), h.cy.keep (hb.block _ h.cy.lt), h.xlo, h.ylo, h.xy, h.xF, h.yF, h.rows.keep (fun j hj g hg => hb.block g ((h.rows.own j hj).lt g hg).2), h.vF, h.cle⟩
/-- The road goes on. -/
theorem OR.goes {wr : World} (h : OR w wr p F X Y v S c) {S' : Nat → List ByteArray} {c' : Nat → Nat} (hr : code.Is w2 p F' (Q5 S' c')) (T : Turn F wr F' w2) :
    OS code w w2 p F' (Q5 S' c') ∧ Row w2 X 54 (five v) ∧ Row w2 Y 3 (five (fun j => .int .i64 (c j : Int))) ∧ ¬ F' X ∧ ¬ F' Y ∧ Own5 w2 w.heap.size v S ∧ ∀ j, j < 5 → ∀ g, (v j).ownBlock = some g → ¬ F' g ∧ g ≠ X ∧ g ≠ Y := by
  have hx : ∀ b, b < wr.heap.size → ¬ F b → ¬ F' b := fun b hb hf hf' => (T.foot b hf').elim hf (fun hge => by omega)
  refine ⟨h.os.code hr T, h.sx.keep (T.block _ h.sx.lt h.xF), h.cy.keep (T.block _ h.cy.lt h.yF), hx _ h.sx.lt h.xF, hx _ h.cy.lt h.yF, h.rows.keep (fun j hj g hg => T.block g ((h.rows.own j hj).lt g hg).2 (h.vF j hj g hg).1), fun j hj g hg => ?_⟩
  obtain ⟨h1, h2, h3⟩ := h.vF j hj g hg
  exact ⟨hx g ((h.rows.own j hj).lt g hg).2 h1, h2, h3⟩
/-- Nothing came. -/
theorem OR.still {wr : World} (h : OR w wr p F X Y v S c) (hr : code.Is w2 p F' (Q5 S c)) (T : Turn F wr F' w2) : OR w w2 p F' X Y v S c := by
  obtain ⟨h1, h2, h3, h4, h5, h6, h7⟩ := h.goes hr T
  exact ⟨h1, h2, h3, h.xlo, h.ylo, h.xy, h4, h5, h6, h7, h.cle⟩
/-- One was sent: noted in the list of its place. -/
theorem OR.sent {wr w3 : World} {j : Nat} (hj : j < 5) {s : ByteArray} {v' : Value} (hos : OS code w w2 p F' (Q5 (upd S j (S j ++ [s])) c)) (hsx : Row w2 X 54 (five v)) (hcy : Row w2 Y 3 (five (fun j => .int .i64 (c j : Int)))) (hX : ¬ F' X) (hY : ¬ F' Y) (h5 : Own5 w2 w.heap.size v S)
    (hv : ∀ j, j < 5 → ∀ g, (v j).ownBlock = some g → ¬ F' g ∧ g ≠ X ∧ g ≠ Y) (h : OR w wr p F X Y v S c)
    (ho : w3.ownsRow w.heap.size 9 1 v' (S j ++ [s]).length (strs (S j ++ [s]))) (hg : w2.grownBy w3 (v j).ownBlock) (hn : v'.ownBlock = (v j).ownBlock ∨ ∀ k, v'.ownBlock = some k → w2.heap.size ≤ k) :
    OR w (w3.setCell ⟨X, j, none⟩ v') p F' X Y (upd v j v') (upd S j (S j ++ [s])) c := by
  have hlt : ∀ b, F' b → b < w2.heap.size := code.lt hos.road
  have hbl : ∀ b, b < w2.heap.size → (v j).ownBlock ≠ some b → w3.heap[b]? = w2.heap[b]? := fun b hb hne => hg.block b hb (fun e => hne e.symm)
  have hvj : ∀ b, (v j).ownBlock = some b → ¬ F' b ∧ b ≠ X ∧ b ≠ Y := hv j hj
  have hset : ∀ b, b ≠ X → (w3.setCell ⟨X, j, Option.none⟩ v').heap[b]? = w3.heap[b]? := fun b hb => heap_set_ne w3 ⟨X, j, Option.none⟩ v' hb
  have hXb : w3.heap[X]? = w2.heap[X]? := hbl X hsx.lt (fun e => (hvj X e).2.1 rfl)
  have hnew : ∀ g, v'.ownBlock = some g → ¬ F' g ∧ g ≠ X ∧ g ≠ Y := fun g hgv => by
    rcases hn with hn | hn
    · rw [hn] at hgv
      exact hvj g hgv
    · have := hn g hgv
      exact ⟨fun hf => by have := hlt g hf; omega, by have := hsx.lt; omega, by have := hcy.lt; omega⟩
  have h6 := h5.step hj ho hg hn
  have hvv : ∀ i, i < 5 → ∀ g, (upd v j v' i).ownBlock = some g → ¬ F' g ∧ g ≠ X ∧ g ≠ Y := fun i hi g hgv => by
    by_cases hij : i = j
    · rw [hij, upd_same] at hgv
      exact hnew g hgv
    · rw [upd_ne _ _ hij] at hgv
      exact hv i hi g hgv
  have hb3 : Below w.heap.size w w3 := ⟨hg.os.trans hos.below.os, hg.tape.trans hos.below.tape, hg.output.trans hos.below.output, Nat.le_trans hos.below.size hg.size, fun b hb => (hbl b (Nat.lt_of_lt_of_le hb hos.below.size) (fun e => by have := (h5.own j hj).lt b e; omega)).trans (hos.below.block b hb)⟩
  refine ⟨⟨code.keep hos.road (by have := hg.size; simpa using this) (fun b hF => ?_), hos.far, below_setCell hb3 (p := ⟨X, j, Option.none⟩) h.xlo v'⟩, ?_, ?_, h.xlo, h.ylo, h.xy, hX, hY, h6.keep (fun i hi g hgv => hset g (hvv i hi g hgv).2.1), hvv, fun i hi => ?_⟩
  · rw [hset b (fun e => hX (e ▸ hF))]
    exact hbl b (hlt b hF) (fun e => (hvj b e).1 hF)
  · have := (hsx.keep hXb).set j v'
    rwa [five_set _ _ hj] at this
  · exact hcy.keep ((hset Y (Ne.symm h.xy)).trans (hbl Y hcy.lt (fun e => (hvj Y e).2.2 rfl)))
  · by_cases hij : i = j
    · subst hij
      rw [upd_same, List.length_append]
      have := h.cle i hi
      omega
    · rw [upd_ne _ _ hij]
      exact h.cle i hi
/-- One came: counted. -/
theorem OR.came {wr : World} (h : OR w wr p F X Y v S c) {j : Nat} (hj : j < 5) (hc : c j < (S j).length) (hr : code.Is w2 p F' (Q5 S (upd c j (c j + 1)))) (T : Turn F wr F' w2) {w3 : World} (hb : Below w2.heap.size w2 w3) :
    OR w (w3.setCell ⟨Y, j, Option.none⟩ (.int .i64 ((c j : Int) + 1))) p F' X Y v S (upd c j (c j + 1)) := by
  obtain ⟨h1, h2, h3, h4, h5, h6, h7⟩ := h.goes hr T
  have o3 := h1.on hb
  have k : ∀ b, b < w2.heap.size → b ≠ Y → (w3.setCell ⟨Y, j, Option.none⟩ (.int .i64 ((c j : Int) + 1))).heap[b]? = w2.heap[b]? := fun b hb1 hne => (heap_set_ne w3 ⟨Y, j, Option.none⟩ _ hne).trans (hb.block b hb1)
  refine ⟨o3.set h5 h.ylo j _, h2.keep (k X h2.lt h.xy), ?_, h.xlo, h.ylo, h.xy, h4, h5, h6.keep (fun i hi g hg => k g ((h6.own i hi).lt g hg).2 (h7 i hi g hg).2.2), h7, fun i hi => ?_⟩
  · have := (h3.keep (hb.block _ h3.lt)).set j (.int .i64 ((c j : Int) + 1))
    rw [five_set _ _ hj] at this
    have e : five (upd (fun j => Value.int .i64 (c j : Int)) j (.int .i64 ((c j : Int) + 1))) = five (fun i => Value.int .i64 ((upd c j (c j + 1) i : Nat) : Int)) := five_fun (fun i hi => by
      by_cases hij : i = j
      · subst hij
        rw [upd_same, upd_same]
        simp
      · rw [upd_ne _ _ hij, upd_ne _ _ hij])
    rw [e] at this
    exact this
  · by_cases hij : i = j
    · subst hij
      rw [upd_same]
      omega
    · rw [upd_ne _ _ hij]
      exact h.cle i hi
end
end Go.Proofs.Ytikbgaomiliefaa.Ro
