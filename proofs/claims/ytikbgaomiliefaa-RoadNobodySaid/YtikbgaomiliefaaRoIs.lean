/- The program's road in memory; the place to wait, whether one stands there, whether it is full. Conditions: none. -/
import Derived.Test.YtikbgaomiliefaaRoIns
import Derived.Test.YtikbgaomiliefaaRoPS
import Derived.LaidEqlPtr
set_option linter.unusedVariables false
set_option linter.unusedSimpArgs false
set_option maxRecDepth 100000
namespace Go.Proofs.Ytikbgaomiliefaa.Ro
open Go Go.RowKit
abbrev nls : Sl := (none, 0, 0)
/-- The road's cells: itself, how many nodes, nine queues. -/
def rcells (p k : Nat) (ss : List Sl) : List Value := ptr p :: .int .i64 (k : Int) :: ss.map sc
/-- The program's road. -/
structure IsB (w : World) (p : Nat) (ss : List Sl) (Q : Rd) : Prop where
  nine : ss.length = 9
  two : 1 ≤ Q.length
  most : Q.length ≤ 9
  short : ∀ i, (Q.getD i []).length ≤ 1024
  row : Row w p 62 (rcells p (Q.length - 1) ss)
  queue : ∀ i, QA w (ss.getD i nls) (Q.getD i [])
  far : ∀ i, ¬ Ob (ss.getD i nls).1 p
  apart : ∀ i j, i ≠ j → ∀ b, Ob (ss.getD i nls).1 b → ¬ Ob (ss.getD j nls).1 b
def Foot (p : Nat) (ss : List Sl) (b : Nat) : Prop := b = p ∨ ∃ i, Ob (ss.getD i nls).1 b
def IsR (w : World) (p : Nat) (F : Nat → Prop) (Q : Rd) : Prop := ∃ ss, IsB w p ss Q ∧ ∀ b, F b ↔ Foot p ss b
section
variable {w w1 w2 : World} {p : Nat} {F : Nat → Prop} {Q : Rd} {ss : List Sl}
theorem IsB.lt (h : IsB w p ss Q) : ∀ b, Foot p ss b → b < w.heap.size := by
  rintro b (rfl | ⟨i, hb⟩)
  · exact h.row.lt
  · exact (h.queue i).lt b hb
theorem IsB.keep (h : IsB w p ss Q) (e : ∀ b, Foot p ss b → w1.heap[b]? = w.heap[b]?) : IsB w1 p ss Q :=
  ⟨h.nine, h.two, h.most, h.short, h.row.keep (e p (.inl rfl)), fun i => (h.queue i).keep (fun b hb => e b (.inr ⟨i, hb⟩)), h.far, h.apart⟩
theorem sets_getD {α : Type} (l : List α) (i : Nat) (x d : α) (j : Nat) (hi : i < l.length) : (l.set i x).getD j d = if i = j then x else l.getD j d := by
  rw [List.getD_eq_getElem?_getD, List.getD_eq_getElem?_getD, List.getElem?_set]
  by_cases h : i = j
  · subst h
    simp [hi]
  · simp [h]
theorem with_sets {to : Int} {l : List Lt} (h : thereQ Q to = true) : withQ Q to l = Q.set (spot to) l := by
  obtain ⟨hk, _⟩ := spot_lt h
  unfold withQ
  rw [List.set_eq_take_append_cons_drop, if_pos hk]
  simp
theorem rcells_set (p k i : Nat) (ss : List Sl) (s : Sl) : (rcells p k ss).set (2 + i) (sc s) = rcells p k (ss.set i s) := by
  unfold rcells
  rw [Nat.add_comm 2 i]
  simp only [List.set_cons_succ, List.map_set]
theorem IsB.cell (h : IsB w p ss Q) (i : Nat) (hi : i < 9) : w.cell? ⟨p, 2 + i, none⟩ = some (sc (ss.getD i nls)) := by
  refine h.row.cell ?_
  unfold rcells
  rw [Nat.add_comm 2 i]
  have hn := h.nine
  simp only [List.getElem?_cons_succ, List.getElem?_map]
  rw [List.getElem?_eq_getElem (by omega), List.getD_eq_getElem?_getD, List.getElem?_eq_getElem (by omega)]
  rfl
/-- One queue has turned, and is stored. -/
theorem IsB.step (h : IsB w p ss Q) (i : Nat) (hi : i < Q.length) {s' : Sl} {L' : List Lt} (hq : QA w1 s' L') (hl : L'.length ≤ 1024) (T : Turn (Ob (ss.getD i nls).1) w (Ob s'.1) w1) :
    IsB (w1.setCell ⟨p, 2 + i, none⟩ (sc s')) p (ss.set i s') (Q.set i L') ∧ Turn (Foot p ss) w (Foot p (ss.set i s')) (w1.setCell ⟨p, 2 + i, none⟩ (sc s')) := by
  have hn := h.nine
  have hm := h.most
  have hi9 : i < ss.length := by omega
  have hp := h.row.lt
  have hne : ∀ b, Ob s'.1 b → b ≠ p := fun b hb e => (T.foot b hb).elim (fun h1 => h.far i (e ▸ h1)) (fun h1 => by omega)
  have hk : ∀ b, b < w.heap.size → ¬ Ob (ss.getD i nls).1 b → b ≠ p → (w1.setCell ⟨p, 2 + i, none⟩ (sc s')).heap[b]? = w.heap[b]? := fun b hb hf hne => by
    rw [heap_set_ne w1 ⟨p, 2 + i, none⟩ _ hne]
    exact T.block b hb hf
  have hoth : ∀ j, i ≠ j → ∀ b, Ob (ss.getD j nls).1 b → ¬ Ob s'.1 b := fun j hj b hb hb' => (T.foot b hb').elim (fun h1 => h.apart i j hj b h1 hb) (fun h1 => by have := (h.queue j).lt b hb; omega)
  have hr1 : Row w1 p 62 (rcells p (Q.length - 1) ss) := h.row.keep (T.block p hp (h.far i))
  refine ⟨⟨by simp [hn], by simp [h.two], by simp [hm], fun j => ?_, ?_, fun j => ?_, fun j => ?_, fun j k hjk b hb => ?_⟩, ⟨T.os, T.tape, T.output, by simpa using T.size, fun b hb hf => hk b hb (fun h1 => hf (.inr ⟨i, h1⟩)) (fun e => hf (.inl e)), ?_⟩⟩
  · rw [sets_getD Q i L' [] j hi]
    split
    · exact hl
    · exact h.short j
  · have := hr1.set (2 + i) (sc s')
    rw [rcells_set] at this
    simpa using this
  · rw [sets_getD Q i L' [] j hi, sets_getD ss i s' nls j hi9]
    split
    · exact hq.keep (fun b hb => heap_set_ne w1 ⟨p, 2 + i, none⟩ _ (hne b hb))
    · rename_i hij
      exact (h.queue j).keep (fun b hb => hk b ((h.queue j).lt b hb) (fun h1 => h.apart i j hij b h1 hb) (fun e => h.far j (e ▸ hb)))
  · rw [sets_getD ss i s' nls j hi9]
    split
    · exact fun h1 => hne p h1 rfl
    · exact h.far j
  · rw [sets_getD ss i s' nls j hi9] at hb
    rw [sets_getD ss i s' nls k hi9]
    by_cases hij : i = j
    · rw [if_pos hij] at hb
      rw [if_neg (by omega)]
      exact fun h1 => hoth k (by omega) b h1 hb
    · rw [if_neg hij] at hb
      by_cases hik : i = k
      · rw [if_pos hik]
        exact hoth j hij b hb
      · rw [if_neg hik]
        exact h.apart j k hjk b hb
  · rintro b (rfl | ⟨j, hb⟩)
    · exact .inl (.inl rfl)
    · rw [sets_getD ss i s' nls j hi9] at hb
      split at hb
      · exact (T.foot b hb).elim (fun h1 => .inl (.inr ⟨i, h1⟩)) .inr
      · exact .inl (.inr ⟨j, hb⟩)
theorem isr_lt (h : IsR w p F Q) : ∀ b, F b → b < w.heap.size := by
  obtain ⟨ss, h, e⟩ := h
  exact fun b hb => h.lt b ((e b).1 hb)
theorem isr_keep (h : IsR w p F Q) (_ : w.heap.size ≤ w2.heap.size) (k : ∀ b, F b → w2.heap[b]? = w.heap[b]?) : IsR w2 p F Q := by
  obtain ⟨ss, h, e⟩ := h
  exact ⟨ss, h.keep (fun b hb => k b ((e b).2 hb)), e⟩
theorem isr_len (h : IsR w p F Q) : Q.length ≤ 9 ∧ ∀ i, (Q.getD i []).length ≤ 1024 := by
  obtain ⟨ss, h, e⟩ := h
  exact ⟨h.most, h.short⟩
theorem turn_iff {F' G G' : Nat → Prop} (T : Turn G w G' w1) (e : ∀ b, F b ↔ G b) (e' : ∀ b, F' b → G' b) : Turn F w F' w1 :=
  ⟨T.os, T.tape, T.output, T.size, fun b hb hf => T.block b hb (fun h => hf ((e b).2 h)), fun b hb => (T.foot b (e' b hb)).imp (e b).2 id⟩
/-- A call that does nothing. -/
theorem does_none (h : IsR w p F Q) {v : Value} {e : Ending} (he : e = .returned v) (T : Below w.heap.size w w1) : Does IsR p F v Q w e w1 :=
  ⟨he, F, isr_keep h T.size (fun b hb => T.block b (isr_lt h b hb)), Turn.below F T⟩
theorem does_step (h : IsB w p ss Q) (hF : ∀ b, F b ↔ Foot p ss b) (i : Nat) (hi : i < Q.length) {s' : Sl} {L' : List Lt} (hq : QA w1 s' L') (hl : L'.length ≤ 1024) (T : Turn (Ob (ss.getD i nls).1) w (Ob s'.1) w1) {v : Value} {e : Ending} (he : e = .returned v) :
    Does IsR p F v (Q.set i L') w e (w1.setCell ⟨p, 2 + i, none⟩ (sc s')) := by
  obtain ⟨h1, h2⟩ := h.step i hi hq hl T
  exact ⟨he, Foot p (ss.set i s'), ⟨_, h1, fun b => Iff.rfl⟩, turn_iff h2 hF (fun b hb => hb)⟩
end
/-- The place to wait: a pointer into the road, or none. -/
def qptr (p : Nat) (Q : Rd) (to : Int) : Value := if thereQ Q to = true then .pointer (some ⟨p, 2 + spot to, none⟩) else .pointer none
theorem road_row : (Try.prog.info? 62).map (fun i => i.size) = some 11 := by kernel_rfl
theorem neq_self (p : Nat) (w : World) : (binOp .neq 23 (ptr p) (ptr p)).run Try.prog w = .ok (.bool false) w := by
  obtain ⟨j, hj, _⟩ := Option.map_eq_some_iff.1 road_row
  have h : ∀ d : Nat, (Op.equalIn (d + 1) 23 (ptr p) (ptr p)).run Try.prog w = .ok true w := fun d => by
    simp [Op.equalIn, run_underlying Try.underlying23, sizeOf, typeInfo, hj, run_sameAddr_same]
  simp only [binOp]
  simp [Op.equal, Op.maxDepth, h 9999]
theorem neq_none (p : Nat) (w : World) : (binOp .neq 23 (.pointer none) (ptr p)).run Try.prog w = .ok (.bool true) w := by
  obtain ⟨j, hj, _⟩ := Option.map_eq_some_iff.1 road_row
  have h : ∀ d : Nat, (Op.equalIn (d + 1) 23 (.pointer none) (ptr p)).run Try.prog w = .ok false w := fun d => by
    simp [Op.equalIn, run_underlying Try.underlying23, sizeOf, typeInfo, hj]
  simp only [binOp]
  simp [Op.equal, Op.maxDepth, h 9999]
theorem at_any {w : World} {p : Nat} {ss : List Sl} {Q : Rd} (h : IsB w p ss Q) (to : Int) (hto : In64 to) :
    Calls Try.prog 26 #[ptr p, .int .i64 to] w fun e w' => e = .returned (qptr p Q to) ∧ w' = w := by
  have c0 := h.row.cell (j := 0) (u := ptr p) rfl
  have c1 := h.row.cell (j := 1) (u := .int .i64 ((Q.length - 1 : Nat) : Int)) rfl
  have hlt := h.row.lt
  have hns := neq_self p w
  obtain ⟨k, hk⟩ : ∃ k, Q.length - 1 = k := ⟨_, rfl⟩
  rw [hk] at c1
  have h2 := h.two
  have h9 := h.most
  have hq : Q.length = k + 1 := by omega
  by_cases h1 : to < -1
  · have e : qptr p Q to = .pointer none := if_neg (fun ht => by have := (there_iff.1 ht).1; omega)
    rw [e]
    clear h h2 h9 hq hk e
    go_enter Try.func26, Try.ntmps26
    go_wp2
    go_ret
    exact ⟨rfl, rfl⟩
  · by_cases h3 : (k : Int) ≤ to
    · have e : qptr p Q to = .pointer none := if_neg (fun ht => by have := (there_iff.1 ht).2; omega)
      rw [e]
      clear h h2 h9 hq hk e
      go_enter Try.func26, Try.ntmps26
      go_wp2
      go_ret
      exact ⟨rfl, rfl⟩
    · have ht : thereQ Q to = true := there_iff.2 ⟨by omega, by omega⟩
      obtain ⟨hs, hz⟩ := spot_lt ht
      have e : qptr p Q to = .pointer (some ⟨p, 2 + spot to, none⟩) := if_pos ht
      rw [e]
      obtain ⟨i, hi⟩ : ∃ i, spot to = i := ⟨_, rfl⟩
      rw [hi] at hs hz ⊢
      have hw1 : IntKind.i64.wrap (to + 1) = (i : Int) := by rw [IntKind.wrap_i64]; omega
      have hi9 : (i : Int) < 9 := by omega
      clear h h2 h9 hq hk e ht hs hz hi
      go_enter Try.func26, Try.ntmps26
      go_wp2
      go_ret
      exact ⟨rfl, rfl⟩
theorem has_any {w : World} {q : Addr} {A : Option Addr} {n c : Nat} (hc : w.cell? q = some (.slice A n c)) (hq : q.block < w.heap.size) (a : Int) :
    Calls Try.prog 32 #[.pointer (some q), .int .i64 a] w fun e w' => e = .returned (.bool (decide (0 ≤ a ∧ a < (n : Int)))) ∧ w' = w := by
  by_cases h1 : 0 ≤ a
  · by_cases h2 : a < (n : Int)
    · rw [decide_eq_true (show 0 ≤ a ∧ a < (n : Int) from ⟨h1, h2⟩)]
      go_enter Try.func32, Try.ntmps32
      go_wp2
      go_ret
      exact ⟨rfl, rfl⟩
    · rw [decide_eq_false (show ¬ (0 ≤ a ∧ a < (n : Int)) from fun h => h2 h.2)]
      go_enter Try.func32, Try.ntmps32
      go_wp2
      go_ret
      exact ⟨rfl, rfl⟩
  · rw [decide_eq_false (show ¬ (0 ≤ a ∧ a < (n : Int)) from fun h => h1 h.1)]
    go_enter Try.func32, Try.ntmps32
    go_wp2
    go_ret
    exact ⟨rfl, rfl⟩
theorem full_any {w : World} {q : Addr} {A : Option Addr} {n c : Nat} (hc : w.cell? q = some (.slice A n c)) (hq : q.block < w.heap.size) :
    Calls Try.prog 27 #[.pointer (some q)] w fun e w' => e = .returned (.bool (decide ((1024 : Int) ≤ (n : Int)))) ∧ w' = w := by
  go_enter Try.func27, Try.ntmps27
  go_wp2
  go_ret
  exact ⟨rfl, rfl⟩
end Go.Proofs.Ytikbgaomiliefaa.Ro
