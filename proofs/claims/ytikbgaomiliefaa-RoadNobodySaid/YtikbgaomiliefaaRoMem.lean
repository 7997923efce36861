/- Letters, and lists of them, in memory. Conditions: none. -/
import Derived.Test.YtikbgaomiliefaaVKit
import Derived.Test.YtikbgaomiliefaaRoMath
import Derived.Test.YtikbgaomiliefaaRoApp
set_option linter.unusedVariables false
set_option linter.unusedSimpArgs false
set_option maxRecDepth 100000
namespace Go.Proofs.Ytikbgaomiliefaa.Ro
open Go Go.RowKit
/-- A letter's cells. -/
def lc (l : Lt) : List Value := [.int .i64 l.1, .int .i64 l.2.1, .string l.2.2]
def lts (L : List Lt) : List Value := L.flatMap lc
theorem lts_cons (l : Lt) (L : List Lt) : lts (l :: L) = .int .i64 l.1 :: .int .i64 l.2.1 :: .string l.2.2 :: lts L := rfl
theorem lts_len : ∀ (L : List Lt), (lts L).length = L.length * 3
  | [] => rfl
  | l :: r => by
    rw [lts_cons]
    simp only [List.length_cons, lts_len r]
    omega
theorem lts_app (a b : List Lt) : lts a ++ lts b = lts (a ++ b) := by simp [lts]
theorem lts_take : ∀ (L : List Lt) (k : Nat), (lts L).take (k * 3) = lts (L.take k)
  | _, 0 => by simp [lts]
  | [], k + 1 => by simp [lts]
  | l :: r, k + 1 => by
    rw [lts_cons, List.take_succ_cons, lts_cons, ← lts_take r k, show (k + 1) * 3 = k * 3 + 1 + 1 + 1 by omega]
    rfl
theorem lts_drop : ∀ (L : List Lt) (k : Nat), (lts L).drop (k * 3) = lts (L.drop k)
  | _, 0 => by simp [lts]
  | [], k + 1 => by simp [lts]
  | l :: r, k + 1 => by
    rw [lts_cons, List.drop_succ_cons, ← lts_drop r k, show (k + 1) * 3 = k * 3 + 1 + 1 + 1 by omega]
    rfl
theorem lts_one (L : List Lt) : ∀ u ∈ lts L, u.oneCell' = true := by
  intro u hu
  obtain ⟨l, _, h⟩ := List.mem_flatMap.1 hu
  simp [lc] at h
  rcases h with rfl | rfl | rfl <;> rfl
theorem lts_at (L : List Lt) (k : Nat) (hk : k < L.length) : (lts L)[k * 3]? = some (.int .i64 (L.getD k noL).1) ∧ (lts L)[k * 3 + 1]? = some (.int .i64 (L.getD k noL).2.1) ∧ (lts L)[k * 3 + 2]? = some (.string (L.getD k noL).2.2) := by
  induction L generalizing k with
  | nil => simp at hk
  | cons t r ih =>
    rw [lts_cons]
    rcases k with _ | k
    · simp
    · have := ih k (by simpa using hk)
      rw [show (k + 1) * 3 = k * 3 + 1 + 1 + 1 by omega]
      simpa using this
theorem Reads.lts_len {w : World} {B n : Nat} {A : Option Addr} {L : List Lt} (h : Reads w B 3 A n (lts L)) : n = L.length := by
  have := h.1
  rw [Ro.lts_len] at this
  omega
theorem Reads.letter {w : World} {B n k : Nat} {A : Option Addr} {L : List Lt} (h : Reads w B 3 A n (lts L)) (hk : k < n) : ∃ ad, A = some ad ∧ ad.block < B ∧
    w.cell? (ad.add (k * 3)) = some (.int .i64 (L.getD k noL).1) ∧ w.cell? ⟨(ad.add (k * 3)).block, (ad.add (k * 3)).off + 1, none⟩ = some (.int .i64 (L.getD k noL).2.1) ∧ w.cell? ⟨(ad.add (k * 3)).block, (ad.add (k * 3)).off + 2, none⟩ = some (.string (L.getD k noL).2.2) := by
  have hl := Ro.Reads.lts_len h
  obtain ⟨ad, e, hb, hc⟩ := h.2 (by omega)
  obtain ⟨t1, t2, t3⟩ := lts_at L k (by omega)
  refine ⟨ad, e, hb, hc _ _ t1, ?_, ?_⟩
  · show w.cell? ((ad.add (k * 3)).add 1) = _
    rw [add_of_add]
    exact hc _ _ t2
  · show w.cell? ((ad.add (k * 3)).add 2) = _
    rw [add_of_add]
    exact hc _ _ t3
theorem reads_pre3 {w : World} {B n k : Nat} {A : Option Addr} {L : List Lt} (h : Reads w B 3 A n (lts L)) (hk : k ≤ n) : Reads w B 3 A k (lts (L.take k)) := by
  have hl := Ro.Reads.lts_len h
  refine ⟨by rw [Ro.lts_len, List.length_take]; congr 1; omega, fun hn => ?_⟩
  obtain ⟨ad, rfl, hb, hc⟩ := h.2 (by omega)
  refine ⟨ad, rfl, hb, fun j u hu => hc j u ?_⟩
  rw [← lts_take, List.getElem?_take] at hu
  split at hu
  · exact hu
  · simp at hu
theorem letter_row : (Try.prog.info? 34).map (fun i => (i.zero, i.size, i.bytes)) = some (some (.agg #[.int .i64 0, .int .i64 0, .string ByteArray.empty]), 3, 32) := by kernel_rfl
theorem own_addr {w : World} {base n c : Nat} {A : Option Addr} {e : TypeId} {size : Nat} {xs : List Value} (h : w.ownsRow base e size (.slice A n c) n xs) : ∀ ad, A = some ad → base ≤ ad.block ∧ ad.block < w.heap.size := by
  intro ad hA
  subst hA
  rcases h.2 with ⟨e, _⟩ | ⟨g, cap, cur, e, hb, _⟩
  · injection e with e
    cases e
  · injection e with e
    injection e with e
    subst e
    exact ⟨hb, (h.lt g rfl).2⟩
def Off (wr : World) (F : Nat → Prop) (A : Option Addr) : Prop := ∀ ad, A = some ad → ad.block < wr.heap.size ∧ ¬ F ad.block
section
variable {wr w2 : World} {F F' : Nat → Prop} {A : Option Addr} {n size : Nat} {xs : List Value}
theorem Off.turn (h : Off wr F A) (T : Turn F wr F' w2) : Off w2 F' A := fun ad hA => ⟨Nat.lt_of_lt_of_le (h ad hA).1 T.size, fun hF => (T.foot _ hF).elim (h ad hA).2 (fun hge => by have := (h ad hA).1; omega)⟩
theorem Off.reads (h : Off wr F A) (hr : Reads wr wr.heap.size size A n xs) (T : Turn F wr F' w2) : Reads w2 w2.heap.size size A n xs :=
  ⟨hr.1, fun hn => by
    obtain ⟨ad, rfl, hb, hc⟩ := hr.2 hn
    exact ⟨ad, rfl, Nat.lt_of_lt_of_le hb T.size, fun j u hu => (World.cell?_of_block (T.block _ (by rw [block_of_add]; exact hb) (by rw [block_of_add]; exact (h ad rfl).2))).trans (hc j u hu)⟩⟩
theorem off_none (wr : World) (F : Nat → Prop) : Off wr F none := fun ad h => by cases h
end
/-- A slice: its address, length, room. -/
abbrev Sl := Option Addr × Nat × Nat
def sc (s : Sl) : Value := .slice s.1 s.2.1 s.2.2
/-- A slice of letters, apart from blocks that turn. -/
structure SlAt (w : World) (F : Nat → Prop) (s : Sl) (L : List Lt) : Prop where
  reads : Reads w w.heap.size 3 s.1 s.2.1 (lts L)
  le : s.2.1 ≤ s.2.2
  max : s.2.2 ≤ maxLen
  off : Off w F s.1
theorem SlAt.turn {w w2 : World} {F F' : Nat → Prop} {s : Sl} {L : List Lt} (h : SlAt w F s L) (T : Turn F w F' w2) : SlAt w2 F' s L := ⟨h.off.reads h.reads T, h.le, h.max, h.off.turn T⟩
theorem SlAt.len {w : World} {F : Nat → Prop} {s : Sl} {L : List Lt} (h : SlAt w F s L) : s.2.1 = L.length := Ro.Reads.lts_len h.reads
theorem SlAt.nil (w : World) (F : Nat → Prop) (c : Nat) (hc : c ≤ maxLen) : SlAt w F (none, 0, c) [] := ⟨⟨by simp [lts], fun h => absurd h (by simp)⟩, Nat.zero_le _, hc, off_none _ _⟩
theorem slat_own {w1 : World} {F : Nat → Prop} {e : TypeId} {base n c : Nat} {A : Option Addr} {L : List Lt} (h : w1.ownsRow base e 3 (.slice A n c) n (lts L)) (hF : ∀ b, F b → b < base) : SlAt w1 F (A, n, c) L := by
  obtain ⟨_, _, e1, e2, e3⟩ := own_shape h
  injection e1 with _ _ e1
  refine ⟨Reads.of_own h, by show n ≤ c; omega, by show c ≤ maxLen; omega, fun ad hA => ?_⟩
  obtain ⟨h1, h2⟩ := own_addr h ad hA
  exact ⟨h2, fun hf => by have := hF _ hf; omega⟩
end Go.Proofs.Ytikbgaomiliefaa.Ro
