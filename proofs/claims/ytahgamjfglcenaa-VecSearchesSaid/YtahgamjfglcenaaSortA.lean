/- The state in which a slice of what was found is sorted; what its less and its swap do there. Conditions: none. -/
import Derived.Test.YtahgamjfglcenaaLess
import Derived.Shelf.GgSortFunc.SmallK
import Derived.Shelf.SlSortFuncK.RowK2
import Derived.Sort.AssemblyPlain
import Derived.Sort.Walk13a
import Derived.Sort.WalkC
import Derived.Sort.WalkC4
import Derived.Deep.RegionHeld3
set_option linter.unusedVariables false
set_option linter.unusedSimpArgs false
namespace Go.Proofs.Ytahgamjfglcenaa
open Go Go.RowKit
instance : Inhabited Hit := ⟨(0, 0)⟩
/-- Block blk holds d, and may be written there; the variable at c0 holds the slice over it. -/
structure St (c0 blk n cap : Nat) (d : Array Hit) (W : World) : Prop where
  size : d.size = n
  row : Sort.HoldsK hcell 2 W blk 0 d
  box : Box W c0 31 (.slice (some ⟨blk, 0, none⟩) n cap)
  lt : blk < W.heap.size
  ne : c0 ≠ blk
theorem cell_of_block {w w' : World} {b : Nat} (h : w'.heap[b]? = w.heap[b]?) (i : Nat) : w'.cell? ⟨b, i, none⟩ = w.cell? ⟨b, i, none⟩ := by simp only [World.cell?, h]
theorem frozen_of_block {w w' : World} {b : Nat} (h : w'.heap[b]? = w.heap[b]?) (i : Nat) : w'.frozen? ⟨b, i, none⟩ = w.frozen? ⟨b, i, none⟩ := by simp only [World.frozen?, h]
section
variable {c0 blk n cap : Nat} {d : Array Hit} {W W' : World}
theorem St.congr (h : St c0 blk n cap d W) (h1 : W'.heap[blk]? = W.heap[blk]?) (h2 : W'.heap[c0]? = W.heap[c0]?) : St c0 blk n cap d W' := by
  refine ⟨h.size, fun j hj => ?_, ?_, ?_, h.ne⟩
  · rw [cell_of_block h1, frozen_of_block h1]
    exact h.row j hj
  · unfold Box
    rw [h2]
    exact h.box
  · rcases Nat.lt_or_ge blk W'.heap.size with hlt | hge
    · exact hlt
    · rw [Array.getElem?_eq_none hge, Array.getElem?_eq_getElem h.lt] at h1
      cases h1
theorem St.below (h : St c0 blk n cap d W) (hb : Below W.heap.size W W') : St c0 blk n cap d W' := h.congr (hb.block _ h.lt) (hb.block _ h.box.lt)
theorem St.other {c : Nat} (h : St c0 blk n cap d W) (hg : W.grownBy W' (some c)) (h1 : c ≠ blk) (h2 : c ≠ c0) : St c0 blk n cap d W' :=
  h.congr (hg.block _ h.lt (by simpa using Ne.symm h1)) (hg.block _ h.box.lt (by simpa using Ne.symm h2))
theorem St.cells (h : St c0 blk n cap d W) {i : Nat} (hi : i < n) : W.cell? ⟨blk, i * 2, none⟩ = some (.int .i64 d[i]!.1) ∧ W.cell? ⟨blk, i * 2 + 1, none⟩ = some (.int .i64 d[i]!.2) := by
  have hi' : i < d.size := by rw [h.size]; exact hi
  have a := (h.row.cell (i := i) (c := 0) hi' (by omega)).1
  have b := (h.row.cell (i := i) (c := 1) hi' (by omega)).1
  rw [Nat.zero_add] at a b
  exact ⟨a, b⟩
end
set_option maxHeartbeats 2000000 in
theorem clo_any {c0 blk n cap : Nat} {d : Array Hit} {W : World} (h : St c0 blk n cap d W) (i j : Nat) (hi : i < n) (hj : j < n) (hn : n ≤ 4611686018427387904) : Calls Try.prog 28 #[.int .i64 i, .int .i64 j, .pointer (some ⟨c0, 0, none⟩)] W (Gives (.bool (hlt d[i]! d[j]!)) W) := by
  have hbx := h.box.cell
  obtain ⟨x1, x2⟩ := h.cells hi
  obtain ⟨y1, y2⟩ := h.cells hj
  have hl := fun w => less_any d[i]! d[j]! w
  have HL := Lib.hid hl
  have HL1 := Lib.hid h.lt
  have HL2 := Lib.hid h.box.lt
  clear hl h
  generalize d[i]! = X at *
  generalize d[j]! = Y at *
  unfold hitV at HL
  have hiz : (i : Int) < (n : Int) := by omega
  have hjz : (j : Int) < (n : Int) := by omega
  go_enter Try.func28, Try.ntmps28
  go_wp2_with fail
  go_region_held3 (fun w' => w'.cell? ⟨c0, 0, none⟩ = some (.slice (some ⟨blk, 0, none⟩) n cap) ∧ w'.cell? ⟨blk, i * 2, none⟩ = some (.int .i64 X.1) ∧ w'.cell? ⟨blk, i * 2 + 1, none⟩ = some (.int .i64 X.2) ∧ w'.cell? ⟨blk, j * 2, none⟩ = some (.int .i64 Y.1) ∧ w'.cell? ⟨blk, j * 2 + 1, none⟩ = some (.int .i64 Y.2))
    (first | exact ⟨hbx, x1, x2, y1, y2⟩ | exact ⟨(hb3.cell HL2.out).trans hbx, (hb3.cell HL1.out).trans x1, (hb3.cell HL1.out).trans x2, (hb3.cell HL1.out).trans y1, (hb3.cell HL1.out).trans y2⟩)
    ((go_at_call 21; refine (HL.out _).mono ?_; rintro e w3 ⟨rfl, hb3⟩))
  go_wp2_with fail
  go_ret
  exact ⟨rfl, (Below.refl _ W).drew.trans hb3⟩
/-- What is asked of the swap, and of the length. -/
structure Env (blk n : Nat) (sb : Array Value) : Prop where
  sw : SwapSwapsK Try.prog 44 sb hcell 2 blk 0 n
  hn : n ≤ 4611686018427387000
theorem putRow_block (enc : Hit → List Value) (w : World) (blk : Nat) (d : Array Hit) (b : Nat) (h : b ≠ blk) : (Sort.putRowK enc 2 w blk 0 d).heap[b]? = w.heap[b]? := by
  unfold Sort.putRowK Sort.putRow
  first
    | (simp only [Sort.mapBlock, Array.getElem?_modify]; rw [if_neg (Ne.symm h)])
    | (simp [Sort.mapBlock, Array.getElem?_modify, Ne.symm h])
theorem St.swap {c0 blk n cap : Nat} {sb : Array Value} {d : Array Hit} {W : World} (h : St c0 blk n cap d W) (E : Env blk n sb) (i j : Nat) (hi : i < n) (hj : j < n) :
    ∃ W', (callFunc 44 (#[.int .i64 i, .int .i64 j] ++ sb)).run Try.prog W = .ok (.value (.tuple #[])) W' ∧ St c0 blk n cap (Sort.swp d i j) W' ∧ W.grownBy W' (some blk) := by
  have hs := E.sw W d h.row h.size i j hi hj
  have e := Sort.putRowK_swp hcell 2 (fun _ => rfl) W blk 0 d i j (by rw [h.size]; exact hi) (by rw [h.size]; exact hj)
  rw [Sort.putRowK_self hcell 2 W blk 0 d h.row] at e
  rw [e] at hs
  have hsz : (Sort.putRowK hcell 2 W blk 0 (Sort.swp d i j)).heap.size = W.heap.size := by unfold Sort.putRowK Sort.putRow; simp [Sort.mapBlock]
  refine ⟨_, hs, ⟨?_, ?_, ?_, ?_, h.ne⟩, ⟨rfl, rfl, rfl, by rw [hsz]; exact Nat.le_refl _, fun b _ hb => putRow_block hcell W blk _ b (by simpa using hb)⟩⟩
  · rw [Sort.size_swp]
    exact h.size
  · exact Sort.holdsK_putRowK hcell 2 W blk 0 d _ h.row (by rw [Sort.size_swp])
  · unfold Box
    rw [putRow_block hcell W blk _ c0 h.ne]
    exact h.box
  · rw [hsz]
    exact h.lt
abbrev lessV (c0 : Nat) : Value := .func (.func 28) #[] #[.pointer (some ⟨c0, 0, none⟩)]
abbrev swapV (sb : Array Value) : Value := .func (.func 44) #[] sb
/-- .. and block b holds the pair of less and swap; since W0 block blk alone has changed. -/
structure At (c0 blk n cap : Nat) (sb : Array Value) (b : Nat) (W0 : World) (d : Array Hit) (W : World) : Prop where
  st : St c0 blk n cap d W
  pair : W.heap[b]? = some (.cells #[lessV c0, swapV sb] 69 (0, 0))
  nb : b ≠ blk
  since : W0.grownBy W (some blk)
section
variable {c0 blk n cap b : Nat} {sb : Array Value} {W0 W W' : World} {d d' : Array Hit}
theorem At.lt (h : At c0 blk n cap sb b W0 d W) : b < W.heap.size := (Array.getElem?_eq_some_iff.1 h.pair).1
theorem At.step (h : At c0 blk n cap sb b W0 d W) (hs : St c0 blk n cap d' W') (hg : W.grownBy W' (some blk)) : At c0 blk n cap sb b W0 d' W' :=
  ⟨hs, (hg.block b h.lt (by simpa using h.nb)).trans h.pair, h.nb, grown_then h.since hg⟩
theorem At.below (h : At c0 blk n cap sb b W0 d W) (hb : Below W.heap.size W W') : At c0 blk n cap sb b W0 d W' := h.step (h.st.below hb) (grown_below hb _)
theorem At.cell0 (h : At c0 blk n cap sb b W0 d W) : W.cell? ⟨b, 0, none⟩ = some (lessV c0) := by simp only [World.cell?, h.pair]; rfl
theorem At.cell1 (h : At c0 blk n cap sb b W0 d W) : W.cell? ⟨b, 1, none⟩ = some (swapV sb) := by simp only [World.cell?, h.pair]; rfl
theorem At.start (h : St c0 blk n cap d W) : At c0 blk n cap sb W.heap.size W d (W.alloc (.cells #[lessV c0, swapV sb] 69)) :=
  ⟨h.below ((Below.refl _ W).alloc (Nat.le_refl _) _), heap_alloc_new W _, by have := h.lt; omega, World.grownBy_alloc W _ _⟩
end
end Go.Proofs.Ytahgamjfglcenaa
