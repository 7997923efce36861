/- pdqsort_func of package sort, whole: a row of what was found is sorted between two places. Conditions: the row as SortA says. -/
import Derived.Test.YtahgamjfglcenaaSortD
import Derived.Test.YtahgamjfglcenaaSortE
import Derived.Test.YtahgamjfglcenaaSortF
import Derived.Test.YtahgamjfglcenaaSortG
import Derived.Test.YtahgamjfglcenaaSortH
import Derived.Test.YtahgamjfglcenaaShelf
import Derived.Sort.LotD3
import Derived.Deep.LoopGhost
import Derived.Deep.CutRange
set_option linter.unusedVariables false
set_option linter.unusedSimpArgs false
namespace Go.Proofs.Ytahgamjfglcenaa
open Go Go.RowKit
theorem hlt_swo : Sort.SWO hlt := by
  refine ⟨hlt_irrefl, fun x y z => hlt_trans, fun x y z h k => ?_⟩
  rw [Bool.eq_false_iff, Ne, hlt_iff] at *
  omega
/-- Between a and b the row is another one with the same elements; nothing else that was there has changed. -/
def Mixed (c0 blk n cap a b : Nat) (d : Array Hit) (W : World) (e : Ending) (w' : World) : Prop :=
  e = .returned (.tuple #[]) ∧ ∃ d', Sort.PermIn a b d d' ∧ St c0 blk n cap d' w' ∧ W.grownBy w' (some blk)
theorem sortWorld_st {c0 blk n cap : Nat} {d d' : Array Hit} {W : World} (h : St c0 blk n cap d W) (hs : d'.size = d.size) (m : Nat) (os : Array Obj) :
    St c0 blk n cap d' (sortWorldK hcell 2 W blk 0 m d' os) ∧ W.grownBy (sortWorldK hcell 2 W blk 0 m d' os) (some blk) := by
  have hb : ∀ b, b < W.heap.size → b ≠ blk → (sortWorldK hcell 2 W blk 0 m d' os).heap[b]? = W.heap[b]? := by
    intro b hb hne
    have e1 : (sortWorldK hcell 2 W blk 0 m d' os).heap = (Sort.putRowK hcell 2 (Sort.ahead W m) blk 0 d').heap ++ os := rfl
    have hsz : (Sort.putRowK hcell 2 (Sort.ahead W m) blk 0 d').heap.size = W.heap.size := by unfold Sort.putRowK Sort.putRow; simp [Sort.mapBlock]
    rw [e1, Array.getElem?_append_left (by rw [hsz]; exact hb), putRow_block hcell _ blk d' b hne]
    rfl
  have hsize : W.heap.size ≤ (sortWorldK hcell 2 W blk 0 m d' os).heap.size := by
    have e1 : (sortWorldK hcell 2 W blk 0 m d' os).heap = (Sort.putRowK hcell 2 (Sort.ahead W m) blk 0 d').heap ++ os := rfl
    have hsz : (Sort.putRowK hcell 2 (Sort.ahead W m) blk 0 d').heap.size = W.heap.size := by unfold Sort.putRowK Sort.putRow; simp [Sort.mapBlock]
    rw [e1, Array.size_append, hsz]
    omega
  refine ⟨⟨hs.trans h.size, holdsK_sortWorldK hcell 2 W blk 0 m d d' os h.lt h.row hs, ?_, by have := h.lt; omega, h.ne⟩, ⟨rfl, rfl, rfl, hsize, fun b hb' hne => hb b hb' (by simpa using hne)⟩⟩
  unfold Box
  rw [hb c0 h.box.lt h.ne]
  exact h.box
theorem break_any {c0 blk n cap : Nat} {sb : Array Value} (E : Env blk n sb) (a b : Nat) (d : Array Hit) (W : World) (hS : St c0 blk n cap d W) (hab : a ≤ b) (hb : b ≤ n) :
    Calls Try.prog 49 #[.agg #[lessV c0, swapV sb], .int .i64 a, .int .i64 b] W (Mixed c0 blk n cap a b d W) := by
  have h := Any.breakPatterns_func_cells_w (P := Try.prog) (ρ := Try.laysGg6_ren) { Try.laysGg6 with } hcell 2 (fun _ => rfl) (.func 28) #[] #[.pointer (some ⟨c0, 0, none⟩)] 44 sb blk 0 a b d W (by rw [hS.size]; exact E.sw) hS.row hS.lt hab (by rw [hS.size]; exact hb) (by rw [hS.size]; have := E.hn; omega)
  change Calls Try.prog 49 _ _ _ at h
  refine h.mono ?_
  rintro e w' ⟨rfl, m, os, rfl⟩
  have hp := Sort.breakPatterns_holds d a b hab (by rw [hS.size]; exact hb)
  obtain ⟨h1, h2⟩ := sortWorld_st hS hp.1 m os
  exact ⟨rfl, _, hp, h1, h2⟩
theorem reverse_any {c0 blk n cap : Nat} {sb : Array Value} (E : Env blk n sb) (a b : Nat) (d : Array Hit) (W : World) (hS : St c0 blk n cap d W) (hab : a ≤ b) (hb : b ≤ n) :
    Calls Try.prog 51 #[.agg #[lessV c0, swapV sb], .int .i64 a, .int .i64 b] W (Mixed c0 blk n cap a b d W) := by
  have h := Any.reverseRange_func_cells_w (P := Try.prog) (ρ := Try.laysGg6_ren) { Try.laysGg6 with } hcell 2 (fun _ => rfl) (.func 28) #[] #[.pointer (some ⟨c0, 0, none⟩)] 44 sb blk 0 a b d W (by rw [hS.size]; exact E.sw) hS.row hS.lt hab (by rw [hS.size]; exact hb) (by rw [hS.size]; have := E.hn; omega)
  change Calls Try.prog 51 _ _ _ at h
  refine h.mono ?_
  rintro e w' ⟨rfl, m, os, rfl⟩
  have hp := Sort.reverseRange_holds d a b hab (by rw [hS.size]; exact hb)
  obtain ⟨h1, h2⟩ := sortWorld_st hS hp.1 m os
  exact ⟨rfl, _, hp, h1, h2⟩
end Go.Proofs.Ytahgamjfglcenaa
