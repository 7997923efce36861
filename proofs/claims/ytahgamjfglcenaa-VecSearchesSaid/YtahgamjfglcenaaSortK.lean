/- sort.Slice over what was found: sorted. Conditions: the row as SortA says; up to a million of them. -/
import Derived.Test.YtahgamjfglcenaaSortJ
set_option linter.unusedVariables false
set_option linter.unusedSimpArgs false
namespace Go.Proofs.Ytahgamjfglcenaa
open Go Go.RowKit
noncomputable def sliceI : TypeInfo := (Try.prog.info? 31).get (by kernel_rfl)
noncomputable def hitI : TypeInfo := (Try.prog.info? 37).get (by kernel_rfl)
theorem hitK (n : Nat) (h2 : 2 ≤ n) : Lib.swapperK n hitI 25 = 9 := by
  have a : hitI.hasPointers = false := by kernel_rfl
  have b : hitI.bytes = 16 := by kernel_rfl
  have c : (n == 0) = false := by simp; omega
  have d : (n == 1) = false := by simp; omega
  simp [Lib.swapperK, a, b, c, d]
theorem hitK0 : Lib.swapperK 0 hitI 25 = 1 := by simp [Lib.swapperK]
theorem hitK1 : Lib.swapperK 1 hitI 25 = 2 := by simp [Lib.swapperK]
theorem env_any (blk n cap : Nat) (hn : n ≤ 1000000) : Env blk n #[.slice (some ⟨blk, 0, none⟩) n cap, typeHandle Try.prog 37] :=
  ⟨swapSwapsK_of_literal false 44 (fun args W => run_callFunc_extern Try.func44 (by kernel_rfl) (by kernel_rfl) (by kernel_rfl) (e := Extern.ReflectliteSwapper.swap false) (by kernel_rfl) args W) 37 hitI (by kernel_rfl) hcell 2 (fun _ => rfl) (by kernel_rfl) (fun _ => by kernel_rfl)
    (fun x v hv => by simp [hcell] at hv; rcases hv with rfl | rfl <;> rfl) blk 0 n cap, by omega⟩
theorem slice_any {c0 blk n cap : Nat} {d : Array Hit} {W : World} (hS : St c0 blk n cap d W) (hn : n ≤ 1000000) (h2 : 2 ≤ n) :
    Calls Try.prog 27 #[.iface 31 (.slice (some ⟨blk, 0, none⟩) n cap), .func (.func 28) #[] #[.pointer (some ⟨c0, 0, none⟩)]] W (Srt c0 blk n cap 0 n d W) := by
  have h := Any.sort_Slice_of_pdq (P := Try.prog) (ρ := Try.laysGg6_ren) Try.laysGg6 31 37 sliceI hitI (by kernel_rfl) (by kernel_rfl) (by kernel_rfl) (by kernel_rfl) 25 (fun _ => by kernel_rfl)
    (some ⟨blk, 0, none⟩) n cap (by omega) 44 (by rw [hitK n h2]; kernel_rfl) (.func 28) #[] #[.pointer (some ⟨c0, 0, none⟩)] W
    (fun w' => ∃ d', Sort.PermIn 0 n d d' ∧ Sort.SortedIn hlt 0 n d' ∧ St c0 blk n cap d' w' ∧ W.grownBy w' (some blk)) (by
      have hb : Below W.heap.size W (sliceWorld Try.prog Try.laysGg6_ren 31 (some ⟨blk, 0, none⟩) n cap W) := ((Below.refl _ W).alloc (Nat.le_refl _) _).alloc (by simp) _
      have hB : sliceBound Try.prog 37 hitI 25 (some ⟨blk, 0, none⟩) n cap = #[.slice (some ⟨blk, 0, none⟩) n cap, typeHandle Try.prog 37] := by
        unfold sliceBound
        rw [hitK n h2, if_neg (by omega)]
      rw [hB]
      have hlim : Lib.bitLen n ≤ 1000000 := by
        have := Lib.bitLen_le n 62 (by omega) (by omega)
        omega
      have hp := pdq_any (env_any blk n cap hn) (n + 1) 0 n (Lib.bitLen n) d _ (by omega) (hS.below hb) (Nat.zero_le _) (Nat.le_refl _) (.inl rfl) hlim
      refine hp.mono ?_
      rintro e w' ⟨rfl, d', h1, h2', h3, h4⟩
      exact ⟨rfl, d', h1, h2', h3, grown_then (grown_below hb _) h4⟩)
  change Calls Try.prog 27 _ _ _ at h
  exact h
/-- .. of none or of one. -/
theorem slice_few (p : Option Addr) (n cap : Nat) (h1 : n ≤ 1) (c0 : Nat) (W : World) :
    Calls Try.prog 27 #[.iface 31 (.slice p n cap), .func (.func 28) #[] #[.pointer (some ⟨c0, 0, none⟩)]] W fun e w' => e = .returned (.tuple #[]) ∧ Below W.heap.size W w' := by
  have hf : ∃ f, Try.prog.funcs.findIdx? (·.name == "internal/reflectlite" ++ ".Swapper$" ++ toString (Lib.swapperK n hitI 25)) = some f := by
    have : n = 0 ∨ n = 1 := by omega
    rcases this with rfl | rfl
    · exact ⟨36, by rw [hitK0]; kernel_rfl⟩
    · exact ⟨37, by rw [hitK1]; kernel_rfl⟩
  obtain ⟨f, hf⟩ := hf
  have h := Any.sort_Slice_tiny (P := Try.prog) (ρ := Try.laysGg6_ren) Try.laysGg6 31 37 sliceI hitI (by kernel_rfl) (by kernel_rfl) (by kernel_rfl) (by kernel_rfl) 25 (fun _ => by kernel_rfl) p n cap h1 f hf (.func 28) #[] #[.pointer (some ⟨c0, 0, none⟩)] W
  change Calls Try.prog 27 _ _ _ at h
  refine h.mono ?_
  rintro e w' ⟨rfl, os, rfl⟩
  refine ⟨rfl, ⟨rfl, rfl, rfl, ?_, fun b hb => ?_⟩⟩
  · show W.heap.size ≤ (W.heap ++ os).size
    simp
  · show (W.heap ++ os)[b]? = W.heap[b]?
    exact Array.getElem?_append_left hb
end Go.Proofs.Ytahgamjfglcenaa
