/- What copied and Done of package chart return. Conditions: the chart's nodes read as a list. -/
import Derived.Test.YtmepahlmbopacaaDoorChSame
import Derived.Deep.RegionLawGrows
import Derived.Deep.Cut
set_option linter.unusedVariables false
set_option linter.unusedSimpArgs false
set_option maxRecDepth 100000
namespace Go.Proofs.YtmepahlmbopacaaDoor.Ct
open Go Go.RowKit
/-- Behind copied's append. -/
structure CpR (w w3 : World) (e : Int) (A A1 : Option Addr) (n c c1 : Nat) (l : List Int) : Prop where
  z1 : w3.frozen? ⟨w.heap.size, 1, none⟩ = false
  y1 : w3.cell? ⟨w.heap.size, 1, none⟩ = some (.slice A n c)
  l3 : w.heap.size < w3.heap.size
  row : Row (w3.setCell ⟨w.heap.size, 1, none⟩ (.slice A1 n c1)) w.heap.size 24 [.int .i64 e, .slice A1 n c1]
  res : Row (w3.setCell ⟨w.heap.size, 1, none⟩ (.slice A1 n c1)) (w.heap.size + 1) 24 [.int .i64 0, .slice none 0 0]
  own : (w3.setCell ⟨w.heap.size, 1, none⟩ (.slice A1 n c1)).ownsRow (w.heap.size + 2) 3 1 (.slice A1 n c1) n (ints l)
  bel : Below w.heap.size w (w3.setCell ⟨w.heap.size, 1, none⟩ (.slice A1 n c1))
theorem cp_next {w W w3 : World} {e : Int} {A A1 : Option Addr} {n c c1 : Nat} {l : List Int} (r1 : Row W w.heap.size 24 [.int .i64 e, .slice A n c]) (r2 : Row W (w.heap.size + 1) 24 [.int .i64 0, .slice none 0 0]) (hB0 : Below w.heap.size w W) (hsz : W.heap.size = w.heap.size + 2)
    (hown : w3.ownsRow W.heap.size 3 1 (.slice A1 n c1) n ([] ++ ints l)) (hg : W.grownBy w3 none) : CpR w w3 e A A1 n c c1 l := by
  rw [List.nil_append, hsz] at hown
  have rr := r1.keep (hg.block w.heap.size r1.lt (by simp))
  have r2' := r2.keep (hg.block (w.heap.size + 1) r2.lt (by simp))
  have hb : Below w.heap.size w w3 := hB0.trans ((below_own (World.ownsRow_nil W W.heap.size 3 1) hg (Nat.le_refl _)).mono hB0.size)
  exact ⟨rr.frozen 1, rr.cell (j := 1) rfl, rr.lt, rr.set 1 _, r2'.keep (heap_set_ne _ _ _ (by simp)), ownsRow_setCell_below hown (by show w.heap.size < w.heap.size + 2; omega) _, below_setCell hb (p := ⟨w.heap.size, 1, none⟩) (Nat.le_refl _) _⟩
set_option maxHeartbeats 4000000 in
theorem copied_any {w : World} {B : Nat} {A : Option Addr} {n c : Nat} {l : List Int} (e : Int) (hR : Reads w B 1 A n (ints l)) (hB : B ≤ w.heap.size) (h1 : 1 ≤ n) (h16 : n ≤ 16) (hnc : n ≤ c) (hc : c ≤ maxLen) :
    Calls Tryd.prog 28 #[.agg #[.int .i64 e, .slice A n c]] w fun en w' => ∃ A1 c1, en = .returned (.agg #[.int .i64 e, .slice A1 n c1]) ∧ w'.ownsRow w.heap.size 3 1 (.slice A1 n c1) n (ints l) ∧ Below w.heap.size w w' := by
  obtain ⟨W, hW⟩ : ∃ W, W = (w.alloc (.cells #[.int .i64 e, .slice A n c] 24)).alloc (.cells #[.int .i64 0, .slice none 0 0] 24) := ⟨_, rfl⟩
  have hB0 : Below w.heap.size w W := by rw [hW]; exact ((Below.refl _ w).alloc (Nat.le_refl _) _).alloc (by simp) _
  have r1 : Row W w.heap.size 24 [.int .i64 e, .slice A n c] := by
    rw [hW]
    exact (Row.new w 24 [.int .i64 e, .slice A n c]).keep (heap_alloc_lt _ _ (by simp))
  have r2 : Row W (w.heap.size + 1) 24 [.int .i64 0, .slice none 0 0] := by
    rw [hW]
    have := Row.new (w.alloc (.cells #[.int .i64 e, .slice A n c] 24)) 24 [.int .i64 0, .slice none 0 0]
    rwa [World.size_alloc] at this
  have hsz : W.heap.size = w.heap.size + 2 := by rw [hW]; simp
  have hR1 := (hR.more hB).below hB0
  obtain ⟨ad, rfl, hab, hcell⟩ := hR1.2 (by omega)
  have hlen := hR1.1
  have b0 := r1.cell (j := 0) rfl
  have b1 := r1.cell (j := 1) rfl
  have bl := r1.lt
  have b2 := r2.cell (j := 0) rfl
  have b3 := r2.cell (j := 1) rfl
  have bl2 := r2.lt
  have hcz : (c : Int) ≤ 9223372036854775807 := by unfold maxLen at hc; omega
  have HW := Lib.hid hW
  have HR := Lib.hid (And.intro r1 (And.intro r2 hB0))
  have hnz : n ≠ 0 := by omega
  obtain ⟨i0, hi, hz0, hz1, hz2⟩ := info_parts int_row
  clear r1 r2 hB0 hW hR hR1 hB
  go_enter Tryd.func28, Tryd.ntmps28
  go_wp2_with fail
  rw [← HW.out]
  go_region_law (refine step_append_grows rfl (.tmp 5) (.tmp 7) 22 rfl 3 i0 (.int .i64 0) 1 8 Tryd.underlying22 hi hz0 hz1 hz2 rfl (by decide) (some ad) 0 0 [] rfl (by simp) rfl (by simp) ad n c (ints l) rfl hlen hcell (ints_one l) (by omega) (by unfold maxLen; omega) (by omega) ?_; intro v' w3 hown3 hgr3; rw [Nat.zero_add] at hown3; obtain ⟨A1, c1, rfl, q1, q2⟩ := own_shape hown3; have HX := Lib.hid (cp_next HR.out.1 HR.out.2.1 HR.out.2.2 hsz (show w3.ownsRow W.heap.size 3 1 (.slice A1 n c1) n ([] ++ ints l) from hown3) ⟨hgr3.os, hgr3.tape, hgr3.output, hgr3.size, hgr3.block⟩); have zz1 := HX.out.z1; have zy1 := HX.out.y1; have zl := HX.out.l3; have y0 := HX.out.row.cell (j := 0) rfl; have y1 := HX.out.row.cell (j := 1) rfl; have x0 := HX.out.res.cell (j := 0) rfl; have x1 := HX.out.res.cell (j := 1) rfl; have f0 := HX.out.res.frozen 0; have f1 := HX.out.res.frozen 1; have xl := HX.out.res.lt; clear hown3 hgr3)
  all_goals (
    go_wp2_with fail
    have rs := (HX.out.res.set 0 (.int .i64 e)).set 1 (.slice A1 n c1)
    have g0 := rs.cell (j := 0) rfl
    have g1 := rs.cell (j := 1) rfl
    refine bodyPost_ret (v := .agg #[.int .i64 e, .slice A1 n c1]) (by simp [results, Tryd.results28, go_sem, g0, g1]) rfl ⟨_, _, rfl, ?_, ?_⟩
    · exact own_base (ownsRow_setCell_below (ownsRow_setCell_below HX.out.own (by show w.heap.size + 1 < _; omega) _) (by show w.heap.size + 1 < _; omega) _) (by omega)
    · exact below_setCell (below_setCell HX.out.bel (by show w.heap.size ≤ w.heap.size + 1; omega) _) (by show w.heap.size ≤ w.heap.size + 1; omega) _)
end Go.Proofs.YtmepahlmbopacaaDoor.Ct
