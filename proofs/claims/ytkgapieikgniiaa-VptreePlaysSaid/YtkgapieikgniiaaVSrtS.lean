/- What slices.SortFunc returns at spots, by how far they are. Conditions: the row holds spots. -/
import Derived.Test.YtkgapieikgniiaaVSrtP
set_option linter.unusedVariables false
set_option linter.unusedSimpArgs false
namespace Go.Proofs.Ytkgapieikgniiaa
open Go Go.RowKit Go.Maps
open Go.Sort (HoldsK grow PermIn SortedIn SWO alloc_eq_grow grow_grow)
/-- How far, within bounds. -/
structure Dst where
  v : Int
  lo : 0 ≤ v
  hi : v ≤ 68719476720
/-- A spot: its number, its vector's slice (address, length, room), its vector, how far it is. -/
abbrev Spot := Int × (Option Addr × Nat × Nat) × List Int × Dst
def scell (s : Spot) : List Value := [.int .i64 s.1, .slice s.2.1.1 s.2.1.2.1 s.2.1.2.2, .int .i64 s.2.2.2.v]
instance : Inhabited Spot := ⟨(0, (none, 0, 0), [], ⟨0, by omega, by omega⟩)⟩
theorem scell_one (x : Spot) : ∀ v ∈ scell x, v.oneCell' = true := by
  intro v hv
  simp [scell] at hv
  rcases hv with rfl | rfl | rfl <;> rfl
def cmpS (x y : Spot) : Int := x.2.2.2.v - y.2.2.2.v
theorem ltS (x y : Spot) : ltOf cmpS x y = decide (x.2.2.2.v < y.2.2.2.v) := by
  unfold ltOf cmpS
  rw [decide_eq_decide]
  omega
theorem swoS : SWO (ltOf cmpS) := ⟨fun x => by rw [ltS]; simp, fun x y z h1 h2 => by rw [ltS] at *; simp at *; omega, fun x y z h1 h2 => by rw [ltS] at *; simp at *; omega⟩
set_option maxHeartbeats 1000000 in
theorem splC_any (x y : Spot) (W : World) : Calls Try.prog 64 #[.agg (scell x).toArray, .agg (scell y).toArray] W fun e w' => e = .returned (.int .i64 (cmpS x y)) ∧ ∃ q os', w' = grow (W.drewN q) os' := by
  obtain ⟨x, ⟨A, n, c⟩, l, ⟨f, f1, f2⟩⟩ := x
  obtain ⟨y, ⟨B, m, d⟩, k, ⟨e, e1, e2⟩⟩ := y
  simp only [scell, cmpS]
  go_enter Try.func64, Try.ntmps64
  go_wp2_with fail
  go_ret
  exact ⟨rfl, 0, _, by rw [alloc_eq_grow, alloc_eq_grow, grow_grow]; rfl⟩
structure SortPostS (w : World) (g off : Nat) (d : Array Spot) (e : Ending) (w' : World) (d' : Array Spot) : Prop where
  ret : e = .returned (.tuple #[])
  size : d'.size = d.size
  perm : d'.toList.Perm d.toList
  rise : ∀ i j, i < j → j < d'.size → d'[i]!.2.2.2.v ≤ d'[j]!.2.2.2.v
  holds : HoldsK scell 3 w' g off d'
  turn : Turn (fun b => b = g) w (fun b => b = g) w'
  out : ∀ p : Addr, (p.off < off ∨ off + d.size * 3 ≤ p.off) → p.block < w.heap.size → w'.cell? p = w.cell? p
  froz : ∀ p : Addr, p.block < w.heap.size → w'.frozen? p = w.frozen? p
theorem sortS_any (g off cap : Nat) (d : Array Spot) (w : World) (hH : HoldsK scell 3 w g off d) (hg : g < w.heap.size) (hsz : d.size < 4611686018427387904) :
    Calls Try.prog 63 #[.slice (some ⟨g, off, none⟩) d.size cap, .func (.func 64) #[] #[]] w fun e w' => ∃ d', SortPostS w g off d e w' d' := by
  have eg : ∀ args w, (callFunc 64 args).run Try.prog w = .ok (.enter 64 args) w := enters_of Try.func64 (by kernel_rfl) rfl
  have hcon := AnyQ.slices_SortFunc Try.sortS 3 Try.isAgg108 Try.sizeOf108 scell (fun _ => rfl) scell_one cmpS swoS 64 #[] g off cap d w eg (fun _ _ _ _ x y => splC_any x y _) hH hg hsz
  refine Calls.mono (show Calls Try.prog 63 _ w _ from hcon) ?_
  rintro e w' ⟨rfl, d', n, os, hp, hs, rfl⟩
  obtain ⟨h1, h2⟩ := perm_in hp
  obtain ⟨h3, h4, h5, h6⟩ := sorted_world hH hg h1 n os
  refine ⟨d', rfl, h1, h2, fun i j hij hj => ?_, h3, h4, h5, h6⟩
  have := hs i j (Nat.zero_le _) hij (by omega)
  rw [ltS, decide_eq_false_iff_not] at this
  omega
end Go.Proofs.Ytkgapieikgniiaa
