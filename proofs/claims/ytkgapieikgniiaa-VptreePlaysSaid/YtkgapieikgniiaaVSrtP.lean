/- What slices.SortFunc returns at points, by their numbers. Conditions: the row holds points. -/
import Derived.Test.YtkgapieikgniiaaVRow
import Derived.Test.YtkgapieikgniiaaVSl
set_option linter.unusedVariables false
set_option linter.unusedSimpArgs false
namespace Go.Proofs.Ytkgapieikgniiaa
open Go Go.RowKit Go.Maps
open Go.Sort (HoldsK grow PermIn SortedIn SWO alloc_eq_grow grow_grow)
def cmpZ (x y : Int) : Int := if x < y then -1 else if y < x then 1 else 0
theorem nan_any (x : Int) (w : World) : Calls Try.prog 59 #[.int .i64 x] w fun e w' => e = .returned (.bool false) ∧ w' = w := by
  go_enter Try.func59, Try.ntmps59
  go_wp2
  go_ret
  exact ⟨by simp, rfl⟩
set_option maxHeartbeats 1000000 in
theorem cmpI_any (x y : Int) (w : World) : Calls Try.prog 48 #[.int .i64 x, .int .i64 y] w fun e w' => e = .returned (.int .i64 (cmpZ x y)) ∧ w' = w := by
  unfold cmpZ
  by_cases hxy : x < y
  · rw [if_pos hxy]
    go_enter Try.func48, Try.ntmps48
    go_wp2_with (go_at_call 59; refine (nan_any _ _).mono ?_; rintro e w' ⟨rfl, rfl⟩)
    go_ret
    exact ⟨rfl, rfl⟩
  · by_cases hyx : y < x
    · rw [if_neg hxy, if_pos hyx]
      go_enter Try.func48, Try.ntmps48
      go_wp2_with (go_at_call 59; refine (nan_any _ _).mono ?_; rintro e w' ⟨rfl, rfl⟩)
      go_ret
      exact ⟨rfl, rfl⟩
    · rw [if_neg hxy, if_neg hyx]
      go_enter Try.func48, Try.ntmps48
      go_wp2_with (go_at_call 59; refine (nan_any _ _).mono ?_; rintro e w' ⟨rfl, rfl⟩)
      go_ret
      exact ⟨rfl, rfl⟩
set_option maxHeartbeats 1000000 in
theorem allC_any (x y : Pt) (W : World) : Calls Try.prog 47 #[.agg (pcell x).toArray, .agg (pcell y).toArray] W fun e w' => e = .returned (.int .i64 (cmpZ x.1 y.1)) ∧ ∃ q os', w' = grow (W.drewN q) os' := by
  have hcon := fun W' => cmpI_any x.1 y.1 W'
  generalize cmpZ x.1 y.1 = r at hcon ⊢
  obtain ⟨x, ⟨A, n, c⟩, l⟩ := x
  obtain ⟨y, ⟨B, m, d⟩, k⟩ := y
  simp only [pcell]
  simp only at hcon
  go_enter Try.func47, Try.ntmps47
  go_wp2_with (go_at_call 48; refine (hcon _).mono ?_; rintro e w' ⟨rfl, rfl⟩)
  go_ret
  exact ⟨rfl, 0, _, by rw [alloc_eq_grow, alloc_eq_grow, grow_grow]; rfl⟩
def cmpP (x y : Pt) : Int := cmpZ x.1 y.1
theorem ltP (x y : Pt) : ltOf cmpP x y = decide (x.1 < y.1) := by
  unfold ltOf cmpP cmpZ
  by_cases h1 : x.1 < y.1
  · simp [h1]
  · by_cases h2 : y.1 < x.1 <;> simp [h1, h2]
theorem swoP : SWO (ltOf cmpP) := ⟨fun x => by rw [ltP]; simp, fun x y z h1 h2 => by rw [ltP] at *; simp at *; omega, fun x y z h1 h2 => by rw [ltP] at *; simp at *; omega⟩
theorem pcell_one (x : Pt) : ∀ v ∈ pcell x, v.oneCell' = true := by
  intro v hv
  simp [pcell] at hv
  rcases hv with rfl | rfl <;> rfl
structure SortPost (enc : Pt → List Value) (w : World) (g off : Nat) (d : Array Pt) (e : Ending) (w' : World) (d' : Array Pt) : Prop where
  ret : e = .returned (.tuple #[])
  size : d'.size = d.size
  perm : d'.toList.Perm d.toList
  rise : ∀ i j, i < j → j < d'.size → d'[i]!.1 ≤ d'[j]!.1
  holds : HoldsK enc 2 w' g off d'
  turn : Turn (fun b => b = g) w (fun b => b = g) w'
theorem sortP_any (g off cap : Nat) (d : Array Pt) (w : World) (hH : HoldsK pcell 2 w g off d) (hg : g < w.heap.size) (hsz : d.size < 4611686018427387904) :
    Calls Try.prog 46 #[.slice (some ⟨g, off, none⟩) d.size cap, .func (.func 47) #[] #[]] w fun e w' => ∃ d', SortPost pcell w g off d e w' d' := by
  have eg : ∀ args w, (callFunc 47 args).run Try.prog w = .ok (.enter 47 args) w := enters_of Try.func47 (by kernel_rfl) rfl
  have hcon := AnyQ.slices_SortFunc Try.sortP 2 Try.isAgg37 Try.sizeOf37 pcell (fun _ => rfl) pcell_one cmpP swoP 47 #[] g off cap d w eg (fun _ _ _ _ x y => allC_any x y _) hH hg hsz
  refine Calls.mono (show Calls Try.prog 46 _ w _ from hcon) ?_
  rintro e w' ⟨rfl, d', n, os, hp, hs, rfl⟩
  obtain ⟨h1, h2⟩ := perm_in hp
  obtain ⟨h3, h4, _⟩ := sorted_world hH hg h1 n os
  refine ⟨d', rfl, h1, h2, fun i j hij hj => ?_, h3, h4⟩
  have := hs i j (Nat.zero_le _) hij (by omega)
  rw [ltP, decide_eq_false_iff_not] at this
  omega
end Go.Proofs.Ytkgapieikgniiaa
