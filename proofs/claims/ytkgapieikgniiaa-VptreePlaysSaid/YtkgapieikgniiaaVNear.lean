/- What far, reach and slices.Clip return. Conditions: the slices read as lists; what is nearest so far lies in memory. -/
import Derived.Test.YtkgapieikgniiaaVAbs
import Derived.Test.YtkgapieikgniiaaVLess
set_option linter.unusedVariables false
set_option linter.unusedSimpArgs false
namespace Go.Proofs.Ytkgapieikgniiaa
open Go Go.RowKit Go.Maps
set_option maxHeartbeats 1000000 in
theorem vfar_any (A A' : Option Addr) (n m c c' B B' : Nat) (a b : List Int) (w : World) (hx : Reads w B 1 A n (ints a)) (hy : Reads w B' 1 A' m (ints b)) (ha : okV a = true) (hb : okV b = true) (hl : b.length = a.length) :
    Calls Try.prog 38 #[.slice A n c, .slice A' m c'] w (Says (.int .i64 (far a b)) w) := by
  have h16 := ((okV_iff a).1 ha).2.1
  have lx := hx.len
  have ly := hy.len
  have hd := dist_any A A' n m c c' B B' a b w hx hy (by unfold maxLen; omega) (by unfold maxLen; omega)
  rw [dstR_yes ⟨ha, hb, hl⟩] at hd
  unfold two at hd
  clear hx hy lx ly
  go_enter Try.func38, Try.ntmps38
  go_wp2_with fail
  refine hd.mono ?_
  rintro e w1 ⟨rfl, q, rfl⟩
  go_wp2_with fail
  go_ret
  exact ⟨rfl, q, rfl⟩
/-- What is nearest so far: how many at the most, how far at the most, what was found. -/
structure NearW (w : World) (bb base k : Nat) (lim : Int) (v : Value) (H : List Hit) : Prop where
  row : Row w bb 84 [.int .i64 (k : Int), .int .i64 lim, v]
  own : w.ownsRow base 57 2 v H.length (hits H)
  up : bb < base
  base_le : base ≤ w.heap.size
section
variable {w w' : World} {bb base k : Nat} {lim : Int} {v : Value} {H : List Hit}
theorem NearW.lt (h : NearW w bb base k lim v H) : bb < w.heap.size := h.row.lt
theorem NearW.keep (h : NearW w bb base k lim v H) (hk : ∀ b, b = bb ∨ v.ownBlock = some b → w'.heap[b]? = w.heap[b]?) (hs : w.heap.size ≤ w'.heap.size) : NearW w' bb base k lim v H :=
  ⟨h.row.keep (hk bb (.inl rfl)), own_keep h.own (fun g hg => hk g (.inr hg)), h.up, Nat.le_trans h.base_le hs⟩
theorem NearW.below (h : NearW w bb base k lim v H) (hb : Below w.heap.size w w') : NearW w' bb base k lim v H :=
  h.keep (fun b hb' => hb.block b (by rcases hb' with rfl | hb'; exact h.lt; exact (h.own.lt b hb').2)) hb.size
theorem NearW.drewN (h : NearW w bb base k lim v H) (q : Nat) : NearW (w.drewN q) bb base k lim v H := h.keep (fun _ _ => rfl) (Nat.le_refl _)
theorem NearW.d0 (h : NearW w bb base k lim v H) : w.cell? ⟨bb, 0, none⟩ = some (.int .i64 (k : Int)) := h.row.cell rfl
theorem NearW.d1 (h : NearW w bb base k lim v H) : w.cell? ⟨bb, 1, none⟩ = some (.int .i64 lim) := h.row.cell rfl
theorem NearW.d2 (h : NearW w bb base k lim v H) : w.cell? ⟨bb, 2, none⟩ = some v := h.row.cell rfl
set_option maxHeartbeats 1000000 in
theorem vreach_any (h : NearW w bb base k lim v H) (hk1 : 1 ≤ k) (hk : k ≤ 64) (hH : H.length ≤ k) : Calls Try.prog 40 #[.pointer (some ⟨bb, 0, none⟩)] w (Says (.int .i64 (reachOf k lim H)) w) := by
  obtain ⟨A, c, rfl, hnc, hc⟩ := own_shape h.own
  have c0 := h.d0
  have c1 := h.d1
  have c2 := h.d2
  have hl := h.lt
  by_cases hlt : H.length < k
  · have hr : reachOf k lim H = lim := by unfold reachOf; rw [if_pos hlt]
    have hltz : (H.length : Int) < (k : Int) := by omega
    rw [hr]
    clear h hr hH
    generalize H.length = n at *
    go_enter Try.func40, Try.ntmps40
    go_wp2_with fail
    go_quiet (fail)
    go_wp2_with fail
    go_ret
    exact ⟨rfl, _, rfl⟩
  · have hr : reachOf k lim H = (H.getD (k - 1) (0, 0)).2 := by unfold reachOf; rw [if_neg hlt]
    have hR := Reads.of_own h.own
    obtain ⟨ad, rfl, hb, hkl, x0, x1⟩ := hR.hit_at (k := k - 1) (by omega)
    have hltz : ¬ (H.length : Int) < (k : Int) := by omega
    have hkk : (k : Int) - 1 = ((k - 1 : Nat) : Int) := by omega
    rw [hr]
    generalize (H.getD (k - 1) (0, 0)) = X at *
    have hkl' : k - 1 < H.length := hkl
    clear h hr hH hR hlt
    generalize H.length = n at *
    obtain ⟨j, rfl⟩ : ∃ j, k = j + 1 := ⟨k - 1, by omega⟩
    simp only [Nat.add_sub_cancel] at *
    have hjz : (j : Int) < (n : Int) := by omega
    have e1 : ((j + 1 : Nat) : Int) - 1 = (j : Int) := by omega
    clear hkk
    go_enter Try.func40, Try.ntmps40
    go_wp2_with fail
    go_quiet (fail)
    go_wp2_with fail
    go_quiet (fail)
    go_wp2_with fail
    go_ret
    first | exact ⟨rfl, _, rfl⟩ | exact ⟨rfl, _, World.drewN_drewN ..⟩
end
set_option maxHeartbeats 1000000 in
theorem clip_any (A : Option Addr) (n c : Nat) (w : World) (hnc : n ≤ c) (hc : c ≤ maxLen) : Calls Try.prog 42 #[.slice A n c] w (Says (.slice A n n) w) := by
  unfold maxLen at hc
  have h0 : (0 : Int) ≤ (n : Int) := by omega
  have h1 : (n : Int) ≤ (c : Int) := by omega
  go_enter Try.func42, Try.ntmps42
  go_wp2_with fail
  go_ret
  exact ⟨rfl, 0, rfl⟩
end Go.Proofs.Ytkgapieikgniiaa
