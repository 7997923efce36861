/- What nobody made answers nothing: the law's walk. Conditions: none. -/
import Derived.Test.YtbjjgjifaomdlaaMvNb
set_option linter.unusedVariables false
set_option linter.unusedSimpArgs false
set_option maxRecDepth 100000
namespace Go.Proofs.Ytbjjgjifaomdlaa.Mv
open Go Go.RowKit
open Po (M msgV)
/-- The law's variables: a message, a move without cells of its own, and a list of two pointers. -/
structure NB (w W : World) (xs : List Value) : Prop where
  rx : Row W w.heap.size 42 xs
  rq : Row W (w.heap.size + 1) 62 nbC
  rl : Row W (w.heap.size + 1 + 1) 26 [.pointer none, ptr (w.heap.size + 1)]
  bel : Below w.heap.size w W
section
variable {w W W2 : World} {xs : List Value}
theorem NB.on (h : NB w W xs) (hb : Below W.heap.size W W2) : NB w W2 xs := ⟨h.rx.keep (hb.block _ h.rx.lt), h.rq.keep (hb.block _ h.rq.lt), h.rl.keep (hb.block _ h.rl.lt), h.bel.trans (hb.mono h.bel.size)⟩
theorem NB.drew (h : NB w W xs) : NB w W.drew xs := ⟨h.rx, h.rq, h.rl, h.bel.drew⟩
theorem NB.n0 (h : NB w W xs) : Nb W none := .inl rfl
theorem NB.n1 (h : NB w W xs) : Nb W (some ⟨w.heap.size + 1, 0, none⟩) := .inr ⟨_, rfl, h.rq⟩
theorem nb_new (w : World) (xs : List Value) : NB w (((w.alloc (.cells xs.toArray 42)).alloc (.cells nbC.toArray 62)).alloc (.cells #[.pointer none, ptr (w.heap.size + 1)] 26)) xs := by
  have a0 := Row.new w 42 xs
  have a1 := a0.keep (heap_alloc_lt _ (.cells nbC.toArray 62) a0.lt)
  have q1 := row_new1 w (.cells xs.toArray 42) 62 nbC
  have l2 := Row.new ((w.alloc (.cells xs.toArray 42)).alloc (.cells nbC.toArray 62)) 26 [.pointer none, ptr (w.heap.size + 1)]
  rw [World.size_alloc, World.size_alloc] at l2
  exact ⟨a1.keep (heap_alloc_lt _ _ a1.lt), q1.keep (heap_alloc_lt _ _ q1.lt), l2, (((Below.refl _ w).alloc (Nat.le_refl _) _).alloc (by simp) _).alloc (by simp; omega) _⟩
end
set_option maxHeartbeats 8000000 in
theorem nobody_walk (f : Int) (x : M) (A : Option Addr) (n c : Nat) (A' : Option Addr) (n' c' : Nat) (w : World) : Calls Try.prog 6 #[.int .i64 f, .agg (msgV x A n c A' n' c').toArray] w (Gives (.bool true) w) := by
  have HN := Lib.hid (nb_new w (msgV x A n c A' n' c'))
  have HSM := Lib.hid (fun w => rsame_self nilM w)
  have HSY := Lib.hid (fun w v (h : Nb w v) => by have := says_nb h; rw [msgA] at this; simpa only [nilM] using this)
  have HPH := Lib.hid (fun w v (h : Nb w v) => phase_nb h)
  have HAB := Lib.hid (fun w v (h : Nb w v) => abort_nb h)
  have HHE := Lib.hid (fun w v (h : Nb w v) => hears_nb h f x A n c A' n' c')
  have HAW := Lib.hid (fun w => awake_any w)
  generalize hxs : msgV x A n c A' n' c' = xs at *
  have HXS := Lib.hid hxs
  have hlen : xs.length = 16 := by rw [← hxs]; rfl
  have HLN := Lib.hid hlen
  rw [← hxs]
  unfold msgV
  clear hlen hxs
  go_enter Try.func6, Try.ntmps6
  go_wp2_with fail
  go_loopw [6] (fun s wr => ∃ i : Nat, s = .int .i64 (i : Int) ∧ i ≤ 2 ∧ Hid (NB w wr xs)) (fun s _ => (2 - intOf s).toNat)
  case atStart =>
    refine ⟨0, rfl, by omega, Lib.hid ?_⟩
    have := HN.out
    rw [← HXS.out] at this
    rw [← HXS.out]
    exact this
  case round =>
    obtain ⟨i, rfl, hi, H⟩ := hrel
    have hcs : i = 0 ∨ i = 1 ∨ i = 2 := by omega
    clear hi HN
    rcases hcs with rfl | rfl | rfl
    · as_aux_lemma =>
      have k0 := H.out.rl.cell (j := 0) rfl
      have kl := H.out.rl.lt
      go_wp2_with fail
      refine (HSY.out _ _ H.out.n0).mono ?_
      rintro e w1 ⟨rfl, hb1⟩
      have H1 := Lib.hid (H.out.on hb1)
      clear hb1 k0 kl H
      go_wp2_with fail
      have RY := Lib.hid (Row.new w1 42 nilV)
      have H2 := Lib.hid (H1.out.on (below_a w1 (.cells nilV.toArray 42)))
      refine wp_region_held_drew (S := fun W => NB w W xs ∧ Row W w1.heap.size 42 nilV) (by kernel_rfl) (by exact ⟨H2.out.drew, RY.out⟩) (fun hHeld => ?_)
      refine tk 0 (oi := ⟨_, _, _, _, _, _⟩) rfl (fun w' hSw => by ((try dsimp only at hSw); go_simp <;> with_reducible rfl)) ?_
      try simp only [Act.put, List.setIfInBounds_toArray, List.set_cons_zero, List.set_cons_succ]
      refine tk 1 (oi := ⟨_, _, _, _, _, _⟩) rfl (fun w' hSw => by ((try dsimp only at hSw); go_simp <;> with_reducible rfl)) ?_
      try simp only [Act.put, List.setIfInBounds_toArray, List.set_cons_zero, List.set_cons_succ]
      refine tk 2 (oi := ⟨_, _, _, _, _, _⟩) rfl (fun w' hSw => by ((try dsimp only at hSw); go_simp <;> with_reducible rfl)) ?_
      try simp only [Act.put, List.setIfInBounds_toArray, List.set_cons_zero, List.set_cons_succ]
      refine tk 3 (oi := ⟨_, _, _, _, _, _⟩) rfl (fun w' hSw => by (refine yields_msg hSw.2 rfl (.tmp 8) ?_ ?_) <;> rfl) ?_
      try simp only [Act.put, List.setIfInBounds_toArray, List.set_cons_zero, List.set_cons_succ]
      refine tk 4 (oi := ⟨_, _, _, _, _, _⟩) rfl (fun w' hSw => by ((try dsimp only at hSw); go_simp <;> with_reducible rfl)) ?_
      try simp only [Act.put, List.setIfInBounds_toArray, List.set_cons_zero, List.set_cons_succ]
      refine rd1 5 (o := ⟨_, _, _, _, _, _⟩) rfl (fun K' hK => ?_)
      go_simp
      go_at_call 20
      refine (HSM.out _).mono ?_
      rintro en w3 ⟨rfl, hb3⟩
      have H3 := Lib.hid (show NB w w3 xs from H2.out.drew.on hb3)
      have R3 := Lib.hid (show Row w3 w1.heap.size 42 nilV from RY.out.keep (hb3.block _ RY.out.lt))
      refine hK.out _ _ ⟨H3.out, R3.out⟩ (fun hHeld => ?_)
      clear hK K' hb3
      try simp only [Act.put, List.setIfInBounds_toArray, List.set_cons_zero, List.set_cons_succ]
      refine tk 6 (oi := ⟨_, _, _, _, _, _⟩) rfl (fun w' hSw => by ((try dsimp only at hSw); go_simp <;> with_reducible rfl)) ?_
      try simp only [Act.put, List.setIfInBounds_toArray, List.set_cons_zero, List.set_cons_succ]
      refine tk 7 (oi := ⟨_, _, _, _, _, _⟩) rfl (fun w' hSw => by ((try dsimp only at hSw); go_simp <;> with_reducible rfl)) ?_
      try simp only [Act.put, List.setIfInBounds_toArray, List.set_cons_zero, List.set_cons_succ]
      refine tk 8 (oi := ⟨_, _, _, _, _, _⟩) rfl (fun w' hSw => by ((try dsimp only at hSw); go_simp <;> with_reducible rfl)) ?_
      try simp only [Act.put, List.setIfInBounds_toArray, List.set_cons_zero, List.set_cons_succ]
      refine tk 9 (oi := ⟨_, _, _, _, _, _⟩) rfl (fun w' hSw => by ((try dsimp only at hSw); go_simp <;> with_reducible rfl)) ?_
      try simp only [Act.put, List.setIfInBounds_toArray, List.set_cons_zero, List.set_cons_succ]
      refine tk 10 (oi := ⟨_, _, _, _, _, _⟩) rfl (fun w' hSw => by ((try dsimp only at hSw); go_simp <;> with_reducible rfl)) ?_
      try simp only [Act.put, List.setIfInBounds_toArray, List.set_cons_zero, List.set_cons_succ]
      refine tk 11 (oi := ⟨_, _, _, _, _, _⟩) rfl (fun w' hSw => by ((try dsimp only at hSw); go_simp <;> with_reducible rfl)) ?_
      try simp only [Act.put, List.setIfInBounds_toArray, List.set_cons_zero, List.set_cons_succ]
      refine tk 12 (oi := ⟨_, _, _, _, _, _⟩) rfl (fun w' hSw => by ((try dsimp only at hSw); go_simp <;> with_reducible rfl)) ?_
      try simp only [Act.put, List.setIfInBounds_toArray, List.set_cons_zero, List.set_cons_succ]
      refine tk 13 (oi := ⟨_, _, _, _, _, _⟩) rfl (fun w' hSw => by ((try dsimp only at hSw); go_simp <;> with_reducible rfl)) ?_
      try simp only [Act.put, List.setIfInBounds_toArray, List.set_cons_zero, List.set_cons_succ]
      refine tk 14 (oi := ⟨_, _, _, _, _, _⟩) rfl (fun w' hSw => by (have k0 := hSw.1.rl.cell (j := 0) rfl; have kl := hSw.1.rl.lt; go_simp <;> with_reducible rfl)) ?_
      try simp only [Act.put, List.setIfInBounds_toArray, List.set_cons_zero, List.set_cons_succ]
      refine tk 15 (oi := ⟨_, _, _, _, _, _⟩) rfl (fun w' hSw => by (have k0 := hSw.1.rl.cell (j := 0) rfl; have kl := hSw.1.rl.lt; go_simp <;> with_reducible rfl)) ?_
      try simp only [Act.put, List.setIfInBounds_toArray, List.set_cons_zero, List.set_cons_succ]
      refine rd1 16 (o := ⟨_, _, _, _, _, _⟩) rfl (fun K' hK => ?_)
      go_simp
      go_at_call 18
      refine (HPH.out _ _ H3.out.n0).mono ?_
      rintro en w4 ⟨rfl, rfl⟩
      refine hK.out _ _ ⟨H3.out, R3.out⟩ (fun hHeld => ?_)
      clear hK K'
      try simp only [Act.put, List.setIfInBounds_toArray, List.set_cons_zero, List.set_cons_succ]
      refine tk 17 (oi := ⟨_, _, _, _, _, _⟩) rfl (fun w' hSw => by ((try dsimp only at hSw); go_simp <;> with_reducible rfl)) ?_
      try simp only [Act.put, List.setIfInBounds_toArray, List.set_cons_zero, List.set_cons_succ]
      refine tk 18 (oi := ⟨_, _, _, _, _, _⟩) rfl (fun w' hSw => by ((try dsimp only at hSw); go_simp <;> with_reducible rfl)) ?_
      try simp only [Act.put, List.setIfInBounds_toArray, List.set_cons_zero, List.set_cons_succ]
      refine tk 19 (oi := ⟨_, _, _, _, _, _⟩) rfl (fun w' hSw => by ((try dsimp only at hSw); go_simp <;> with_reducible rfl)) ?_
      try simp only [Act.put, List.setIfInBounds_toArray, List.set_cons_zero, List.set_cons_succ]
      refine tk 20 (oi := ⟨_, _, _, _, _, _⟩) rfl (fun w' hSw => by ((try dsimp only at hSw); go_simp <;> with_reducible rfl)) ?_
      try simp only [Act.put, List.setIfInBounds_toArray, List.set_cons_zero, List.set_cons_succ]
      refine tk 21 (oi := ⟨_, _, _, _, _, _⟩) rfl (fun w' hSw => by ((try dsimp only at hSw); go_simp <;> with_reducible rfl)) ?_
      try simp only [Act.put, List.setIfInBounds_toArray, List.set_cons_zero, List.set_cons_succ]
      refine tk 22 (oi := ⟨_, _, _, _, _, _⟩) rfl (fun w' hSw => by (have k0 := hSw.1.rl.cell (j := 0) rfl; have kl := hSw.1.rl.lt; go_simp <;> with_reducible rfl)) ?_
      try simp only [Act.put, List.setIfInBounds_toArray, List.set_cons_zero, List.set_cons_succ]
      refine tk 23 (oi := ⟨_, _, _, _, _, _⟩) rfl (fun w' hSw => by (have k0 := hSw.1.rl.cell (j := 0) rfl; have kl := hSw.1.rl.lt; go_simp <;> with_reducible rfl)) ?_
      try simp only [Act.put, List.setIfInBounds_toArray, List.set_cons_zero, List.set_cons_succ]
      refine tk 24 (oi := ⟨_, _, _, _, _, _⟩) rfl (fun w' hSw => by ((try dsimp only at hSw); go_simp <;> with_reducible rfl)) ?_
      try simp only [Act.put, List.setIfInBounds_toArray, List.set_cons_zero, List.set_cons_succ]
      refine tk 25 (oi := ⟨_, _, _, _, _, _⟩) rfl (fun w' hSw => by (refine yields_msg hSw.1.rx HLN.out (.tmp 3) ?_ ?_) <;> rfl) ?_
      try simp only [Act.put, List.setIfInBounds_toArray, List.set_cons_zero, List.set_cons_succ]
      refine rd1 26 (o := ⟨_, _, _, _, _, _⟩) rfl (fun K' hK => ?_)
      go_simp
      go_at_call 15
      refine (HHE.out _ _ H3.out.n0).mono ?_
      rintro en w5 ⟨rfl, hb5⟩
      have H5 := Lib.hid (H3.out.on hb5)
      have R5 := Lib.hid (R3.out.keep (hb5.block _ R3.out.lt))
      refine hK.out _ _ ⟨H5.out, R5.out⟩ (fun hHeld => ?_)
      clear hK K' hb5
      try simp only [Act.put, List.setIfInBounds_toArray, List.set_cons_zero, List.set_cons_succ]
      refine tk 27 (oi := ⟨_, _, _, _, _, _⟩) rfl (fun w' hSw => by ((try dsimp only at hSw); go_simp <;> with_reducible rfl)) ?_
      try simp only [Act.put, List.setIfInBounds_toArray, List.set_cons_zero, List.set_cons_succ]
      refine tk 28 (oi := ⟨_, _, _, _, _, _⟩) rfl (fun w' hSw => by ((try dsimp only at hSw); go_simp <;> with_reducible rfl)) ?_
      try simp only [Act.put, List.setIfInBounds_toArray, List.set_cons_zero, List.set_cons_succ]
      refine tk 29 (oi := ⟨_, _, _, _, _, _⟩) rfl (fun w' hSw => by ((try dsimp only at hSw); go_simp <;> with_reducible rfl)) ?_
      try simp only [Act.put, List.setIfInBounds_toArray, List.set_cons_zero, List.set_cons_succ]
      refine tk 30 (oi := ⟨_, _, _, _, _, _⟩) rfl (fun w' hSw => by ((try dsimp only at hSw); go_simp <;> with_reducible rfl)) ?_
      try simp only [Act.put, List.setIfInBounds_toArray, List.set_cons_zero, List.set_cons_succ]
      refine tk 31 (oi := ⟨_, _, _, _, _, _⟩) rfl (fun w' hSw => by (have k0 := hSw.1.rl.cell (j := 0) rfl; have kl := hSw.1.rl.lt; go_simp <;> with_reducible rfl)) ?_
      try simp only [Act.put, List.setIfInBounds_toArray, List.set_cons_zero, List.set_cons_succ]
      refine tk 32 (oi := ⟨_, _, _, _, _, _⟩) rfl (fun w' hSw => by (have k0 := hSw.1.rl.cell (j := 0) rfl; have kl := hSw.1.rl.lt; go_simp <;> with_reducible rfl)) ?_
      try simp only [Act.put, List.setIfInBounds_toArray, List.set_cons_zero, List.set_cons_succ]
      refine rd1 33 (o := ⟨_, _, _, _, _, _⟩) rfl (fun K' hK => ?_)
      go_simp
      go_at_call 13
      refine (HAB.out _ _ H5.out.n0).mono ?_
      rintro en w6 ⟨rfl, rfl⟩
      refine hK.out _ _ ⟨H5.out, R5.out⟩ (fun hHeld => ?_)
      clear hK K'
      try simp only [Act.put, List.setIfInBounds_toArray, List.set_cons_zero, List.set_cons_succ]
      refine tk 34 (oi := ⟨_, _, _, _, _, _⟩) rfl (fun w' hSw => by ((try dsimp only at hSw); go_simp <;> with_reducible rfl)) ?_
      try simp only [Act.put, List.setIfInBounds_toArray, List.set_cons_zero, List.set_cons_succ]
      refine tk 35 (oi := ⟨_, _, _, _, _, _⟩) rfl (fun w' hSw => by ((try dsimp only at hSw); go_simp <;> with_reducible rfl)) ?_
      try simp only [Act.put, List.setIfInBounds_toArray, List.set_cons_zero, List.set_cons_succ]
      refine wpAnyH_done (by kernel_rfl) ?_ _
      go_wp2_with fail
      exact ⟨⟨1, by go_num, by omega, H5⟩, by simp [intOf]⟩
    · as_aux_lemma =>
      have k0 := H.out.rl.cell (j := 1) rfl
      have kl := H.out.rl.lt
      go_wp2_with fail
      refine (HSY.out _ _ H.out.n1).mono ?_
      rintro e w1 ⟨rfl, hb1⟩
      have H1 := Lib.hid (H.out.on hb1)
      clear hb1 k0 kl H
      go_wp2_with fail
      have RY := Lib.hid (Row.new w1 42 nilV)
      have H2 := Lib.hid (H1.out.on (below_a w1 (.cells nilV.toArray 42)))
      refine wp_region_held_drew (S := fun W => NB w W xs ∧ Row W w1.heap.size 42 nilV) (by kernel_rfl) (by exact ⟨H2.out.drew, RY.out⟩) (fun hHeld => ?_)
      refine tk 0 (oi := ⟨_, _, _, _, _, _⟩) rfl (fun w' hSw => by ((try dsimp only at hSw); go_simp <;> with_reducible rfl)) ?_
      try simp only [Act.put, List.setIfInBounds_toArray, List.set_cons_zero, List.set_cons_succ]
      refine tk 1 (oi := ⟨_, _, _, _, _, _⟩) rfl (fun w' hSw => by ((try dsimp only at hSw); go_simp <;> with_reducible rfl)) ?_
      try simp only [Act.put, List.setIfInBounds_toArray, List.set_cons_zero, List.set_cons_succ]
      refine tk 2 (oi := ⟨_, _, _, _, _, _⟩) rfl (fun w' hSw => by ((try dsimp only at hSw); go_simp <;> with_reducible rfl)) ?_
      try simp only [Act.put, List.setIfInBounds_toArray, List.set_cons_zero, List.set_cons_succ]
      refine tk 3 (oi := ⟨_, _, _, _, _, _⟩) rfl (fun w' hSw => by (refine yields_msg hSw.2 rfl (.tmp 8) ?_ ?_) <;> rfl) ?_
      try simp only [Act.put, List.setIfInBounds_toArray, List.set_cons_zero, List.set_cons_succ]
      refine tk 4 (oi := ⟨_, _, _, _, _, _⟩) rfl (fun w' hSw => by ((try dsimp only at hSw); go_simp <;> with_reducible rfl)) ?_
      try simp only [Act.put, List.setIfInBounds_toArray, List.set_cons_zero, List.set_cons_succ]
      refine rd1 5 (o := ⟨_, _, _, _, _, _⟩) rfl (fun K' hK => ?_)
      go_simp
      go_at_call 20
      refine (HSM.out _).mono ?_
      rintro en w3 ⟨rfl, hb3⟩
      have H3 := Lib.hid (show NB w w3 xs from H2.out.drew.on hb3)
      have R3 := Lib.hid (show Row w3 w1.heap.size 42 nilV from RY.out.keep (hb3.block _ RY.out.lt))
      refine hK.out _ _ ⟨H3.out, R3.out⟩ (fun hHeld => ?_)
      clear hK K' hb3
      try simp only [Act.put, List.setIfInBounds_toArray, List.set_cons_zero, List.set_cons_succ]
      refine tk 6 (oi := ⟨_, _, _, _, _, _⟩) rfl (fun w' hSw => by ((try dsimp only at hSw); go_simp <;> with_reducible rfl)) ?_
      try simp only [Act.put, List.setIfInBounds_toArray, List.set_cons_zero, List.set_cons_succ]
      refine tk 7 (oi := ⟨_, _, _, _, _, _⟩) rfl (fun w' hSw => by ((try dsimp only at hSw); go_simp <;> with_reducible rfl)) ?_
      try simp only [Act.put, List.setIfInBounds_toArray, List.set_cons_zero, List.set_cons_succ]
      refine tk 8 (oi := ⟨_, _, _, _, _, _⟩) rfl (fun w' hSw => by ((try dsimp only at hSw); go_simp <;> with_reducible rfl)) ?_
      try simp only [Act.put, List.setIfInBounds_toArray, List.set_cons_zero, List.set_cons_succ]
      refine tk 9 (oi := ⟨_, _, _, _, _, _⟩) rfl (fun w' hSw => by ((try dsimp only at hSw); go_simp <;> with_reducible rfl)) ?_
      try simp only [Act.put, List.setIfInBounds_toArray, List.set_cons_zero, List.set_cons_succ]
      refine tk 10 (oi := ⟨_, _, _, _, _, _⟩) rfl (fun w' hSw => by ((try dsimp only at hSw); go_simp <;> with_reducible rfl)) ?_
      try simp only [Act.put, List.setIfInBounds_toArray, List.set_cons_zero, List.set_cons_succ]
      refine tk 11 (oi := ⟨_, _, _, _, _, _⟩) rfl (fun w' hSw => by ((try dsimp only at hSw); go_simp <;> with_reducible rfl)) ?_
      try simp only [Act.put, List.setIfInBounds_toArray, List.set_cons_zero, List.set_cons_succ]
      refine tk 12 (oi := ⟨_, _, _, _, _, _⟩) rfl (fun w' hSw => by ((try dsimp only at hSw); go_simp <;> with_reducible rfl)) ?_
      try simp only [Act.put, List.setIfInBounds_toArray, List.set_cons_zero, List.set_cons_succ]
      refine tk 13 (oi := ⟨_, _, _, _, _, _⟩) rfl (fun w' hSw => by ((try dsimp only at hSw); go_simp <;> with_reducible rfl)) ?_
      try simp only [Act.put, List.setIfInBounds_toArray, List.set_cons_zero, List.set_cons_succ]
      refine tk 14 (oi := ⟨_, _, _, _, _, _⟩) rfl (fun w' hSw => by (have k0 := hSw.1.rl.cell (j := 1) rfl; have kl := hSw.1.rl.lt; go_simp <;> with_reducible rfl)) ?_
      try simp only [Act.put, List.setIfInBounds_toArray, List.set_cons_zero, List.set_cons_succ]
      refine tk 15 (oi := ⟨_, _, _, _, _, _⟩) rfl (fun w' hSw => by (have k0 := hSw.1.rl.cell (j := 1) rfl; have kl := hSw.1.rl.lt; go_simp <;> with_reducible rfl)) ?_
      try simp only [Act.put, List.setIfInBounds_toArray, List.set_cons_zero, List.set_cons_succ]
      refine rd1 16 (o := ⟨_, _, _, _, _, _⟩) rfl (fun K' hK => ?_)
      go_simp
      go_at_call 18
      refine (HPH.out _ _ H3.out.n1).mono ?_
      rintro en w4 ⟨rfl, rfl⟩
      refine hK.out _ _ ⟨H3.out, R3.out⟩ (fun hHeld => ?_)
      clear hK K'
      try simp only [Act.put, List.setIfInBounds_toArray, List.set_cons_zero, List.set_cons_succ]
      refine tk 17 (oi := ⟨_, _, _, _, _, _⟩) rfl (fun w' hSw => by ((try dsimp only at hSw); go_simp <;> with_reducible rfl)) ?_
      try simp only [Act.put, List.setIfInBounds_toArray, List.set_cons_zero, List.set_cons_succ]
      refine tk 18 (oi := ⟨_, _, _, _, _, _⟩) rfl (fun w' hSw => by ((try dsimp only at hSw); go_simp <;> with_reducible rfl)) ?_
      try simp only [Act.put, List.setIfInBounds_toArray, List.set_cons_zero, List.set_cons_succ]
      refine tk 19 (oi := ⟨_, _, _, _, _, _⟩) rfl (fun w' hSw => by ((try dsimp only at hSw); go_simp <;> with_reducible rfl)) ?_
      try simp only [Act.put, List.setIfInBounds_toArray, List.set_cons_zero, List.set_cons_succ]
      refine tk 20 (oi := ⟨_, _, _, _, _, _⟩) rfl (fun w' hSw => by ((try dsimp only at hSw); go_simp <;> with_reducible rfl)) ?_
      try simp only [Act.put, List.setIfInBounds_toArray, List.set_cons_zero, List.set_cons_succ]
      refine tk 21 (oi := ⟨_, _, _, _, _, _⟩) rfl (fun w' hSw => by ((try dsimp only at hSw); go_simp <;> with_reducible rfl)) ?_
      try simp only [Act.put, List.setIfInBounds_toArray, List.set_cons_zero, List.set_cons_succ]
      refine tk 22 (oi := ⟨_, _, _, _, _, _⟩) rfl (fun w' hSw => by (have k0 := hSw.1.rl.cell (j := 1) rfl; have kl := hSw.1.rl.lt; go_simp <;> with_reducible rfl)) ?_
      try simp only [Act.put, List.setIfInBounds_toArray, List.set_cons_zero, List.set_cons_succ]
      refine tk 23 (oi := ⟨_, _, _, _, _, _⟩) rfl (fun w' hSw => by (have k0 := hSw.1.rl.cell (j := 1) rfl; have kl := hSw.1.rl.lt; go_simp <;> with_reducible rfl)) ?_
      try simp only [Act.put, List.setIfInBounds_toArray, List.set_cons_zero, List.set_cons_succ]
      refine tk 24 (oi := ⟨_, _, _, _, _, _⟩) rfl (fun w' hSw => by ((try dsimp only at hSw); go_simp <;> with_reducible rfl)) ?_
      try simp only [Act.put, List.setIfInBounds_toArray, List.set_cons_zero, List.set_cons_succ]
      refine tk 25 (oi := ⟨_, _, _, _, _, _⟩) rfl (fun w' hSw => by (refine yields_msg hSw.1.rx HLN.out (.tmp 3) ?_ ?_) <;> rfl) ?_
      try simp only [Act.put, List.setIfInBounds_toArray, List.set_cons_zero, List.set_cons_succ]
      refine rd1 26 (o := ⟨_, _, _, _, _, _⟩) rfl (fun K' hK => ?_)
      go_simp
      go_at_call 15
      refine (HHE.out _ _ H3.out.n1).mono ?_
      rintro en w5 ⟨rfl, hb5⟩
      have H5 := Lib.hid (H3.out.on hb5)
      have R5 := Lib.hid (R3.out.keep (hb5.block _ R3.out.lt))
      refine hK.out _ _ ⟨H5.out, R5.out⟩ (fun hHeld => ?_)
      clear hK K' hb5
      try simp only [Act.put, List.setIfInBounds_toArray, List.set_cons_zero, List.set_cons_succ]
      refine tk 27 (oi := ⟨_, _, _, _, _, _⟩) rfl (fun w' hSw => by ((try dsimp only at hSw); go_simp <;> with_reducible rfl)) ?_
      try simp only [Act.put, List.setIfInBounds_toArray, List.set_cons_zero, List.set_cons_succ]
      refine tk 28 (oi := ⟨_, _, _, _, _, _⟩) rfl (fun w' hSw => by ((try dsimp only at hSw); go_simp <;> with_reducible rfl)) ?_
      try simp only [Act.put, List.setIfInBounds_toArray, List.set_cons_zero, List.set_cons_succ]
      refine tk 29 (oi := ⟨_, _, _, _, _, _⟩) rfl (fun w' hSw => by ((try dsimp only at hSw); go_simp <;> with_reducible rfl)) ?_
      try simp only [Act.put, List.setIfInBounds_toArray, List.set_cons_zero, List.set_cons_succ]
      refine tk 30 (oi := ⟨_, _, _, _, _, _⟩) rfl (fun w' hSw => by ((try dsimp only at hSw); go_simp <;> with_reducible rfl)) ?_
      try simp only [Act.put, List.setIfInBounds_toArray, List.set_cons_zero, List.set_cons_succ]
      refine tk 31 (oi := ⟨_, _, _, _, _, _⟩) rfl (fun w' hSw => by (have k0 := hSw.1.rl.cell (j := 1) rfl; have kl := hSw.1.rl.lt; go_simp <;> with_reducible rfl)) ?_
      try simp only [Act.put, List.setIfInBounds_toArray, List.set_cons_zero, List.set_cons_succ]
      refine tk 32 (oi := ⟨_, _, _, _, _, _⟩) rfl (fun w' hSw => by (have k0 := hSw.1.rl.cell (j := 1) rfl; have kl := hSw.1.rl.lt; go_simp <;> with_reducible rfl)) ?_
      try simp only [Act.put, List.setIfInBounds_toArray, List.set_cons_zero, List.set_cons_succ]
      refine rd1 33 (o := ⟨_, _, _, _, _, _⟩) rfl (fun K' hK => ?_)
      go_simp
      go_at_call 13
      refine (HAB.out _ _ H5.out.n1).mono ?_
      rintro en w6 ⟨rfl, rfl⟩
      refine hK.out _ _ ⟨H5.out, R5.out⟩ (fun hHeld => ?_)
      clear hK K'
      try simp only [Act.put, List.setIfInBounds_toArray, List.set_cons_zero, List.set_cons_succ]
      refine tk 34 (oi := ⟨_, _, _, _, _, _⟩) rfl (fun w' hSw => by ((try dsimp only at hSw); go_simp <;> with_reducible rfl)) ?_
      try simp only [Act.put, List.setIfInBounds_toArray, List.set_cons_zero, List.set_cons_succ]
      refine tk 35 (oi := ⟨_, _, _, _, _, _⟩) rfl (fun w' hSw => by ((try dsimp only at hSw); go_simp <;> with_reducible rfl)) ?_
      try simp only [Act.put, List.setIfInBounds_toArray, List.set_cons_zero, List.set_cons_succ]
      refine wpAnyH_done (by kernel_rfl) ?_ _
      go_wp2_with fail
      exact ⟨⟨2, by go_num, by omega, H5⟩, by simp [intOf]⟩
    · as_aux_lemma =>
      go_wp2_with fail
      refine (HAW.out _).mono ?_
      rintro e w1 ⟨rfl, hb1⟩
      have hfin := H.out.bel.trans (hb1.mono H.out.bel.size)
      go_wp2
      go_ret
      exact ⟨rfl, hfin⟩
end Go.Proofs.Ytbjjgjifaomdlaa.Mv
