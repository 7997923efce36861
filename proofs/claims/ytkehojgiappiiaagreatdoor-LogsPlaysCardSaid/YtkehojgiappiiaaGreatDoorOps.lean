/- What Put, Get and Sync of package block do to a disk in memory, and what each loose write does when it is called. Conditions: those named in each. -/
import Derived.Test.YtkehojgiappiiaaGreatDoorDsk
import Derived.Test.YtkehojgiappiiaaGreatDoorShelf
import Derived.Deep.RegionHeld3
set_option linter.unusedVariables false
set_option linter.unusedSimpArgs false
namespace Go.Proofs.YtkehojgiappiiaaGreatDoor
open Go Go.RowKit
section
variable {w w' : World} {F : Nat → Prop} {d bn bs N : Nat} {v : Value} {nw su : List ByteArray} {L : List (Nat × Nat × ByteArray)}
theorem cell_set_ne {w : World} {b o b' o' : Nat} {u : Value} (h : b ≠ b') : (w.setCell ⟨b', o', none⟩ u).cell? ⟨b, o, none⟩ = w.cell? ⟨b, o, none⟩ := World.cell?_of_block (heap_set_ne w _ _ h)
theorem again_keep (h : DkW w F d bn bs N v nw su L) (p : Nat × Nat × ByteArray) (hp : p ∈ L) : Calls Tryz.prog 61 #[.func (.func 35) #[.pointer (some ⟨d, 0, none⟩)] #[], .pointer (some ⟨p.1, 0, none⟩), .pointer (some ⟨p.1 + 1, 0, none⟩)] w fun e w' => e = .returned (.tuple #[]) ∧ w' = w.setCell ⟨bs, p.2.1, none⟩ (.string p.2.2) := by
  have hb := h.boxes p hp
  obtain ⟨c, k, s⟩ := p
  have h1 := hb.1.cell
  have h2 := hb.2.1.cell
  have hl1 := hb.1.lt
  have hl2 := hb.2.1.lt
  have hk := keep_any h k hb.2.2.1 s
  simp only at h1 h2 hl1 hl2 ⊢
  clear h hb
  go_enter Tryz.func61, Tryz.ntmps61
  go_wp2_with fail
  go_at_call 35
  refine hk.mono ?_
  rintro e w1 ⟨rfl, rfl⟩
  go_wp2_with fail
  go_end0
  exact ⟨rfl, rfl⟩
theorem again_forget (h : DkW w F d bn bs N v nw su L) (p : Nat × Nat × ByteArray) (hp : p ∈ L) : Calls Tryz.prog 61 #[.func (.func 38) #[.pointer (some ⟨d, 0, none⟩)] #[], .pointer (some ⟨p.1, 0, none⟩), .pointer (some ⟨p.1 + 1, 0, none⟩)] w fun e w' => e = .returned (.tuple #[]) ∧ ∃ q, w' = (w.setCell ⟨bn, p.2.1, none⟩ (.string (su.getD p.2.1 ⟨#[]⟩))).drewN q := by
  have hb := h.boxes p hp
  obtain ⟨c, k, s⟩ := p
  have h1 := hb.1.cell
  have h2 := hb.2.1.cell
  have hl1 := hb.1.lt
  have hl2 := hb.2.1.lt
  have hk := forget_any h k hb.2.2.1 s
  simp only at h1 h2 hl1 hl2 ⊢
  generalize su.getD k ⟨#[]⟩ = t at *
  clear h hb
  go_enter Tryz.func61, Tryz.ntmps61
  go_wp2_with fail
  go_at_call 38
  refine hk.mono ?_
  rintro e w1 ⟨rfl, q, rfl⟩
  go_wp2_with fail
  go_end0
  exact ⟨rfl, _, rfl⟩
theorem tears_any (h : DkW w F d bn bs N v nw su L) (b1 b2 : Nat) (hb1 : Box w b1 26 (.pointer (some ⟨d, 0, none⟩))) (torn : Int) (ht1 : -9223372036854775808 ≤ torn) (ht2 : torn ≤ 9223372036854775807) (hb2 : Box w b2 3 (.int .i64 torn))
    (k : Nat) (hk : k < N) (s : ByteArray) (hs : s.size ≤ 1000000) (hsu : (su.getD k ⟨#[]⟩).size ≤ 1000000) (hn1 : b1 ≠ bs) (hn2 : b2 ≠ bs) :
    Calls Tryz.prog 36 #[.int .i64 (k : Int), .string s, .pointer (some ⟨b1, 0, none⟩), .pointer (some ⟨b2, 0, none⟩)] w fun e w' => e = .returned (.tuple #[]) ∧ ∃ q, w' = (w.drewN q).setCell ⟨bs, k, none⟩ (.string (tearB s (su.getD k ⟨#[]⟩) (shr torn s.size))) := by
  have h1 := hb1.cell
  have h2 := hb2.cell
  have hl1 := hb1.lt
  have hl2 := hb2.lt
  have hc := h.c2
  have hl := h.lt d h.fd
  have hl3 := h.lt bs h.fs
  have hu := h.sure.cell (strs_get (l := su) (j := k) (by rw [h.ls]; exact hk))
  have hsh := share_any torn s.size ht1 ht2 hs
  have hte := fun W => tear_any s (su.getD k ⟨#[]⟩) (shr torn s.size) (shr_le _ _) hs hsu W
  have hn3 := h.e2
  have hkz : (k : Int) < (N : Int) := by omega
  generalize su.getD k ⟨#[]⟩ = t at *
  generalize shr torn s.size = g at *
  have HT := Lib.hid hte
  have HS := Lib.hid hsh
  have hke : ∀ q, Calls Tryz.prog 35 #[.pointer (some ⟨d, 0, none⟩), .int .i64 (k : Int), .string (tearB s t g)] (w.drewN q) fun e w' => e = .returned (.tuple #[]) ∧ w' = (w.drewN q).setCell ⟨bs, k, none⟩ (.string (tearB s t g)) := fun q => keep_any (h.drewN q) k hk _
  have HK := Lib.hid hke
  clear hte hsh hb1 hb2 h hke
  go_enter Tryz.func36, Tryz.ntmps36
  refine wp_region_held_drew (S := (fun W => W.cell? ⟨b1, 0, none⟩ = some (.pointer (some ⟨d, 0, none⟩)) ∧ W.cell? ⟨b2, 0, none⟩ = some (.int .i64 torn) ∧ W.cell? ⟨d, 2, none⟩ = some (.slice (some ⟨bs, 0, none⟩) N N))) (by kernel_rfl) ?_ (fun hHeld => ?_)
  · exact ⟨h1, h2, hc⟩
  refine wpAnyH_take (i := 0) (oi := ⟨_, _, _, _, _, _⟩) (v := ?_) rfl (by kernel_rfl) (by kernel_rfl) (by kernel_rfl) (fun _ _ _ h => h) (Or.inl ⟨by rfl, ?_⟩) (by assumption) ?_
  rotate_left
  · intro w hSw; (try dsimp only at hSw); go_simp <;> with_reducible rfl
  try simp only [Act.put, List.setIfInBounds_toArray, List.set_cons_zero, List.set_cons_succ]
  refine wpAnyH_take (i := 1) (oi := ⟨_, _, _, _, _, _⟩) (v := ?_) rfl (by kernel_rfl) (by kernel_rfl) (by kernel_rfl) (fun _ _ _ h => h) (Or.inl ⟨by rfl, ?_⟩) (by assumption) ?_
  rotate_left
  · intro w hSw; (try dsimp only at hSw); go_simp <;> with_reducible rfl
  try simp only [Act.put, List.setIfInBounds_toArray, List.set_cons_zero, List.set_cons_succ]
  refine wpAnyH_take (i := 2) (oi := ⟨_, _, _, _, _, _⟩) (v := ?_) rfl (by kernel_rfl) (by kernel_rfl) (by kernel_rfl) (fun _ _ _ h => h) (Or.inl ⟨by rfl, ?_⟩) (by assumption) ?_
  rotate_left
  · intro w hSw; (try dsimp only at hSw); go_simp <;> with_reducible rfl
  try simp only [Act.put, List.setIfInBounds_toArray, List.set_cons_zero, List.set_cons_succ]
  refine wpAnyH_take (i := 3) (oi := ⟨_, _, _, _, _, _⟩) (v := ?_) rfl (by kernel_rfl) (by kernel_rfl) (by kernel_rfl) (fun _ _ _ h => h) (Or.inl ⟨by rfl, ?_⟩) (by assumption) ?_
  rotate_left
  · intro w hSw; (try dsimp only at hSw); go_simp <;> with_reducible rfl
  try simp only [Act.put, List.setIfInBounds_toArray, List.set_cons_zero, List.set_cons_succ]
  refine wpAnyH_take (i := 4) (oi := ⟨_, _, _, _, _, _⟩) (v := ?_) rfl (by kernel_rfl) (by kernel_rfl) (by kernel_rfl) (fun _ _ _ h => h) (Or.inl ⟨by rfl, ?_⟩) (by assumption) ?_
  rotate_left
  · intro w hSw; (try dsimp only at hSw); go_simp <;> with_reducible rfl
  try simp only [Act.put, List.setIfInBounds_toArray, List.set_cons_zero, List.set_cons_succ]
  refine wpAnyH_take (i := 5) (oi := ⟨_, _, _, _, _, _⟩) (v := ?_) rfl (by kernel_rfl) (by kernel_rfl) (by kernel_rfl) (fun _ _ _ h => h) (Or.inl ⟨by rfl, ?_⟩) (by assumption) ?_
  rotate_left
  · intro w hSw; (try dsimp only at hSw); go_simp <;> with_reducible rfl
  try simp only [Act.put, List.setIfInBounds_toArray, List.set_cons_zero, List.set_cons_succ]
  refine wpAnyH_take (i := 6) (oi := ⟨_, _, _, _, _, _⟩) (v := ?_) rfl (by kernel_rfl) (by kernel_rfl) (by kernel_rfl) (fun _ _ _ h => h) (Or.inl ⟨by rfl, ?_⟩) (by assumption) ?_
  rotate_left
  · intro w hSw; (try dsimp only at hSw); go_simp <;> with_reducible rfl
  try simp only [Act.put, List.setIfInBounds_toArray, List.set_cons_zero, List.set_cons_succ]
  refine wpAnyH_take (i := 7) (oi := ⟨_, _, _, _, _, _⟩) (v := ?_) rfl (by kernel_rfl) (by kernel_rfl) (by kernel_rfl) (fun _ _ _ h => h) (Or.inl ⟨by rfl, ?_⟩) (by assumption) ?_
  rotate_left
  · intro w hSw; (try dsimp only at hSw); go_simp <;> with_reducible rfl
  try simp only [Act.put, List.setIfInBounds_toArray, List.set_cons_zero, List.set_cons_succ]
  refine wpAnyH_take (i := 8) (oi := ⟨_, _, _, _, _, _⟩) (v := ?_) rfl (by kernel_rfl) (by kernel_rfl) (by kernel_rfl) (fun _ _ _ h => h) (Or.inl ⟨by rfl, ?_⟩) (by assumption) ?_
  rotate_left
  · intro w hSw; (try dsimp only at hSw); go_simp <;> with_reducible rfl
  try simp only [Act.put, List.setIfInBounds_toArray, List.set_cons_zero, List.set_cons_succ]
  refine wpAnyH_take (i := 10) (oi := ⟨_, _, _, _, _, _⟩) (v := ?_) rfl (by kernel_rfl) (by kernel_rfl) (by kernel_rfl) (fun _ _ _ h => h) (Or.inl ⟨by rfl, ?_⟩) (by assumption) ?_
  rotate_left
  · intro w hSw; (try dsimp only at hSw); go_simp <;> with_reducible rfl
  try simp only [Act.put, List.setIfInBounds_toArray, List.set_cons_zero, List.set_cons_succ]
  refine wpAnyH_take (i := 11) (oi := ⟨_, _, _, _, _, _⟩) (v := ?_) rfl (by kernel_rfl) (by kernel_rfl) (by kernel_rfl) (fun _ _ _ h => h) (Or.inl ⟨by rfl, ?_⟩) (by assumption) ?_
  rotate_left
  · intro w hSw; (try dsimp only at hSw); go_simp <;> with_reducible rfl
  try simp only [Act.put, List.setIfInBounds_toArray, List.set_cons_zero, List.set_cons_succ]
  refine wpAnyH_take (i := 12) (oi := ⟨_, _, _, _, _, _⟩) (v := ?_) rfl (by kernel_rfl) (by kernel_rfl) (by kernel_rfl) (fun _ _ _ h => h) (Or.inl ⟨by rfl, ?_⟩) (by assumption) ?_
  rotate_left
  · intro w hSw; (try dsimp only at hSw); go_simp <;> with_reducible rfl
  try simp only [Act.put, List.setIfInBounds_toArray, List.set_cons_zero, List.set_cons_succ]
  refine wpAnyH_ready (rs := [9, 13]) (by kernel_rfl) (by simp) ?_
  refine AllReadyH.cons (o := ⟨_, _, _, _, _, _⟩) rfl (fun K hK => ?_) ?_
  · go_simp
    refine hK.out _ _ ?_ (fun hHeld => ?_)
    · first | exact ⟨h1, h2, hc⟩ | exact ⟨(cell_set_ne hn1).trans h1, (cell_set_ne hn2).trans h2, (cell_set_ne hn3).trans hc⟩
    clear hK K
    try simp only [Act.put, List.setIfInBounds_toArray, List.set_cons_zero, List.set_cons_succ]
    refine wpAnyH_ready (rs := [13]) (by kernel_rfl) (by simp) ?_
    refine AllReadyH.cons (o := ⟨_, _, _, _, _, _⟩) rfl (fun K hK => ?_) ?_
    · go_simp
      go_at_call 34; refine (HS.out _).mono ?_; rintro e w3 ⟨rfl, rfl⟩
      refine hK.out _ _ ?_ (fun hHeld => ?_)
      · first | exact ⟨h1, h2, hc⟩ | exact ⟨(cell_set_ne hn1).trans h1, (cell_set_ne hn2).trans h2, (cell_set_ne hn3).trans hc⟩
      clear hK K
      try simp only [Act.put, List.setIfInBounds_toArray, List.set_cons_zero, List.set_cons_succ]
      refine wpAnyH_ready (rs := [14]) (by kernel_rfl) (by simp) ?_
      refine AllReadyH.cons (o := ⟨_, _, _, _, _, _⟩) rfl (fun K hK => ?_) ?_
      · go_simp
        go_at_call 37; refine (HT.out _).mono ?_; rintro e w3 ⟨rfl, q3, rfl⟩
        refine hK.out _ _ ?_ (fun hHeld => ?_)
        · first | exact ⟨h1, h2, hc⟩ | exact ⟨(cell_set_ne hn1).trans h1, (cell_set_ne hn2).trans h2, (cell_set_ne hn3).trans hc⟩
        clear hK K
        try simp only [Act.put, List.setIfInBounds_toArray, List.set_cons_zero, List.set_cons_succ]
        refine wpAnyH_ready (rs := [15]) (by kernel_rfl) (by simp) ?_
        refine AllReadyH.cons (o := ⟨_, _, _, _, _, _⟩) rfl (fun K hK => ?_) ?_
        · go_simp
          go_at_call 35; refine (HK.out _).mono ?_; rintro e w3 ⟨rfl, rfl⟩
          refine hK.out _ _ ?_ (fun hHeld => ?_)
          · first | exact ⟨h1, h2, hc⟩ | exact ⟨(cell_set_ne hn1).trans h1, (cell_set_ne hn2).trans h2, (cell_set_ne hn3).trans hc⟩
          clear hK K
          try simp only [Act.put, List.setIfInBounds_toArray, List.set_cons_zero, List.set_cons_succ]
          refine wpAnyH_done (by kernel_rfl) ?_ _
          go_end0
          exact ⟨rfl, _, rfl⟩
        exact AllReadyH.nil
      exact AllReadyH.nil
    exact AllReadyH.nil
  refine AllReadyH.cons (o := ⟨_, _, _, _, _, _⟩) rfl (fun K hK => ?_) ?_
  · go_simp
    go_at_call 34; refine (HS.out _).mono ?_; rintro e w3 ⟨rfl, rfl⟩
    refine hK.out _ _ ?_ (fun hHeld => ?_)
    · first | exact ⟨h1, h2, hc⟩ | exact ⟨(cell_set_ne hn1).trans h1, (cell_set_ne hn2).trans h2, (cell_set_ne hn3).trans hc⟩
    clear hK K
    try simp only [Act.put, List.setIfInBounds_toArray, List.set_cons_zero, List.set_cons_succ]
    refine wpAnyH_ready (rs := [9]) (by kernel_rfl) (by simp) ?_
    refine AllReadyH.cons (o := ⟨_, _, _, _, _, _⟩) rfl (fun K hK => ?_) ?_
    · go_simp
      refine hK.out _ _ ?_ (fun hHeld => ?_)
      · first | exact ⟨h1, h2, hc⟩ | exact ⟨(cell_set_ne hn1).trans h1, (cell_set_ne hn2).trans h2, (cell_set_ne hn3).trans hc⟩
      clear hK K
      try simp only [Act.put, List.setIfInBounds_toArray, List.set_cons_zero, List.set_cons_succ]
      refine wpAnyH_ready (rs := [14]) (by kernel_rfl) (by simp) ?_
      refine AllReadyH.cons (o := ⟨_, _, _, _, _, _⟩) rfl (fun K hK => ?_) ?_
      · go_simp
        go_at_call 37; refine (HT.out _).mono ?_; rintro e w3 ⟨rfl, q3, rfl⟩
        refine hK.out _ _ ?_ (fun hHeld => ?_)
        · first | exact ⟨h1, h2, hc⟩ | exact ⟨(cell_set_ne hn1).trans h1, (cell_set_ne hn2).trans h2, (cell_set_ne hn3).trans hc⟩
        clear hK K
        try simp only [Act.put, List.setIfInBounds_toArray, List.set_cons_zero, List.set_cons_succ]
        refine wpAnyH_ready (rs := [15]) (by kernel_rfl) (by simp) ?_
        refine AllReadyH.cons (o := ⟨_, _, _, _, _, _⟩) rfl (fun K hK => ?_) ?_
        · go_simp
          go_at_call 35; refine (HK.out _).mono ?_; rintro e w3 ⟨rfl, rfl⟩
          refine hK.out _ _ ?_ (fun hHeld => ?_)
          · first | exact ⟨h1, h2, hc⟩ | exact ⟨(cell_set_ne hn1).trans h1, (cell_set_ne hn2).trans h2, (cell_set_ne hn3).trans hc⟩
          clear hK K
          try simp only [Act.put, List.setIfInBounds_toArray, List.set_cons_zero, List.set_cons_succ]
          refine wpAnyH_done (by kernel_rfl) ?_ _
          go_end0
          exact ⟨rfl, _, rfl⟩
        exact AllReadyH.nil
      exact AllReadyH.nil
    exact AllReadyH.nil
  exact AllReadyH.nil
end
end Go.Proofs.YtkehojgiappiiaaGreatDoor
