/- What kinds and deep of the document's answers return. Conditions: the value reads as a tree of the three kinds. -/
import Derived.Test.YtmepahlmbopacaaDoorBPutA
import Derived.Test.YtmepahlmbopacaaDoorBRefI
set_option linter.unusedVariables false
set_option linter.unusedSimpArgs false
set_option maxRecDepth 100000
namespace Go.Proofs.YtmepahlmbopacaaDoor.Be
open Go Go.RowKit
set_option maxHeartbeats 8000000 in
theorem rkinds_of (N : Nat) : ∀ (t : T) (v : Value) (ok : Nat → Prop) (w : World), SizeOf.sizeOf t < N → RdA ok w t v → kindsOk t = true → Calls Tryd.prog 46 #[v] w (Gives (.bool true) w) := by
  induction N with
  | zero => intro t v ok w h; omega
  | succ N ih =>
    intro t v ok w hN ht hk
    obtain ⟨A, c, xs, rfl, h2, h3, h4, h5, h6⟩ := ht
    obtain ⟨k, n, s, l⟩ := t
    simp only [T.k, T.n, T.s, T.l] at *
    unfold maxLen at h2 h4
    rcases kinds_cases hk with rfl | rfl | ⟨rfl, hkl⟩
    · clear hk ih h5 h6
      go_enter Tryd.func46, Tryd.ntmps46
      go_wp2_with fail
      refine wp_loop_rounds 1 ?_
      rw [rounds_succ]
      go_wp2_with fail
      go_ret
      exact ⟨rfl, (Below.refl _ _).alloc (Nat.le_refl _) _⟩
    · clear hk ih h5 h6
      go_enter Tryd.func46, Tryd.ntmps46
      go_wp2_with fail
      refine wp_loop_rounds 1 ?_
      rw [rounds_succ]
      go_wp2_with fail
      go_ret
      exact ⟨rfl, (Below.refl _ _).alloc (Nat.le_refl _) _⟩
    · clear hk
      generalize hll : l.length = len at *
      have HLEN := Lib.hid hll
      clear hll
      obtain ⟨hblk, hb0, hsz⟩ := box_start w (.int .i64 3) (.int .i64 n) (.string s) (.slice A len c)
      go_enter Tryd.func46, Tryd.ntmps46
      go_wp2_with fail
      generalize w.alloc (.cells #[.int .i64 3, .int .i64 n, .string s, .slice A len c] 60) = w0 at hblk hb0 hsz
      have HB := Lib.hid hblk
      have HS := Lib.hid hsz
      clear hblk hsz
      go_loopw [3] (fun i wr => ∃ (k : Nat), i = .int .i64 (k : Int) ∧ k ≤ len ∧ Below w0.heap.size w0 wr) (fun i _ => len - (intOf i).toNat)
      case atStart => exact ⟨0, rfl, Nat.zero_le _, Below.refl _ _⟩
      case round =>
        obtain ⟨k, rfl, hk, hbw⟩ := hrel
        have hbw' : Below w.heap.size w wr := hb0.trans (hbw.mono (by have := HS.out; omega))
        obtain ⟨e0, e1, e2, e3, ef⟩ := val_block ((hbw.block w.heap.size (by have := HS.out; omega)).trans HB.out)
        by_cases hlt : k < len
        · have hltz : (k : Int) < (len : Int) := by omega
          have hk1 : k < l.length := by have := HLEN.out; omega
          obtain ⟨b, o, B', d', rfl, hok, hblt, hfr, hRA, g0, g1, g2, g3⟩ := elem_at (HLEN.out ▸ h5) h6 hk1
          have hRA2 := hRA.keep (Keeps.of_below hbw' (fun b _ h => h))
          rw [← hbw'.cell (p := ⟨b, o + k * 4, none⟩) hblt] at g0
          rw [← hbw'.cell (p := ⟨b, o + k * 4 + 1, none⟩) hblt] at g1
          rw [← hbw'.cell (p := ⟨b, o + k * 4 + 2, none⟩) hblt] at g2
          rw [← hbw'.cell (p := ⟨b, o + k * 4 + 3, none⟩) hblt] at g3
          have hszk : SizeOf.sizeOf l[k] < N := by have := sz_mem (k := 3) (n := n) (s := s) (List.getElem_mem hk1); omega
          have hkk := kindsOkL_get hkl hk1
          generalize l[k] = x at *
          have HK := Lib.hid hkk
          clear hkk
          go_wp2_with fail
          refine (ih x _ _ _ hszk hRA2 HK.out).mono ?_
          rintro e w1 ⟨rfl, hb1⟩
          go_wp2_with fail
          go_roundw
          case rel => exact ⟨k + 1, by go_num, by omega, hbw.trans (hb1.mono hbw.size)⟩
          case measure => simp [intOf]; omega
        · have hltz : ¬ (k : Int) < (len : Int) := by omega
          go_wp2_with fail
          go_ret
          exact ⟨rfl, hbw'⟩
theorem rkinds_any (t : T) (v : Value) (ok : Nat → Prop) (w : World) (ht : RdA ok w t v) (hk : kindsOk t = true) : Calls Tryd.prog 46 #[v] w (Gives (.bool true) w) := rkinds_of (SizeOf.sizeOf t + 1) t v ok w (by omega) ht hk
theorem deepL_take (l : List T) {k : Nat} (hk : k < l.length) : deepL (l.take (k + 1)) = max (deepL (l.take k)) (deepT l[k]) := by
  have app : ∀ a b : List T, deepL (a ++ b) = max (deepL a) (deepL b) := fun a b => by
    induction a with
    | nil => simp [deepL]
    | cons x r ih => simp only [List.cons_append, deepL, ih]; omega
  rw [List.take_succ_eq_append_getElem hk, app]
  simp [deepL]
set_option maxHeartbeats 8000000 in
theorem rdeep_of (N : Nat) : ∀ (t : T) (v : Value) (ok : Nat → Prop) (w : World), SizeOf.sizeOf t < N → RdA ok w t v → deepT t ≤ 100 → Calls Tryd.prog 47 #[v] w (Gives (.int .i64 (deepT t)) w) := by
  induction N with
  | zero => intro t v ok w h; omega
  | succ N ih =>
    intro t v ok w hN ht hd
    obtain ⟨A, c, xs, rfl, h2, h3, h4, h5, h6⟩ := ht
    obtain ⟨k, n, s, l⟩ := t
    simp only [T.k, T.n, T.s, T.l] at *
    unfold maxLen at h2 h4
    by_cases hk3 : k = 3
    · subst hk3
      have hdl : deepL l ≤ 99 := by simp only [deepT, if_true] at hd; omega
      have hdm : ∀ t ∈ l, deepT t ≤ 100 := fun t ht => by have := (deepL_le l 99).1 hdl t ht; omega
      have HDT := Lib.hid (show deepT (T.mk 3 n s l) = deepL l + 1 by simp [deepT])
      have HDM := Lib.hid hdm
      clear hd hdm
      generalize hll : l.length = len at *
      have HLEN := Lib.hid hll
      clear hll
      obtain ⟨hblk, hb0, hsz⟩ := box_start w (.int .i64 3) (.int .i64 n) (.string s) (.slice A len c)
      go_enter Tryd.func47, Tryd.ntmps47
      go_wp2_with fail
      generalize w.alloc (.cells #[.int .i64 3, .int .i64 n, .string s, .slice A len c] 60) = w0 at hblk hb0 hsz
      have HB := Lib.hid hblk
      have HS := Lib.hid hsz
      clear hblk hsz
      go_loopw [3, 4] (fun m i wr => ∃ (k d : Nat), i = .int .i64 (k : Int) ∧ m = .int .i64 (d : Int) ∧ k ≤ len ∧ d ≤ 99 ∧ Hid (d = deepL (l.take k)) ∧ Below w0.heap.size w0 wr) (fun _ i _ => len - (intOf i).toNat)
      case atStart => exact ⟨0, 0, rfl, rfl, Nat.zero_le _, by omega, Lib.hid (by simp [deepL]), Below.refl _ _⟩
      case round =>
        obtain ⟨k, d, rfl, rfl, hk, hdk, HD, hbw⟩ := hrel
        have hbw' : Below w.heap.size w wr := hb0.trans (hbw.mono (by have := HS.out; omega))
        obtain ⟨e0, e1, e2, e3, ef⟩ := val_block ((hbw.block w.heap.size (by have := HS.out; omega)).trans HB.out)
        by_cases hlt : k < len
        · have hltz : (k : Int) < (len : Int) := by omega
          have hk1 : k < l.length := by have := HLEN.out; omega
          obtain ⟨b, o, B', d', rfl, hok, hblt, hfr, hRA, g0, g1, g2, g3⟩ := elem_at (HLEN.out ▸ h5) h6 hk1
          have hRA2 := hRA.keep (Keeps.of_below hbw' (fun b _ h => h))
          rw [← hbw'.cell (p := ⟨b, o + k * 4, none⟩) hblt] at g0
          rw [← hbw'.cell (p := ⟨b, o + k * 4 + 1, none⟩) hblt] at g1
          rw [← hbw'.cell (p := ⟨b, o + k * 4 + 2, none⟩) hblt] at g2
          rw [← hbw'.cell (p := ⟨b, o + k * 4 + 3, none⟩) hblt] at g3
          have hszk : SizeOf.sizeOf l[k] < N := by have := sz_mem (k := 3) (n := n) (s := s) (List.getElem_mem hk1); omega
          have hdx := HDM.out _ (List.getElem_mem hk1)
          have hdx2 := (deepL_le l 99).1 hdl _ (List.getElem_mem hk1)
          have hdt := deepL_take l hk1
          have hcall := ih l[k] _ _ _ hszk hRA2 hdx
          generalize l[k] = x at *
          generalize deepT x = dx at *
          have HNX : Hid (max d dx = deepL (l.take (k + 1))) := Lib.hid (by rw [hdt, HD.out])
          have hw : max (d : Int) (dx : Int) = ((max d dx : Nat) : Int) := by omega
          have HW := Lib.hid hw
          have HCALL := Lib.hid hcall
          clear hdt hw hcall
          go_wp2_with fail
          refine HCALL.out.mono ?_
          rintro e w1 ⟨rfl, hb1⟩
          go_wp2_with fail
          exact ⟨⟨k + 1, max d dx, by go_num, by rw [HW.out], by omega, by omega, HNX, hbw.trans (hb1.mono hbw.size)⟩, by simp [intOf]; omega⟩
        · have hltz : ¬ (k : Int) < (len : Int) := by omega
          have HE : Hid ((d : Int) + 1 = (deepT (T.mk 3 n s l) : Int)) := Lib.hid (by
            have h1 := HD.out
            rw [List.take_of_length_le (by have := HLEN.out; omega)] at h1
            have h2 := HDT.out
            omega)
          have hdz : (d : Int) ≤ 99 := by omega
          go_wp2_with fail
          go_ret
          exact ⟨by rw [← HE.out]; rfl, hbw'⟩
    · have hd0 : deepT (T.mk k n s l) = 0 := by simp [deepT, hk3]
      rw [hd0]
      have hkb : (k != 3) = true := by simpa using hk3
      clear ih hd h5 h6 hd0
      go_enter Tryd.func47, Tryd.ntmps47
      go_wp2_with fail
      go_ret
      exact ⟨rfl, (Below.refl _ _).alloc (Nat.le_refl _) _⟩
theorem rdeep_any (t : T) (v : Value) (ok : Nat → Prop) (w : World) (ht : RdA ok w t v) (hd : deepT t ≤ 100) : Calls Tryd.prog 47 #[v] w (Gives (.int .i64 (deepT t)) w) := rdeep_of (SizeOf.sizeOf t + 1) t v ok w (by omega) ht hd
end Go.Proofs.YtmepahlmbopacaaDoor.Be
