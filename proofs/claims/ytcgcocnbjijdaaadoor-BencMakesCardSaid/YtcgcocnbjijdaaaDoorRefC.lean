/- What Clean of the document's answers returns of a clean value. Conditions: the value reads as a tree of the three kinds with no other fields. -/
import Derived.Test.YtcgcocnbjijdaaaDoorRefB
set_option linter.unusedVariables false
set_option linter.unusedSimpArgs false
namespace Go.Proofs.YtcgcocnbjijdaaaDoor
open Go Go.RowKit

theorem same_any (t u : T) (v v' : Value) (ok ok' : Nat → Prop) (w : World) (ht : RdA ok w t v) (hu : RdA ok' w u v') : Calls Tryd.prog 18 #[v, v'] w (Gives (.bool (sameT t u)) w) := same_of (SizeOf.sizeOf t + 1) t u v v' ok ok' w (by omega) ht hu
theorem cleanL_get : ∀ {l : List T} {k : Nat}, cleanL l = true → (hk : k < l.length) → cleanT l[k] = true
  | t :: ts, 0, h, _ => by simp only [cleanL, Bool.and_eq_true] at h; exact h.1
  | t :: ts, k + 1, h, hk => by
    simp only [cleanL, Bool.and_eq_true] at h
    exact cleanL_get h.2 (by simp at hk; omega : k < ts.length)
theorem kindsOkL_get : ∀ {l : List T} {k : Nat}, kindsOkL l = true → (hk : k < l.length) → kindsOk l[k] = true
  | t :: ts, 0, h, _ => by simp only [kindsOkL, Bool.and_eq_true] at h; exact h.1
  | t :: ts, k + 1, h, hk => by
    simp only [kindsOkL, Bool.and_eq_true] at h
    exact kindsOkL_get h.2 (by simp at hk; omega : k < ts.length)
theorem empty_of_size {s : ByteArray} (h : s.size = 0) : s = ⟨#[]⟩ := by
  apply ByteArray.ext
  exact Array.eq_empty_of_size_eq_zero h

set_option maxRecDepth 100000 in
set_option maxHeartbeats 8000000 in
theorem clean_of (N : Nat) : ∀ (t : T) (v : Value) (ok : Nat → Prop) (w : World), SizeOf.sizeOf t < N → RdA ok w t v → kindsOk t = true → cleanT t = true → Calls Tryd.prog 19 #[v] w (Gives (.bool true) w) := by
  induction N with
  | zero => intro t v ok w h; omega
  | succ N ih =>
    intro t v ok w hN ht hk hc
    obtain ⟨A, c, xs, rfl, h2, h3, h4, h5, h6⟩ := ht
    obtain ⟨k, n, s, l⟩ := t
    simp only [T.k, T.n, T.s, T.l] at *
    unfold maxLen at h2 h4
    simp only [cleanT, Bool.and_eq_true, Bool.or_eq_true, decide_eq_true_eq, List.isEmpty_iff] at hc
    obtain ⟨⟨⟨hc1, hc2⟩, hc3⟩, hc4⟩ := hc
    rcases kinds_cases hk with rfl | rfl | ⟨rfl, hkl⟩
    · have hs0 := empty_of_size (by simpa using hc2)
      have hl0 : l = [] := by simpa using hc3
      subst hs0 hl0
      clear hc1 hc2 hc3 hc4 hk ih
      go_enter Tryd.func19, Tryd.ntmps19
      go_wp2_with fail
      refine wp_loop_rounds 1 ?_
      rw [rounds_succ]
      go_wp2_with fail
      go_ret
      exact ⟨rfl, (Below.refl _ _).alloc (Nat.le_refl _) _⟩
    · have hn0 : n = 0 := by simpa using hc1
      have hl0 : l = [] := by simpa using hc3
      subst hn0 hl0
      clear hc1 hc2 hc3 hc4 hk ih
      go_enter Tryd.func19, Tryd.ntmps19
      go_wp2_with fail
      refine wp_loop_rounds 1 ?_
      rw [rounds_succ]
      go_wp2_with fail
      go_ret
      exact ⟨rfl, (Below.refl _ _).alloc (Nat.le_refl _) _⟩
    · have hn0 : n = 0 := by simpa using hc1
      have hs0 := empty_of_size (by simpa using hc2)
      subst hn0 hs0
      clear hc1 hc2 hc3 hk
      generalize hll : l.length = len at *
      have HLEN := Lib.hid hll
      clear hll
      obtain ⟨hblk, hb0, hsz⟩ := box_start w (.int .i64 3) (.int .i64 0) (.string ⟨#[]⟩) (.slice A len c)
      go_enter Tryd.func19, Tryd.ntmps19
      go_wp2_with fail
      generalize w.alloc (.cells #[.int .i64 3, .int .i64 0, .string ⟨#[]⟩, .slice A len c] 24) = w0 at hblk hb0 hsz
      have HB := Lib.hid hblk
      have HS := Lib.hid hsz
      clear hblk hsz
      go_loopw [3] (fun i wr => ∃ (k : Nat), i = .int .i64 (k : Int) ∧ k ≤ len ∧ Below w0.heap.size w0 wr) (fun i _ => len - (intOf i).toNat)
      case atStart => exact ⟨0, rfl, Nat.zero_le _, Below.refl _ _⟩
      case round =>
        obtain ⟨k, rfl, hk, hbw⟩ := hrel
        have hbw' : Below w.heap.size w wr := hb0.trans (hbw.mono (by have := HS.out; omega))
        obtain ⟨e0, e1, e2, e3, ef⟩ := val_block ((hbw.block w.heap.size (by have := HS.out; omega)).trans HB.out)
        by_cases hlt : k < len
        · have hltz : (k : Int) < (len : Int) := by omega
          have hk1 : k < l.length := by have := HLEN.out; omega
          obtain ⟨b, o, B', d', rfl, hok, hblt, hfr, hRA, g0, g1, g2, g3⟩ := elem_at (HLEN.out ▸ h5) h6 hk1
          have hRA2 := hRA.keep (Keeps.of_below hbw' (fun b _ h => h))
          rw [← hbw'.cell (p := ⟨b, o + k * 4, none⟩) hblt] at g0
          rw [← hbw'.cell (p := ⟨b, o + k * 4 + 1, none⟩) hblt] at g1
          rw [← hbw'.cell (p := ⟨b, o + k * 4 + 2, none⟩) hblt] at g2
          rw [← hbw'.cell (p := ⟨b, o + k * 4 + 3, none⟩) hblt] at g3
          have hszk : SizeOf.sizeOf l[k] < N := by have := sz_mem (k := 3) (n := 0) (s := ⟨#[]⟩) (List.getElem_mem hk1); omega
          have hck := cleanL_get hc4 hk1
          have hkk := kindsOkL_get hkl hk1
          generalize l[k] = x at *
          have HC := Lib.hid hck
          have HK := Lib.hid hkk
          clear hck hkk
          go_wp2_with fail
          refine (ih x _ _ _ hszk hRA2 HK.out HC.out).mono ?_
          rintro e w1 ⟨rfl, hb1⟩
          go_wp2_with fail
          go_roundw
          case rel => exact ⟨k + 1, by go_num, by omega, hbw.trans (hb1.mono hbw.size)⟩
          case measure => simp [intOf]; omega
        · have hltz : ¬ (k : Int) < (len : Int) := by omega
          go_wp2_with fail
          go_ret
          exact ⟨rfl, hbw'⟩
theorem clean_any (t : T) (v : Value) (ok : Nat → Prop) (w : World) (ht : RdA ok w t v) (hk : kindsOk t = true) (hc : cleanT t = true) : Calls Tryd.prog 19 #[v] w (Gives (.bool true) w) := clean_of (SizeOf.sizeOf t + 1) t v ok w (by omega) ht hk hc
end Go.Proofs.YtcgcocnbjijdaaaDoor
