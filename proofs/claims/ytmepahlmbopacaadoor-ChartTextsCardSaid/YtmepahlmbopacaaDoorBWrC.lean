/- What the writer's value does: a value's bytes are appended, or it may not be. Conditions: the writer's block is a writer; the value reads as a tree below it; Go's table of powers of ten lies as start-up lays it. -/
import Derived.Test.YtmepahlmbopacaaDoorBWrB
set_option linter.unusedVariables false
set_option linter.unusedSimpArgs false
namespace Go.Proofs.YtmepahlmbopacaaDoor.Be
open Go Go.RowKit

theorem WVPost.far {Wb B : Nat} {g : Bool} {bs : List UInt8} {w w1 w' : World} {e : Ending} (h : WVPost Wb B g bs w1 e w') (hb : Below Wb w w1) : WVPost Wb B g bs w e w' := ⟨h.1, h.2.1, hb.trans h.2.2⟩
set_option maxRecDepth 100000 in
set_option maxHeartbeats 8000000 in
theorem wvalue_of (Wb B : Nat) (N : Nat) : ∀ (t : T) (v : Value) (w : World) (u : Value) (bs : List UInt8) (d : Nat) (D : Int), SizeOf.sizeOf t < N → RdA (fun b => b < Wb) w t v → wfT t = true → WrAt w Wb B u bs → Tabs w Wb → bs.length ≤ 65537 + d → D = (d : Int) → d ≤ 8 →
      Calls Tryd.prog 44 #[.pointer (some ⟨Wb, 0, none⟩), v, .int .i64 D] w (WVPost Wb B (gdT t d bs) (bs ++ enc t) w) := by
  induction N with
  | zero => intro t v w u bs d D h; omega
  | succ N ih =>
    intro t v w u bs d D hN hRA hwf h hT hlen hD hd
    obtain ⟨A, c, xs, rfl, h2, h3, h4, h5, h6⟩ := hRA
    obtain ⟨k, n, s, l⟩ := t
    simp only [T.k, T.n, T.s, T.l] at *
    unfold maxLen at h2 h4
    simp only [wfT, Bool.and_eq_true, decide_eq_true_eq] at hwf
    obtain ⟨⟨⟨hn0, hn1⟩, hk0, hk1⟩, hwfl⟩ := hwf
    have hlt := h.lt
    have hle := h.le
    have hb0 : Below w.heap.size w (w.alloc (.cells #[.int .i64 k, .int .i64 n, .string s, .slice A l.length c] 60)) := (Below.refl _ _).alloc (Nat.le_refl _) _
    have hb0' : Below Wb w (w.alloc (.cells #[.int .i64 k, .int .i64 n, .string s, .slice A l.length c] 60)) := hb0.mono (by omega)
    have hw0 := h.below hb0
    have hT0 := hT.on hb0'
    generalize hgd : gdT (.mk k n s l) d bs = gd
    generalize hbf : bs ++ enc (.mk k n s l) = bf
    have HGD := Lib.hid hgd
    have HBF := Lib.hid hbf
    have HDD := Lib.hid hD
    have HWL := Lib.hid hwfl
    clear hgd hbf hD hwfl hk0 hk1 hb0
    by_cases hk1' : k = 1
    · subst hk1'
      have HE : Hid (bs ++ 105 :: (Lib.itoa n ++ [101]) = bf) := Lib.hid (by rw [← HBF.out, enc_num])
      have HG : Hid (gd = decide (bf.length ≤ 65536)) := Lib.hid (by
        rw [← HGD.out, ← HBF.out]
        simp [gdT, kindsOk, deepT, decide_eq_true hd])
      go_enter Tryd.func44, Tryd.ntmps44
      go_wp2_with fail
      refine (wnumber_any Wb B u bs n hn0 hn1 (by omega) _ hw0 hT0).mono ?_
      rw [HE.out]
      rintro e w1 ⟨rfl, ⟨u1, hw1⟩, hb1⟩
      go_wp2_with fail
      refine (fits_any Wb B u1 bf _ hw1).mono ?_
      rintro e w2 ⟨rfl, rfl⟩
      go_wp2_with fail
      go_ret
      exact ⟨ret_bool HG.out.symm, fun _ => ⟨_, hw1⟩, hb0'.trans hb1⟩
    · by_cases hk2 : k = 2
      · subst hk2
        have HG : Hid (gd = decide ((bs ++ (Lib.itoa s.size ++ 58 :: s.data.toList)).length ≤ 65536)) := Lib.hid (by
          rw [← HGD.out, ← enc_text n s l]
          simp [gdT, kindsOk, deepT, decide_eq_true hd])
        have HE : Hid (bs ++ (Lib.itoa s.size ++ 58 :: s.data.toList) = bf) := Lib.hid (by rw [← HBF.out, enc_text])
        go_enter Tryd.func44, Tryd.ntmps44
        go_wp2_with fail
        refine (wtext_any Wb B u bs s (by omega) (by omega) _ hw0 hT0).mono ?_
        rw [← HG.out, HE.out]
        rintro e w1 hp
        obtain ⟨rfl, hp2⟩ := hp.far hb0'
        have HP := Lib.hid hp2
        clear hp hp2
        go_wp2_with fail
        go_ret
        exact ⟨rfl, HP.out⟩
      · by_cases hk3 : k = 3
        · subst hk3
          go_enter Tryd.func44, Tryd.ntmps44
          go_wp2_with fail
          refine (wlist_of N Wb B ih n s l A c xs _ u bs d D (fun t ht => by have := sz_mem (k := 3) (n := n) (s := s) ht; omega) (h5.keep (Keeps.of_below hb0' (fun b hb _ => hb))) (RdL.keep (Keeps.of_below hb0' (fun b hb _ => hb)) _ _ h6) (by omega) HWL.out hw0 hT0 hlen HDD.out hd).mono ?_
          rw [HGD.out, HBF.out]
          rintro e w1 hp
          obtain ⟨rfl, hp2⟩ := hp.far hb0'
          have HP := Lib.hid hp2
          clear hp hp2
          go_wp2_with fail
          go_ret
          exact ⟨rfl, HP.out⟩
        · have e1 : (k == 1) = false := by simpa using hk1'
          have e2 : (k == 2) = false := by simpa using hk2
          have e3 : (k == 3) = false := by simpa using hk3
          have HG : Hid (gd = false) := Lib.hid (by rw [← HGD.out]; simp [gdT, kindsOk, hk1', hk2, hk3])
          clear hk1' hk2 hk3
          go_enter Tryd.func44, Tryd.ntmps44
          go_wp2_with fail
          go_ret
          refine ⟨ret_bool HG.out.symm, fun h => ?_, hb0'⟩
          rw [HG.out] at h
          cases h
end Go.Proofs.YtmepahlmbopacaaDoor.Be
