/- What the reader's value returns, whatever the bytes. Conditions: the reader's block is a reader; up to 1000000000 bytes. -/
import Derived.Test.YtcbkgcnajplagaaDoorJ11
set_option linter.unusedVariables false
set_option linter.unusedSimpArgs false
namespace Go.Proofs.YtcbkgcnajplagaaDoor.Be
open Go Go.RowKit

theorem VPost.far {r : Except Int (T × Nat)} {R : Nat} {s : ByteArray} {p d : Nat} {w w1 w' : World} {e : Ending} (h : VPost r R s p d w1 e w') (hg : w.grownBy w1 (some R)) (hw : w.heap.size ≤ w1.heap.size) : VPost r R s p d w e w' := by
  rcases r with x | ⟨t, n⟩
  · exact ⟨h.1, grown_then hg h.2⟩
  · obtain ⟨v, he, hi, hgg, hn, hv⟩ := h
    exact ⟨v, he, hi, grown_then hg hgg, hn, fun hle => Hv.mono (fun b hb _ => Nat.le_trans hw hb) _ _ (hv hle)⟩
theorem VPost.ret {r : Except Int (T × Nat)} {R : Nat} {s : ByteArray} {p d : Nat} {w w' : World} {e : Ending} (h : VPost r R s p d w e w') : ∃ v, e = .returned v ∧ VPost r R s p d w (.returned v) w' := by
  rcases r with x | ⟨t, n⟩
  · obtain ⟨rfl, h2⟩ := h
    exact ⟨_, rfl, rfl, h2⟩
  · obtain ⟨v, rfl, hi⟩ := h
    exact ⟨_, rfl, v, rfl, hi⟩
theorem isDigit_q (c : UInt8) (b : Bool) (hb : isDig c = b) (w : World) (a n : Nat) : Calls Tryd.prog 86 #[.int .u8 (c.toNat : Int)] (w.drewN (a + n)) fun e w'' => e = .returned (.bool b) ∧ ∃ m, w'' = w.drewN (a + m) :=
  (isDigit_any c _).mono fun e w' ⟨h1, h2⟩ => ⟨by rw [h1, hb], n, h2.symm⟩
set_option maxRecDepth 100000 in
set_option maxHeartbeats 8000000 in
theorem value_of (R : Nat) (s : ByteArray) (hs : s.size ≤ 1000000000) (N : Nat) : ∀ (p d : Nat) (w : World), IsRd w R s p d → s.size - p < N → d ≤ 8 → Calls Tryd.prog 75 #[.pointer (some ⟨R, 0, none⟩)] w (VPost (rd (s.data.toList.drop p) d) R s p d w) := by
  induction N with
  | zero => intro p d w _ h; omega
  | succ N ih =>
    intro p d w h hN hd
    by_cases hp : p < s.size
    · have hcons := Lib.hid (drop_cons s p hp)
      have c0 := h.c0
      have c1 := h.c1
      have hpz : (p : Int) < (s.size : Int) := by omega
      generalize hres : rd (s.data.toList.drop p) d = res
      by_cases hi : s[p] = 105
      · have HB : Hid (true = ((s.data.toList.drop p).head? == some 105)) := Lib.hid (by rw [hcons.out, hi]; rfl)
        have HR : Hid (rdNum (s.data.toList.drop (p + 1)) = res) := Lib.hid (by rw [← hres, hcons.out, hi, rd_i])
        clear hi hres
        go_enter Tryd.func75, Tryd.ntmps75
        go_wp2_with fail
        refine (more_yes R s p d _ h hp).mono ?_
        rintro e w1 ⟨rfl, q1, rfl⟩
        go_wp2_with fail
        refine (is_z R s p d 105 _ rfl true _ (h.drewN q1) hs HB.out).mono ?_
        rintro e w2 ⟨rfl, q2, rfl⟩
        go_wp2_with fail
        refine (number_any R s p d _ (h.drewN _) hs hp).mono ?_
        rw [HR.out]
        intro e w3 hv
        obtain ⟨v, rfl, hv2⟩ := (hv.far (grown_drewN (World.grownBy.refl w _) _) (Nat.le_refl _)).ret
        clear hv
        go_wp2_with fail
        go_ret
        exact hv2
      · have HB : Hid (false = ((s.data.toList.drop p).head? == some 105)) := Lib.hid (by
          rw [hcons.out, eq_comm, Bool.eq_false_iff]
          simpa using hi)
        by_cases hl : s[p] = 108
        · have HB2 : Hid (true = ((s.data.toList.drop p).head? == some 108)) := Lib.hid (by rw [hcons.out, hl]; rfl)
          have HL := Lib.hid hl
          have HR : Hid (rd (s.data.toList.drop p) d = res) := Lib.hid hres
          clear hi hres hl
          go_enter Tryd.func75, Tryd.ntmps75
          go_wp2_with fail
          refine (more_yes R s p d _ h hp).mono ?_
          rintro e w1 ⟨rfl, q1, rfl⟩
          go_wp2_with fail
          refine (is_z R s p d 105 _ rfl false _ (h.drewN q1) hs HB.out).mono ?_
          rintro e w2 ⟨rfl, q2, rfl⟩
          go_wp2_with fail
          refine (is_z R s p d 108 _ rfl true _ (h.drewN _) hs HB2.out).mono ?_
          rintro e w3 ⟨rfl, q3, rfl⟩
          go_wp2_with fail
          refine (list_of N R s hs (fun p' d' w' a b c => ih p' d' w' a b c) p d _ (h.drewN _) (by omega) hd hp HL.out).mono ?_
          rw [HR.out]
          intro e w4 hv
          obtain ⟨v, rfl, hv2⟩ := (hv.far (grown_drewN (World.grownBy.refl w _) _) (Nat.le_refl _)).ret
          clear hv
          go_wp2_with fail
          go_ret
          exact hv2
        · have HB2 : Hid (false = ((s.data.toList.drop p).head? == some 108)) := Lib.hid (by
            rw [hcons.out, eq_comm, Bool.eq_false_iff]
            simpa using hl)
          cases hdig : isDig s[p] with
          | true =>
            have HD := Lib.hid hdig
            have HR : Hid (rdText (s.data.toList.drop p) = res) := Lib.hid (by rw [← hres, hcons.out, rd_d _ _ _ hdig])
            clear hi hres hl hdig
            go_enter Tryd.func75, Tryd.ntmps75
            go_wp2_with fail
            refine (more_yes R s p d _ h hp).mono ?_
            rintro e w1 ⟨rfl, q1, rfl⟩
            go_wp2_with fail
            refine (is_z R s p d 105 _ rfl false _ (h.drewN q1) hs HB.out).mono ?_
            rintro e w2 ⟨rfl, q2, rfl⟩
            go_wp2_with fail
            refine (is_z R s p d 108 _ rfl false _ (h.drewN _) hs HB2.out).mono ?_
            rintro e w3 ⟨rfl, q3, rfl⟩
            go_wp2_with fail
            go_quiet ((go_at_call 86; exact isDigit_q _ true HD.out _ _ _))
            go_wp2_with fail
            refine (text_any R s p d _ (h.drewN _) hs hp).mono ?_
            rw [HR.out]
            intro e w4 hv
            obtain ⟨v, rfl, hv2⟩ := (hv.far (grown_drewN (World.grownBy.refl w _) _) (Nat.le_refl _)).ret
            clear hv
            go_wp2_with fail
            go_ret
            exact hv2
          | false =>
            have HD := Lib.hid hdig
            have HR : Hid (res = .error 20) := Lib.hid (by rw [← hres, hcons.out, rd, if_neg hi, if_neg (by rw [hdig]; decide), if_neg hl])
            clear hi hres hl hdig
            go_enter Tryd.func75, Tryd.ntmps75
            go_wp2_with fail
            refine (more_yes R s p d _ h hp).mono ?_
            rintro e w1 ⟨rfl, q1, rfl⟩
            go_wp2_with fail
            refine (is_z R s p d 105 _ rfl false _ (h.drewN q1) hs HB.out).mono ?_
            rintro e w2 ⟨rfl, q2, rfl⟩
            go_wp2_with fail
            refine (is_z R s p d 108 _ rfl false _ (h.drewN _) hs HB2.out).mono ?_
            rintro e w3 ⟨rfl, q3, rfl⟩
            go_wp2_with fail
            go_quiet ((go_at_call 86; exact isDigit_q _ false HD.out _ _ _))
            go_wp2_with fail
            go_ret
            exact VPost.err HR.out rfl (grown_drewN (World.grownBy.refl _ _) _)
    · have HR : Hid (rd (s.data.toList.drop p) d = .error 21) := Lib.hid (by rw [drop_nil s p hp, rd])
      go_enter Tryd.func75, Tryd.ntmps75
      go_wp2_with fail
      refine (more_no R s p d _ h hp).mono ?_
      rintro e w1 ⟨rfl, q1, rfl⟩
      go_wp2_with fail
      go_ret
      exact VPost.err HR.out rfl (grown_drewN (World.grownBy.refl _ _) _)
theorem value_any (R : Nat) (s : ByteArray) (hs : s.size ≤ 1000000000) (p d : Nat) (w : World) (h : IsRd w R s p d) (hd : d ≤ 8) : Calls Tryd.prog 75 #[.pointer (some ⟨R, 0, none⟩)] w (VPost (rd (s.data.toList.drop p) d) R s p d w) :=
  value_of R s hs (s.size - p + 1) p d w h (by omega) hd
end Go.Proofs.YtcbkgcnajplagaaDoor.Be
