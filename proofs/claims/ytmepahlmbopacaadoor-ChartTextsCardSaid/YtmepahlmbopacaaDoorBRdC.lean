/- What the reader's number and text return: the number, the text, or why there is none. Conditions: the reader's block is a reader. -/
import Derived.Test.YtmepahlmbopacaaDoorBRdB
set_option linter.unusedVariables false
set_option linter.unusedSimpArgs false
namespace Go.Proofs.YtmepahlmbopacaaDoor.Be
open Go Go.RowKit

theorem dg_errs (most : Nat) (stop : UInt8) (over : Int) : ∀ (bs : List UInt8) (first : Bool) (m : Nat) (x : Int), dg most stop over first m bs = .error x → x = 20 ∨ x = 21 ∨ x = over := by
  intro bs
  induction bs with
  | nil => intro first m x h; rw [dg] at h; cases h; simp
  | cons c r ih =>
    intro first m x h
    rw [dg] at h
    split at h
    · cases h
    · split at h
      · cases h; simp
      · split at h
        · cases h; simp
        · revert h
          rcases hx : dg most stop over false (10 * m + (c.toNat - 48)) r with e | ⟨n', k'⟩
          · intro h
            cases h
            exact ih _ _ _ hx
          · intro h; cases h
theorem digits_err (R : Nat) (s : ByteArray) (p d : Nat) (most : Nat) (M : Int) (hM : M = (most : Int)) (stop : UInt8) (z : Int) (hz : z = (stop.toNat : Int)) (over : Int) (w : World) (h : IsRd w R s p d) (hs : s.size ≤ 1000000000) (hm0 : 9 ≤ most) (hm1 : most ≤ 9223372036854775808) (hst : isDig stop = false)
    (x : Int) (hx : dg most stop over true 0 (s.data.toList.drop p) = .error x) :
    Calls Tryd.prog 104 #[.pointer (some ⟨R, 0, none⟩), .int .u64 M, .int .u8 z, .int .i64 over] w fun e w' => e = .returned (.tuple #[.int .u64 0, .int .i64 x]) ∧ w.grownBy w' (some R) := by
  subst hM hz
  have := digits_any R s p d most stop over w h hs hm0 hm1 hst
  rw [hx] at this
  exact this
theorem digits_ok (R : Nat) (s : ByteArray) (p d : Nat) (most : Nat) (M : Int) (hM : M = (most : Int)) (stop : UInt8) (z : Int) (hz : z = (stop.toNat : Int)) (over : Int) (w : World) (h : IsRd w R s p d) (hs : s.size ≤ 1000000000) (hm0 : 9 ≤ most) (hm1 : most ≤ 9223372036854775808) (hst : isDig stop = false)
    (n k : Nat) (hx : dg most stop over true 0 (s.data.toList.drop p) = .ok (n, k)) :
    Calls Tryd.prog 104 #[.pointer (some ⟨R, 0, none⟩), .int .u64 M, .int .u8 z, .int .i64 over] w fun e w' => e = .returned (.tuple #[.int .u64 n, .int .i64 0]) ∧ IsRd w' R s (p + k) d ∧ w.grownBy w' (some R) := by
  subst hM hz
  have := digits_any R s p d most stop over w h hs hm0 hm1 hst
  rw [hx] at this
  exact this
theorem is_z (R : Nat) (s : ByteArray) (p d : Nat) (c : UInt8) (z : Int) (hz : z = (c.toNat : Int)) (b : Bool) (w : World) (h : IsRd w R s p d) (hs : s.size ≤ 1000000000) (hb : b = ((s.data.toList.drop p).head? == some c)) : Calls Tryd.prog 87 #[.pointer (some ⟨R, 0, none⟩), .int .u8 z] w (Quiet (.bool b) w) := by
  subst hz
  by_cases hp : p < s.size
  · rw [drop_cons s p hp] at hb
    have := is_in R s p d c s[p] w h hp hs rfl
    rw [hb]
    simpa using this
  · rw [drop_nil s p hp] at hb
    have := is_no R s p d c w h hp
    rw [hb]
    simpa using this
/-- What is no error. -/
def NotErr (v : Value) : Prop := (∃ x, v = .iface 3 x) ∨ (∃ x, v = .iface 9 x) ∨ (∃ x, v = .iface 129 x)
def VPost (res : Except Int (T × Nat)) (R : Nat) (s : ByteArray) (p d : Nat) (w : World) (e : Ending) (w' : World) : Prop :=
  match res with
  | .error x => e = .returned (.iface 27 (.int .i64 x)) ∧ w.grownBy w' (some R)
  | .ok (t, n) => ∃ v, e = .returned v ∧ IsRd w' R s (p + n) d ∧ w.grownBy w' (some R) ∧ NotErr v ∧ (p + n ≤ 65536 → Hv (fun b => w.heap.size ≤ b) w' t v)
theorem VPost.err {r : Except Int (T × Nat)} {x : Int} {R : Nat} {s : ByteArray} {p d : Nat} {w w' : World} {e : Ending} (h : r = .error x) (he : e = .returned (.iface 27 (.int .i64 x))) (hg : w.grownBy w' (some R)) : VPost r R s p d w e w' := by
  subst h
  exact ⟨he, hg⟩
theorem VPost.fine {r : Except Int (T × Nat)} {t : T} {n : Nat} {v : Value} {R : Nat} {s : ByteArray} {p d : Nat} {w w' : World} {e : Ending} (h : r = .ok (t, n)) (he : e = .returned v) (hi : IsRd w' R s (p + n) d) (hg : w.grownBy w' (some R)) (hn : NotErr v) (hv : p + n ≤ 65536 → Hv (fun b => w.heap.size ≤ b) w' t v) : VPost r R s p d w e w' := by
  subst h
  exact ⟨v, he, hi, hg, hn, hv⟩
theorem ret_if {a b : Int} (h : a = b) : Ending.returned (.iface 3 (.int .i64 a)) = .returned (.iface 3 (.int .i64 b)) := by rw [h]

theorem neg_u64 (n : Nat) (h : n ≤ 9223372036854775808) : wrap64 (IntKind.u64.wrap (-(n : Int))) = -(n : Int) := by
  unfold wrap64
  simp only [IntKind.wrap, IntKind.bits, IntKind.signed]
  simp
  omega
theorem num_hv (ok : Nat → Prop) (w : World) (n : Int) : Hv ok w (.mk 1 n .empty []) (.iface 3 (.int .i64 n)) := by
  rw [Hv]
  exact .inl ⟨rfl, rfl⟩
set_option maxRecDepth 100000 in
set_option maxHeartbeats 4000000 in
theorem number_any (R : Nat) (s : ByteArray) (p d : Nat) (w : World) (h : IsRd w R s p d) (hs : s.size ≤ 1000000000) (hp : p < s.size) : Calls Tryd.prog 88 #[.pointer (some ⟨R, 0, none⟩)] w (VPost (rdNum (s.data.toList.drop (p + 1))) R s p d w) := by
  have c1 := h.c1
  have f1 := h.f 1
  have hI2 : IsRd (w.setCell ⟨R, 1, none⟩ (.int .i64 ((p : Int) + 1))) R s (p + 1) d := h.set1 (p + 1)
  have hg2 : w.grownBy (w.setCell ⟨R, 1, none⟩ (.int .i64 ((p : Int) + 1))) (some R) := grown_setCell (World.grownBy.refl w _) _ rfl _
  generalize hres : rdNum (s.data.toList.drop (p + 1)) = res
  by_cases h45 : (s.data.toList.drop (p + 1)).head? = some 45
  · have hp1 : p + 1 < s.size := by
      by_cases hx : p + 1 < s.size
      · exact hx
      · rw [drop_nil s _ hx] at h45; cases h45
    have HB : Hid (true = ((s.data.toList.drop (p + 1)).head? == some 45)) := Lib.hid (by rw [h45]; rfl)
    rw [drop_cons s _ hp1] at h45 hres
    simp only [List.head?_cons, Option.some.injEq] at h45
    rw [h45, rdNum_minus] at hres
    clear h45
    have hp1' : p + 1 + 1 = p + 2 := by omega
    rw [hp1'] at hres
    clear hp1'
    have hI3 : ∀ q1 : Nat, IsRd (((w.setCell ⟨R, 1, none⟩ (.int .i64 ((p : Int) + 1))).drewN q1).setCell ⟨R, 1, none⟩ (.int .i64 ((p : Int) + 1 + 1))) R s (p + 2) d := fun q1 => (hI2.drewN q1).set1 (p + 2)
    have hg3 : ∀ q1 : Nat, w.grownBy (((w.setCell ⟨R, 1, none⟩ (.int .i64 ((p : Int) + 1))).drewN q1).setCell ⟨R, 1, none⟩ (.int .i64 ((p : Int) + 1 + 1))) (some R) := fun q1 => grown_setCell (grown_drewN hg2 q1) _ rfl _
    have HI3 := Lib.hid hI3
    have HG3 := Lib.hid hg3
    clear hI3 hg3
    by_cases h48 : (s.data.toList.drop (p + 2)).head? = some 48
    · rw [if_pos h48] at hres
      have HR : Hid (res = .error 20) := Lib.hid hres.symm
      have HB2 : Hid (true = ((s.data.toList.drop (p + 2)).head? == some 48)) := Lib.hid (by rw [h48]; rfl)
      clear hres h48
      go_enter Tryd.func88, Tryd.ntmps88
      go_wp2_with fail
      refine (is_z R s (p + 1) d 45 _ rfl true _ hI2 hs HB.out).mono ?_
      rintro e w1 ⟨rfl, q1, rfl⟩
      have c1' := (hI2.drewN q1).c1
      have f1' := (hI2.drewN q1).f 1
      go_wp2_with fail
      refine (is_z R s (p + 2) d 48 _ rfl true _ (HI3.out q1) hs HB2.out).mono ?_
      rintro e w2 ⟨rfl, q2, rfl⟩
      go_wp2_with fail
      go_ret
      exact VPost.err HR.out rfl (grown_drewN (HG3.out q1) _)
    · rw [if_neg h48] at hres
      have HB2 : Hid (false = ((s.data.toList.drop (p + 2)).head? == some 48)) := Lib.hid (by
        rw [eq_comm, Bool.eq_false_iff]
        simpa using h48)
      clear h48
      rcases hx : dg 9223372036854775808 101 20 true 0 (s.data.toList.drop (p + 2)) with x | ⟨n, k⟩
      · rw [hx] at hres
        have HR : Hid (res = .error x) := Lib.hid hres.symm
        have HX := Lib.hid hx
        have hxs := dg_errs _ _ _ _ _ _ _ hx
        clear hres hx
        rcases hxs with rfl | rfl | rfl
        all_goals
          go_enter Tryd.func88, Tryd.ntmps88
          go_wp2_with fail
          refine (is_z R s (p + 1) d 45 _ rfl true _ hI2 hs HB.out).mono ?_
          rintro e w1 ⟨rfl, q1, rfl⟩
          have c1' := (hI2.drewN q1).c1
          have f1' := (hI2.drewN q1).f 1
          go_wp2_with fail
          refine (is_z R s (p + 2) d 48 _ rfl false _ (HI3.out q1) hs HB2.out).mono ?_
          rintro e w2 ⟨rfl, q2, rfl⟩
          go_wp2_with fail
          refine (digits_err R s (p + 2) d 9223372036854775808 _ rfl 101 _ rfl 20 _ ((HI3.out q1).drewN _) hs (by decide) (by decide) (by decide) _ HX.out).mono ?_
          rintro e w3 ⟨rfl, hg4⟩
          go_wp2_with fail
          go_ret
          exact VPost.err HR.out rfl (grown_then (grown_drewN (HG3.out q1) _) hg4)
      · rw [hx] at hres
        have hn := (dg_inv _ _ _ nd101 _ _ _ _ _ (fun _ => rfl) (by omega) hx).1
        have hnz : (n : Int) ≤ 9223372036854775808 := by omega
        have hn0 : 0 ≤ (n : Int) := by omega
        have HR : Hid (res = .ok (.mk 1 (-(n : Int)) .empty [], k + 2)) := Lib.hid hres.symm
        have HX := Lib.hid hx
        have HN := Lib.hid hn
        clear hres hx hn
        go_enter Tryd.func88, Tryd.ntmps88
        go_wp2_with fail
        refine (is_z R s (p + 1) d 45 _ rfl true _ hI2 hs HB.out).mono ?_
        rintro e w1 ⟨rfl, q1, rfl⟩
        have c1' := (hI2.drewN q1).c1
        have f1' := (hI2.drewN q1).f 1
        go_wp2_with fail
        refine (is_z R s (p + 2) d 48 _ rfl false _ (HI3.out q1) hs HB2.out).mono ?_
        rintro e w2 ⟨rfl, q2, rfl⟩
        go_wp2_with fail
        refine (digits_ok R s (p + 2) d 9223372036854775808 _ rfl 101 _ rfl 20 _ ((HI3.out q1).drewN _) hs (by decide) (by decide) (by decide) _ _ HX.out).mono ?_
        rintro e w3 ⟨rfl, hI4, hg4⟩
        go_wp2_with fail
        go_ret
        refine VPost.fine (v := .iface 3 (.int .i64 (-(n : Int)))) HR.out ?_ ?_ (grown_then (grown_drewN (HG3.out q1) _) hg4) (.inl ⟨_, rfl⟩) (fun _ => num_hv _ _ _)
        · exact ret_if (neg_u64 n HN.out)
        · rw [show p + (k + 2) = p + 2 + k by omega]
          exact hI4
  · rw [rdNum_plus _ h45] at hres
    have HB : Hid (false = ((s.data.toList.drop (p + 1)).head? == some 45)) := Lib.hid (by
      rw [eq_comm, Bool.eq_false_iff]
      simpa using h45)
    clear h45
    rcases hx : dg 9223372036854775807 101 20 true 0 (s.data.toList.drop (p + 1)) with x | ⟨n, k⟩
    · rw [hx] at hres
      have HR : Hid (res = .error x) := Lib.hid hres.symm
      have HX := Lib.hid hx
      have hxs := dg_errs _ _ _ _ _ _ _ hx
      clear hres hx
      rcases hxs with rfl | rfl | rfl
      all_goals
        go_enter Tryd.func88, Tryd.ntmps88
        go_wp2_with (first
          | (go_at_call 87; refine (is_z R s (p + 1) d 45 _ rfl false _ hI2 hs HB.out).mono ?_; rintro e w1 ⟨rfl, q1, rfl⟩)
          | (go_at_call 104; refine (digits_err R s (p + 1) d 9223372036854775807 _ rfl 101 _ rfl 20 _ (hI2.drewN _) hs (by decide) (by decide) (by decide) _ HX.out).mono ?_; rintro e w2 ⟨rfl, hg3⟩))
        go_ret
        exact VPost.err HR.out rfl (grown_then hg2 (grown_then (grown_drewN (World.grownBy.refl _ _) _) hg3))
    · rw [hx] at hres
      have hn := (dg_inv _ _ _ nd101 _ _ _ _ _ (fun _ => rfl) (by omega) hx).1
      have hnz : (n : Int) ≤ 9223372036854775807 := by omega
      have hn0 : 0 ≤ (n : Int) := by omega
      have HR : Hid (res = .ok (.mk 1 n .empty [], k + 1)) := Lib.hid hres.symm
      have HX := Lib.hid hx
      clear hres hx hn
      go_enter Tryd.func88, Tryd.ntmps88
      go_wp2_with (first
        | (go_at_call 87; refine (is_z R s (p + 1) d 45 _ rfl false _ hI2 hs HB.out).mono ?_; rintro e w1 ⟨rfl, q1, rfl⟩)
        | (go_at_call 104; refine (digits_ok R s (p + 1) d 9223372036854775807 _ rfl 101 _ rfl 20 _ (hI2.drewN _) hs (by decide) (by decide) (by decide) _ _ HX.out).mono ?_; rintro e w2 ⟨rfl, hI3, hg3⟩))
      go_ret
      refine VPost.fine HR.out rfl ?_ (grown_then hg2 (grown_then (grown_drewN (World.grownBy.refl _ _) _) hg3)) (.inl ⟨_, rfl⟩) (fun _ => num_hv _ _ _)
      rw [show p + (k + 1) = p + 1 + k by omega]
      exact hI3

theorem text_hv (ok : Nat → Prop) (w : World) (s : ByteArray) : Hv ok w (.mk 2 0 s []) (.iface 9 (.string s)) := by
  rw [Hv]
  exact .inr (.inl ⟨rfl, rfl⟩)
theorem ret_ist {a b : ByteArray} (h : a = b) : Ending.returned (.iface 9 (.string a)) = .returned (.iface 9 (.string b)) := by rw [h]
theorem extract_eq (s : ByteArray) (a n : Nat) (h : a + n ≤ s.size) : s.extract a (a + n) = ⟨((s.data.toList.drop a).take n).toArray⟩ := by
  apply ByteArray.ext
  rw [ByteArray.data_extract]
  apply Array.toList_inj.1
  simp
set_option maxRecDepth 100000 in
set_option maxHeartbeats 4000000 in
theorem text_any (R : Nat) (s : ByteArray) (p d : Nat) (w : World) (h : IsRd w R s p d) (hs : s.size ≤ 1000000000) (hp : p < s.size) : Calls Tryd.prog 91 #[.pointer (some ⟨R, 0, none⟩)] w (VPost (rdText (s.data.toList.drop p)) R s p d w) := by
  generalize hres : rdText (s.data.toList.drop p) = res
  unfold rdText at hres
  rcases hx : dg 65536 58 23 true 0 (s.data.toList.drop p) with x | ⟨n, k⟩
  · rw [hx] at hres
    have HR : Hid (res = .error x) := Lib.hid hres.symm
    have HX := Lib.hid hx
    have hxs := dg_errs _ _ _ _ _ _ _ hx
    clear hres hx
    rcases hxs with rfl | rfl | rfl
    all_goals
      go_enter Tryd.func91, Tryd.ntmps91
      go_wp2_with fail
      refine (digits_err R s p d 65536 _ rfl 58 _ rfl 23 _ h hs (by decide) (by decide) (by decide) _ HX.out).mono ?_
      rintro e w3 ⟨rfl, hg4⟩
      go_wp2_with fail
      go_ret
      exact VPost.err HR.out rfl hg4
  · rw [hx] at hres
    have hinv := dg_inv _ _ _ nd58 _ _ _ _ _ (fun _ => rfl) (by omega) hx
    have hn : n ≤ 65536 := hinv.1
    have hk : p + k ≤ s.size := by
      have := hinv.2.2.1
      simp at this
      omega
    have hl : ((s.data.toList.drop p).drop k).length = s.size - (p + k) := by
      rw [List.drop_drop, List.length_drop]
      simp
    have HX := Lib.hid hx
    simp only [hl] at hres
    clear hx hinv hl
    by_cases hsh : s.size - (p + k) < n
    · rw [if_pos hsh] at hres
      have HR : Hid (res = .error 21) := Lib.hid hres.symm
      clear hres
      have hz : (s.size : Int) - ((p + k : Nat) : Int) < (n : Int) := by omega
      generalize hG : p + k = G at *
      have HG := Lib.hid hG
      clear hG
      go_enter Tryd.func91, Tryd.ntmps91
      go_wp2_with fail
      refine (digits_ok R s p d 65536 _ rfl 58 _ rfl 23 _ h hs (by decide) (by decide) (by decide) _ _ HX.out).mono ?_
      rintro e w3 ⟨rfl, hI4, hg4⟩
      rw [HG.out] at hI4
      have c0 := hI4.c0
      have c1 := hI4.c1
      go_wp2_with fail
      go_ret
      exact VPost.err HR.out rfl hg4
    · rw [if_neg hsh, List.drop_drop] at hres
      have HR : Hid (res = .ok (.mk 2 0 (s.extract (p + k) (p + k + n)) [], k + n)) := Lib.hid (by rw [extract_eq s (p + k) n (by omega)]; exact hres.symm)
      clear hres
      have hz : ¬ (s.size : Int) - ((p + k : Nat) : Int) < (n : Int) := by omega
      generalize hG : p + k = G at *
      have HG := Lib.hid hG
      clear hG
      have hq : G + n ≤ s.size := by omega
      go_enter Tryd.func91, Tryd.ntmps91
      go_wp2_with fail
      refine (digits_ok R s p d 65536 _ rfl 58 _ rfl 23 _ h hs (by decide) (by decide) (by decide) _ _ HX.out).mono ?_
      rintro e w3 ⟨rfl, hI4, hg4⟩
      rw [HG.out] at hI4
      have c0 := hI4.c0
      have c1 := hI4.c1
      have f1 := hI4.f 1
      go_wp2_with fail
      have hI5 : IsRd (w3.setCell ⟨R, 1, none⟩ (.int .i64 ((G : Int) + (n : Int)))) R s (G + n) d := hI4.set1 (G + n)
      have c0' := hI5.c0
      have c1' := hI5.c1
      go_quiet (fail)
      go_wp2_with fail
      go_ret
      refine VPost.fine HR.out rfl ?_ (grown_setCell (grown_then hg4 (World.grownBy.refl _ _)) _ rfl _ |> fun h => grown_drewN h _) (.inr (.inl ⟨_, rfl⟩)) (fun _ => text_hv _ _ _)
      rw [show p + (k + n) = G + n by have := HG.out; omega]
      exact hI5.drewN _
end Go.Proofs.YtmepahlmbopacaaDoor.Be
