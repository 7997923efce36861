/- What number of the document's answers returns: a number, or why there is none. Conditions: up to 1000000000 bytes. -/
import Derived.Test.YtmepahlmbopacaaDoorBRefE
set_option linter.unusedVariables false
set_option linter.unusedSimpArgs false
namespace Go.Proofs.YtmepahlmbopacaaDoor.Be
open Go Go.RowKit

set_option maxRecDepth 100000 in
set_option maxHeartbeats 16000000 in
theorem rnumber_neg (s : ByteArray) (h0 : 0 < s.size) (h45 : s[0] = 45) (h48 : (s.data.toList.drop 1).head? ≠ some 48) (hs : s.size ≤ 1000000000) (w : World) : Calls Tryd.prog 93 #[.string s] w (NumPost (rdNum s.data.toList) w) := by
  have hfirst : ((s[0].toNat : Int) == 45) = true := by rw [u8_lit h0 45 45 rfl]; simpa using h45
  have h0z : (0 : Int) < (s.size : Int) := by omega
  have HRES : Hid (rdNum s.data.toList = (match dg 9223372036854775808 101 20 true 0 (s.data.toList.drop 1) with | .error e => .error e | .ok (m, n) => .ok (.mk 1 (-(m : Int)) .empty [], n + 2))) := Lib.hid (by
    have hd := drop_cons s 0 h0
    rw [List.drop_zero, h45] at hd
    rw [hd, rdNum_minus, if_neg (by rw [hd] at h48; simpa using h48)]
    rfl)
  have HN48 : Hid (∀ h : 1 < s.size, s[1] ≠ 48) := Lib.hid (fun h e => h48 (by rw [drop_cons s 1 h]; simp [e]))
  clear h45 h48
  generalize hr : rdNum s.data.toList = res at *
  clear hr
  generalize hq : dg 9223372036854775808 101 20 true 0 (s.data.toList.drop 1) = R0 at *
  have HQ := Lib.hid hq
  clear hq
  go_enter Tryd.func93, Tryd.ntmps93
  go_wp2
  go_loop [5, 8] (fun i n => ∃ (g m : Nat) (a : Int), i = .int .i64 (g : Int) ∧ n = .int .i64 a ∧ -9223372036854775808 ≤ a ∧ a ≤ 0 ∧ Hid (a = -(m : Int)) ∧ 1 ≤ g ∧ g ≤ s.size ∧ Hid (1 < g → ((∃ h : 1 < s.size, s[1] = 48) ↔ m = 0)) ∧ (g = 1 → a = 0) ∧ Hid (R0 = more (g - 1) (dg 9223372036854775808 101 20 (decide (g = 1)) m (s.data.toList.drop g)))) (fun i _ => s.size - (intOf i).toNat)
  case atStart => exact ⟨1, 0, 0, rfl, rfl, by omega, by omega, Lib.hid rfl, Nat.le_refl _, by omega, Lib.hid (fun h => absurd h (by omega)), fun _ => rfl, Lib.hid (by rw [Nat.sub_self, more_zero, decide_eq_true rfl]; exact HQ.out.symm)⟩
  case round =>
    obtain ⟨g, m, a, rfl, rfl, ha0, ha1, HA, hgf, hg, HZ, hj0, HD⟩ := hrel
    by_cases hlt : g < s.size
    · have hcons := Lib.hid (drop_cons s g hlt)
      have hpz : (g : Int) < (s.size : Int) := by omega
      have hpe : ((g : Int) == (s.size : Int)) = false := by rw [Bool.eq_false_iff, Ne, beq_iff_eq]; omega
      by_cases hxs : s[g] = 101
      · have heq : ((s[g].toNat : Int) == 101) = true := by rw [u8_lit hlt 101 101 rfl]; simpa using hxs
        by_cases hj : 1 < g
        · have HF : Hid (res = .ok (.mk 1 ((fun m => -(m : Int)) m) .empty [], (g + 1 - 1) + 2)) := Lib.hid (rdNum_of_ok HRES.out (by
            rw [HD.out, hcons.out, hxs, decide_eq_false (by omega), dg_stop]
            simp only [more]
            rw [show 1 + (g - 1) = g + 1 - 1 by omega]))
          have hjz : (1 : Int) < (g : Int) := by omega
          clear hxs hj0
          go_wp2
          go_ret3
          exact NumPost.fine HF.out (ret_t3 HA.out (by omega)) rfl
        · have hgp : g = 1 := by omega
          have ha00 := hj0 hgp
          have HF : Hid (res = .error 20) := Lib.hid (rdNum_of_err HRES.out (by
            rw [HD.out, hcons.out, hxs, decide_eq_true hgp, dg_bad _ _ _ _ _ _ _ (.inr rfl) (.inl nd101)]
            rfl))
          have hgt : (57 : Int) < (s[g].toNat : Int) := by rw [hxs]; decide
          have hjz : ¬ (1 : Int) < (g : Int) := by omega
          have HX := Lib.hid hxs
          have HG := Lib.hid hgp
          clear hxs hgp hj0
          subst ha00
          go_wp2
          go_ret3
          exact NumPost.err HF.out rfl rfl
      · have heq : ((s[g].toNat : Int) == 101) = false := by rw [u8_lit hlt 101 101 rfl]; simpa using hxs
        by_cases hdig : isDig s[g] = true
        · have hd1 := isDig_iff.1 hdig
          have hd2 : (48 : Int) ≤ (s[g].toNat : Int) := by omega
          have hd3 : (s[g].toNat : Int) ≤ 57 := by omega
          by_cases hj : 1 < g
          · have hjz : (1 : Int) < (g : Int) := by omega
            have hje : ((g : Int) == 1) = false := by rw [Bool.eq_false_iff, Ne, beq_iff_eq]; omega
            have h1z : 1 < s.size := by omega
            by_cases hm0 : m = 0
            · have HF : Hid (res = .error 20) := Lib.hid (rdNum_of_err HRES.out (by
                rw [HD.out, hcons.out, decide_eq_false (by omega), dg_bad _ _ _ _ _ _ _ (.inl hxs) (.inr ⟨rfl, hm0⟩)]
                rfl))
              have h48 : s[1] = 48 := ((HZ.out hj).2 hm0).2
              have h48b : ((s[1].toNat : Int) == 48) = true := by rw [u8_lit h1z 48 48 rfl]; simpa using h48
              have HM := Lib.hid hm0
              clear hxs hm0 h48 hdig hd1 hj0
              go_wp2
              go_ret3
              exact NumPost.err HF.out rfl rfl
            · have h48 : ¬ s[1] = 48 := fun e => hm0 ((HZ.out hj).1 ⟨h1z, e⟩)
              have h48b : ((s[1].toNat : Int) == 48) = false := by rw [u8_lit h1z 48 48 rfl]; simpa using h48
              have h3 : decide (g = 1) = true ∨ m ≠ 0 := .inr hm0
              have HZN : Hid (1 < g + 1 → ((∃ h : 1 < s.size, s[1] = 48) ↔ 10 * m + (s[g].toNat - 48) = 0)) := Lib.hid (fun _ => ⟨fun ⟨_, e⟩ => absurd e h48, fun e => absurd e (by omega)⟩)
              have HX := Lib.hid hxs
              have HDG := Lib.hid hdig
              clear hxs hdig h48 hm0 hj0
              by_cases hov : 10 * a - ((s[g].toNat : Int) - 48) < -9223372036854775808
              · have HF : Hid (res = .error 20) := Lib.hid (rdNum_of_err HRES.out (by
                  have e1 := HA.out
                  rw [HD.out, hcons.out, dg_over _ _ _ _ _ _ _ (.inl HX.out) HDG.out h3 (by omega)]
                  rfl))
                clear h3 hd1
                by_cases hbig : a < -922337203685477580
                all_goals
                  go_wp2
                  go_ret3
                  exact NumPost.err HF.out rfl rfl
              · have HF : Hid (R0 = more (g + 1 - 1) (dg 9223372036854775808 101 20 (decide (g + 1 = 1)) (10 * m + (s[g].toNat - 48)) (s.data.toList.drop (g + 1)))) := Lib.hid (by
                  have e1 := HA.out
                  rw [HD.out, hcons.out, dg_on _ _ _ _ _ _ _ (.inl HX.out) HDG.out h3 (by omega), more_more, decide_eq_false (by omega : ¬ g + 1 = 1), show 1 + (g - 1) = g + 1 - 1 by omega])
                have HAA : Hid (10 * a + -((s[g].toNat : Int) - 48) = -((10 * m + (s[g].toNat - 48) : Nat) : Int)) := Lib.hid (by
                  have e1 := HA.out
                  omega)
                have hbig : ¬ a < -922337203685477580 := by omega
                clear h3 hd1
                go_wp2
                go_round
                case rel => exact ⟨g + 1, _, _, by go_num, rfl, by omega, by omega, HAA, by omega, by omega, HZN, by omega, HF⟩
                case measure => simp [intOf]; omega
          · have hgp : g = 1 := by omega
            have ha00 : a = 0 := hj0 hgp
            subst hgp
            have hm0 : m = 0 := by have := HA.out; omega
            have HF : Hid (R0 = more (1 + 1 - 1) (dg 9223372036854775808 101 20 (decide (1 + 1 = 1)) (10 * m + (s[1].toNat - 48)) (s.data.toList.drop (1 + 1)))) := Lib.hid (by
              rw [HD.out, hcons.out, dg_on _ _ _ _ _ _ _ (.inl hxs) hdig (.inl (decide_eq_true rfl)) (by omega), more_more, decide_eq_false (by omega : ¬ 1 + 1 = 1), show 1 + (1 - 1) = 1 + 1 - 1 by omega])
            have HZN : Hid (1 < 1 + 1 → ((∃ h : 1 < s.size, s[1] = 48) ↔ 10 * m + (s[1].toNat - 48) = 0)) := Lib.hid (fun _ => by
              subst hm0
              constructor
              · rintro ⟨_, e⟩; rw [e]; rfl
              · intro e
                refine ⟨hlt, ?_⟩
                have : s[1].toNat = 48 := by omega
                exact UInt8.toNat_inj.1 (by rw [this]; rfl))
            have HX := Lib.hid hxs
            have HDG := Lib.hid hdig
            have HAA : Hid (-((s[1].toNat : Int) - 48) = -((10 * m + (s[1].toNat - 48) : Nat) : Int)) := Lib.hid (by subst hm0; omega)
            clear hxs hdig hd1 hj0 hm0
            subst ha00
            have h48b : ((s[1].toNat : Int) == 48) = false := by rw [u8_lit hlt 48 48 rfl]; simpa using HN48.out hlt
            all_goals
              go_wp2
              go_round
              case rel => exact ⟨1 + 1, _, _, rfl, rfl, by omega, by omega, Lib.hid (by have := HAA.out; omega), by omega, by omega, HZN, by omega, HF⟩
              case measure => simp [intOf]; omega
        · have hdf : isDig s[g] = false := by simpa using hdig
          have hnd : (s[g].toNat : Int) < 48 ∨ (57 : Int) < (s[g].toNat : Int) := by
            by_cases h1 : (s[g].toNat : Int) < 48
            · exact .inl h1
            · refine .inr ?_
              by_cases h2 : (57 : Int) < (s[g].toNat : Int)
              · exact h2
              · exact absurd (isDig_iff.2 (by omega)) hdig
          have HF : Hid (res = .error 20) := Lib.hid (rdNum_of_err HRES.out (by
            rw [HD.out, hcons.out, dg_bad _ _ _ _ _ _ _ (.inl hxs) (.inl hdf)]
            rfl))
          have HX := Lib.hid hxs
          have HDG := Lib.hid hdf
          clear hxs hdf hdig hj0
          rcases hnd with hnd | hnd
          all_goals
            go_wp2
            go_ret3
            exact NumPost.err HF.out rfl rfl
    · have HF : Hid (res = .error 21) := Lib.hid (rdNum_of_err HRES.out (by
        rw [HD.out, drop_nil s g hlt, dg_nil]
        rfl))
      have hpe : ((g : Int) == (s.size : Int)) = true := by rw [beq_iff_eq]; omega
      clear hj0
      go_wp2
      go_ret3
      exact NumPost.err HF.out rfl rfl

end Go.Proofs.YtmepahlmbopacaaDoor.Be
