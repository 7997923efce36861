/- What length and number of the document's answers return: a text's length, a number, or why there is none. Conditions: up to 1000000000 bytes. -/
import Derived.Test.YtmepahlmbopacaaDoorBRefC
set_option linter.unusedVariables false
set_option linter.unusedSimpArgs false
namespace Go.Proofs.YtmepahlmbopacaaDoor.Be
open Go Go.RowKit

def LenPost (r : Except Int (Nat × Nat)) (w : World) (e : Ending) (w' : World) : Prop :=
  match r with
  | .error x => e = .returned (.tuple #[.int .i64 0, .int .i64 0, .int .i64 x]) ∧ w = w'
  | .ok (n, k) => e = .returned (.tuple #[.int .i64 n, .int .i64 k, .int .i64 0]) ∧ w = w'
theorem LenPost.err {r : Except Int (Nat × Nat)} {x : Int} {w w' : World} {e : Ending} (h : r = .error x) (he : e = .returned (.tuple #[.int .i64 0, .int .i64 0, .int .i64 x])) (hw : w = w') : LenPost r w e w' := by
  subst h
  exact ⟨he, hw⟩
theorem LenPost.fine {r : Except Int (Nat × Nat)} {n k : Nat} {w w' : World} {e : Ending} (h : r = .ok (n, k)) (he : e = .returned (.tuple #[.int .i64 n, .int .i64 k, .int .i64 0])) (hw : w = w') : LenPost r w e w' := by
  subst h
  exact ⟨he, hw⟩
theorem ret_t3 {a b c d : Int} {v : Value} (h : a = b) (k : c = d) : Ending.returned (.tuple #[.int .i64 a, .int .i64 c, v]) = .returned (.tuple #[.int .i64 b, .int .i64 d, v]) := by rw [h, k]
theorem u8_lit {s : ByteArray} {g : Nat} (h : g < s.size) (c : UInt8) (z : Int) (hz : z = (c.toNat : Int)) : ((s[g].toNat : Int) == z) = decide (s[g] = c) := by
  subst hz
  rw [u8_eq_cast, Bool.eq_iff_iff]
  simp

set_option maxRecDepth 100000 in
set_option maxHeartbeats 8000000 in
theorem length_any (s : ByteArray) (hs : s.size ≤ 1000000000) (w : World) : Calls Tryd.prog 94 #[.string s] w (LenPost (dg 65536 58 23 true 0 s.data.toList) w) := by
  generalize hr : dg 65536 58 23 true 0 s.data.toList = res
  have HR := Lib.hid hr
  clear hr
  go_enter Tryd.func94, Tryd.ntmps94
  go_wp2
  go_loop [5, 6] (fun n i => ∃ (g m : Nat) (a : Int), i = .int .i64 (g : Int) ∧ n = .int .i64 a ∧ 0 ≤ a ∧ a ≤ 65536 ∧ Hid (a = (m : Int)) ∧ g ≤ s.size ∧ Hid (0 < g → ((∃ h : 0 < s.size, s[0] = 48) ↔ m = 0)) ∧ (g = 0 → a = 0) ∧ Hid (res = more g (dg 65536 58 23 (decide (g = 0)) m (s.data.toList.drop g)))) (fun _ i => s.size - (intOf i).toNat)
  case atStart => exact ⟨0, 0, 0, rfl, rfl, by omega, by omega, Lib.hid rfl, Nat.zero_le _, Lib.hid (fun h => absurd h (by omega)), fun _ => rfl, Lib.hid (by rw [more_zero, List.drop_zero, decide_eq_true rfl]; exact HR.out.symm)⟩
  case round =>
    obtain ⟨g, m, a, rfl, rfl, ha0, ha1, HA, hg, HZ, hj0, HD⟩ := hrel
    by_cases hlt : g < s.size
    · have hcons := Lib.hid (drop_cons s g hlt)
      have hpz : (g : Int) < (s.size : Int) := by omega
      have h0z : 0 < s.size := by omega
      by_cases hxs : s[g] = 58
      · have heq : ((s[g].toNat : Int) == 58) = true := by rw [u8_lit hlt 58 58 rfl]; simpa using hxs
        by_cases hj : 0 < g
        · have HF : Hid (res = .ok (m, g + 1)) := Lib.hid (by
            rw [HD.out, hcons.out, hxs, decide_eq_false (by omega), dg_stop]
            simp only [more]
            congr 2
            omega)
          clear hxs
          go_wp2
          go_ret3
          exact LenPost.fine HF.out (ret_t3 HA.out (by omega)) rfl
        · have hgp : g = 0 := by omega
          subst hgp
          have HF : Hid (res = .error 20) := Lib.hid (by
            rw [HD.out, hcons.out, hxs, decide_eq_true rfl, dg_bad _ _ _ _ _ _ _ (.inr rfl) (.inl nd58)]
            rfl)
          have hgt : (57 : Int) < (s[0].toNat : Int) := by rw [hxs]; decide
          clear hxs
          go_wp2
          go_ret3
          exact LenPost.err HF.out rfl rfl
      · have heq : ((s[g].toNat : Int) == 58) = false := by rw [u8_lit hlt 58 58 rfl]; simpa using hxs
        by_cases hdig : isDig s[g] = true
        · have hd1 := isDig_iff.1 hdig
          have hd2 : (48 : Int) ≤ (s[g].toNat : Int) := by omega
          have hd3 : (s[g].toNat : Int) ≤ 57 := by omega
          by_cases hj : 0 < g
          · have hjz : (0 : Int) < (g : Int) := by omega
            by_cases hm0 : m = 0
            · have HF : Hid (res = .error 20) := Lib.hid (by
                rw [HD.out, hcons.out, decide_eq_false (by omega), dg_bad _ _ _ _ _ _ _ (.inl hxs) (.inr ⟨rfl, hm0⟩)]
                rfl)
              have h48 : s[0] = 48 := ((HZ.out hj).2 hm0).2
              have h48b : ((s[0].toNat : Int) == 48) = true := by rw [u8_lit h0z 48 48 rfl]; simpa using h48
              have HM := Lib.hid hm0
              clear hxs hm0 h48 hdig hd1
              go_wp2
              go_ret3
              exact LenPost.err HF.out rfl rfl
            · have h48 : ¬ s[0] = 48 := fun e => hm0 ((HZ.out hj).1 ⟨h0z, e⟩)
              have h48b : ((s[0].toNat : Int) == 48) = false := by rw [u8_lit h0z 48 48 rfl]; simpa using h48
              have h3 : decide (g = 0) = true ∨ m ≠ 0 := .inr hm0
              have HZN : Hid (0 < g + 1 → ((∃ h : 0 < s.size, s[0] = 48) ↔ 10 * m + (s[g].toNat - 48) = 0)) := Lib.hid (fun _ => ⟨fun ⟨_, e⟩ => absurd e h48, fun e => absurd e (by omega)⟩)
              have HX := Lib.hid hxs
              have HDG := Lib.hid hdig
              clear hxs hdig h48 hm0
              by_cases hov : 65536 < 10 * a + ((s[g].toNat : Int) - 48)
              · have HF : Hid (res = .error 23) := Lib.hid (by
                  have e1 := HA.out
                  rw [HD.out, hcons.out, dg_over _ _ _ _ _ _ _ (.inl HX.out) HDG.out h3 (by omega)]
                  rfl)
                clear h3 hd1 hj0
                go_wp2
                go_ret3
                exact LenPost.err HF.out rfl rfl
              · have HF : Hid (res = more (g + 1) (dg 65536 58 23 (decide (g + 1 = 0)) (10 * m + (s[g].toNat - 48)) (s.data.toList.drop (g + 1)))) := Lib.hid (by
                  have e1 := HA.out
                  rw [HD.out, hcons.out, dg_on _ _ _ _ _ _ _ (.inl HX.out) HDG.out h3 (by omega), more_more, decide_eq_false (by omega : ¬ g + 1 = 0), Nat.add_comm 1 g])
                have HAA : Hid (10 * a + ((s[g].toNat : Int) - 48) = ((10 * m + (s[g].toNat - 48) : Nat) : Int)) := Lib.hid (by
                  have e1 := HA.out
                  omega)
                clear h3 hd1 hj0
                go_wp2
                go_round
                case rel => exact ⟨g + 1, _, _, by go_num, rfl, by omega, by omega, HAA, by omega, HZN, by omega, HF⟩
                case measure => simp [intOf]; omega
          · have hgp : g = 0 := by omega
            subst hgp
            have ha00 : a = 0 := hj0 rfl
            have h3 : decide (0 = 0) = true ∨ m ≠ 0 := .inl (decide_eq_true rfl)
            have HZN : Hid (0 < 0 + 1 → ((∃ h : 0 < s.size, s[0] = 48) ↔ 10 * m + (s[0].toNat - 48) = 0)) := Lib.hid (fun _ => by
              have hm0 : m = 0 := by have := HA.out; omega
              subst hm0
              constructor
              · rintro ⟨_, e⟩; rw [e]; rfl
              · intro e
                refine ⟨h0z, ?_⟩
                have : s[0].toNat = 48 := by omega
                exact UInt8.toNat_inj.1 (by rw [this]; rfl))
            have HX := Lib.hid hxs
            have HDG := Lib.hid hdig
            clear hxs hdig
            have hov : ¬ 65536 < 10 * a + ((s[0].toNat : Int) - 48) := by omega
            have HF : Hid (res = more (0 + 1) (dg 65536 58 23 (decide (0 + 1 = 0)) (10 * m + (s[0].toNat - 48)) (s.data.toList.drop (0 + 1)))) := Lib.hid (by
              have e1 := HA.out
              rw [HD.out, hcons.out, dg_on _ _ _ _ _ _ _ (.inl HX.out) HDG.out h3 (by omega), more_more, decide_eq_false (by omega : ¬ 0 + 1 = 0)])
            have HAA : Hid (10 * a + ((s[0].toNat : Int) - 48) = ((10 * m + (s[0].toNat - 48) : Nat) : Int)) := Lib.hid (by
              have e1 := HA.out
              omega)
            clear h3 hd1 hj0
            subst ha00
            go_wp2
            go_round
            case rel => exact ⟨1, _, _, rfl, rfl, by omega, by omega, Lib.hid (by have := HAA.out; omega), by omega, HZN, by omega, HF⟩
            case measure => simp [intOf]; omega
        · have hdf : isDig s[g] = false := by simpa using hdig
          have hnd : (s[g].toNat : Int) < 48 ∨ (57 : Int) < (s[g].toNat : Int) := by
            by_cases h1 : (s[g].toNat : Int) < 48
            · exact .inl h1
            · refine .inr ?_
              by_cases h2 : (57 : Int) < (s[g].toNat : Int)
              · exact h2
              · exact absurd (isDig_iff.2 (by omega)) hdig
          have HF : Hid (res = .error 20) := Lib.hid (by
            rw [HD.out, hcons.out, dg_bad _ _ _ _ _ _ _ (.inl hxs) (.inl hdf)]
            rfl)
          have HX := Lib.hid hxs
          have HDG := Lib.hid hdf
          clear hxs hdf hdig hj0
          rcases hnd with hnd | hnd
          all_goals
            go_wp2
            go_ret3
            exact LenPost.err HF.out rfl rfl
    · have HF : Hid (res = .error 21) := Lib.hid (by
        rw [HD.out, drop_nil s g hlt, dg_nil]
        rfl)
      have hpz : ¬ (g : Int) < (s.size : Int) := by omega
      go_wp2
      go_ret3
      exact LenPost.err HF.out rfl rfl
end Go.Proofs.YtmepahlmbopacaaDoor.Be
