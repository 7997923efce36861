/- What Name of the document's answers returns: whether the bytes are a name. Conditions: Go's two tables of UTF-8 lie as start-up lays them. -/
import Derived.Test.YtdhiipnnmonkoaaDoorName
import Derived.Test.YtdhiipnnmonkoaaDoorRefFold
import Derived.Test.YtdhiipnnmonkoaaDoorLawA
set_option linter.unusedVariables false
namespace Go.Proofs.YtdhiipnnmonkoaaDoor
open Go Go.RowKit

theorem letter_is (n : Int) (b : Bool) (w : World) (h : letterB n = b) (h0 : -1000 ≤ n) (h1 : n ≤ 2147483647) : Calls Tryd.prog 43 #[.int .i64 n] w fun e w' => e = .returned (.bool b) ∧ w = w' := by
  have := letter_any n w h0 h1
  rwa [h] at this
theorem refName_no (s : ByteArray) (hn : NoText s.data.toList) (hsz : s.size ≤ 100000) (w : World) : Calls Tryd.prog 26 #[.string s] w (NameIs false w) := by
  have HN := Lib.hid hn
  clear hn
  go_enter Tryd.func26, Tryd.ntmps26
  go_wp2_with (go_at_call 14; refine (refRunes_no s HN.out hsz _).mono ?_; rintro e w1 ⟨rfl, hb1⟩)
  go_ret
  exact ⟨rfl, hb1⟩
theorem all_take_next {l : List Int} {k : Nat} (hk : k < l.length) (h : (l.take k).all markB = true) (hx : markB (l.getD k 0) = true) : (l.take (k + 1)).all markB = true := by
  rw [take_snoc_getD l k hk, List.all_append, h]
  simpa using hx
theorem all_not {l : List Int} {k : Nat} (hk : k < l.length) (hx : markB (l.getD k 0) = false) : nameB l = false := by
  have : l.all markB = false := by
    rw [List.all_eq_false]
    exact ⟨l.getD k 0, by rw [List.getD_eq_getElem?_getD, List.getElem?_eq_getElem hk]; exact List.getElem_mem hk, by rw [hx]; simp⟩
  simp [nameB, this]
set_option maxRecDepth 100000 in
set_option maxHeartbeats 4000000 in
theorem refName_ok (s : ByteArray) (rs : List Int) (hg : Good rs) (hs : s.data.toList = enc rs) (hsz : s.size ≤ 100000) (w : World) : Calls Tryd.prog 26 #[.string s] w (NameIs (nameB rs) w) := by
  have hl : rs.length ≤ s.size := by rw [← size_list, hs]; exact (enc_len rs).1
  have HS := Lib.hid hs
  clear hs
  by_cases hlen : 1 ≤ rs.length ∧ rs.length ≤ 16
  · obtain ⟨hl1, hl2⟩ := hlen
    have h0g : isR (rs.getD 0 0) = true := hg _ (by rw [List.getD_eq_getElem?_getD, List.getElem?_eq_getElem (by omega)]; exact List.getElem_mem _)
    obtain ⟨hp0, hp1, _⟩ := (isR_iff _).1 h0g
    cases h0 : letterB (rs.getD 0 0) with
    | false =>
      have hfin : nameB rs = false := by unfold nameB; rw [h0]; simp
      have HF := Lib.hid hfin
      have H0 := Lib.hid h0
      clear hfin h0 h0g
      go_enter Tryd.func26, Tryd.ntmps26
      go_wp2_with fail
      refine (refRunes_ok s rs hg HS.out hsz _).mono ?_
      rintro e w1 ⟨A, n, c, rfl, hr1, hb1⟩
      have hn1 := hr1.len
      have hn2 : 1 ≤ n := by omega
      have hn3 : n ≤ 16 := by omega
      clear hn1
      obtain ⟨ad, rfl, hbk, hc⟩ := hr1.int_at (k := 0) (by omega)
      rw [show ad.add 0 = ad by simp [Addr.add]] at hc
      generalize rs.getD 0 0 = X at hc H0 hp0 hp1
      go_wp2_with (go_at_call 43; refine (letter_is _ false _ H0.out (by omega) (by omega)).mono ?_; rintro e w' ⟨rfl, rfl⟩)
      go_ret
      exact ⟨ret_bool HF.out.symm, hb1⟩
    | true =>
      have H0 := Lib.hid h0
      clear h0 h0g
      go_enter Tryd.func26, Tryd.ntmps26
      go_wp2_with fail
      refine (refRunes_ok s rs hg HS.out hsz _).mono ?_
      rintro e w1 ⟨A, n, c, rfl, hr1, hb1⟩
      have hn1 := hr1.len
      have hn2 : 1 ≤ n := by omega
      have hn3 : n ≤ 16 := by omega
      have hn4 : n ≤ rs.length := by omega
      have hn5 : rs.length ≤ n := by omega
      clear hn1
      obtain ⟨ad, rfl, hbk, hc⟩ := hr1.int_at (k := 0) (by omega)
      rw [show ad.add 0 = ad by simp [Addr.add]] at hc
      have hcc := fun k (hk : k < n) => (hr1.int_at (k := k) hk)
      have HCC := Lib.hid hcc
      clear hcc
      generalize hX0 : rs.getD 0 0 = X at hc H0 hp0 hp1
      have HX0 := Lib.hid hX0
      clear hX0
      go_wp2_with (go_at_call 43; refine (letter_is _ true _ H0.out (by omega) (by omega)).mono ?_; rintro e w' ⟨rfl, rfl⟩)
      clear hc
      go_loopw [5] (fun i wr => ∃ k : Nat, k ≤ n ∧ i = .int .i64 k ∧ Hid ((rs.take k).all markB = true) ∧ w1 = wr) (fun i _ => n - (intOf i).toNat)
      case atStart => exact ⟨0, Nat.zero_le _, rfl, Lib.hid rfl, rfl⟩
      case round =>
        obtain ⟨k, hk, rfl, HA, rfl⟩ := hrel
        by_cases hlt : k < n
        · obtain ⟨ad', e, _, hc⟩ := HCC.out k hlt
          injection e with e
          subst e
          have hX : isR (rs.getD k 0) = true := hg _ (by rw [List.getD_eq_getElem?_getD, List.getElem?_eq_getElem (by omega)]; exact List.getElem_mem _)
          obtain ⟨hq0, hq1, _⟩ := (isR_iff _).1 hX
          clear hX
          have HNX := Lib.hid (all_take_next (l := rs) (k := k) (by omega) HA.out)
          have HNO := Lib.hid (all_not (l := rs) (k := k) (by omega))
          generalize rs.getD k 0 = Y at hc hq0 hq1 HNX HNO
          have hltz : (k : Int) < (n : Int) := by omega
          cases hL : letterB Y with
          | true =>
            have HM := Lib.hid (HNX.out (letter_mark hL))
            have HL := Lib.hid hL
            clear hL
            go_wp2_with (go_at_call 43; refine (letter_is _ true _ HL.out (by omega) (by omega)).mono ?_; rintro e w' ⟨rfl, rfl⟩)
            go_roundw
            case rel => exact ⟨k + 1, by omega, by go_num, HM, trivial⟩
            case measure => simp [intOf]; omega
          | false =>
            have hparts : Y < 45 ∨ Y = 45 ∨ (45 < Y ∧ Y < 48) ∨ (48 ≤ Y ∧ Y ≤ 57) ∨ 57 < Y := by omega
            rcases hparts with h | h | ⟨h, h'⟩ | ⟨h, h'⟩ | h
            · have HM := Lib.hid (HNO.out (by simp [markB, hL]; omega))
              have HL := Lib.hid hL
              clear hL
              have hne : (Y != 45) = true := by rw [bne_iff_ne]; omega
              go_wp2_with (go_at_call 43; refine (letter_is _ false _ HL.out (by omega) (by omega)).mono ?_; rintro e w' ⟨rfl, rfl⟩)
              go_ret
              exact ⟨ret_bool HM.out.symm, hb1⟩
            · have HM := Lib.hid (HNX.out (by simp [markB, h]))
              have HL := Lib.hid hL
              clear hL
              subst h
              go_wp2_with (go_at_call 43; refine (letter_is _ false _ HL.out (by omega) (by omega)).mono ?_; rintro e w' ⟨rfl, rfl⟩)
              go_roundw
              case rel => exact ⟨k + 1, by omega, by go_num, HM, trivial⟩
              case measure => simp [intOf]; omega
            · have HM := Lib.hid (HNO.out (by simp [markB, hL]; omega))
              have HL := Lib.hid hL
              clear hL
              have hne : (Y != 45) = true := by rw [bne_iff_ne]; omega
              go_wp2_with (go_at_call 43; refine (letter_is _ false _ HL.out (by omega) (by omega)).mono ?_; rintro e w' ⟨rfl, rfl⟩)
              go_ret
              exact ⟨ret_bool HM.out.symm, hb1⟩
            · have HM := Lib.hid (HNX.out (by simp [markB]; omega))
              have HL := Lib.hid hL
              clear hL
              go_wp2_with (go_at_call 43; refine (letter_is _ false _ HL.out (by omega) (by omega)).mono ?_; rintro e w' ⟨rfl, rfl⟩)
              go_roundw
              case rel => exact ⟨k + 1, by omega, by go_num, HM, trivial⟩
              case measure => simp [intOf]; omega
            · have HM := Lib.hid (HNO.out (by simp [markB, hL]; omega))
              have HL := Lib.hid hL
              clear hL
              have hne : (Y != 45) = true := by rw [bne_iff_ne]; omega
              go_wp2_with (go_at_call 43; refine (letter_is _ false _ HL.out (by omega) (by omega)).mono ?_; rintro e w' ⟨rfl, rfl⟩)
              go_ret
              exact ⟨ret_bool HM.out.symm, hb1⟩
        · go_wp2
          go_ret
          refine ⟨ret_bool ?_, hb1⟩
          have ha := HA.out
          rw [List.take_of_length_le (by omega)] at ha
          unfold nameB
          rw [HX0.out, H0.out, ha, decide_eq_true ⟨hl1, hl2⟩]
          rfl
  · have hfin : nameB rs = false := by unfold nameB; rw [decide_eq_false hlen]; rfl
    have HF := Lib.hid hfin
    clear hfin
    go_enter Tryd.func26, Tryd.ntmps26
    go_wp2_with fail
    refine (refRunes_ok s rs hg HS.out hsz _).mono ?_
    rintro e w1 ⟨A, n, c, rfl, hr1, hb1⟩
    have hn1 := hr1.len
    by_cases hn0 : n < 1
    · clear hn1
      obtain rfl : n = 0 := by omega
      go_wp2
      go_ret
      exact ⟨ret_bool HF.out.symm, hb1⟩
    · have hn6 : 16 < n := by omega
      have hn7 : n ≤ 100000 := by omega
      clear hn1 hlen
      go_wp2
      go_ret
      exact ⟨ret_bool HF.out.symm, hb1⟩
end Go.Proofs.YtdhiipnnmonkoaaDoor
