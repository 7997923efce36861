/- The walk of GlyphNames: it returns true. Conditions: Go's two tables of UTF-8 lie as start-up lays them. -/
import Derived.Test.YtdhiipnnmonkoaaDoorRefName
import Derived.Test.YtdhiipnnmonkoaaDoorLawA
set_option linter.unusedVariables false
namespace Go.Proofs.YtdhiipnnmonkoaaDoor
open Go Go.RowKit

theorem letter_fold {n : Int} (h : letterB n = true) : letterB (foldR n) = true := by
  rcases foldR_cases n with ⟨hg, e, _, _⟩ | ⟨hg, e⟩
  · rw [e]
    simp [letterB, hg]
  · rw [e]; exact h
theorem mark_fold {n : Int} (h : markB n = true) : markB (foldR n) = true := by
  rcases foldR_cases n with ⟨hg, e, _, _⟩ | ⟨hg, e⟩
  · rw [e]
    simp [markB, letterB, hg]
  · rw [e]; exact h
theorem name_fold {l : List Int} (h : nameB l = true) : nameB (foldL l) = true := by
  unfold nameB at h ⊢
  simp only [Bool.and_eq_true, decide_eq_true_eq, List.all_eq_true] at h ⊢
  obtain ⟨h1, h2, h3⟩ := h
  refine ⟨by simpa [foldL] using h1, ?_, ?_⟩
  · cases l with
    | nil => simp at h1
    | cons r t => exact letter_fold (by simpa using h2)
  · intro x hx
    obtain ⟨y, hy, rfl⟩ := List.mem_map.1 hx
    exact mark_fold (h3 y hy)
theorem name_is (s : ByteArray) (rs : List Int) (b : Bool) (hg : Good rs) (hs : s.data.toList = enc rs) (hsz : s.size ≤ 9223372036854775807) (w : World) (h : nameB rs = b) : Calls Tryd.prog 25 #[.string s] w (NameIs b w) := by
  have := name_ok s rs hg hs hsz w
  rwa [h] at this
theorem name_c1 (w : World) : Calls Tryd.prog 25 #[.string { data := #[97, 45, 49] }] w (NameIs true w) :=
  name_is _ [97, 45, 49] true (by unfold Good; decide) (by decide +kernel) (by decide) w (by decide +kernel)
theorem name_c2 (w : World) : Calls Tryd.prog 25 #[.string { data := #[195, 132, 45, 49] }] w (NameIs true w) :=
  name_is _ [196, 45, 49] true (by unfold Good; decide) (by decide +kernel) (by decide) w (by decide +kernel)
theorem name_c3 (w : World) : Calls Tryd.prog 25 #[.string { data := #[49, 97] }] w (NameIs false w) :=
  name_is _ [49, 97] false (by unfold Good; decide) (by decide +kernel) (by decide) w (by decide +kernel)
theorem name_long (s : ByteArray) (w : World) (h : 4096 < s.size) (hm : s.size ≤ 9223372036854775807) : Calls Tryd.prog 25 #[.string s] w (NameIs false w) := by
  rcases text_or s.data.toList with ⟨rs, hg, hs⟩ | hn
  · refine name_is s rs false hg hs hm w ?_
    have h1 := (enc_len rs).2
    rw [← hs, size_list] at h1
    unfold nameB
    rw [decide_eq_false (by omega)]
    rfl
  · exact name_no s hn hm w
theorem refName_is (s : ByteArray) (rs : List Int) (b : Bool) (hg : Good rs) (hs : s.data.toList = enc rs) (hsz : s.size ≤ 100000) (w : World) (h : nameB rs = b) : Calls Tryd.prog 26 #[.string s] w (NameIs b w) := by
  have := refName_ok s rs hg hs hsz w
  rwa [h] at this

set_option maxHeartbeats 2000000 in
theorem glyphNames_walk (s : ByteArray) (w : World) (hm : s.size ≤ 9223372036854775807) (hT : Tabs w) : Calls Tryd.prog 10 #[.string s] w (Yes w) := by
  by_cases hlen : 4096 < s.size
  · go_enter Tryd.func10, Tryd.ntmps10
    go_wp2_with fail
    refine (name_c1 _).mono ?_
    rintro e w1 ⟨rfl, hb1⟩
    go_wp2_with fail
    refine (name_long s _ hlen hm).mono ?_
    rintro e w2 ⟨rfl, hb2⟩
    go_wp2
    go_ret
    exact ⟨rfl, below_then hb1 hb2⟩
  · have hs4 : s.size ≤ 4096 := by omega
    rcases text_or s.data.toList with ⟨rs, hg, hs⟩ | hn
    · have hel := (enc_len (foldL rs)).2
      have hel2 := (enc_len rs).1
      have hfl : (foldL rs).length = rs.length := by simp [foldL]
      have hel3 : rs.length ≤ 4096 := by rw [← hs, size_list] at hel2; omega
      have hz : (⟨(enc (foldL rs)).toArray⟩ : ByteArray).size ≤ 9223372036854775807 := by
        show (enc (foldL rs)).toArray.size ≤ 9223372036854775807
        simp
        omega
      have HZ := Lib.hid hz
      have HGF := Lib.hid hg.fold
      have HS := Lib.hid hs
      clear hs hel hel2 hfl hz
      cases hnm : nameB rs with
      | true =>
        have HF := Lib.hid (name_fold hnm)
        have HN := Lib.hid hnm
        clear hnm
        go_enter Tryd.func10, Tryd.ntmps10
        go_wp2_with fail
        refine (name_is s rs true hg HS.out hm _ HN.out).mono ?_
        rintro e w1 ⟨rfl, hb1⟩
        go_wp2_with fail
        refine (fold_ok s rs hg HS.out (by omega) _ (hT.below hb1)).mono ?_
        rintro e w2 ⟨rfl, hb2⟩
        have h02 := below_then hb1 hb2
        go_wp2_with fail
        refine (refName_is s rs true hg HS.out (by omega) _ HN.out).mono ?_
        rintro e w3 ⟨rfl, hb3⟩
        have h03 := below_then h02 hb3
        go_wp2_with fail
        refine (name_is _ (foldL rs) true HGF.out rfl HZ.out _ HF.out).mono ?_
        rintro e w4 ⟨rfl, hb4⟩
        have h04 := below_then h03 hb4
        go_wp2_with fail
        refine (name_c2 _).mono ?_
        rintro e w5 ⟨rfl, hb5⟩
        have h05 := below_then h04 hb5
        go_wp2_with fail
        refine (name_c3 _).mono ?_
        rintro e w6 ⟨rfl, hb6⟩
        go_wp2
        go_ret
        exact ⟨rfl, below_then h05 hb6⟩
      | false =>
        have HN := Lib.hid hnm
        clear hnm
        go_enter Tryd.func10, Tryd.ntmps10
        go_wp2_with fail
        refine (name_is s rs false hg HS.out hm _ HN.out).mono ?_
        rintro e w1 ⟨rfl, hb1⟩
        go_wp2_with fail
        refine (fold_ok s rs hg HS.out (by omega) _ (hT.below hb1)).mono ?_
        rintro e w2 ⟨rfl, hb2⟩
        have h02 := below_then hb1 hb2
        go_wp2_with fail
        refine (refName_is s rs false hg HS.out (by omega) _ HN.out).mono ?_
        rintro e w3 ⟨rfl, hb3⟩
        have h03 := below_then h02 hb3
        go_wp2_with fail
        refine (name_c2 _).mono ?_
        rintro e w5 ⟨rfl, hb5⟩
        have h05 := below_then h03 hb5
        go_wp2_with fail
        refine (name_c3 _).mono ?_
        rintro e w6 ⟨rfl, hb6⟩
        go_wp2
        go_ret
        exact ⟨rfl, below_then h05 hb6⟩
    · have HN := Lib.hid hn
      clear hn
      go_enter Tryd.func10, Tryd.ntmps10
      go_wp2_with fail
      refine (name_no s HN.out hm _).mono ?_
      rintro e w1 ⟨rfl, hb1⟩
      go_wp2_with fail
      refine (fold_no s HN.out (by omega) _ (hT.below hb1)).mono ?_
      rintro e w2 ⟨rfl, hb2⟩
      have h02 := below_then hb1 hb2
      go_wp2_with fail
      refine (refName_no s HN.out (by omega) _).mono ?_
      rintro e w3 ⟨rfl, hb3⟩
      have h03 := below_then h02 hb3
      go_wp2_with fail
      refine (name_c2 _).mono ?_
      rintro e w5 ⟨rfl, hb5⟩
      have h05 := below_then h03 hb5
      go_wp2_with fail
      refine (name_c3 _).mono ?_
      rintro e w6 ⟨rfl, hb6⟩
      go_wp2
      go_ret
      exact ⟨rfl, below_then h05 hb6⟩
end Go.Proofs.YtdhiipnnmonkoaaDoor
