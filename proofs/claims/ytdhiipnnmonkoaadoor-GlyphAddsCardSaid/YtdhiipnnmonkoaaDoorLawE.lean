/- The walk of GlyphAdds: it returns true. Conditions: Go's two tables of UTF-8 lie as start-up lays them. -/
import Derived.Test.YtdhiipnnmonkoaaDoorLawB
set_option linter.unusedVariables false
namespace Go.Proofs.YtdhiipnnmonkoaaDoor
open Go Go.RowKit

theorem good_append {a b : List Int} : Good (a ++ b) ↔ Good a ∧ Good b := ⟨fun h => ⟨h.left, h.right⟩, fun h => h.1.append h.2⟩
theorem cat_data (sa sb : ByteArray) (a b : List Int) (ha : sa.data.toList = enc a) (hb : sb.data.toList = enc b) : (sa ++ sb).data.toList = enc (a ++ b) := by
  rw [ByteArray.data_append, Array.toList_append, ha, hb, enc_append]
set_option maxRecDepth 100000 in
set_option maxHeartbeats 4000000 in
theorem glyphAdds_walk (A : Option Addr) (n c : Nat) (a : List Int) (A' : Option Addr) (n' c' : Nat) (b : List Int) (w : World) (hx : Reads w w.heap.size 1 A n (ints a)) (hy : Reads w w.heap.size 1 A' n' (ints b)) (hT : Tabs w) : Calls Tryd.prog 11 #[.slice A n c, .slice A' n' c'] w (Yes w) := by
  by_cases hlen : 1024 < n
  · go_enter Tryd.func11, Tryd.ntmps11
    go_wp2_with (go_at_call 12; refine (runes_true _ hT).mono ?_; rintro e w1 ⟨rfl, hb1⟩)
    go_ret
    exact ⟨rfl, hb1⟩
  by_cases hlen2 : 1024 < n'
  · go_enter Tryd.func11, Tryd.ntmps11
    go_wp2_with (go_at_call 12; refine (runes_true _ hT).mono ?_; rintro e w1 ⟨rfl, hb1⟩)
    go_ret
    exact ⟨rfl, hb1⟩
  have hn : n ≤ 1024 := by omega
  have hn' : n' ≤ 1024 := by omega
  clear hlen hlen2
  have hla := hx.len
  have hlb := hy.len
  have hab : a.length + b.length ≤ 20000 := by omega
  clear hla hlb
  obtain ⟨i0, hi, hz0, hz1, hz2⟩ := info_parts int_info
  obtain ⟨sa, hsa⟩ : ∃ sa : ByteArray, sa.data.toList = enc a := ⟨⟨(enc a).toArray⟩, rfl⟩
  obtain ⟨sb, hsb⟩ : ∃ sb : ByteArray, sb.data.toList = enc b := ⟨⟨(enc b).toArray⟩, rfl⟩
  have hza : sa.size ≤ 80000 := by have := (enc_len a).2; rw [← size_list, hsa]; omega
  have hzb : sb.size ≤ 80000 := by have := (enc_len b).2; rw [← size_list, hsb]; omega
  have hzab : sa.size + sb.size ≤ 80000 := by have := (enc_len a).2; have := (enc_len b).2; rw [← size_list, ← size_list, hsa, hsb]; omega
  have hcs : (sa ++ sb).size ≤ 100000 := by rw [← size_list, ByteArray.data_append, Array.toList_append, List.length_append, size_list, size_list]; omega
  have HCS := Lib.hid hcs
  have HCAT := Lib.hid (cat_data sa sb a b hsa hsb)
  have HSA := Lib.hid hsa
  have HSB := Lib.hid hsb
  clear hsa hsb hcs
  by_cases hga : Good a
  · have HGA := Lib.hid hga
    clear hga
    by_cases hgb : Good b
    · have HGB := Lib.hid hgb
      clear hgb
      go_enter Tryd.func11, Tryd.ntmps11
      go_wp2_with fail
      refine (text_is _ _ _ _ a _ sa HSA.out HGA.out hx (Nat.le_refl _) (by omega)).mono ?_
      rintro e w1 ⟨rfl, hb1⟩
      go_wp2_with fail
      refine (text_is _ _ _ _ b _ sb HSB.out HGB.out (hy.below hb1) hb1.size (by omega)).mono ?_
      rintro e w2 ⟨rfl, hb2⟩
      have h02 := below_then hb1 hb2
      have hx2 := hx.below h02
      have hy2 := hy.below h02
      go_wp2_with (first | (at_builtin; refine wpList_append_any _ rfl (.tmp 33) (.tmp 34) _ rfl w.heap.size 3 i0 _ 1 8 Tryd.underlying23 hi hz0 hz1 hz2 rfl (by omega) (.slice none 0 0) 0 [] rfl ⟨by simp, .inl ⟨rfl, rfl⟩⟩ w.heap.size A n c (ints a) rfl hx2 (ints_one _) (by simp only [maxLen]; omega) (by omega) h02.size ?_; intro v3 w3 hown3 hg3 hat3; have h03 : Below w.heap.size w w3 := h02.grown hg3 h02.size (by simp [Value.ownBlock])) | (at_builtin; refine wpList_append_any _ rfl (.tmp 36) (.tmp 37) _ rfl w.heap.size 3 i0 _ 1 8 Tryd.underlying23 hi hz0 hz1 hz2 rfl (by omega) v3 (0 + n) ([] ++ ints a) rfl hown3 w.heap.size A' n' c' (ints b) rfl (hy.below h03) (ints_one _) (by simp only [maxLen]; omega) (by omega) h03.size ?_; intro v4 w4 hown4 hg4 hat4; have h04 : Below w.heap.size w w4 := h03.grown hg4 h03.size (fun k hk => (hown3.lt k hk).1); obtain ⟨A4, c4, hv4⟩ := own_shape hown4; subst hv4))
      have hr4 : Reads w4 w4.heap.size 1 A4 (n + n') (ints (a ++ b)) := by
        have := Reads.of_own hown4
        simpa [ints] using this
      have hn4 : n + n' ≤ 100000 := by omega
      generalize n + n' = N4 at hr4 hn4
      clear hown4 hat4 hat3 hg4
      refine (text_is _ _ _ _ (a ++ b) _ (sa ++ sb) HCAT.out (HGA.out.append HGB.out) hr4 (Nat.le_refl _) hn4).mono ?_
      rintro e w5 ⟨rfl, hb5⟩
      have h05 := below_then h04 hb5
      go_wp2_with fail
      refine (runes_ok (sa ++ sb) (a ++ b) (HGA.out.append HGB.out) HCAT.out HCS.out _ (hT.below h05)).mono ?_
      rintro e w6 ⟨A6, n6, c6, rfl, hr6, hb6⟩
      have h06 := below_then h05 hb6
      have hn6 := hr6.len
      have hn6' : n6 ≤ 1000000 := by rw [List.length_append] at hn6; omega
      clear hn6
      have hr46 := (hr4.below hb5).below (hb6.mono hb5.size)
      go_wp2_with fail
      refine (same_true _ _ _ _ _ _ _ _ (a ++ b) _ hr6 hr46 hn6' (by omega)).mono ?_
      rintro e w7 ⟨rfl, q, rfl⟩
      have h07 := below_drewN h06 q
      go_wp2_with (go_at_call 12; refine (runes_true _ (hT.below h07)).mono ?_; rintro e w8 ⟨rfl, hb8⟩)
      go_ret
      exact ⟨rfl, below_then h07 hb8⟩
    · have HGB := Lib.hid hgb
      clear hgb
      go_enter Tryd.func11, Tryd.ntmps11
      go_wp2_with fail
      refine (text_is _ _ _ _ a _ sa HSA.out HGA.out hx (Nat.le_refl _) (by omega)).mono ?_
      rintro e w1 ⟨rfl, hb1⟩
      go_wp2_with fail
      refine (text_nogood _ _ _ _ b _ HGB.out (hy.below hb1) hb1.size (by omega)).mono ?_
      rintro e w2 ⟨rfl, hb2⟩
      have h02 := below_then hb1 hb2
      have hx2 := hx.below h02
      have hy2 := hy.below h02
      go_wp2_with (first | (at_builtin; refine wpList_append_any _ rfl (.tmp 33) (.tmp 34) _ rfl w.heap.size 3 i0 _ 1 8 Tryd.underlying23 hi hz0 hz1 hz2 rfl (by omega) (.slice none 0 0) 0 [] rfl ⟨by simp, .inl ⟨rfl, rfl⟩⟩ w.heap.size A n c (ints a) rfl hx2 (ints_one _) (by simp only [maxLen]; omega) (by omega) h02.size ?_; intro v3 w3 hown3 hg3 hat3; have h03 : Below w.heap.size w w3 := h02.grown hg3 h02.size (by simp [Value.ownBlock])) | (at_builtin; refine wpList_append_any _ rfl (.tmp 36) (.tmp 37) _ rfl w.heap.size 3 i0 _ 1 8 Tryd.underlying23 hi hz0 hz1 hz2 rfl (by omega) v3 (0 + n) ([] ++ ints a) rfl hown3 w.heap.size A' n' c' (ints b) rfl (hy.below h03) (ints_one _) (by simp only [maxLen]; omega) (by omega) h03.size ?_; intro v4 w4 hown4 hg4 hat4; have h04 : Below w.heap.size w w4 := h03.grown hg4 h03.size (fun k hk => (hown3.lt k hk).1); obtain ⟨A4, c4, hv4⟩ := own_shape hown4; subst hv4))
      have hr4 : Reads w4 w4.heap.size 1 A4 (n + n') (ints (a ++ b)) := by
        have := Reads.of_own hown4
        simpa [ints] using this
      have hn4 : n + n' ≤ 100000 := by omega
      generalize n + n' = N4 at hr4 hn4
      clear hown4 hat4 hat3 hg4
      have hbad : ¬ Good (a ++ b) := fun hh => HGB.out ((good_append.1 hh).2)
      have HBAD := Lib.hid hbad
      clear hbad
      refine (text_nogood _ _ _ _ (a ++ b) _ HBAD.out hr4 (Nat.le_refl _) hn4).mono ?_
      rintro e w5 ⟨rfl, hb5⟩
      have h05 := below_then h04 hb5
      go_wp2_with (go_at_call 12; refine (runes_true _ (hT.below h05)).mono ?_; rintro e w8 ⟨rfl, hb8⟩)
      go_ret
      exact ⟨rfl, below_then h05 hb8⟩
  · have HGA := Lib.hid hga
    clear hga
    by_cases hgb : Good b
    · have HGB := Lib.hid hgb
      clear hgb
      go_enter Tryd.func11, Tryd.ntmps11
      go_wp2_with fail
      refine (text_nogood _ _ _ _ a _ HGA.out hx (Nat.le_refl _) (by omega)).mono ?_
      rintro e w1 ⟨rfl, hb1⟩
      go_wp2_with fail
      refine (text_is _ _ _ _ b _ sb HSB.out HGB.out (hy.below hb1) hb1.size (by omega)).mono ?_
      rintro e w2 ⟨rfl, hb2⟩
      have h02 := below_then hb1 hb2
      have hx2 := hx.below h02
      have hy2 := hy.below h02
      go_wp2_with (first | (at_builtin; refine wpList_append_any _ rfl (.tmp 33) (.tmp 34) _ rfl w.heap.size 3 i0 _ 1 8 Tryd.underlying23 hi hz0 hz1 hz2 rfl (by omega) (.slice none 0 0) 0 [] rfl ⟨by simp, .inl ⟨rfl, rfl⟩⟩ w.heap.size A n c (ints a) rfl hx2 (ints_one _) (by simp only [maxLen]; omega) (by omega) h02.size ?_; intro v3 w3 hown3 hg3 hat3; have h03 : Below w.heap.size w w3 := h02.grown hg3 h02.size (by simp [Value.ownBlock])) | (at_builtin; refine wpList_append_any _ rfl (.tmp 36) (.tmp 37) _ rfl w.heap.size 3 i0 _ 1 8 Tryd.underlying23 hi hz0 hz1 hz2 rfl (by omega) v3 (0 + n) ([] ++ ints a) rfl hown3 w.heap.size A' n' c' (ints b) rfl (hy.below h03) (ints_one _) (by simp only [maxLen]; omega) (by omega) h03.size ?_; intro v4 w4 hown4 hg4 hat4; have h04 : Below w.heap.size w w4 := h03.grown hg4 h03.size (fun k hk => (hown3.lt k hk).1); obtain ⟨A4, c4, hv4⟩ := own_shape hown4; subst hv4))
      have hr4 : Reads w4 w4.heap.size 1 A4 (n + n') (ints (a ++ b)) := by
        have := Reads.of_own hown4
        simpa [ints] using this
      have hn4 : n + n' ≤ 100000 := by omega
      generalize n + n' = N4 at hr4 hn4
      clear hown4 hat4 hat3 hg4
      have hbad : ¬ Good (a ++ b) := fun hh => HGA.out ((good_append.1 hh).1)
      have HBAD := Lib.hid hbad
      clear hbad
      refine (text_nogood _ _ _ _ (a ++ b) _ HBAD.out hr4 (Nat.le_refl _) hn4).mono ?_
      rintro e w5 ⟨rfl, hb5⟩
      have h05 := below_then h04 hb5
      go_wp2_with (go_at_call 12; refine (runes_true _ (hT.below h05)).mono ?_; rintro e w8 ⟨rfl, hb8⟩)
      go_ret
      exact ⟨rfl, below_then h05 hb8⟩
    · have HGB := Lib.hid hgb
      clear hgb
      go_enter Tryd.func11, Tryd.ntmps11
      go_wp2_with fail
      refine (text_nogood _ _ _ _ a _ HGA.out hx (Nat.le_refl _) (by omega)).mono ?_
      rintro e w1 ⟨rfl, hb1⟩
      go_wp2_with fail
      refine (text_nogood _ _ _ _ b _ HGB.out (hy.below hb1) hb1.size (by omega)).mono ?_
      rintro e w2 ⟨rfl, hb2⟩
      have h02 := below_then hb1 hb2
      have hx2 := hx.below h02
      have hy2 := hy.below h02
      go_wp2_with (first | (at_builtin; refine wpList_append_any _ rfl (.tmp 33) (.tmp 34) _ rfl w.heap.size 3 i0 _ 1 8 Tryd.underlying23 hi hz0 hz1 hz2 rfl (by omega) (.slice none 0 0) 0 [] rfl ⟨by simp, .inl ⟨rfl, rfl⟩⟩ w.heap.size A n c (ints a) rfl hx2 (ints_one _) (by simp only [maxLen]; omega) (by omega) h02.size ?_; intro v3 w3 hown3 hg3 hat3; have h03 : Below w.heap.size w w3 := h02.grown hg3 h02.size (by simp [Value.ownBlock])) | (at_builtin; refine wpList_append_any _ rfl (.tmp 36) (.tmp 37) _ rfl w.heap.size 3 i0 _ 1 8 Tryd.underlying23 hi hz0 hz1 hz2 rfl (by omega) v3 (0 + n) ([] ++ ints a) rfl hown3 w.heap.size A' n' c' (ints b) rfl (hy.below h03) (ints_one _) (by simp only [maxLen]; omega) (by omega) h03.size ?_; intro v4 w4 hown4 hg4 hat4; have h04 : Below w.heap.size w w4 := h03.grown hg4 h03.size (fun k hk => (hown3.lt k hk).1); obtain ⟨A4, c4, hv4⟩ := own_shape hown4; subst hv4))
      have hr4 : Reads w4 w4.heap.size 1 A4 (n + n') (ints (a ++ b)) := by
        have := Reads.of_own hown4
        simpa [ints] using this
      have hn4 : n + n' ≤ 100000 := by omega
      generalize n + n' = N4 at hr4 hn4
      clear hown4 hat4 hat3 hg4
      have hbad : ¬ Good (a ++ b) := fun hh => HGA.out ((good_append.1 hh).1)
      have HBAD := Lib.hid hbad
      clear hbad
      refine (text_nogood _ _ _ _ (a ++ b) _ HBAD.out hr4 (Nat.le_refl _) hn4).mono ?_
      rintro e w5 ⟨rfl, hb5⟩
      have h05 := below_then h04 hb5
      go_wp2_with (go_at_call 12; refine (runes_true _ (hT.below h05)).mono ?_; rintro e w8 ⟨rfl, hb8⟩)
      go_ret
      exact ⟨rfl, below_then h05 hb8⟩
end Go.Proofs.YtdhiipnnmonkoaaDoor
