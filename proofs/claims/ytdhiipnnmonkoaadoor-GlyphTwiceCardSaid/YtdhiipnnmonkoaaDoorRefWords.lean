/- What Words of the document's answers returns: the words of a text, or that the bytes are no text. Conditions: up to 100000 bytes. -/
import Derived.Test.YtdhiipnnmonkoaaDoorRefFold
import Derived.Test.YtdhiipnnmonkoaaDoorWords
set_option linter.unusedVariables false
namespace Go.Proofs.YtdhiipnnmonkoaaDoor
open Go Go.RowKit

theorem blank_is (n : Int) (b : Bool) (w : World) (h : blankB n = b) : Calls Tryd.prog 41 #[.int .i64 n] w fun e w' => e = .returned (.bool b) ∧ w = w' := by
  have := blank_any n w
  rwa [h] at this
theorem refWords_no (s : ByteArray) (hn : NoText s.data.toList) (hsz : s.size ≤ 100000) (w : World) : Calls Tryd.prog 23 #[.string s] w (RunesNo w) := by
  have HN := Lib.hid hn
  clear hn
  go_enter Tryd.func23, Tryd.ntmps23
  go_wp2_with (go_at_call 14; refine (refRunes_no s HN.out hsz _).mono ?_; rintro e w1 ⟨rfl, hb1⟩)
  go_ret2
  exact ⟨rfl, hb1⟩
/-- What holds behind k rounds: the words found, and the one begun. -/
def WState (rs : List Int) (n k : Nat) (done : List (List Int)) (cur : List Int) : Prop :=
  Good cur ∧ cur.length ≤ k ∧ (k ≤ n → wordsL rs = done ++ wordsGo cur (rs.drop k)) ∧ (¬ k ≤ n → wordsL rs = done)
theorem wstate_more {rs : List Int} {n k : Nat} {done : List (List Int)} {cur : List Int} (h : WState rs n k done cur) (hn : n = rs.length) (hk : k < n) (hg : isR (rs.getD k 0) = true) (hb : blankB (rs.getD k 0) = false) :
    WState rs n (k + 1) done (cur ++ [rs.getD k 0]) := by
  obtain ⟨h1, h2, h3, h4⟩ := h
  refine ⟨h1.append (Good.one hg), by simp; omega, fun _ => ?_, fun hh => absurd (show k + 1 ≤ n by omega) hh⟩
  rw [h3 (by omega)]
  have e : rs.drop k = rs.getD k 0 :: rs.drop (k + 1) := by
    rw [List.drop_eq_getElem_cons (by omega), List.getD_eq_getElem?_getD, List.getElem?_eq_getElem (by omega)]
    rfl
  rw [e, words_more cur hb]
theorem wstate_cut {rs : List Int} {n k : Nat} {done : List (List Int)} {cur : List Int} (h : WState rs n k done cur) (hn : n = rs.length) (hk : k < n) (hb : blankB (rs.getD k 0) = true) :
    WState rs n (k + 1) (done ++ flush cur) [] := by
  obtain ⟨h1, h2, h3, h4⟩ := h
  refine ⟨Good.nil, by simp, fun _ => ?_, fun hh => absurd (show k + 1 ≤ n by omega) hh⟩
  rw [h3 (by omega)]
  have e : rs.drop k = rs.getD k 0 :: rs.drop (k + 1) := by
    rw [List.drop_eq_getElem_cons (by omega), List.getD_eq_getElem?_getD, List.getElem?_eq_getElem (by omega)]
    rfl
  rw [e, words_blank cur hb, List.append_assoc]
theorem wstate_end {rs : List Int} {n : Nat} {done : List (List Int)} {cur : List Int} (h : WState rs n n done cur) (hn : n = rs.length) : WState rs n (n + 1) (done ++ flush cur) [] := by
  obtain ⟨h1, h2, h3, h4⟩ := h
  refine ⟨Good.nil, by simp, fun hh => absurd hh (by omega), fun _ => ?_⟩
  rw [h3 (Nat.le_refl _), List.drop_eq_nil_of_le (by omega)]
  rfl
theorem wstate_len {rs : List Int} {n k : Nat} {done : List (List Int)} {cur : List Int} (h : WState rs n k done cur) : done.length ≤ rs.length := by
  obtain ⟨h1, h2, h3, h4⟩ := h
  have hl := words_len rs []
  rw [show wordsGo [] rs = wordsL rs from rfl] at hl
  by_cases hk : k ≤ n
  · rw [h3 hk, List.length_append] at hl
    simp at hl
    omega
  · rw [h4 hk] at hl
    simpa using hl
theorem keep_none {w w1 : World} {base : Nat} {e : TypeId} {size : Nat} {v : Value} {n : Nat} {xs : List Value} (h : w.ownsRow base e size v n xs) (hb : Below w.heap.size w w1) : w1.ownsRow base e size v n xs :=
  h.kept (grown_below hb none) (by
    by_cases h : v.ownBlock = none
    · exact .inl h
    · exact .inr h)
theorem strs_snoc (d : List (List Int)) (c : List Int) : strs d ++ [Value.string ⟨(enc c).toArray⟩] = strs (d ++ [c]) := by simp [strs]

set_option maxRecDepth 100000 in
set_option maxHeartbeats 8000000 in
theorem refWords_ok (s : ByteArray) (rs : List Int) (hg : Good rs) (hs : s.data.toList = enc rs) (hsz : s.size ≤ 100000) (w : World) : Calls Tryd.prog 23 #[.string s] w (WordsOk rs w) := by
  have hl : rs.length ≤ s.size := by rw [← size_list, hs]; exact (enc_len rs).1
  have HS := Lib.hid hs
  clear hs
  go_enter Tryd.func23, Tryd.ntmps23
  go_wp2_with (go_at_call 14; refine (refRunes_ok s rs hg HS.out hsz _).mono ?_; rintro e w1 ⟨A, n, c, rfl, hr1, hb1⟩)
  have hn1 := hr1.len
  have hnl : n ≤ rs.length := by omega
  have HN := Lib.hid hn1
  clear hn1
  have hn5 : n ≤ 100000 := by omega
  go_loopw [6, 7, 8] (fun v nv i wr => ∃ (k : Nat) (done : List (List Int)) (cur : List Int), k ≤ n + 1 ∧ i = .int .i64 k ∧ wr.ownsRow w1.heap.size 9 1 v done.length (strs done) ∧ wr.ownsRow w1.heap.size 3 1 nv cur.length (ints cur) ∧ Below w1.heap.size w1 wr ∧ WState rs n k done cur) (fun _ _ i _ => n + 1 - (intOf i).toNat)
  case atStart => exact ⟨0, [], [], by omega, rfl, World.ownsRow_nil .., World.ownsRow_nil .., Below.refl _ _, Good.nil, by simp, fun _ => rfl, fun h => absurd (Nat.zero_le _) h⟩
  case round =>
    obtain ⟨k, done, cur, hk, rfl, hown, hnow, hbw, HW⟩ := hrel
    have hdn := wstate_len HW
    have hcl := HW.2.1
    have HGC := Lib.hid HW.1
    obtain ⟨A2, c2, rfl⟩ := own_shape hnow
    by_cases hlt : k < n
    · obtain ⟨ad, rfl, hbk, hc0⟩ := hr1.int_at hlt
      have hc : wr.cell? (ad.add k) = some (.int .i64 (rs.getD k 0)) := by
        rw [hbw.cell (by rw [block_of_add]; omega)]
        exact hc0
      have hX : isR (rs.getD k 0) = true := hg _ (by rw [List.getD_eq_getElem?_getD, List.getElem?_eq_getElem (by omega)]; exact List.getElem_mem _)
      have hmore := Lib.hid (wstate_more HW HN.out hlt hX)
      have hcut := Lib.hid (wstate_cut HW HN.out hlt)
      clear hX
      generalize rs.getD k 0 = X at hc hmore hcut
      clear hc0 HW
      have hltz : (k : Int) < (n : Int) := by omega
      cases hbl : blankB X with
      | false =>
        have HB := Lib.hid hbl
        have HM := hmore.out hbl
        clear hbl hmore hcut
        go_wp2_with (first | (go_at_call 41; refine (blank_is _ false _ HB.out).mono ?_; rintro e w' ⟨rfl, rfl⟩) | (at_builtin; refine append_int rfl (.tmp 37) (.tmp 42) rfl w1.heap.size _ cur.length cur X rfl hnow rfl (by omega) hbw.size ?_; intro v' w2 hown2 hg2))
        have hbw2 : Below w1.heap.size w1 w2 := hbw.grown hg2 hbw.size (fun k hk => (hnow.lt k hk).1)
        have hk2 := hown.kept hg2 (own_ne_own hown hnow (by decide))
        go_roundw
        case rel => exact ⟨k + 1, done, cur ++ [X], by omega, by go_num, hk2, by rw [List.length_append]; exact hown2, hbw2, HM⟩
        case measure => simp [intOf]; omega
      | true =>
        have HB := Lib.hid hbl
        have HM := hcut.out hbl
        clear hbl hmore hcut
        by_cases hcur : cur.length = 0
        · have he : cur = [] := List.eq_nil_of_length_eq_zero hcur
          rw [he, flush_nil, List.append_nil] at HM
          have hc0 : ¬ (0 : Int) < (cur.length : Int) := by omega
          have hcx := Lib.hid hcur
          clear hcur he
          go_wp2_with (go_at_call 41; refine (blank_is _ true _ HB.out).mono ?_; rintro e w' ⟨rfl, rfl⟩)
          go_roundw
          case rel => exact ⟨k + 1, done, [], by omega, by go_num, hown, World.ownsRow_nil .., hbw, HM⟩
          case measure => simp [intOf]; omega
        · rw [flush_cons (by rintro rfl; exact hcur rfl)] at HM
          have hc0 : (0 : Int) < (cur.length : Int) := by omega
          have hr2 := Reads.of_own hnow
          go_wp2_with (go_at_call 41; refine (blank_is _ true _ HB.out).mono ?_; rintro e w' ⟨rfl, rfl⟩)
          refine (refText_good _ _ _ _ _ _ HGC.out hr2 (Nat.le_refl _) (by omega)).mono ?_
          rintro e w2 ⟨rfl, hb2⟩
          have hk2 := keep_none hown hb2
          have hbw2 : Below w1.heap.size w1 w2 := below_then hbw hb2
          go_wp2_with (at_builtin; refine append_str rfl (.tmp 52) (.tmp 54) rfl w1.heap.size _ done.length (strs done) _ rfl hk2 rfl (by omega) hbw2.size ?_; intro v' w3 hown3 hg3)
          have hbw3 : Below w1.heap.size w1 w3 := hbw2.grown hg3 hbw2.size (fun k hk => (hk2.lt k hk).1)
          go_roundw
          case rel => exact ⟨k + 1, done ++ [cur], [], by omega, by go_num, by rw [strs_snoc] at hown3; rw [List.length_append]; exact hown3, World.ownsRow_nil .., hbw3, HM⟩
          case measure => simp [intOf]; omega
    · by_cases hkn : k = n
      · subst hkn
        have HM := wstate_end HW HN.out
        clear HW hlt hk
        by_cases hcur : cur.length = 0
        · have he : cur = [] := List.eq_nil_of_length_eq_zero hcur
          rw [he, flush_nil, List.append_nil] at HM
          have hc0 : ¬ (0 : Int) < (cur.length : Int) := by omega
          have hcx := Lib.hid hcur
          clear hcur he
          go_wp2
          go_roundw
          case rel => exact ⟨k + 1, done, [], by omega, by go_num, hown, World.ownsRow_nil .., hbw, HM⟩
          case measure => simp [intOf]
        · rw [flush_cons (by rintro rfl; exact hcur rfl)] at HM
          have hc0 : (0 : Int) < (cur.length : Int) := by omega
          have hr2 := Reads.of_own hnow
          go_wp2_with fail
          refine (refText_good _ _ _ _ _ _ HGC.out hr2 (Nat.le_refl _) (by omega)).mono ?_
          rintro e w2 ⟨rfl, hb2⟩
          have hk2 := keep_none hown hb2
          have hbw2 : Below w1.heap.size w1 w2 := below_then hbw hb2
          go_wp2_with (at_builtin; refine append_str rfl (.tmp 52) (.tmp 54) rfl w1.heap.size _ done.length (strs done) _ rfl hk2 rfl (by omega) hbw2.size ?_; intro v' w3 hown3 hg3)
          have hbw3 : Below w1.heap.size w1 w3 := hbw2.grown hg3 hbw2.size (fun k hk => (hk2.lt k hk).1)
          go_roundw
          case rel => exact ⟨k + 1, done ++ [cur], [], by omega, by go_num, by rw [strs_snoc] at hown3; rw [List.length_append]; exact hown3, World.ownsRow_nil .., hbw3, HM⟩
          case measure => simp [intOf]
      · have hgt : ¬ (k : Int) ≤ (n : Int) := by omega
        have hfin := Lib.hid (HW.2.2.2 (by omega))
        obtain ⟨A3, c3, rfl, hq1, hq2⟩ := own_cap hown
        have HQ1 := Lib.hid hq1
        have HQ2 := Lib.hid hq2
        clear HW hq1 hq2
        go_wp2
        go_ret2
        exact ⟨A3, _, c3, rfl, by rw [hfin.out]; exact Reads.of_own hown, below_then hb1 hbw, HQ1.out, HQ2.out⟩
end Go.Proofs.YtdhiipnnmonkoaaDoor
