/- What Fold of the document's answers returns: the text with small letters in place of great ones, or that the bytes are no text. Conditions: up to 100000 bytes. -/
import Derived.Test.YtdhiipnnmonkoaaDoorRefRunes
import Derived.Test.YtdhiipnnmonkoaaDoorRefText
import Derived.Test.YtdhiipnnmonkoaaDoorFold
import Derived.Test.YtdhiipnnmonkoaaDoorAppend
set_option linter.unusedVariables false
namespace Go.Proofs.YtdhiipnnmonkoaaDoor
open Go Go.RowKit

theorem foldL_snoc (l : List Int) (k : Nat) (hk : k < l.length) : foldL (l.take (k + 1)) = foldL (l.take k) ++ [foldR (l.getD k 0)] := by
  rw [take_snoc_getD l k hk]
  simp [foldL]
theorem refText_good (A : Option Addr) (n c B : Nat) (l : List Int) (w : World) (hg : Good l) (hx : Reads w B 1 A n (ints l)) (hB : B ≤ w.heap.size) (hn : n ≤ 100000) : Calls Tryd.prog 17 #[.slice A n c] w (TextOk l w) :=
  (refText_any A n c B l w hx hB hn).mono fun _ _ h => h.1 hg
theorem refFold_no (s : ByteArray) (hn : NoText s.data.toList) (hsz : s.size ≤ 100000) (w : World) : Calls Tryd.prog 20 #[.string s] w (TextNo w) := by
  have HN := Lib.hid hn
  clear hn
  go_enter Tryd.func20, Tryd.ntmps20
  go_wp2_with (go_at_call 14; refine (refRunes_no s HN.out hsz _).mono ?_; rintro e w1 ⟨rfl, hb1⟩)
  go_ret2
  exact ⟨rfl, hb1⟩
set_option maxHeartbeats 4000000 in
theorem refFold_ok (s : ByteArray) (rs : List Int) (hg : Good rs) (hs : s.data.toList = enc rs) (hsz : s.size ≤ 100000) (w : World) : Calls Tryd.prog 20 #[.string s] w (TextOk (foldL rs) w) := by
  have hl : rs.length ≤ s.size := by rw [← size_list, hs]; exact (enc_len rs).1
  have HS := Lib.hid hs
  have HGF := Lib.hid hg.fold
  clear hs
  obtain ⟨i0, hi, hz0, hz1, hz2⟩ := info_parts int_info
  go_enter Tryd.func20, Tryd.ntmps20
  go_wp2_with (go_at_call 14; refine (refRunes_ok s rs hg HS.out hsz _).mono ?_; rintro e w1 ⟨A, n, c, rfl, hr1, hb1⟩)
  have hn1 := hr1.len
  have hnl : n ≤ rs.length := by omega
  have hnl2 : rs.length ≤ n := by omega
  clear hn1
  go_loopw [6, 7] (fun v i wr => ∃ k : Nat, k ≤ n ∧ i = .int .i64 k ∧ wr.ownsRow w1.heap.size 3 1 v k (ints (foldL (rs.take k))) ∧ Below w1.heap.size w1 wr) (fun _ i _ => n - (intOf i).toNat)
  case atStart => exact ⟨0, Nat.zero_le _, rfl, World.ownsRow_nil .., Below.refl _ _⟩
  case round =>
    obtain ⟨k, hk, rfl, hown, hbw⟩ := hrel
    by_cases hlt : k < n
    · obtain ⟨ad, rfl, hbk, hc0⟩ := hr1.int_at hlt
      have hc : wr.cell? (ad.add k) = some (.int .i64 (rs.getD k 0)) := by
        rw [hbw.cell (by rw [block_of_add]; omega)]
        exact hc0
      have hsn := Lib.hid (foldL_snoc rs k (by omega))
      have hX : isR (rs.getD k 0) = true := hg _ (by rw [List.getD_eq_getElem?_getD, List.getElem?_eq_getElem (by omega)]; exact List.getElem_mem _)
      generalize rs.getD k 0 = X at hc hsn hX
      clear hc0
      have hltz : (k : Int) < (n : Int) := by omega
      obtain ⟨hp0, hp1, _⟩ := (isR_iff X).1 hX
      clear hX
      rcases foldR_cases X with ⟨hgr, hfe, _, _⟩ | ⟨hgr, hfe⟩
      · have HG := Lib.hid hgr
        have HF := Lib.hid hfe
        clear hgr hfe
        go_wp2_with (first | (go_at_call 37; refine (great_any _ _).mono ?_; rw [HG.out]; rintro e w' ⟨rfl, rfl⟩) | (at_builtin; refine append_int rfl (.tmp 31) (.tmp 33) rfl w1.heap.size _ k _ (X + 32) rfl hown rfl (by omega) hbw.size ?_; intro v' w1' hown3' hgrow3'))
        have hbw3 : Below w1.heap.size w1 w1' := hbw.grown hgrow3' hbw.size (fun k hk => (hown.lt k hk).1)
        go_roundw
        case rel => exact ⟨k + 1, by omega, by go_num, by rw [hsn.out, HF.out]; exact hown3', hbw3⟩
        case measure => simp [intOf]; omega
      · have HG := Lib.hid hgr
        have HF := Lib.hid hfe
        clear hgr hfe
        go_wp2_with (first | (go_at_call 37; refine (great_any _ _).mono ?_; rw [HG.out]; rintro e w' ⟨rfl, rfl⟩) | (at_builtin; refine append_int rfl (.tmp 31) (.tmp 33) rfl w1.heap.size _ k _ X rfl hown rfl (by omega) hbw.size ?_; intro v' w1' hown3' hgrow3'))
        have hbw3 : Below w1.heap.size w1 w1' := hbw.grown hgrow3' hbw.size (fun k hk => (hown.lt k hk).1)
        go_roundw
        case rel => exact ⟨k + 1, by omega, by go_num, by rw [hsn.out, HF.out]; exact hown3', hbw3⟩
        case measure => simp [intOf]; omega
    · obtain rfl : k = n := by omega
      have e1 : rs.take k = rs := List.take_of_length_le hnl2
      rw [e1] at hown
      clear e1
      obtain ⟨A2, c2, rfl⟩ := own_shape hown
      have hr2 := Reads.of_own hown
      go_wp2_with (go_at_call 17; refine (refText_good _ _ _ _ _ _ HGF.out hr2 (Nat.le_refl _) (by omega)).mono ?_; rintro e w3 ⟨rfl, hb3⟩)
      go_ret2
      exact ⟨rfl, below_then (below_then hb1 hbw) hb3⟩
end Go.Proofs.YtdhiipnnmonkoaaDoor
