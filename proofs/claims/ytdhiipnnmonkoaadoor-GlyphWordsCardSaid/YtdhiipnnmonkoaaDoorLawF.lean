/- The walks of GlyphWords and GlyphTwice: both return true. Conditions: Go's two tables of UTF-8 lie as start-up lays them. -/
import Derived.Test.YtdhiipnnmonkoaaDoorRefWords
import Derived.Test.YtdhiipnnmonkoaaDoorSameS
import Derived.Test.YtdhiipnnmonkoaaDoorLawC
set_option linter.unusedVariables false
namespace Go.Proofs.YtdhiipnnmonkoaaDoor
open Go Go.RowKit

theorem reads_vals (w : World) (xs : List Value) (t : TypeId) (n : Nat) (hn : n = xs.length) : Reads (w.alloc (.cells xs.toArray t)) (w.heap.size + 1) 1 (some ⟨w.heap.size, 0, none⟩) n xs := by
  subst hn
  refine ⟨by simp, fun _ => ⟨_, rfl, by simp, fun j u hj => ?_⟩⟩
  have hb := heap_alloc_new w (.cells xs.toArray t)
  have e : ((⟨w.heap.size, 0, none⟩ : Addr).add j) = ⟨w.heap.size, j, none⟩ := by unfold Addr.add; split <;> simp_all
  rw [e, cell_of_row _ _ _ _ _ _ hb]
  simpa using hj
theorem reads_ab (w : World) : Reads (w.alloc (.cells #[.string { data := #[97] }, .string { data := #[98] }] 9)) (w.heap.size + 1) 1 (some ⟨w.heap.size, 0, none⟩) 2 (strs [[97], [98]]) := by
  have e : strs [[97], [98]] = [.string { data := #[97] }, .string { data := #[98] }] := by
    have e1 : enc [97] = [97] := by decide +kernel
    have e2 : enc [98] = [98] := by decide +kernel
    simp [strs, e1, e2]
  rw [e]
  exact reads_vals w _ 9 2 rfl
set_option maxHeartbeats 1000000 in
theorem words_true (w : World) (hT : Tabs w) : Calls Tryd.prog 22 #[] w (Yes w) := by
  have hg : Good [32, 97, 12288, 98, 10] := by unfold Good; decide
  have he : enc [32, 97, 12288, 98, 10] = [32, 97, 227, 128, 128, 98, 10] := by decide +kernel
  have hw : wordsL [32, 97, 12288, 98, 10] = [[97], [98]] := by decide +kernel
  have h0 := words_ok { data := #[32, 97, 227, 128, 128, 98, 10] } [32, 97, 12288, 98, 10] hg (by rw [he]) (by decide) w hT
  unfold WordsOk at h0
  rw [hw] at h0
  have HR := Lib.hid h0
  clear he hw h0
  go_enter Tryd.func22, Tryd.ntmps22
  go_wp2_with (go_at_call 21; refine HR.out.mono ?_; rintro e w1 ⟨A, n, c, rfl, hr1, hb1, hc1, hc2⟩)
  have hn : n = 2 := reads_len hr1
  have hn' : n ≤ 2 := by omega
  clear hn
  have hr2 := hr1.alloc (Nat.le_refl _) (.cells #[.string { data := #[97] }, .string { data := #[98] }] 9)
  have hy := reads_ab w1
  go_wp2_with fail
  refine (sameStrs_true _ _ _ _ _ _ _ _ _ _ hr2 hy (by omega)).mono ?_
  rintro e w3 ⟨rfl, q, rfl⟩
  go_wp2
  go_ret
  exact ⟨rfl, below_drewN (hb1.alloc hb1.size _) q⟩

set_option maxHeartbeats 1000000 in
theorem glyphWords_walk (s : ByteArray) (w : World) (hT : Tabs w) : Calls Tryd.prog 8 #[.string s] w (Yes w) := by
  by_cases hlen : 4096 < s.size
  · go_enter Tryd.func8, Tryd.ntmps8
    go_wp2_with (go_at_call 22; refine (words_true _ hT).mono ?_; rintro e w1 ⟨rfl, hb1⟩)
    go_ret
    exact ⟨rfl, hb1⟩
  · have hs4 : s.size ≤ 4096 := by omega
    rcases text_or s.data.toList with ⟨rs, hg, hs⟩ | hn
    · have hrl : rs.length ≤ 4096 := by have := (enc_len rs).1; rw [← hs, size_list] at this; omega
      have hwl := words_len rs []
      have HS := Lib.hid hs
      clear hs
      go_enter Tryd.func8, Tryd.ntmps8
      go_wp2_with (go_at_call 21; refine (words_ok s rs hg HS.out (by omega) _ hT).mono ?_; rintro e w1 ⟨A, n, c, rfl, hr1, hb1, hc1, hc2⟩)
      refine (refWords_ok s rs hg HS.out (by omega) _).mono ?_
      rintro e w2 ⟨A', m, c', rfl, hr2, hb2, hd1, hd2⟩
      have hn1 := reads_len hr1
      have hn1' : n ≤ 4096 := by unfold wordsL at hn1; simp at hwl; omega
      clear hn1
      have hT2 : Tabs w2 := (hT.below hb1).below hb2
      go_wp2_with fail
      refine (sameStrs_true _ _ _ _ _ _ _ _ _ _ (hr1.below hb2) hr2 (by omega)).mono ?_
      rintro e w3 ⟨rfl, q, rfl⟩
      have h02 := below_then hb1 hb2
      have h03 := below_drewN h02 q
      go_wp2_with (go_at_call 22; refine (words_true _ (hT.below h03)).mono ?_; rintro e w4 ⟨rfl, hb4⟩)
      go_ret
      exact ⟨rfl, below_then h03 hb4⟩
    · have HN := Lib.hid hn
      clear hn
      go_enter Tryd.func8, Tryd.ntmps8
      go_wp2_with (go_at_call 21; refine (words_no s HN.out (by omega) _ hT).mono ?_; rintro e w1 ⟨rfl, hb1⟩)
      refine (refWords_no s HN.out (by omega) _).mono ?_
      rintro e w2 ⟨rfl, hb2⟩
      go_wp2_with fail
      refine (sameStrs_true _ _ _ _ _ _ 0 0 [] _ Reads.none_ Reads.none_ (by omega)).mono ?_
      rintro e w3 ⟨rfl, q, rfl⟩
      have h02 := below_then hb1 hb2
      have h03 := below_drewN h02 q
      go_wp2_with (go_at_call 22; refine (words_true _ (hT.below h03)).mono ?_; rintro e w4 ⟨rfl, hb4⟩)
      go_ret
      exact ⟨rfl, below_then h03 hb4⟩

theorem fold_is (s : ByteArray) (rs : List Int) (sa : ByteArray) (hg : Good rs) (hs : s.data.toList = enc rs) (ha : sa.data.toList = enc (foldL rs)) (hsz : s.size ≤ 100000) (w : World) (hT : Tabs w) :
    Calls Tryd.prog 19 #[.string s] w fun e w' => e = .returned (.tuple #[.string sa, .int .i64 0]) ∧ Below w.heap.size w w' := by
  have e : (⟨(enc (foldL rs)).toArray⟩ : ByteArray) = sa := by rw [← ha]
  have := fold_ok s rs hg hs hsz w hT
  unfold TextOk at this
  rwa [e] at this
set_option maxRecDepth 100000 in
set_option maxHeartbeats 4000000 in
theorem glyphTwice_walk (s : ByteArray) (w : World) (hT : Tabs w) : Calls Tryd.prog 7 #[.string s] w (Yes w) := by
  by_cases hlen : 4096 < s.size
  · go_enter Tryd.func7, Tryd.ntmps7
    go_wp2_with (go_at_call 18; refine (folds_true _ hT).mono ?_; rintro e w1 ⟨rfl, hb1⟩)
    go_ret
    exact ⟨rfl, hb1⟩
  · have hs4 : s.size ≤ 4096 := by omega
    rcases text_or s.data.toList with ⟨rs, hg, hs⟩ | hn
    · obtain ⟨sa, hsa⟩ : ∃ sa : ByteArray, sa.data.toList = enc (foldL rs) := ⟨⟨(enc (foldL rs)).toArray⟩, rfl⟩
      have hzz : sa.size = s.size := by rw [← size_list, ← size_list, hsa, hs, enc_fold_len rs hg]
      have hza : sa.size ≤ 4096 := by omega
      have hbz : (((sa.size : Nat) : Int) == ((s.size : Nat) : Int)) = true := by rw [beq_iff_eq]; omega
      have HSA := Lib.hid hsa
      have HS := Lib.hid hs
      have HGF := Lib.hid hg.fold
      have HFF := Lib.hid (show sa.data.toList = enc (foldL (foldL rs)) by rw [foldL_foldL]; exact hsa)
      have hwf := words_fold rs []
      have hwl := words_len rs []
      clear hs hsa hzz
      go_enter Tryd.func7, Tryd.ntmps7
      go_wp2_with fail
      refine (fold_is s rs sa hg HS.out HSA.out (by omega) _ hT).mono ?_
      rintro e w1 ⟨rfl, hb1⟩
      go_wp2_with fail
      refine (fold_is sa (foldL rs) sa HGF.out HSA.out HFF.out (by omega) _ (hT.below hb1)).mono ?_
      rintro e w2 ⟨rfl, hb2⟩
      have h02 := below_then hb1 hb2
      go_wp2_with fail
      refine (words_ok s rs hg HS.out (by omega) _ (hT.below h02)).mono ?_
      rintro e w3 ⟨A, n, c, rfl, hr3, hb3, hc1, hc2⟩
      have h03 := below_then h02 hb3
      go_wp2_with fail
      refine (words_ok sa (foldL rs) HGF.out HSA.out (by omega) _ (hT.below h03)).mono ?_
      rintro e w4 ⟨A', m, c', rfl, hr4, hb4, hd1, hd2⟩
      have h04 := below_then h03 hb4
      have hnm : n = m := by
        rw [reads_len hr3, reads_len hr4]
        exact hwf.symm
      subst hnm
      clear hwf hwl
      go_wp2_with (go_at_call 18; refine (folds_true _ (hT.below h04)).mono ?_; rintro e w5 ⟨rfl, hb5⟩)
      go_ret
      exact ⟨rfl, below_then h04 hb5⟩
    · have HN := Lib.hid hn
      clear hn
      go_enter Tryd.func7, Tryd.ntmps7
      go_wp2_with fail
      refine (fold_no s HN.out (by omega) _ hT).mono ?_
      rintro e w1 ⟨rfl, hb1⟩
      go_wp2_with fail
      refine (runes_no s HN.out (by omega) _ (hT.below hb1)).mono ?_
      rintro e w2 ⟨rfl, hb2⟩
      have h02 := below_then hb1 hb2
      go_wp2_with (go_at_call 18; refine (folds_true _ (hT.below h02)).mono ?_; rintro e w5 ⟨rfl, hb5⟩)
      go_ret
      exact ⟨rfl, below_then h02 hb5⟩
end Go.Proofs.YtdhiipnnmonkoaaDoor
