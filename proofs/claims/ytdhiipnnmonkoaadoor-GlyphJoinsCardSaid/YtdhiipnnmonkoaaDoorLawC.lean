/- The walk of GlyphFolds: it returns true. Conditions: Go's two tables of UTF-8 lie as start-up lays them. -/
import Derived.Test.YtdhiipnnmonkoaaDoorLawA
import Derived.Test.YtdhiipnnmonkoaaDoorRefFold
set_option linter.unusedVariables false
namespace Go.Proofs.YtdhiipnnmonkoaaDoor
open Go Go.RowKit

set_option maxHeartbeats 1000000 in
theorem folds_true (w : World) (hT : Tabs w) : Calls Tryd.prog 18 #[] w (Yes w) := by
  have hg : Good [65, 196, 98, 937, 1071] := by unfold Good; decide
  have he : enc [65, 196, 98, 937, 1071] = [65, 195, 132, 98, 206, 169, 208, 175] := by decide +kernel
  have hf : enc (foldL [65, 196, 98, 937, 1071]) = [97, 195, 164, 98, 207, 137, 209, 143] := by decide +kernel
  have h0 := fold_ok { data := #[65, 195, 132, 98, 206, 169, 208, 175] } [65, 196, 98, 937, 1071] hg (by rw [he]) (by decide) w hT
  unfold TextOk at h0
  rw [hf] at h0
  have HR := Lib.hid h0
  clear he hf h0
  go_enter Tryd.func18, Tryd.ntmps18
  go_wp2_with (go_at_call 19; refine HR.out.mono ?_; rintro e w1 ⟨rfl, hb1⟩)
  go_ret
  exact ⟨rfl, hb1⟩

set_option maxHeartbeats 1000000 in
theorem glyphFolds_walk (s : ByteArray) (w : World) (hT : Tabs w) : Calls Tryd.prog 6 #[.string s] w (Yes w) := by
  by_cases hlen : 4096 < s.size
  · go_enter Tryd.func6, Tryd.ntmps6
    go_wp2_with (go_at_call 18; refine (folds_true _ hT).mono ?_; rintro e w1 ⟨rfl, hb1⟩)
    go_ret
    exact ⟨rfl, hb1⟩
  · have hs4 : s.size ≤ 4096 := by omega
    rcases text_or s.data.toList with ⟨rs, hg, hs⟩ | hn
    · have HS := Lib.hid hs
      clear hs
      go_enter Tryd.func6, Tryd.ntmps6
      go_wp2_with (go_at_call 19; refine (fold_ok s rs hg HS.out (by omega) _ hT).mono ?_; rintro e w1 ⟨rfl, hb1⟩)
      refine (refFold_ok s rs hg HS.out (by omega) _).mono ?_
      rintro e w2 ⟨rfl, hb2⟩
      have hT2 : Tabs w2 := (hT.below hb1).below hb2
      go_wp2_with (go_at_call 18; refine (folds_true _ hT2).mono ?_; rintro e w4 ⟨rfl, hb4⟩)
      go_ret
      exact ⟨rfl, below_then (below_then hb1 hb2) hb4⟩
    · have HN := Lib.hid hn
      clear hn
      go_enter Tryd.func6, Tryd.ntmps6
      go_wp2_with (go_at_call 19; refine (fold_no s HN.out (by omega) _ hT).mono ?_; rintro e w1 ⟨rfl, hb1⟩)
      refine (refFold_no s HN.out (by omega) _).mono ?_
      rintro e w2 ⟨rfl, hb2⟩
      have hT2 : Tabs w2 := (hT.below hb1).below hb2
      go_wp2_with (go_at_call 18; refine (folds_true _ hT2).mono ?_; rintro e w4 ⟨rfl, hb4⟩)
      go_ret
      exact ⟨rfl, below_then (below_then hb1 hb2) hb4⟩
end Go.Proofs.YtdhiipnnmonkoaaDoor
