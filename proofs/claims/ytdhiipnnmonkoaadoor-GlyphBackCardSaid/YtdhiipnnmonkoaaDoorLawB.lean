/- The walks of GlyphTexts, GlyphBack and GlyphAdds: all return true. Conditions: Go's two tables of UTF-8 lie as start-up lays them. -/
import Derived.Test.YtdhiipnnmonkoaaDoorLawA
import Derived.Test.YtdhiipnnmonkoaaDoorMemB
import Derived.Test.YtdhiipnnmonkoaaDoorRefFold
set_option linter.unusedVariables false
namespace Go.Proofs.YtdhiipnnmonkoaaDoor
open Go Go.RowKit

theorem text_good (A : Option Addr) (n c B : Nat) (l : List Int) (w : World) (hg : Good l) (hx : Reads w B 1 A n (ints l)) (hB : B ≤ w.heap.size) (hn : n ≤ 100000) : Calls Tryd.prog 16 #[.slice A n c] w (TextOk l w) :=
  (text_any A n c B l w hx hB hn).mono fun _ _ h => h.1 hg
theorem text_nogood (A : Option Addr) (n c B : Nat) (l : List Int) (w : World) (hg : ¬ Good l) (hx : Reads w B 1 A n (ints l)) (hB : B ≤ w.heap.size) (hn : n ≤ 100000) : Calls Tryd.prog 16 #[.slice A n c] w (TextNo w) :=
  (text_any A n c B l w hx hB hn).mono fun _ _ h => h.2 hg
theorem refText_nogood (A : Option Addr) (n c B : Nat) (l : List Int) (w : World) (hg : ¬ Good l) (hx : Reads w B 1 A n (ints l)) (hB : B ≤ w.heap.size) (hn : n ≤ 100000) : Calls Tryd.prog 17 #[.slice A n c] w (TextNo w) :=
  (refText_any A n c B l w hx hB hn).mono fun _ _ h => h.2 hg
theorem text_is (A : Option Addr) (n c B : Nat) (l : List Int) (w : World) (s : ByteArray) (hs : s.data.toList = enc l) (hg : Good l) (hx : Reads w B 1 A n (ints l)) (hB : B ≤ w.heap.size) (hn : n ≤ 100000) :
    Calls Tryd.prog 16 #[.slice A n c] w fun e w' => e = .returned (.tuple #[.string s, .int .i64 0]) ∧ Below w.heap.size w w' := by
  have e : (⟨(enc l).toArray⟩ : ByteArray) = s := by
    rw [← hs]
  have := text_good A n c B l w hg hx hB hn
  unfold TextOk at this
  rwa [e] at this

theorem runes_enc (l : List Int) (hg : Good l) (hn : l.length ≤ 20000) (w : World) (hT : Tabs w) : Calls Tryd.prog 13 #[.string ⟨(enc l).toArray⟩] w (RunesOk l w) :=
  runes_ok _ l hg rfl (by
    show (enc l).toArray.size ≤ 100000
    have h1 := (enc_len l).2
    simp
    omega) w hT
set_option maxHeartbeats 1000000 in
theorem glyphTexts_walk (A : Option Addr) (n c : Nat) (l : List Int) (w : World) (hx : Reads w w.heap.size 1 A n (ints l)) (hT : Tabs w) : Calls Tryd.prog 4 #[.slice A n c] w (Yes w) := by
  by_cases hlen : 4096 < n
  · go_enter Tryd.func4, Tryd.ntmps4
    go_wp2_with (go_at_call 12; refine (runes_true _ hT).mono ?_; rintro e w1 ⟨rfl, hb1⟩)
    go_ret
    exact ⟨rfl, hb1⟩
  · have hn : n ≤ 4096 := by omega
    by_cases hg : Good l
    · have HG := Lib.hid hg
      clear hg
      go_enter Tryd.func4, Tryd.ntmps4
      go_wp2_with fail
      refine (text_good A n c _ l _ HG.out hx (Nat.le_refl _) (by omega)).mono ?_
      rintro e w1 ⟨rfl, hb1⟩
      go_wp2_with fail
      refine (refText_good A n c _ l _ HG.out (hx.below hb1) hb1.size (by omega)).mono ?_
      rintro e w2 ⟨rfl, hb2⟩
      have hT2 : Tabs w2 := (hT.below hb1).below hb2
      go_wp2_with (go_at_call 12; refine (runes_true _ hT2).mono ?_; rintro e w4 ⟨rfl, hb4⟩)
      go_ret
      exact ⟨rfl, below_then (below_then hb1 hb2) hb4⟩
    · have HG := Lib.hid hg
      clear hg
      go_enter Tryd.func4, Tryd.ntmps4
      go_wp2_with fail
      refine (text_nogood A n c _ l _ HG.out hx (Nat.le_refl _) (by omega)).mono ?_
      rintro e w1 ⟨rfl, hb1⟩
      go_wp2_with fail
      refine (refText_nogood A n c _ l _ HG.out (hx.below hb1) hb1.size (by omega)).mono ?_
      rintro e w2 ⟨rfl, hb2⟩
      have hT2 : Tabs w2 := (hT.below hb1).below hb2
      go_wp2_with (go_at_call 12; refine (runes_true _ hT2).mono ?_; rintro e w4 ⟨rfl, hb4⟩)
      go_ret
      exact ⟨rfl, below_then (below_then hb1 hb2) hb4⟩

set_option maxRecDepth 100000 in
set_option maxHeartbeats 4000000 in
theorem glyphBack_walk (s : ByteArray) (A : Option Addr) (n c : Nat) (l : List Int) (w : World) (hx : Reads w w.heap.size 1 A n (ints l)) (hT : Tabs w) : Calls Tryd.prog 5 #[.string s, .slice A n c] w (Yes w) := by
  by_cases hlen : 4096 < s.size
  · go_enter Tryd.func5, Tryd.ntmps5
    go_wp2_with (go_at_call 12; refine (runes_true _ hT).mono ?_; rintro e w1 ⟨rfl, hb1⟩)
    go_ret
    exact ⟨rfl, hb1⟩
  by_cases hlen2 : 4096 < n
  · go_enter Tryd.func5, Tryd.ntmps5
    go_wp2_with (go_at_call 12; refine (runes_true _ hT).mono ?_; rintro e w1 ⟨rfl, hb1⟩)
    go_ret
    exact ⟨rfl, hb1⟩
  have hs4 : s.size ≤ 4096 := by omega
  have hn : n ≤ 4096 := by omega
  clear hlen hlen2
  have hnl := Lib.hid hx.len
  by_cases hg : Good l
  · have HG := Lib.hid hg
    clear hg
    have hll : l.length ≤ 20000 := by have := hnl.out; omega
    rcases text_or s.data.toList with ⟨rs, hgs, hs⟩ | hno
    · have hel := enc_len rs
      have hrl : rs.length ≤ s.size := by rw [← size_list, hs]; exact hel.1
      have hrl2 : s.size ≤ 4 * rs.length := by rw [← size_list, hs]; exact hel.2
      have HS := Lib.hid hs
      clear hs hel
      go_enter Tryd.func5, Tryd.ntmps5
      go_wp2_with (go_at_call 13; refine (runes_ok s rs hgs HS.out (by omega) _ hT).mono ?_; rintro e w1 ⟨A1, n1, c1, rfl, hr1, hb1⟩)
      have hn1 := hr1.len
      have hn1a : n1 ≤ s.size := by omega
      have hn1b : s.size ≤ 4 * n1 := by omega
      have hn1z : ((n1 : Nat) : Int) ≤ (s.size : Int) := by omega
      have hn1y : ((s.size : Nat) : Int) ≤ 4 * (n1 : Int) := by omega
      clear hn1
      refine (text_is A1 n1 c1 _ rs _ s HS.out hgs hr1 (Nat.le_refl _) (by omega)).mono ?_
      rintro e w2 ⟨rfl, hb2⟩
      have hb02 := below_then hb1 hb2
      go_wp2_with fail
      refine (text_good A n c _ l _ HG.out (hx.below hb02) hb02.size (by omega)).mono ?_
      rintro e w3 ⟨rfl, hb3⟩
      have hb03 := below_then hb02 hb3
      have hT3 : Tabs w3 := hT.below hb03
      go_wp2_with fail
      refine (runes_enc l HG.out hll _ hT3).mono ?_
      rintro e w4 ⟨A4, n4, c4, rfl, hr4, hb4⟩
      have hb04 := below_then hb03 hb4
      have hn4 := hr4.len
      have hn4' : n4 ≤ 1000000 := by have := hnl.out; omega
      clear hn4
      go_wp2_with fail
      refine (same_true _ _ _ _ _ _ _ _ l _ (hx.below hb04) hr4 (by omega) hn4').mono ?_
      rintro e w5 ⟨rfl, q, rfl⟩
      have hb05 := below_drewN hb04 q
      go_wp2_with (go_at_call 12; refine (runes_true _ (hT.below hb05)).mono ?_; rintro e w6 ⟨rfl, hb6⟩)
      go_ret
      exact ⟨rfl, below_then hb05 hb6⟩
    · have HN := Lib.hid hno
      clear hno
      go_enter Tryd.func5, Tryd.ntmps5
      go_wp2_with (go_at_call 13; refine (runes_no s HN.out (by omega) _ hT).mono ?_; rintro e w2 ⟨rfl, hb02⟩)
      refine (text_good A n c _ l _ HG.out (hx.below hb02) hb02.size (by omega)).mono ?_
      rintro e w3 ⟨rfl, hb3⟩
      have hb03 := below_then hb02 hb3
      have hT3 : Tabs w3 := hT.below hb03
      go_wp2_with fail
      refine (runes_enc l HG.out hll _ hT3).mono ?_
      rintro e w4 ⟨A4, n4, c4, rfl, hr4, hb4⟩
      have hb04 := below_then hb03 hb4
      have hn4 := hr4.len
      have hn4' : n4 ≤ 1000000 := by have := hnl.out; omega
      clear hn4
      go_wp2_with fail
      refine (same_true _ _ _ _ _ _ _ _ l _ (hx.below hb04) hr4 (by omega) hn4').mono ?_
      rintro e w5 ⟨rfl, q, rfl⟩
      have hb05 := below_drewN hb04 q
      go_wp2_with (go_at_call 12; refine (runes_true _ (hT.below hb05)).mono ?_; rintro e w6 ⟨rfl, hb6⟩)
      go_ret
      exact ⟨rfl, below_then hb05 hb6⟩
  · have HG := Lib.hid hg
    clear hg
    rcases text_or s.data.toList with ⟨rs, hgs, hs⟩ | hno
    · have hel := enc_len rs
      have hrl : rs.length ≤ s.size := by rw [← size_list, hs]; exact hel.1
      have hrl2 : s.size ≤ 4 * rs.length := by rw [← size_list, hs]; exact hel.2
      have HS := Lib.hid hs
      clear hs hel
      go_enter Tryd.func5, Tryd.ntmps5
      go_wp2_with (go_at_call 13; refine (runes_ok s rs hgs HS.out (by omega) _ hT).mono ?_; rintro e w1 ⟨A1, n1, c1, rfl, hr1, hb1⟩)
      have hn1 := hr1.len
      have hn1a : n1 ≤ s.size := by omega
      have hn1b : s.size ≤ 4 * n1 := by omega
      have hn1z : ((n1 : Nat) : Int) ≤ (s.size : Int) := by omega
      have hn1y : ((s.size : Nat) : Int) ≤ 4 * (n1 : Int) := by omega
      clear hn1
      refine (text_is A1 n1 c1 _ rs _ s HS.out hgs hr1 (Nat.le_refl _) (by omega)).mono ?_
      rintro e w2 ⟨rfl, hb2⟩
      have hb02 := below_then hb1 hb2
      go_wp2_with fail
      refine (text_nogood A n c _ l _ HG.out (hx.below hb02) hb02.size (by omega)).mono ?_
      rintro e w3 ⟨rfl, hb3⟩
      have hb03 := below_then hb02 hb3
      go_wp2_with (go_at_call 12; refine (runes_true _ (hT.below hb03)).mono ?_; rintro e w6 ⟨rfl, hb6⟩)
      go_ret
      exact ⟨rfl, below_then hb03 hb6⟩
    · have HN := Lib.hid hno
      clear hno
      go_enter Tryd.func5, Tryd.ntmps5
      go_wp2_with (go_at_call 13; refine (runes_no s HN.out (by omega) _ hT).mono ?_; rintro e w2 ⟨rfl, hb02⟩)
      refine (text_nogood A n c _ l _ HG.out (hx.below hb02) hb02.size (by omega)).mono ?_
      rintro e w3 ⟨rfl, hb3⟩
      have hb03 := below_then hb02 hb3
      go_wp2_with (go_at_call 12; refine (runes_true _ (hT.below hb03)).mono ?_; rintro e w6 ⟨rfl, hb6⟩)
      go_ret
      exact ⟨rfl, below_then hb03 hb6⟩
end Go.Proofs.YtdhiipnnmonkoaaDoor
