/- The walks of GlyphRunes and GlyphTexts: both return true. Conditions: Go's two tables of UTF-8 lie as start-up lays them. -/
import Derived.Test.YtdhiipnnmonkoaaDoorRefRunes
import Derived.Test.YtdhiipnnmonkoaaDoorRefText
import Derived.Test.YtdhiipnnmonkoaaDoorSame
set_option linter.unusedVariables false
namespace Go.Proofs.YtdhiipnnmonkoaaDoor
open Go Go.RowKit

theorem reads_new (w : World) (l : List Int) : Reads (w.alloc (.cells (ints l).toArray 3)) (w.heap.size + 1) 1 (some ⟨w.heap.size, 0, none⟩) l.length (ints l) := by
  refine ⟨by simp, fun _ => ⟨_, rfl, by simp, fun j u hj => ?_⟩⟩
  have hb := heap_alloc_new w (.cells (ints l).toArray 3)
  have e : ((⟨w.heap.size, 0, none⟩ : Addr).add j) = ⟨w.heap.size, j, none⟩ := by unfold Addr.add; split <;> simp_all
  rw [e, cell_of_row _ _ _ _ _ _ hb]
  simpa using hj
/-- True, and what was there is as it was. -/
def Yes (w : World) (e : Ending) (w' : World) : Prop := e = .returned (.bool true) ∧ Below w.heap.size w w'
theorem same_true (A A' : Option Addr) (n m c c' B B' : Nat) (x : List Int) (w : World) (hx : Reads w B 1 A n (ints x)) (hy : Reads w B' 1 A' m (ints x)) (hn : n ≤ 1000000) (hm : m ≤ 1000000) :
    Calls Tryd.prog 15 #[.slice A n c, .slice A' m c'] w (SamePost true w) := by
  have := sameInts_any A A' n m c c' B B' x x w hx hy hn hm
  rwa [decide_eq_true rfl] at this
theorem text_const (w : World) (A : Option Addr) (n c B : Nat) (hx : Reads w B 1 A n (ints [97, 228, 65536])) (hB : B ≤ w.heap.size) :
    Calls Tryd.prog 16 #[.slice A n c] w fun e w' => e = .returned (.tuple #[.string { data := #[97, 195, 164, 240, 144, 128, 128] }, .int .i64 0]) ∧ Below w.heap.size w w' := by
  have hn : n = 3 := hx.len
  have hg : Good [97, 228, 65536] := by unfold Good; decide
  have he : enc [97, 228, 65536] = [97, 195, 164, 240, 144, 128, 128] := by decide +kernel
  refine (text_any A n c B _ w hx hB (by omega)).mono ?_
  rintro e w' ⟨h, _⟩
  have := h hg
  unfold TextOk at this
  rw [he] at this
  exact this

set_option maxHeartbeats 1000000 in
theorem runes_true (w : World) (hT : Tabs w) : Calls Tryd.prog 12 #[] w (Yes w) := by
  have hg : Good [97, 228, 12288] := by unfold Good; decide
  have he : enc [97, 228, 12288] = [97, 195, 164, 227, 128, 128] := by decide +kernel
  have HR := Lib.hid (runes_ok { data := #[97, 195, 164, 227, 128, 128] } [97, 228, 12288] hg (by rw [he]) (by decide) w hT)
  clear he
  go_enter Tryd.func12, Tryd.ntmps12
  go_wp2_with (go_at_call 13; refine HR.out.mono ?_; rintro e w1 ⟨A, n, c, rfl, hr1, hb1⟩)
  have hn : n = 3 := hr1.len
  have hn' : n ≤ 3 := by omega
  clear hn
  have hx := reads_new w1 [97, 228, 65536]
  go_wp2_with fail
  refine (text_const _ _ _ _ _ hx (by simp)).mono ?_
  rintro e w2 ⟨rfl, hb2⟩
  have hb12 : Below w1.heap.size w1 w2 := ((Below.refl _ _).alloc (Nat.le_refl _) _).trans (hb2.mono (by simp))
  have hr2 := (hr1.below hb12).alloc hb12.size (.cells (ints [97, 228, 12288]).toArray 3)
  have hy := reads_new w2 [97, 228, 12288]
  go_wp2_with fail
  refine (same_true _ _ _ _ _ _ _ _ _ _ hr2 hy (by omega) (by simp)).mono ?_
  rintro e w3 ⟨rfl, q, rfl⟩
  go_wp2
  go_ret
  exact ⟨rfl, below_drewN ((hb1.trans (hb12.mono hb1.size)).alloc (Nat.le_trans hb1.size hb12.size) _) q⟩

set_option maxHeartbeats 1000000 in
theorem glyphRunes_walk (s : ByteArray) (w : World) (hT : Tabs w) : Calls Tryd.prog 3 #[.string s] w (Yes w) := by
  by_cases hlen : 4096 < s.size
  · go_enter Tryd.func3, Tryd.ntmps3
    go_wp2_with (go_at_call 12; refine (runes_true _ hT).mono ?_; rintro e w1 ⟨rfl, hb1⟩)
    go_ret
    exact ⟨rfl, hb1⟩
  · have hs4 : s.size ≤ 4096 := by omega
    rcases text_or s.data.toList with ⟨rs, hg, hs⟩ | hn
    · have hrl : rs.length ≤ 4096 := by have := (enc_len rs).1; rw [← hs, size_list] at this; omega
      have HS := Lib.hid hs
      clear hs
      go_enter Tryd.func3, Tryd.ntmps3
      go_wp2_with (go_at_call 13; refine (runes_ok s rs hg HS.out (by omega) _ hT).mono ?_; rintro e w1 ⟨A, n, c, rfl, hr1, hb1⟩)
      refine (refRunes_ok s rs hg HS.out (by omega) _).mono ?_
      rintro e w2 ⟨A', m, c', rfl, hr2, hb2⟩
      have hn1 := hr1.len
      have hn2 := hr2.len
      have hn1' : n ≤ 4096 := by omega
      have hn2' : m ≤ 4096 := by omega
      clear hn1 hn2
      have hT2 : Tabs w2 := (hT.below hb1).below hb2
      go_wp2_with fail
      refine (same_true _ _ _ _ _ _ _ _ _ _ (hr1.below hb2) hr2 (by omega) (by omega)).mono ?_
      rintro e w3 ⟨rfl, q, rfl⟩
      have hT3 : Tabs (w2.drewN q) := hT2.below (below_drewN (Below.refl _ _) q)
      go_wp2_with (go_at_call 12; refine (runes_true _ hT3).mono ?_; rintro e w4 ⟨rfl, hb4⟩)
      go_ret
      have h2 : Below w.heap.size w w2 := hb1.trans (hb2.mono hb1.size)
      exact ⟨rfl, h2.trans ((below_drewN (Below.refl _ _) q).trans (hb4.mono h2.size))⟩
    · have HN := Lib.hid hn
      clear hn
      go_enter Tryd.func3, Tryd.ntmps3
      go_wp2_with (go_at_call 13; refine (runes_no s HN.out (by omega) _ hT).mono ?_; rintro e w1 ⟨rfl, hb1⟩)
      refine (refRunes_no s HN.out (by omega) _).mono ?_
      rintro e w2 ⟨rfl, hb2⟩
      have hT2 : Tabs w2 := (hT.below hb1).below hb2
      go_wp2_with fail
      refine (same_true _ _ _ _ _ _ 0 0 [] _ Reads.none_ Reads.none_ (by omega) (by omega)).mono ?_
      rintro e w3 ⟨rfl, q, rfl⟩
      have hT3 : Tabs (w2.drewN q) := hT2.below (below_drewN (Below.refl _ _) q)
      go_wp2_with (go_at_call 12; refine (runes_true _ hT3).mono ?_; rintro e w4 ⟨rfl, hb4⟩)
      go_ret
      have h2 : Below w.heap.size w w2 := hb1.trans (hb2.mono hb1.size)
      exact ⟨rfl, h2.trans ((below_drewN (Below.refl _ _) q).trans (hb4.mono h2.size))⟩
end Go.Proofs.YtdhiipnnmonkoaaDoor
