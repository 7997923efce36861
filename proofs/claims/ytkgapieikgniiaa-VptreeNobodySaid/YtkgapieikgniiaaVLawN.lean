/- VptreeNobody: a tree that nobody made answers nothing. Conditions: none but that the point's slice lies in memory. -/
import Derived.Test.YtkgapieikgniiaaVNob
import Derived.Deep.RegionHeld3
set_option linter.unusedVariables false
set_option linter.unusedSimpArgs false
namespace Go.Proofs.Ytkgapieikgniiaa
open Go Go.RowKit Go.Maps
set_option maxHeartbeats 2000000 in
set_option maxRecDepth 100000 in
theorem vptreeNobody_walk (x : Int) (A : Option Addr) (n c : Nat) (k : Int) (w : World) : Calls Try.prog 8 #[.agg #[.int .i64 x, .slice A n c], .int .i64 k] w (Gives (.bool true) w) := by
  have HAW := Lib.hid awake_any
  obtain ⟨s, hs⟩ : ∃ s, s = w.heap.size := ⟨_, rfl⟩
  obtain ⟨W1, hW1⟩ : ∃ W1, W1 = w.alloc (.cells #[.int .i64 x, .slice A n c] 37) := ⟨_, rfl⟩
  obtain ⟨W2, hW2⟩ : ∃ W2, W2 = W1.alloc (.cells #[.pointer none, .int .i64 0, .pointer none, .map none, .map none] 66) := ⟨_, rfl⟩
  obtain ⟨W3, hW3⟩ : ∃ W3, W3 = W2.alloc (.cells #[.pointer none, .pointer (some ⟨w.heap.size + 1, 0, none⟩)] 23) := ⟨_, rfl⟩
  have s1 : W1.heap.size = w.heap.size + 1 := by rw [hW1]; simp
  have s2 : W2.heap.size = w.heap.size + 1 + 1 := by rw [hW2]; simp [s1]
  have b1 : Below W1.heap.size W1 W2 := by rw [hW2]; exact (Below.refl _ W1).alloc (Nat.le_refl _) _
  have b2 : Below W2.heap.size W2 W3 := by rw [hW3]; exact (Below.refl _ W2).alloc (Nat.le_refl _) _
  have b0 : Below w.heap.size w W3 := by
    have : Below w.heap.size w W1 := by rw [hW1]; exact (Below.refl _ w).alloc (Nat.le_refl _) _
    exact (this.trans (b1.mono (by omega))).trans (b2.mono (by omega))
  have rp : Row W3 w.heap.size 37 [.int .i64 x, .slice A n c] := by
    have h1 : Row W1 w.heap.size 37 [.int .i64 x, .slice A n c] := by rw [hW1]; exact Row.new w 37 [.int .i64 x, .slice A n c]
    exact (h1.keep (b1.block _ (by omega))).keep (b2.block _ (by omega))
  have rt : Row W3 (w.heap.size + 1) 66 [.pointer none, .int .i64 0, .pointer none, .map none, .map none] := by
    have h1 : Row W2 W1.heap.size 66 [.pointer none, .int .i64 0, .pointer none, .map none, .map none] := by rw [hW2]; exact Row.new W1 66 [.pointer none, .int .i64 0, .pointer none, .map none, .map none]
    rw [s1] at h1
    exact h1.keep (b2.block _ (by omega))
  have rs : Row W3 (w.heap.size + 1 + 1) 23 [.pointer none, .pointer (some ⟨w.heap.size + 1, 0, none⟩)] := by
    have h1 : Row W3 W2.heap.size 23 [.pointer none, .pointer (some ⟨w.heap.size + 1, 0, none⟩)] := by rw [hW3]; exact Row.new W2 23 [.pointer none, .pointer (some ⟨w.heap.size + 1, 0, none⟩)]
    rwa [s2] at h1
  have HW := Lib.hid (show ((w.alloc (.cells #[.int .i64 x, .slice A n c] 37)).alloc (.cells #[.pointer none, .int .i64 0, .pointer none, .map none, .map none] 66)).alloc (.cells #[.pointer none, .pointer (some ⟨w.heap.size + 1, 0, none⟩)] 23) = W3 by rw [hW3, hW2, hW1])
  have el : ∀ i, i < 2 → ∀ wr, Below W3.heap.size W3 wr → ∃ r, wr.cell? ⟨w.heap.size + 1 + 1, i, none⟩ = some r ∧ NoT wr r ∧ r.oneCell' = true := by
    intro i hi wr hb
    rcases (show i = 0 ∨ i = 1 by omega) with rfl | rfl
    · exact ⟨.pointer none, (rs.keep (hb.block _ rs.lt)).cell (j := 0) rfl, .inl rfl, rfl⟩
    · exact ⟨.pointer (some ⟨w.heap.size + 1, 0, none⟩), (rs.keep (hb.block _ rs.lt)).cell (j := 1) rfl, .inr ⟨_, rfl, rt.keep (hb.block _ rt.lt)⟩, rfl⟩
  have HE := Lib.hid (And.intro el (And.intro rp (And.intro b0 rs)))
  clear hs s1 s2 b1 b2 b0 rp rt rs el hW1 hW2 hW3
  clear s W1 W2
  go_enter Try.func8, Try.ntmps8
  go_wp2_with fail
  rw [HW.out]
  generalize w.heap.size + 1 + 1 = g at *
  go_loopw [6] (fun vi wr => ∃ i : Nat, i ≤ 2 ∧ vi = .int .i64 i ∧ Hid (Below W3.heap.size W3 wr)) (fun vi _ => 2 - (intOf vi).toNat)
  case atStart => exact ⟨0, by omega, rfl, Lib.hid (Below.refl _ _)⟩
  case round =>
    obtain ⟨i, hi2, rfl, HB⟩ := hrel
    by_cases hlt : i < 2
    · obtain ⟨r, hc0, hN0, hone⟩ := HE.out.1 i hlt W3 (Below.refl _ _)
      have pk : ∀ wx, Below W3.heap.size W3 wx → wx.cell? ⟨g, i, none⟩ = some r ∧ NoT wx r ∧ g < wx.heap.size ∧ wx.cell? ⟨w.heap.size, 0, none⟩ = some (.int .i64 x) ∧ wx.cell? ⟨w.heap.size, 1, none⟩ = some (.slice A n c) ∧ w.heap.size < wx.heap.size := fun wx hb => by
        have rp := HE.out.2.1.keep (hb.block _ HE.out.2.1.lt)
        exact ⟨(hb.cell HE.out.2.2.2.lt).trans hc0, hN0.below hb, by have := hb.size; have := HE.out.2.2.2.lt; omega, rp.cell (j := 0) rfl, rp.cell (j := 1) rfl, rp.lt⟩
      have PK := Lib.hid pk
      clear pk hc0 hN0
      obtain ⟨hc, hN, hl, p0, p1, pl⟩ := PK.out wr HB.out
      have hltz : (i : Int) < 2 := by omega
      have hge : (0 : Int) ≤ (i : Int) := by omega
      have hput := no_put (hN.below (below_drewN (Below.refl _ wr) 1)) x A n c
      clear hN
      go_wp2_with fail
      go_region_held3 (fun w' => w'.cell? ⟨g, i, none⟩ = some r ∧ w'.cell? ⟨w.heap.size, 0, none⟩ = some (.int .i64 x) ∧ w'.cell? ⟨w.heap.size, 1, none⟩ = some (.slice A n c))
        (first | with_reducible exact ⟨hc2, p02, p12⟩ | exact ⟨hc, p0, p1⟩)
        ((go_at_call 19; refine hput.mono ?_; rintro e w2 ⟨rfl, hb2⟩; have HB2 := Lib.hid (HB.out.trans (((below_drewN (Below.refl _ wr) 1).trans hb2).mono HB.out.size)); obtain ⟨hc2, hN2, hl2, p02, p12, pl2⟩ := PK.out w2 HB2.out; have hget := no_get hN2 k; clear hN2 hb2))
      all_goals
        clear hc hl p0 p1 pl hput HB
        go_wp2_with fail
        refine hget.mono ?_
        rintro e w3 ⟨rfl, q3, rfl⟩
        have HB3 := Lib.hid (below_drewN HB2.out q3)
        generalize w2.drewN q3 = w3 at *
        clear hc2 hl2 p02 p12 pl2 hget HB2
        obtain ⟨hc, hN, hl, p0, p1, pl⟩ := PK.out w3 HB3.out
        have htop := no_top (hN.below (below_drewN (Below.refl _ w3) 1)) A n c k k hone
        clear hN
        go_wp2_with fail
        go_region_held3 (fun w' => w'.cell? ⟨g, i, none⟩ = some r ∧ w'.cell? ⟨w.heap.size, 0, none⟩ = some (.int .i64 x) ∧ w'.cell? ⟨w.heap.size, 1, none⟩ = some (.slice A n c))
          (first | with_reducible exact ⟨hc2, p02, p12⟩ | exact ⟨hc, p0, p1⟩)
          ((go_at_call 21; refine htop.mono ?_; rintro e w4 ⟨rfl, hb4⟩; have HB4 := Lib.hid (HB3.out.trans (((below_drewN (Below.refl _ w3) 1).trans hb4).mono HB3.out.size)); obtain ⟨hc2, hN2, hl2, p02, p12, pl2⟩ := PK.out w4 HB4.out; clear hb4))
        all_goals
          clear hc hl p0 p1 pl htop HB3 hN2
          obtain ⟨hc, hN, hl, p0, p1, pl⟩ := PK.out w4 HB4.out
          have hdr := no_drop hN k
          clear hN hc2 hl2 p02 p12 pl2
          go_wp2_with fail
          refine hdr.mono ?_
          rintro e w5 ⟨rfl, q5, rfl⟩
          have HB5 := Lib.hid (below_drewN HB4.out q5)
          generalize w4.drewN q5 = w5 at *
          clear hc hl p0 p1 pl hdr HB4
          obtain ⟨hc, hN, hl, p0, p1, pl⟩ := PK.out w5 HB5.out
          have hln := noT_len hN
          clear hN
          go_wp2_with fail
          refine hln.mono ?_
          rintro e w6 ⟨rfl, q6, rfl⟩
          have HB6 := Lib.hid (below_drewN HB5.out q6)
          generalize w5.drewN q6 = w6 at *
          clear hc hl p0 p1 pl hln HB5
          obtain ⟨hc, hN, hl, p0, p1, pl⟩ := PK.out w6 HB6.out
          have hpt := no_pts hN
          clear hN
          go_wp2_with fail
          refine hpt.mono ?_
          rintro e w7 ⟨rfl, q7, rfl⟩
          have HB7 := Lib.hid (below_drewN HB6.out q7)
          generalize w6.drewN q7 = w7 at *
          clear hc hl p0 p1 pl hpt HB6
          obtain ⟨hc, hN, hl, p0, p1, pl⟩ := PK.out w7 HB7.out
          have hbu := no_build hN
          clear hN
          go_wp2_with fail
          refine hbu.mono ?_
          rintro e w8 ⟨rfl, q8, rfl⟩
          have HB8 := Lib.hid (below_drewN HB7.out q8)
          generalize w7.drewN q8 = w8 at *
          clear hc hl p0 p1 pl hbu HB7
          go_wp2_with fail
          go_roundw
          case rel => exact ⟨i + 1, by omega, by go_num, HB8⟩
          case measure => simp [intOf]; omega
    · go_wp2_with fail
      refine (HAW.out wr).mono ?_
      rintro e w2 ⟨rfl, hb2⟩
      go_wp2_with fail
      go_ret
      exact ⟨rfl, HE.out.2.2.1.trans ((HB.out.trans (hb2.mono HB.out.size)).mono HE.out.2.2.1.size)⟩
end Go.Proofs.Ytkgapieikgniiaa
