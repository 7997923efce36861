/- What homes, First and Plan of the document's answers return. Conditions: chart and nodes read as lists; the tables lie as start-up lays them. -/
import Derived.Test.YtmepahlmbopacaaDoorChRHome
set_option linter.unusedVariables false
set_option linter.unusedSimpArgs false
set_option maxRecDepth 100000
namespace Go.Proofs.YtmepahlmbopacaaDoor.Ct
open Go Go.RowKit Go.Maps
def HmPost (l : List Int) (P n : Int) (w : World) (en : Ending) (w' : World) : Prop :=
  (firstE l P n ≠ 0 ∧ en = .returned (.tuple #[.slice none 0 0, .int .i64 (firstE l P n)]) ∨
   firstE l P n = 0 ∧ ∃ A1 n1 c1 H, en = .returned (.tuple #[.slice A1 n1 c1, .int .i64 0]) ∧ (n1 : Int) = n ∧ Homes (zof l P.toNat) n H ∧ w'.ownsRow w.heap.size 3 1 (.slice A1 n1 c1) n1 (ints H)) ∧ Below w.heap.size w w'
theorem srt_mem {l : List Int} (h : goodB l = true) (x : Int) : x ∈ srtN l 8 ↔ x ∈ l := by
  rw [mem_srtN]
  exact ⟨fun h1 => h1.1, fun h1 => ⟨h1, (goodB_iff.1 h).2 x h1⟩⟩
theorem srt_nil {l : List Int} (h : goodB l = true) : srtN l 8 = [] ↔ l = [] := by
  have hl := (up_of_good h).1
  constructor
  · intro e
    rw [e] at hl
    exact List.eq_nil_of_length_eq_zero hl.symm
  · rintro rfl
    rfl
theorem homes_congr {Z Y : List (Int × Int)} {n : Int} {H : List Int} (h : ∀ x, x ∈ Z ↔ x ∈ Y) (hh : Homes Z n H) : Homes Y n H := fun k hk => isHome_congr h (hh k hk)
set_option maxHeartbeats 4000000 in
theorem homesR_any {w : World} {B : Nat} {A : Option Addr} {m c : Nat} {l : List Int} (hR : Reads w B 1 A m (ints l)) (hB : B ≤ w.heap.size) (P n : Int) (hT : Four w) :
    Calls Tryd.prog 21 #[.slice A m c, .int .i64 P, .int .i64 n] w (HmPost l P n w) := by
  have HN := Lib.hid (rNew_any (c := c) hR hB P)
  have HT := Lib.hid hT
  clear hR hB hT
  go_enter Tryd.func21, Tryd.ntmps21
  go_wp2_with fail
  refine HN.out.mono ?_
  rintro en w1 ⟨hor, hb1⟩
  have HB1 := Lib.hid hb1
  rcases hor with ⟨hnb, A1, n1, c1, rfl, hRK, hup⟩ | ⟨hnb, rfl⟩
  · obtain ⟨hg, hP1, hP2⟩ := newB_good hnb
    obtain ⟨Pn, rfl⟩ : ∃ Pn : Nat, P = (Pn : Int) := ⟨P.toNat, by omega⟩
    have hgB := goodB_iff.2 hg
    have hsl := (up_of_good hgB).1
    have hl8 := good_len hg
    have hn1 := hRK.len
    obtain ⟨U, hU⟩ : ∃ U, U = w1.alloc (.cells #[.slice A1 n1 c1, .int .i64 (Pn : Int)] 76) := ⟨_, rfl⟩
    have hbU : Below w1.heap.size w1 U := by rw [hU]; exact (Below.refl _ w1).alloc (Nat.le_refl _) _
    have HS := Lib.hid (rShards_any (w := U) (c := c1) (hRK.below hbU) hbU.size (srtN_sorted l 8) (fun x hx => by have := (mem_srtN.1 hx).2; omega) (by omega) Pn (by omega) (by omega) n ((HT.out.on hb1).on hbU))
    have HU := Lib.hid hU
    have HX := Lib.hid (And.intro hnb (And.intro hgB (And.intro (below_then hb1 hbU) hP1)))
    clear hb1 hnb hRK hup hg hP1 hP2 hgB hsl hl8 hn1 hU hbU
    go_wp2_with fail
    rw [← HU.out]
    refine HS.out.mono ?_
    rintro en w2 ⟨hor, hb2⟩
    have HB2 := Lib.hid (below_then HX.out.2.2.1 hb2)
    have hfe : firstE l (Pn : Int) n = if mayS n = false then 1 else if l = [] then 3 else 0 := by
      unfold firstE
      rw [HX.out.1]
      simp
    rcases hor with (⟨hms, rfl⟩ | ⟨hms, hK, rfl⟩) | ⟨hms, hK, A2, n2, c2, H, rfl, hn2, hH, hown⟩
    · have HE := Lib.hid (show firstE l (Pn : Int) n = 1 by rw [hfe, if_pos hms])
      clear hb2 hfe hms
      go_wp2_with fail
      go_ret2
      exact ⟨.inl ⟨by rw [HE.out]; decide, by rw [HE.out]; rfl⟩, HB2.out⟩
    · have HE := Lib.hid (show firstE l (Pn : Int) n = 3 by rw [hfe, if_neg (by rw [hms]; simp), if_pos ((srt_nil HX.out.2.1).1 hK)])
      clear hb2 hfe hms hK
      go_wp2_with fail
      go_ret2
      exact ⟨.inl ⟨by rw [HE.out]; decide, by rw [HE.out]; rfl⟩, HB2.out⟩
    · have HE := Lib.hid (show firstE l (Pn : Int) n = 0 by rw [hfe, if_neg (by rw [hms]; simp), if_neg (fun h => hK ((srt_nil HX.out.2.1).2 h))])
      have hUs : w.heap.size ≤ U.heap.size := HX.out.2.2.1.size
      have HO := Lib.hid (And.intro hn2 (And.intro (homes_congr (zof_mem_congr (srt_mem HX.out.2.1)) hH) (own_base hown hUs)))
      clear hb2 hfe hms hK hn2 hH hown hUs
      go_wp2_with fail
      go_ret2
      exact ⟨.inr ⟨HE.out, A2, n2, c2, H, rfl, HO.out.1, by rw [Int.toNat_natCast]; exact HO.out.2.1, HO.out.2.2⟩, HB2.out⟩
  · have HE := Lib.hid (show firstE l P n = 1 by unfold firstE; rw [if_pos (.inl hnb)])
    have HBX := Lib.hid (show Below w.heap.size w (w1.alloc (.cells #[.slice none 0 0, .int .i64 0] 76)) from hb1.alloc hb1.size _)
    clear hb1 hnb
    go_wp2_with fail
    go_ret2
    exact ⟨.inl ⟨by rw [HE.out]; decide, by rw [HE.out]; rfl⟩, HBX.out⟩
set_option maxHeartbeats 4000000 in
theorem rFirst_any {w : World} {B : Nat} {A : Option Addr} {m c : Nat} {l : List Int} (hR : Reads w B 1 A m (ints l)) (hB : B ≤ w.heap.size) (P n : Int) (hT : Four w) :
    Calls Tryd.prog 8 #[.slice A m c, .int .i64 P, .int .i64 n] w (FirstPost l P n w) := by
  obtain ⟨W, hW⟩ : ∃ W, W = w.alloc (.cells #[.int .i64 0, .slice none 0 0] 24) := ⟨_, rfl⟩
  have hB0 : Below w.heap.size w W := by rw [hW]; exact (Below.refl _ w).alloc (Nat.le_refl _) _
  have r0 : Row W w.heap.size 24 [.int .i64 0, .slice none 0 0] := by rw [hW]; exact Row.new w 24 [.int .i64 0, .slice none 0 0]
  have hsW : w.heap.size + 1 ≤ W.heap.size := by rw [hW]; simp
  have HH := Lib.hid (homesR_any (w := W) (c := c) ((hR.more hB).below hB0) hB0.size P n (hT.on hB0))
  have KR := Lib.hid (fun w1 (hb : Below W.heap.size W w1) => r0.keep (hb.block _ r0.lt))
  have HW := Lib.hid hW
  have HB0 := Lib.hid (And.intro hB0 hsW)
  clear hR hB hB0 r0 hW hT hsW
  go_enter Tryd.func8, Tryd.ntmps8
  go_wp2_with fail
  rw [← HW.out]
  refine HH.out.mono ?_
  rintro en w1 ⟨hor, hb1⟩
  have rr := KR.out w1 hb1
  have x0 := rr.cell (j := 0) rfl
  have x1 := rr.cell (j := 1) rfl
  have f0 := rr.frozen 0
  have f1 := rr.frozen 1
  have xl := rr.lt
  have HRR := Lib.hid (And.intro rr (HB0.out.1.trans (hb1.mono HB0.out.1.size)))
  clear rr hb1
  rcases hor with ⟨hne, rfl⟩ | ⟨h0, A1, n1, c1, H, rfl, hn1, hHs, hown⟩
  · have hnb : (firstE l P n != 0) = true := by rw [bne_iff_ne]; exact hne
    obtain ⟨k, hk⟩ : ∃ k, firstE l P n = k := ⟨_, rfl⟩
    rw [hk] at hnb hne ⊢
    have HE := Lib.hid hk
    have HNE := Lib.hid hne
    clear hk hne
    go_wp2_with fail
    have rs := (HRR.out.1.set 0 (.int .i64 0)).set 1 (.slice none 0 0)
    have g0 := rs.cell (j := 0) rfl
    have g1 := rs.cell (j := 1) rfl
    refine bodyPost_ret (v := .tuple #[.agg #[.int .i64 0, .slice none 0 0], .int .i64 k]) (by simp [results, Tryd.results8, go_sem, g0, g1]) rfl (FirstPost.bad HE.out HNE.out ?_)
    exact below_setCell (below_setCell HRR.out.2 (p := ⟨w.heap.size, 0, none⟩) (Nat.le_refl _) _) (p := ⟨w.heap.size, 1, none⟩) (Nat.le_refl _) _
  · have hcap := own_cap hown
    have hne := own_ne hown HB0.out.2
    have HX := Lib.hid (And.intro h0 (And.intro hn1 (And.intro hHs (And.intro (Reads.of_own hown) (And.intro hne hcap)))))
    clear hcap hne h0 hn1 hHs hown
    go_wp2_with fail
    have rs := (HRR.out.1.set 0 (.int .i64 1)).set 1 (.slice A1 n1 c1)
    have g0 := rs.cell (j := 0) rfl
    have g1 := rs.cell (j := 1) rfl
    have hsz : ((w1.setCell ⟨w.heap.size, 0, none⟩ (.int .i64 1)).setCell ⟨w.heap.size, 1, none⟩ (.slice A1 n1 c1)).heap.size = w1.heap.size := by simp
    refine bodyPost_ret (v := .tuple #[.agg #[.int .i64 1, .slice A1 n1 c1], .int .i64 0]) (by simp [results, Tryd.results8, go_sem, g0, g1]) rfl ⟨1, A1, n1, c1, H, by rw [HX.out.1], ?_, HX.out.2.2.2.2.2.1, HX.out.2.2.2.2.2.2, .inl ⟨HX.out.1, rfl, HX.out.2.1, HX.out.2.2.1⟩, ?_⟩
    · rw [hsz]
      exact reads_set_ne (reads_set_ne HX.out.2.2.2.1 HX.out.2.2.2.2.1 _ _) HX.out.2.2.2.2.1 _ _
    · exact below_setCell (below_setCell HRR.out.2 (p := ⟨w.heap.size, 0, none⟩) (Nat.le_refl _) _) (p := ⟨w.heap.size, 1, none⟩) (Nat.le_refl _) _
set_option maxHeartbeats 4000000 in
theorem rPlan_any {w : World} {B B' : Nat} {A A' : Option Addr} {n m c c' : Nat} {a l : List Int} (e : Int) (hR : Reads w B 1 A n (ints a)) (hB : B ≤ w.heap.size) (hn : n ≤ maxLen) (hR' : Reads w B' 1 A' m (ints l)) (hB' : B' ≤ w.heap.size) (P : Int) (hT : Four w) :
    Calls Tryd.prog 10 #[.agg #[.int .i64 e, .slice A n c], .slice A' m c', .int .i64 P] w (PlanPost e a l P w) := by
  have hln := hR.len
  obtain ⟨W, hW⟩ : ∃ W, W = w.alloc (.cells #[.int .i64 e, .slice A n c] 24) := ⟨_, rfl⟩
  have hB0 : Below w.heap.size w W := by rw [hW]; exact (Below.refl _ w).alloc (Nat.le_refl _) _
  have r0 : Row W w.heap.size 24 [.int .i64 e, .slice A n c] := by rw [hW]; exact Row.new w 24 [.int .i64 e, .slice A n c]
  have h1 := (hR.more hB).below hB0
  have h2 := (hR'.more hB').below hB0
  have hTW := hT.on hB0
  have HC := Lib.hid (may_any (c := c) e h1 hB0.size hn)
  have KF := Lib.hid (fun w1 (hb : Below W.heap.size W w1) => homesR_any (c := c') (h2.below (hb.mono hB0.size)) (Nat.le_trans hB0.size hb.size) P (n : Int) (hTW.on hb))
  have KR := Lib.hid (fun w1 (hb : Below W.heap.size W w1) => And.intro (r0.keep (hb.block _ r0.lt)) (h1.below (hb.mono hB0.size)))
  have HW := Lib.hid hW
  have HB0 := Lib.hid hB0
  have HL := Lib.hid hln
  have hpe : planE e a l P = if mayC e a = false then 1 else firstE l P (n : Int) := by unfold planE; rw [hln]
  clear hR hR' hB hB' hB0 r0 hW hT h1 h2 hTW hln
  cases hmc : mayC e a with
  | false =>
    have HE := Lib.hid (show planE e a l P = 1 by rw [hpe, if_pos hmc])
    rw [hmc] at HC
    clear hpe hmc
    go_enter Tryd.func10, Tryd.ntmps10
    go_wp2_with fail
    rw [← HW.out]
    refine HC.out.mono ?_
    rintro en w1 ⟨rfl, hb1⟩
    have HB1 := Lib.hid (HB0.out.trans (hb1.mono HB0.out.size))
    clear hb1
    go_wp2_with fail
    go_ret2
    exact PlanPost.bad HE.out (by decide) HB1.out
  | true =>
    rw [if_neg (by rw [hmc]; simp)] at hpe
    rw [hmc] at HC
    have HPE := Lib.hid hpe
    have HMC := Lib.hid hmc
    clear hpe hmc
    go_enter Tryd.func10, Tryd.ntmps10
    go_wp2_with fail
    rw [← HW.out]
    refine HC.out.mono ?_
    rintro en w1 ⟨rfl, hb1⟩
    obtain ⟨rr, _⟩ := KR.out w1 hb1
    have x0 := rr.cell (j := 0) rfl
    have x1 := rr.cell (j := 1) rfl
    have xl := rr.lt
    have HF := Lib.hid (KF.out w1 hb1)
    have HB1 := Lib.hid hb1
    clear hb1 rr
    go_wp2_with fail
    refine HF.out.mono ?_
    rintro en w2 ⟨hor, hb2⟩
    have hb02 := below_then HB1.out hb2
    clear x0 x1 xl
    obtain ⟨rr, hRa⟩ := KR.out w2 hb02
    have x0 := rr.cell (j := 0) rfl
    have x1 := rr.cell (j := 1) rfl
    have xl := rr.lt
    have hbw := HB0.out.trans (hb02.mono HB0.out.size)
    rcases hor with ⟨hne, rfl⟩ | ⟨h0, A1, n1, c1, H, rfl, hn1, hHs, hown⟩
    · have hnb : (firstE l P (n : Int) != 0) = true := by rw [bne_iff_ne]; exact hne
      have HE := Lib.hid (show planE e a l P = firstE l P (n : Int) from HPE.out)
      have HNE := Lib.hid hne
      have HBX := Lib.hid hbw
      clear hb2 hb02 rr hRa hne hbw
      generalize firstE l P (n : Int) = k at *
      go_wp2_with fail
      go_ret2
      exact PlanPost.bad HE.out HNE.out HBX.out
    · obtain rfl : n1 = n := by omega
      have hH := own_len hown
      have hm2 := mayC_iff.1 HMC.out
      have HD := Lib.hid (rdiff_any (w := w2) (c := c) (c' := c1) hRa hbw.size (Reads.of_own hown) (Nat.le_refl _) (by have := HL.out; omega))
      have HX := Lib.hid (And.intro (show planE e a l P = 0 by rw [HPE.out, h0]) (And.intro (show H.length = a.length by have := HL.out; omega) (And.intro (show Homes (zof l P.toNat) (a.length : Int) H by rw [← HL.out]; exact hHs) hbw)))
      clear hb2 hb02 rr hRa hbw h0 hn1 hHs hown hH hm2
      go_wp2_with fail
      refine HD.out.mono ?_
      rintro en w3 ⟨v, rfl, hown, hb3⟩
      rw [HL.out] at hown
      have HO := Lib.hid (And.intro hown hb3)
      clear hown hb3
      go_wp2_with fail
      go_ret2
      exact ⟨v, dm a H a.length, by rw [HX.out.1]; rfl, own_base HO.out.1 HX.out.2.2.2.size, .inl ⟨HX.out.1, H, HX.out.2.1, HX.out.2.2.1, rfl⟩, below_then HX.out.2.2.2 HO.out.2⟩
end Go.Proofs.YtmepahlmbopacaaDoor.Ct
