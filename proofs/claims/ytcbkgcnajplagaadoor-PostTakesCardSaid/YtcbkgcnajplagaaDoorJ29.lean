/- What awake of the statements returns. Conditions: the tables lie as start-up lays them. -/
import Derived.Test.YtcbkgcnajplagaaDoorJ28
import Derived.Deep.RegionLaw
set_option linter.unusedVariables false
set_option linter.unusedSimpArgs false
set_option maxRecDepth 100000
namespace Go.Proofs.YtcbkgcnajplagaaDoor.Po
open Go Go.RowKit
open Be (T kindsOk kindsOkL deepT deepL wfT wfL tidy tidyL onlyRes takeRes gdT RdL Rd RdA ReadsP Keeps)
def xB : ByteArray := ⟨#[120]⟩
theorem x_take : takeM xB = none := by
  have e : (tkL xB.data.toList).2.2 ≠ 0 := by decide +kernel
  rw [← takeP_eq]
  unfold takeP
  rw [read_1 e]
set_option maxHeartbeats 16000000 in
theorem awake_any (w : World) (hT : Four w) : Calls Tryd.prog 9 #[] w (Gives (.bool true) w) := by
  have HS := Lib.hid (some_any w)
  have hsz := txt_size sM
  have hge := val_ge sM_may sM_fit
  have hle := txt_le sM_may sM_fit
  have HTM := Lib.hid (takeM_txt sM_may sM_fit)
  have HTX := Lib.hid (show txP sM = txtB sM by unfold txP; rw [if_pos sM_may])
  have HE := Lib.hid (eM_t sM_may)
  obtain ⟨S, hS⟩ : ∃ S, txtB sM = S := ⟨_, rfl⟩
  rw [hS] at hsz hle HTM HTX
  have hSb : (28 : Int) < (S.size : Int) := by omega
  have HT := Lib.hid hT
  clear hsz hge hS hT
  go_enter Tryd.func9, Tryd.ntmps9
  go_wp2_with fail
  refine HS.out.mono ?_
  intro en w1 hpost
  unfold SomePost at hpost
  obtain ⟨A, rfl, hR, hb1⟩ := hpost
  have hp := put_any (c := 2) (c' := 0) (w := w1) sM sM_fit hR (Reads.none_ (B := w1.heap.size) (size := 2) (A := none)) (Nat.le_refl _) (by omega) (by omega) (HT.out.on hb1)
  rw [HTX.out, HE.out] at hp
  have HP := Lib.hid hp
  have HB1 := Lib.hid hb1
  clear hp hR hb1
  go_wp2_with fail
  refine HP.out.mono ?_
  rintro en w2 ⟨rfl, hb2⟩
  have hb02 := below_then HB1.out hb2
  have htk := take_any S (by omega) (HT.out.on hb02)
  rw [HTM.out] at htk
  have HTK := Lib.hid htk
  have HB2 := Lib.hid hb02
  clear hb2 hb02 htk
  go_wp2_with fail
  refine HTK.out.mono ?_
  intro en w3 hpost
  unfold TkPost at hpost
  obtain ⟨hb3, A3, n3, c3, A3', n3', c3', rfl, hR3, hR3', _, _⟩ := hpost
  obtain rfl : n3 = 2 := hR3.len
  obtain rfl : n3' = 0 := hR3'.hits_len
  obtain ⟨V, hV⟩ : ∃ V, V = w3.alloc (.cells (msgV sM A3 2 c3 A3' 0 c3').toArray 30) := ⟨_, rfl⟩
  have hbV : Below w3.heap.size w3 V := by rw [hV]; exact (Below.refl _ w3).alloc (Nat.le_refl _) _
  have rV : Row V w3.heap.size 30 (msgV sM A3 2 c3 A3' 0 c3') := by rw [hV]; exact Row.new w3 _ _
  have hbw := (HB2.out.trans (hb3.mono HB2.out.size)).trans (hbV.mono (Nat.le_trans HB2.out.size hb3.size))
  have htk := take_any xB (by decide) (HT.out.on hbw)
  rw [x_take] at htk
  have HTK2 : Hid (Calls Tryd.prog 13 #[.string ⟨#[120]⟩] V (TkPost none V)) := Lib.hid htk
  have HV := Lib.hid hV
  have HX := Lib.hid (show Row V w3.heap.size 30 (msgV sM A3 2 c3 A3' 0 c3') ∧ Reads V w3.heap.size 1 A3 2 (ints [1, -2]) ∧ Reads V w3.heap.size 2 A3' 0 (hits []) ∧ Below w.heap.size w V ∧ w3.heap.size < V.heap.size from ⟨rV, hR3.below hbV, hR3'.below hbV, hbw, rV.lt⟩)
  clear hb3 hR3 hR3' hV hbV rV hbw htk HTK
  unfold msgV
  unfold msgV at HV
  go_upto_region 3 with fail
  rw [← HV.out]
  go_wp2_with fail
  refine HTK2.out.mono ?_
  intro en w4 hpost
  unfold TkPost at hpost
  obtain ⟨hb4, rfl⟩ := hpost
  obtain ⟨U, hU⟩ : ∃ U, U = w4.alloc (.cells zC.toArray 30) := ⟨_, rfl⟩
  have hbU : Below V.heap.size V U := by rw [hU]; exact hb4.alloc hb4.size _
  have hr := HX.out.1.keep (hbU.block _ HX.out.1.lt)
  have k0 := hr.cell (j := 0) rfl
  have k1 := hr.cell (j := 1) rfl
  have k2 := hr.cell (j := 2) rfl
  have k3 := hr.cell (j := 3) rfl
  have k4 := hr.cell (j := 4) rfl
  have k5 := hr.cell (j := 5) rfl
  have k6 := hr.cell (j := 6) rfl
  have k7 := hr.cell (j := 7) rfl
  have k8 := hr.cell (j := 8) rfl
  have k9 := hr.cell (j := 9) rfl
  have k10 := hr.cell (j := 10) rfl
  have k11 := hr.cell (j := 11) rfl
  have k12 := hr.cell (j := 12) rfl
  have k13 := hr.cell (j := 13) rfl
  have k14 := hr.cell (j := 14) rfl
  have k15 := hr.cell (j := 15) rfl
  have lw := hr.lt
  have HSM := Lib.hid (some_any U.drew)
  have HU := Lib.hid hU
  have HY := Lib.hid (show Row U w3.heap.size 30 (msgV sM A3 2 c3 A3' 0 c3') ∧ Reads U w3.heap.size 1 A3 2 (ints [1, -2]) ∧ Reads U w3.heap.size 2 A3' 0 (hits []) ∧ Below w.heap.size w U ∧ w3.heap.size < U.heap.size from
    ⟨hr, HX.out.2.1.below (hbU.mono (by have := HX.out.2.2.2.2; omega)), HX.out.2.2.1.below (hbU.mono (by have := HX.out.2.2.2.2; omega)), HX.out.2.2.2.1.trans (hbU.mono HX.out.2.2.2.1.size), lw⟩)
  clear hb4 hU hbU hr HTK2 hle
  unfold zC msgC zM
  unfold zC msgC zM at HU
  go_upto_region 4 with fail
  rw [← HU.out]
  go_region_law (first
    | (go_simp; go_at_call 16; refine HSM.out.mono ?_; intro e w5 hpost; unfold SomePost at hpost; obtain ⟨A5, rfl, hR5, hb5⟩ := hpost; have hU5 : Below U.heap.size U w5 := (Below.refl _ U).drew.trans hb5; have hr := HY.out.1.keep (hU5.block _ HY.out.1.lt); have d0 := hr.cell (j := 0) rfl; have d1 := hr.cell (j := 1) rfl; have d2 := hr.cell (j := 2) rfl; have d3 := hr.cell (j := 3) rfl; have d4 := hr.cell (j := 4) rfl; have d5 := hr.cell (j := 5) rfl; have d6 := hr.cell (j := 6) rfl; have d7 := hr.cell (j := 7) rfl; have d8 := hr.cell (j := 8) rfl; have d9 := hr.cell (j := 9) rfl; have d10 := hr.cell (j := 10) rfl; have d11 := hr.cell (j := 11) rfl; have d12 := hr.cell (j := 12) rfl; have d13 := hr.cell (j := 13) rfl; have d14 := hr.cell (j := 14) rfl; have d15 := hr.cell (j := 15) rfl; have lw' := hr.lt; have HSA := Lib.hid (And.intro (HY.out.2.2.2.1.trans (hU5.mono HY.out.2.2.2.1.size)) (rsame_any sM sM (c := c3) (c2 := c3') (c' := 2) (c2' := 0) (w := w5) ((HY.out.2.1.below (hU5.mono (by have := HY.out.2.2.2.2; omega))).more (by have := HY.out.2.2.2.2; have := hU5.size; omega)) hR5 ((HY.out.2.2.1.below (hU5.mono (by have := HY.out.2.2.2.2; omega))).more (by have := HY.out.2.2.2.2; have := hU5.size; omega)) (Reads.none_ (A := none)) (Nat.le_refl _) (by simp [maxLen]) (by simp [maxLen]) (by simp [maxLen]) (by simp [maxLen]))); unfold msgV; clear hU5 hr hR5 hb5 HSM)
    | (go_simp; go_at_call 14; refine HSA.out.2.mono ?_; rintro e w6 ⟨rfl, hb6⟩; rw [decide_eq_true (rfl : sM = sM)]; have HB6 := Lib.hid (below_then HSA.out.1 hb6); clear hb6))
  all_goals (
    go_wp2_with fail
    go_ret
    exact ⟨rfl, HB6.out⟩)
end Go.Proofs.YtcbkgcnajplagaaDoor.Po
