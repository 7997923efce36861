/- What Put of package post returns. Conditions: the message's numbers and hits read as lists; few of them; Go's table of powers of ten and crc's table lie below. -/
import Derived.Test.YtcbkgcnajplagaaDoorJ23
import Derived.Test.YtcbkgcnajplagaaDoorJ21
import Derived.Test.YtcbkgcnajplagaaDoorJ17
set_option linter.unusedVariables false
set_option linter.unusedSimpArgs false
set_option maxRecDepth 100000
namespace Go.Proofs.YtcbkgcnajplagaaDoor
open Go Go.RowKit
/-- The tables that a message's text asks for. -/
structure Four (w : World) : Prop where
  tab : TabW w
  tabs : Be.Tabs w w.heap.size
theorem Four.on {w w' : World} (h : Four w) (hb : Below w.heap.size w w') : Four w' := ⟨h.tab.below hb h.tab.size, (h.tabs.on hb).up hb.size⟩
namespace Po
open Be (T kindsOk kindsOkL deepT deepL wfT wfL tidy tidyL onlyRes takeRes gdT RdL Rd RdA ReadsP Keeps)
def txP (m : M) : ByteArray := if mayM m = true then txtB m else ⟨#[]⟩
theorem txt_put (m : M) (S : ByteArray) (hS : S = ⟨(Be.enc (valM m)).toArray⟩) : encS S ++ encS m.tx = txtB m := by
  subst hS
  refine ByteArray.ext (Array.toList_inj.1 ?_)
  rw [ByteArray.data_append, Array.toList_append, encS_list, encS_list, txt_list, txtL_is]
theorem empty_app (E : ByteArray) : (⟨#[]⟩ : ByteArray) ++ E = E := ByteArray.ext (Array.toList_inj.1 (by simp [ByteArray.data_append]))
theorem putV_t {s : ByteArray} (h : s.size ≤ 262144) : putV s = .tuple #[.string (encS s), .int .i64 0] := by unfold putV; rw [if_pos h]
set_option maxHeartbeats 8000000 in
theorem put_any (m : M) (hf : FitM m) {w : World} {B : Nat} {A A' : Option Addr} {n c n' c' : Nat} (hR : Reads w B 1 A n (ints m.vs)) (hR' : Reads w B 2 A' n' (hits m.hs)) (hB : B ≤ w.heap.size) (hm : n ≤ 70000) (hm' : n' ≤ 70000) (hT : Four w) :
    Calls Tryd.prog 10 #[.agg (msgV m A n c A' n' c').toArray] w (Gives (.tuple #[.string (txP m), .int .i64 (eM m)]) w) := by
  have hln := hR.len
  have hln' := hR'.hits_len
  obtain ⟨W, hW⟩ : ∃ W, W = w.alloc (.cells (msgV m A n c A' n' c').toArray 30) := ⟨_, rfl⟩
  have hb0 : Below w.heap.size w W := by rw [hW]; exact (Below.refl _ w).alloc (Nat.le_refl _) _
  have hRw : Row W w.heap.size 30 (msgV m A n c A' n' c') := by rw [hW]; exact Row.new w 30 (msgV m A n c A' n' c')
  have KR := Lib.hid (fun w1 (hb : Below W.heap.size W w1) => show Row w1 w.heap.size 30 (msgV m A n c A' n' c') ∧ Reads w1 B 1 A n (ints m.vs) ∧ Reads w1 B 2 A' n' (hits m.hs) ∧ B ≤ w1.heap.size ∧ Below w.heap.size w w1 ∧ Four w1 from
    ⟨hRw.keep (hb.block _ hRw.lt), hR.below ((hb0.trans (hb.mono hb0.size)).mono hB), hR'.below ((hb0.trans (hb.mono hb0.size)).mono hB), Nat.le_trans hB (hb0.trans (hb.mono hb0.size)).size, hb0.trans (hb.mono hb0.size), hT.on (hb0.trans (hb.mono hb0.size))⟩)
  have HC := Lib.hid (check_any (c := c) (c' := c') m hf.1 (hR.below (hb0.mono hB)) (hR'.below (hb0.mono hB)) (Nat.le_trans hB hb0.size) (show n ≤ maxLen by unfold maxLen; omega) (show n' ≤ maxLen by unfold maxLen; omega))
  have c0 := hRw.cell (j := 0) rfl
  have c1 := hRw.cell (j := 1) rfl
  have c2 := hRw.cell (j := 2) rfl
  have c3 := hRw.cell (j := 3) rfl
  have c4 := hRw.cell (j := 4) rfl
  have c5 := hRw.cell (j := 5) rfl
  have c6 := hRw.cell (j := 6) rfl
  have c7 := hRw.cell (j := 7) rfl
  have c8 := hRw.cell (j := 8) rfl
  have c9 := hRw.cell (j := 9) rfl
  have c10 := hRw.cell (j := 10) rfl
  have c11 := hRw.cell (j := 11) rfl
  have c12 := hRw.cell (j := 12) rfl
  have c13 := hRw.cell (j := 13) rfl
  have c14 := hRw.cell (j := 14) rfl
  have c15 := hRw.cell (j := 15) rfl
  have lw := hRw.lt
  have HW := Lib.hid hW
  have HL := Lib.hid (And.intro hln hln')
  clear hRw hb0 hR hR' hB hW hT hln hln'
  cases hmm : mayM m with
  | false =>
    have HE := Lib.hid (eM_f hmm)
    have HTX := Lib.hid (show txP m = ⟨#[]⟩ by unfold txP; rw [hmm]; rfl)
    rw [HE.out] at HC ⊢
    rw [HTX.out]
    clear hmm
    go_enter Tryd.func10, Tryd.ntmps10
    unfold msgV at HW HC
    unfold msgV
    go_wp2_with fail
    rw [← HW.out]
    go_wp2_with fail
    refine HC.out.mono ?_
    rintro en w1 ⟨rfl, hb1⟩
    have HB1 := Lib.hid (KR.out w1 hb1).2.2.2.2.1
    clear hb1
    go_wp2_with fail
    go_ret2
    exact ⟨rfl, HB1.out⟩
  | true =>
    have HE := Lib.hid (eM_t hmm)
    have HTX := Lib.hid (show txP m = txtB m by unfold txP; rw [if_pos hmm])
    have hfits := may_fits hmm hf
    have HV := Lib.hid (val_facts hmm hf)
    have HG := Lib.hid (val_gd hmm hf)
    have htx : m.tx.size ≤ 262144 := (mayM_iff.1 hmm).2.2.2.2.2.2.2.2.2.2.2.2.2
    have hn1 : n ≤ 1000 := by have := HL.out; omega
    have hn2 : n' ≤ 1000 := by have := HL.out; omega
    have HA := Lib.hid (txt_put m _ rfl)
    rw [HE.out] at HC ⊢
    rw [HTX.out]
    clear hmm hfits
    obtain ⟨S, hS⟩ : ∃ S : ByteArray, S = ⟨(Be.enc (valM m)).toArray⟩ := ⟨_, rfl⟩
    have hSz : S.size ≤ 4000 := by rw [hS]; show (Be.enc (valM m)).toArray.size ≤ 4000; simpa using HV.out.2.2.2.2
    rw [← hS] at HA
    have HS := Lib.hid hS
    clear hS
    have HP1 := Lib.hid (fun w' hT => YtcbkgcnajplagaaDoor.put_any S (by omega) w' hT)
    have HP2 := Lib.hid (fun w' hT => YtcbkgcnajplagaaDoor.put_any m.tx (by omega) w' hT)
    rw [putV_t (by omega)] at HP1
    rw [putV_t htx] at HP2
    have hz1 := encS_size S
    have hz2 := encS_size m.tx
    obtain ⟨E1, hE1⟩ : ∃ E1, encS S = E1 := ⟨_, rfl⟩
    obtain ⟨E2, hE2⟩ : ∃ E2, encS m.tx = E2 := ⟨_, rfl⟩
    rw [hE1] at HA HP1 hz1
    rw [hE2] at HA HP2 hz2
    have hs1 : E1.size ≤ 300000 := by omega
    have hs2 : E2.size ≤ 300000 := by omega
    clear hE1 hE2 hz1 hz2
    go_enter Tryd.func10, Tryd.ntmps10
    unfold msgV at HW HC
    unfold msgV
    go_wp2_with fail
    rw [← HW.out]
    go_wp2_with fail
    refine HC.out.mono ?_
    rintro en w1 ⟨rfl, hb1⟩
    clear c0 c1 c2 c3 c4 c5 c6 c7 c8 c9 c10 c11 c12 c13 c14 c15 lw HC
    obtain ⟨rM, hV, hH, hBs, hbw, hT1⟩ := KR.out w1 hb1
    have c0 := rM.cell (j := 0) rfl
    have c1 := rM.cell (j := 1) rfl
    have c2 := rM.cell (j := 2) rfl
    have c3 := rM.cell (j := 3) rfl
    have c4 := rM.cell (j := 4) rfl
    have c5 := rM.cell (j := 5) rfl
    have c6 := rM.cell (j := 6) rfl
    have c7 := rM.cell (j := 7) rfl
    have c8 := rM.cell (j := 8) rfl
    have c9 := rM.cell (j := 9) rfl
    have c10 := rM.cell (j := 10) rfl
    have c11 := rM.cell (j := 11) rfl
    have c12 := rM.cell (j := 12) rfl
    have c13 := rM.cell (j := 13) rfl
    have c14 := rM.cell (j := 14) rfl
    have c15 := rM.cell (j := 15) rfl
    have lw := rM.lt
    have HVA := Lib.hid (value_any (c := c) (c' := c') m hV hH hBs hn1 hn2)
    unfold msgV at HVA
    have HB1 := Lib.hid hb1
    clear rM hV hH hBs hbw hT1 hb1
    go_wp2_with fail
    refine HVA.out.mono ?_
    intro en w2 hpost
    unfold ValPost at hpost
    obtain ⟨v, rfl, hRA, hb2⟩ := hpost
    have hbW2 := HB1.out.trans (hb2.mono HB1.out.size)
    have HPB := Lib.hid (Be.put_ok (valM m) v w2 hRA HV.out.2.2.1 HG.out (KR.out w2 hbW2).2.2.2.2.2.tabs)
    rw [← HS.out] at HPB
    have HB2 := Lib.hid hbW2
    clear c0 c1 c2 c3 c4 c5 c6 c7 c8 c9 c10 c11 c12 c13 c14 c15 lw hRA hb2 hbW2
    go_wp2_with fail
    refine HPB.out.mono ?_
    rintro en w3 ⟨rfl, hb3⟩
    have hbW3 := HB2.out.trans (hb3.mono HB2.out.size)
    have c15 := (KR.out w3 hbW3).1.cell (j := 15) rfl
    have lw := (KR.out w3 hbW3).1.lt
    obtain ⟨V, hV⟩ : ∃ V, V = w3.alloc (.cells #[.string S, .string m.tx] 9) := ⟨_, rfl⟩
    have hbV : Below w3.heap.size w3 V := by rw [hV]; exact (Below.refl _ w3).alloc (Nat.le_refl _) _
    have rV : Row V w3.heap.size 9 [.string S, .string m.tx] := by rw [hV]; exact Row.new w3 _ _
    have hbWV := hbW3.trans (hbV.mono hbW3.size)
    have KV := Lib.hid (fun w' (hb : Below V.heap.size V w') => show Row w' w3.heap.size 9 [.string S, .string m.tx] ∧ Below w.heap.size w w' ∧ Four w' from
      ⟨rV.keep (hb.block _ rV.lt), (KR.out w' (hbWV.trans (hb.mono hbWV.size))).2.2.2.2⟩)
    have HV2 := Lib.hid hV
    clear hb3 hbW3 hV hbV rV hbWV
    go_wp2_with fail
    rw [← HV2.out]
    clear c15 lw
    obtain ⟨rV, _, hT1⟩ := KV.out V (Below.refl _ V)
    have v0 := rV.cell (j := 0) rfl
    have v1 := rV.cell (j := 1) rfl
    have vl := rV.lt
    have HPA := Lib.hid (HP1.out V hT1.tab)
    clear rV hT1
    refine wp_loop_rounds 3 ?_
    rw [rounds_succ]
    go_wp2_with fail
    refine HPA.out.mono ?_
    rintro en w4 ⟨rfl, hb4⟩
    clear v0 v1 vl HPA
    obtain ⟨rV, _, hT1⟩ := KV.out w4 hb4
    have v0 := rV.cell (j := 0) rfl
    have v1 := rV.cell (j := 1) rfl
    have vl := rV.lt
    have HPA := Lib.hid (HP2.out w4 hT1.tab)
    have HB4 := Lib.hid hb4
    clear rV hT1 hb4
    go_wp2_with fail
    rw [rounds_succ]
    go_wp2_with fail
    refine HPA.out.mono ?_
    rintro en w5 ⟨rfl, hb5⟩
    have HB5 := Lib.hid (KV.out w5 (HB4.out.trans (hb5.mono HB4.out.size))).2.1
    clear v0 v1 vl HPA hb5
    go_wp2_with fail
    rw [rounds_succ]
    go_wp2_with fail
    go_ret2
    exact ⟨by rw [← HA.out]; simp [empty_app], HB5.out⟩
end Po
end Go.Proofs.YtcbkgcnajplagaaDoor
