/- What isReply and Check of package post return. Conditions: the message's numbers and hits read as lists. -/
import Derived.Test.YtcbkgcnajplagaaDoorJ05
import Derived.StillTailTactics
set_option linter.unusedVariables false
set_option linter.unusedSimpArgs false
set_option maxRecDepth 100000
namespace Go.Proofs.YtcbkgcnajplagaaDoor.Po
open Go Go.RowKit
set_option maxHeartbeats 4000000 in
theorem isRep_any {w : World} {B : Nat} {A : Option Addr} {n c : Nat} {l : List (Int × Int)} (er : Int) (wa : Bool) (hR : Reads w B 2 A n (hits l)) (hB : B ≤ w.heap.size) (hm : n ≤ maxLen) :
    Calls Tryd.prog 28 #[.agg #[.int .i64 er, .bool wa, .slice A n c]] w (Gives (.bool (decide (0 ≤ er ∧ er ≤ 255) && okHs l)) w) := by
  have hln := hR.hits_len
  obtain ⟨W, hW⟩ : ∃ W, W = ((w.alloc (.cells #[.int .i64 er, .bool wa, .slice A n c] 28)).alloc (.cells #[.int .i64 0, .int .i64 1099511627776] 61)).alloc (.cells #[.int .i64 0, .int .i64 255] 61) := ⟨_, rfl⟩
  have hB0 : Below w.heap.size w W := by rw [hW]; exact (((Below.refl _ w).alloc (Nat.le_refl _) _).alloc (by simp) _).alloc (by simp; omega) _
  have r0 : Row W w.heap.size 28 [.int .i64 er, .bool wa, .slice A n c] := by
    rw [hW]
    exact ((Row.new w 28 [.int .i64 er, .bool wa, .slice A n c]).keep (heap_alloc_lt _ _ (by simp))).keep (heap_alloc_lt _ _ (by simp; omega))
  have r1 : Row W (w.heap.size + 1) 61 farL := by
    rw [hW]
    have := Row.new (w.alloc (.cells #[.int .i64 er, .bool wa, .slice A n c] 28)) 61 farL
    rw [World.size_alloc] at this
    exact this.keep (heap_alloc_lt _ _ (by simp))
  have r2 : Row W (w.heap.size + 1 + 1) 61 [.int .i64 0, .int .i64 255] := by
    rw [hW]
    have := Row.new ((w.alloc (.cells #[.int .i64 er, .bool wa, .slice A n c] 28)).alloc (.cells #[.int .i64 0, .int .i64 1099511627776] 61)) 61 [.int .i64 0, .int .i64 255]
    rwa [World.size_alloc, World.size_alloc] at this
  have c0 := r0.cell (j := 0) rfl
  have c2 := r0.cell (j := 2) rfl
  have d0 := r2.cell (j := 0) rfl
  have d1 := r2.cell (j := 1) rfl
  have l0 := r0.lt
  have l2 := r2.lt
  have HH := Lib.hid (has_any 0 255 er W)
  have KR := Lib.hid (fun w1 (hb : Below W.heap.size W w1) => show w1.cell? ⟨w.heap.size, 2, none⟩ = some (.slice A n c) ∧ w.heap.size < w1.heap.size ∧ Reads w1 B 2 A n (hits l) ∧ Row w1 (w.heap.size + 1) 61 farL ∧ B ≤ w1.heap.size ∧ Below w.heap.size w w1 from
    ⟨(r0.keep (hb.block _ r0.lt)).cell (j := 2) rfl, (r0.keep (hb.block _ r0.lt)).lt, hR.below ((hB0.trans (hb.mono hB0.size)).mono hB), r1.keep (hb.block _ r1.lt), Nat.le_trans hB (hB0.trans (hb.mono hB0.size)).size, hB0.trans (hb.mono hB0.size)⟩)
  have HW := Lib.hid hW
  have HB := Lib.hid hB0
  have HL := Lib.hid hln
  clear hR hB hB0 r0 r1 r2 hW hln
  unfold maxLen at hm
  have hnb : ((n : Int) ≤ 64) = ((n : Int) ≤ 64) := rfl
  cases he : decide (0 ≤ er ∧ er ≤ 255) with
  | false =>
    rw [he] at HH
    clear he
    rw [Bool.false_and]
    go_enter Tryd.func28, Tryd.ntmps28
    go_wp2_with fail
    rw [← HW.out]
    go_wp2_with fail
    refine HH.out.mono ?_
    rintro en w1 ⟨rfl, hb1⟩
    have HB1 := Lib.hid (HB.out.trans (hb1.mono HB.out.size))
    clear hb1
    go_wp2_with fail
    go_ret
    exact ⟨rfl, HB1.out⟩
  | true =>
    rw [he] at HH
    clear he
    rw [Bool.true_and, okHs_all]
    by_cases h64 : (n : Int) ≤ 64
    · have hlb : decide (l.length ≤ 64) = true := decide_eq_true (by have := HL.out; omega)
      rw [hlb, Bool.true_and]
      clear hlb hnb
      go_enter Tryd.func28, Tryd.ntmps28
      go_wp2_with fail
      rw [← HW.out]
      go_wp2_with fail
      refine HH.out.mono ?_
      rintro en w1 ⟨rfl, hb1⟩
      obtain ⟨x2, xl, hRr, hFr, hBr, hbw⟩ := KR.out w1 hb1
      have HC := Lib.hid (contains_any (cap := c) (w.heap.size + 1) hRr hBr hFr (by unfold maxLen; omega))
      have HB1 := Lib.hid hbw
      clear hb1 hRr hFr hBr hbw
      go_wp2_with fail
      refine HC.out.mono ?_
      rintro en w2 ⟨rfl, hb2⟩
      have HB2 := Lib.hid (below_then HB1.out hb2)
      clear hb2
      go_wp2_with fail
      go_ret
      exact ⟨ret_bool (by simp), HB2.out⟩
    · have hlb : decide (l.length ≤ 64) = false := decide_eq_false (by have := HL.out; omega)
      rw [hlb, Bool.false_and]
      clear hlb hnb
      go_enter Tryd.func28, Tryd.ntmps28
      go_wp2_with fail
      rw [← HW.out]
      go_wp2_with fail
      refine HH.out.mono ?_
      rintro en w1 ⟨rfl, hb1⟩
      obtain ⟨x2, xl, hRr, hFr, hBr, hbw⟩ := KR.out w1 hb1
      have HB1 := Lib.hid hbw
      clear hb1 hRr hFr hBr hbw
      go_wp2_with fail
      go_ret
      exact ⟨rfl, HB1.out⟩
/-- What Check says. -/
def eM (m : M) : Int := if mayM m = true then 0 else 1
theorem eM_t {m : M} (h : mayM m = true) : eM m = 0 := if_pos h
theorem eM_f {m : M} (h : mayM m = false) : eM m = 1 := by unfold eM; rw [h]; rfl
def headI (m : M) : List Int := [m.kd, m.sh, m.ep, m.cl, m.sq, m.nn, m.vr, m.lm, m.ok, m.oi, m.kk]
def InS (m : M) (k : Nat) : Prop := (spansL.getD k (0, 0)).1 ≤ (headI m).getD k 0 ∧ (headI m).getD k 0 ≤ (spansL.getD k (0, 0)).2
instance (m : M) (k : Nat) : Decidable (InS m k) := by unfold InS; exact inferInstance
theorem head_at (m : M) (b : Nat) (A : Option Addr) (n c : Nat) (A' : Option Addr) (n' c' : Nat) {k : Nat} (hk : k < 11) : ∃ o, (ptrsL b)[k]? = some (.pointer (some ⟨b, o, none⟩)) ∧ (msgV m A n c A' n' c')[o]? = some (.int .i64 ((headI m).getD k 0)) ∧ spansC[k * 2]? = some (.int .i64 (spansL.getD k (0, 0)).1) ∧ spansC[k * 2 + 1]? = some (.int .i64 (spansL.getD k (0, 0)).2) := by
  match k, hk with
  | 0, _ => exact ⟨0, rfl, rfl, rfl, rfl⟩
  | 1, _ => exact ⟨1, rfl, rfl, rfl, rfl⟩
  | 2, _ => exact ⟨2, rfl, rfl, rfl, rfl⟩
  | 3, _ => exact ⟨3, rfl, rfl, rfl, rfl⟩
  | 4, _ => exact ⟨4, rfl, rfl, rfl, rfl⟩
  | 5, _ => exact ⟨5, rfl, rfl, rfl, rfl⟩
  | 6, _ => exact ⟨6, rfl, rfl, rfl, rfl⟩
  | 7, _ => exact ⟨7, rfl, rfl, rfl, rfl⟩
  | 8, _ => exact ⟨8, rfl, rfl, rfl, rfl⟩
  | 9, _ => exact ⟨9, rfl, rfl, rfl, rfl⟩
  | 10, _ => exact ⟨11, rfl, rfl, rfl, rfl⟩
theorem may_ins {m : M} (h : mayM m = true) (hf : S64 m.oi) {k : Nat} (hk : k < 11) : InS m k := by
  obtain ⟨h1, h2, h3, h4, h5, h6, h7, h8, h9, h10, h11, h12, h13, h14⟩ := mayM_iff.1 h
  match k, hk with
  | 0, _ => exact h8
  | 1, _ => exact h9
  | 2, _ => exact h1
  | 3, _ => exact h2
  | 4, _ => exact h3
  | 5, _ => exact h4
  | 6, _ => exact h5
  | 7, _ => exact h6
  | 8, _ => exact h11
  | 9, _ => exact hf
  | 10, _ => exact h12
theorem ins_no {m : M} (hf : S64 m.oi) {k : Nat} (hk : k < 11) (h : ¬ InS m k) : eM m = 1 := eM_f (by
  rw [Bool.eq_false_iff]
  exact fun hm => h (may_ins hm hf hk))
theorem vs_no {m : M} (h : okVs m.vs = false) : eM m = 1 := eM_f (by
  rw [Bool.eq_false_iff]
  intro hm
  obtain ⟨h1, h2, h3, h4, h5, h6, h7, h8, h9, h10, h11, h12, h13, h14⟩ := mayM_iff.1 hm
  rw [h] at h10
  cases h10)
theorem rep_no {m : M} (h : (decide (0 ≤ m.er ∧ m.er ≤ 255) && okHs m.hs) = false) : eM m = 1 := eM_f (by
  rw [Bool.eq_false_iff]
  intro hm
  obtain ⟨h1, h2, h3, h4, h5, h6, h7, h8, h9, h10, h11, h12, h13, h14⟩ := mayM_iff.1 hm
  rw [h7, decide_eq_true h13] at h
  cases h)
theorem tx_no {m : M} (h : ¬ m.tx.size ≤ 262144) : eM m = 1 := eM_f (by
  rw [Bool.eq_false_iff]
  intro hm
  obtain ⟨h1, h2, h3, h4, h5, h6, h7, h8, h9, h10, h11, h12, h13, h14⟩ := mayM_iff.1 hm
  exact h h14)
theorem chk_yes {m : M} (h : ∀ j, j < 11 → InS m j) (hv : okVs m.vs = true) (hr : (decide (0 ≤ m.er ∧ m.er ≤ 255) && okHs m.hs) = true) (ht : m.tx.size ≤ 262144) : eM m = 0 := by
  rw [Bool.and_eq_true, decide_eq_true_eq] at hr
  exact eM_t (mayM_iff.2 ⟨h 2 (by omega), h 3 (by omega), h 4 (by omega), h 5 (by omega), h 6 (by omega), h 7 (by omega), hr.2, h 0 (by omega), h 1 (by omega), hv, h 8 (by omega), h 10 (by omega), hr.1, ht⟩)
set_option maxHeartbeats 8000000 in
theorem check_any (m : M) (hf : S64 m.oi) {w : World} {B : Nat} {A A' : Option Addr} {n c n' c' : Nat} (hR : Reads w B 1 A n (ints m.vs)) (hR' : Reads w B 2 A' n' (hits m.hs)) (hB : B ≤ w.heap.size) (hm : n ≤ maxLen) (hm' : n' ≤ maxLen) :
    Calls Tryd.prog 12 #[.agg (msgV m A n c A' n' c').toArray] w (Gives (.int .i64 (eM m)) w) := by
  obtain ⟨W, hW⟩ : ∃ W, W = w.alloc (.cells (msgV m A n c A' n' c').toArray 30) := ⟨_, rfl⟩
  have hb0 : Below w.heap.size w W := by rw [hW]; exact (Below.refl _ w).alloc (Nat.le_refl _) _
  have hRw : Row W w.heap.size 30 (msgV m A n c A' n' c') := by rw [hW]; exact Row.new w 30 (msgV m A n c A' n' c')
  have KR := Lib.hid (fun w1 (hb : Below W.heap.size W w1) => show Row w1 w.heap.size 30 (msgV m A n c A' n' c') ∧ Reads w1 B 1 A n (ints m.vs) ∧ Reads w1 B 2 A' n' (hits m.hs) ∧ B ≤ w1.heap.size ∧ Below w.heap.size w w1 from
    ⟨hRw.keep (hb.block _ hRw.lt), hR.below ((hb0.trans (hb.mono hb0.size)).mono hB), hR'.below ((hb0.trans (hb.mono hb0.size)).mono hB), Nat.le_trans hB (hb0.trans (hb.mono hb0.size)).size, hb0.trans (hb.mono hb0.size)⟩)
  have HS := Lib.hid (spans_any W)
  have HW := Lib.hid hW
  clear hRw hb0 hR hR' hB hW
  go_enter Tryd.func12, Tryd.ntmps12
  unfold msgV at HW
  unfold msgV
  go_wp2_with fail
  rw [← HW.out]
  refine HS.out.mono ?_
  intro en w1 hpost
  unfold SpPost at hpost
  obtain ⟨rfl, rS, hb1, hs1⟩ := hpost
  have HF := Lib.hid (fields_any w.heap.size w1)
  have HX := Lib.hid (And.intro rS (And.intro hb1 hs1))
  clear rS hb1 hs1
  go_wp2_with fail
  refine HF.out.mono ?_
  intro en w2 hpost
  unfold FldPost at hpost
  obtain ⟨rfl, rF, hb2, hs2⟩ := hpost
  have HX2 := Lib.hid (show Row w2 W.heap.size 61 spansC ∧ Row w2 w1.heap.size 59 (ptrsL w.heap.size) ∧ Below W.heap.size W w2 ∧ W.heap.size < w1.heap.size ∧ w1.heap.size < w2.heap.size from
    ⟨HX.out.1.keep (hb2.block _ HX.out.1.lt), rF, below_then HX.out.2.1 hb2, HX.out.1.lt, rF.lt⟩)
  clear rF hb2 hs2
  have hx := HX2.out
  generalize W.heap.size = g1 at *
  generalize w1.heap.size = g2 at *
  clear hx
  go_wp2_with fail
  go_loopw [9] (fun i wr => ∃ k : Nat, k ≤ 11 ∧ i = .int .i64 (k : Int) ∧ Below w2.heap.size w2 wr ∧ Hid (∀ j, j < k → InS m j)) (fun i _ => 11 - (intOf i).toNat)
  case atStart => exact ⟨0, Nat.zero_le _, rfl, Below.refl _ _, Lib.hid (fun j hj => absurd hj (by omega))⟩
  case round =>
    obtain ⟨k, hk, rfl, hb, HJ⟩ := hrel
    have hbW : Below g1 W wr := HX2.out.2.2.1.trans (hb.mono (by have := HX2.out; omega))
    have rS := HX2.out.1.keep (hb.block _ HX2.out.1.lt)
    have rF := HX2.out.2.1.keep (hb.block _ HX2.out.2.1.lt)
    obtain ⟨rM, hV, hH, hBs, hbw⟩ := KR.out wr hbW
    by_cases hlt : k < 11
    · have hltz : (k : Int) < 11 := by omega
      obtain ⟨o, e1, e2, e3, e4⟩ := head_at m w.heap.size A n c A' n' c' hlt
      have c1 := rF.cell e1
      have c2 := rM.cell e2
      have c3 := rS.cell e3
      have c4 := rS.cell e4
      have l1 := rF.lt
      have l2 := rM.lt
      have l3 := rS.lt
      have HI := Lib.hid (fun h => ins_no (m := m) hf hlt h)
      have HS2 := Lib.hid (show InS m k → ∀ j, j < k + 1 → InS m j from fun h j hj => by
        rcases Nat.lt_or_ge j k with h1 | h1
        · exact HJ.out j h1
        · obtain rfl : j = k := by omega
          exact h)
      have HC := Lib.hid (show Calls _ _ _ wr.drew (Gives (.bool (decide (InS m k))) wr.drew) from has_any (spansL.getD k (0, 0)).1 (spansL.getD k (0, 0)).2 ((headI m).getD k 0) wr.drew)
      have HB := Lib.hid hb
      have HBW := Lib.hid hbw
      clear rS rF rM hV hH hBs hbW hb hbw e1 e2 e3 e4
      generalize (spansL.getD k (0, 0)).1 = X1 at *
      generalize (spansL.getD k (0, 0)).2 = X2 at *
      generalize (headI m).getD k 0 = Y at *
      cases hd : decide (InS m k) with
      | true =>
        rw [hd] at HC
        have HS3 := Lib.hid (HS2.out (of_decide_eq_true hd))
        clear hd
        go_wp2_with fail
        go_still_tail 7, (by kernel_rfl)
        change wpList _ _ _ _ _ wr.drew
        go_wp2_with fail
        refine HC.out.mono ?_
        rintro en w3 ⟨rfl, hb3⟩
        go_wp2_with fail
        exact ⟨⟨k + 1, hlt, by go_num, below_then (below_drewN HB.out 1) hb3, HS3⟩, by simp [intOf]; omega⟩
      | false =>
        rw [hd] at HC
        have HI2 := Lib.hid (HI.out (of_decide_eq_false hd))
        clear hd
        go_wp2_with fail
        go_still_tail 7, (by kernel_rfl)
        change wpList _ _ _ _ _ wr.drew
        go_wp2_with fail
        refine HC.out.mono ?_
        rintro en w3 ⟨rfl, hb3⟩
        go_wp2_with fail
        go_ret
        exact ⟨by rw [HI2.out]; rfl, below_then (below_drewN HBW.out 1) hb3⟩
    · obtain rfl : k = 11 := by omega
      have hnl : ¬ ((11 : Nat) : Int) < 11 := by omega
      have HJ2 := Lib.hid HJ.out
      have HV := Lib.hid (isVec_any (c := c) hV hm)
      have e10 := rM.cell (j := 10) rfl
      have lp := rM.lt
      have HBV := Lib.hid (And.intro hbW (Nat.le_of_lt rS.lt))
      clear rS rF rM hV hH hBs hbW hb hbw hk
      cases hv : okVs m.vs with
      | false =>
        rw [hv] at HV
        have HE := Lib.hid (vs_no hv)
        clear hv
        go_wp2_with fail
        refine HV.out.mono ?_
        rintro en w3 ⟨rfl, hb3⟩
        have HB3 := Lib.hid ((KR.out w3 (HBV.out.1.trans (hb3.mono HBV.out.2))).2.2.2.2)
        clear hb3
        go_wp2_with fail
        go_ret
        exact ⟨by rw [HE.out]; rfl, HB3.out⟩
      | true =>
        rw [hv] at HV
        have HVT := Lib.hid hv
        clear hv
        go_wp2_with fail
        refine HV.out.mono ?_
        rintro en w3 ⟨rfl, hb3⟩
        have hbW3 := HBV.out.1.trans (hb3.mono HBV.out.2)
        obtain ⟨rM, hV, hH, hBs, hbw⟩ := KR.out w3 hbW3
        have HRP := Lib.hid (isRep_any (c := c') m.er m.wa hH hBs hm')
        clear e10 lp
        have e12 := rM.cell (j := 12) rfl
        have e13 := rM.cell (j := 13) rfl
        have e14 := rM.cell (j := 14) rfl
        have lp := rM.lt
        have HBV3 := Lib.hid (And.intro hbW3 (Nat.le_trans HBV.out.2 hb3.size))
        clear rM hV hH hBs hbW3 hbw hb3
        cases hr : (decide (0 ≤ m.er ∧ m.er ≤ 255) && okHs m.hs) with
        | false =>
          rw [hr] at HRP
          have HE := Lib.hid (rep_no hr)
          clear hr
          go_wp2_with fail
          refine HRP.out.mono ?_
          rintro en w4 ⟨rfl, hb4⟩
          have HB4 := Lib.hid ((KR.out w4 (HBV3.out.1.trans (hb4.mono HBV3.out.2))).2.2.2.2)
          clear hb4
          go_wp2_with fail
          go_ret
          exact ⟨by rw [HE.out]; rfl, HB4.out⟩
        | true =>
          rw [hr] at HRP
          have HRT := Lib.hid hr
          clear hr
          go_wp2_with fail
          refine HRP.out.mono ?_
          rintro en w4 ⟨rfl, hb4⟩
          obtain ⟨rM, hV, hH, hBs, hbw⟩ := KR.out w4 (HBV3.out.1.trans (hb4.mono HBV3.out.2))
          clear e12 e13 e14 lp
          have e15 := rM.cell (j := 15) rfl
          have lp := rM.lt
          have HB4 := Lib.hid hbw
          clear rM hV hH hBs hbw hb4
          by_cases ht : (262144 : Int) < (m.tx.size : Int)
          · have HE := Lib.hid (tx_no (m := m) (by omega))
            go_wp2_with fail
            go_ret
            exact ⟨by rw [HE.out]; rfl, HB4.out⟩
          · have HE := Lib.hid (chk_yes HJ2.out HVT.out HRT.out (by omega))
            go_wp2_with fail
            go_ret
            exact ⟨by rw [HE.out]; rfl, HB4.out⟩
end Go.Proofs.YtcbkgcnajplagaaDoor.Po
