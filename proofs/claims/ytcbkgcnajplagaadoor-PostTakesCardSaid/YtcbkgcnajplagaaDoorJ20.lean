/- Take, FrmB, FrmC, FrmD, FRPut in one text. Conditions: as each part says. -/
import Derived.Test.YtcbkgcnajplagaaDoorJ17
import Derived.Test.YtcbkgcnajplagaaDoorJ16
import Derived.Test.YtcbkgcnajplagaaDoorJ15
section
set_option linter.unusedVariables false
set_option linter.unusedSimpArgs false
namespace Go.Proofs.YtcbkgcnajplagaaDoor
open Go Go.RowKit

theorem cut_list (s : ByteArray) (a b : Nat) : (s.extract a b).data.toList = (s.data.toList.drop a).take (b - a) := Lib.extract_data s a b
theorem byte_getD (s : ByteArray) (k : Nat) (hk : k < s.size) : s.data.toList.getD k 0 = s[k]'hk := by
  rw [List.getD_eq_getElem?_getD, List.getElem?_eq_getElem (by simpa using hk)]
  rfl
def rhB (n c : Nat) : Bool → Value
  | true => .tuple #[.int .i64 (n : Int), .int .i64 (c : Int), .int .i64 0]
  | false => .tuple #[.int .i64 0, .int .i64 0, .int .i64 40]
def rhV (l : List UInt8) : Value := rhB (nL l).1 (cL l).1 (decide (headOk l))
theorem byte_ne {b c : UInt8} (h : ¬ b = c) : ((b.toNat : Int) != (c.toNat : Int)) = true := by
  rw [bne_iff_ne]
  intro he
  exact h (UInt8.toNat_inj.1 (by omega))
set_option maxHeartbeats 4000000 in
theorem readHead_any (s : ByteArray) (h13 : s.size = 13) (w : World) : Calls Tryd.prog 65 #[.string s] w fun e w' => e = .returned (rhV s.data.toList) ∧ w = w' := by
  have hx1 : (s.extract 0 6).size = 6 := by rw [ByteArray.size_extract]; omega
  have hx2 : (s.extract 6 12).size = 6 := by rw [ByteArray.size_extract]; omega
  have k1 := fun w => unhex_six (s.extract 0 6) hx1 w
  have k2 := fun w => unhex_six (s.extract 6 12) hx2 w
  unfold UPost at k1 k2
  rw [cut_list] at k1 k2
  have hg := byte_getD s 12 (by omega)
  have hz : (s.size : Int) = 13 := by omega
  have h12 : 12 < s.size := by omega
  have h6 : 6 ≤ s.size := by omega
  have h12' : 12 ≤ s.size := by omega
  unfold rhV
  have hO : headOk s.data.toList ↔ (nL s.data.toList).2 = 0 ∧ (nL s.data.toList).1 ≤ 262144 ∧ (cL s.data.toList).2 = 0 ∧ s[12]'h12 = 124 := by
    unfold headOk
    rw [hg]
  have hT : ∀ b : Bool, (b = true ↔ (nL s.data.toList).2 = 0 ∧ (nL s.data.toList).1 ≤ 262144 ∧ (cL s.data.toList).2 = 0 ∧ s[12]'h12 = 124) → decide (headOk s.data.toList) = b := by
    intro b hb
    rw [← hO] at hb
    cases b with
    | true => exact decide_eq_true (hb.1 rfl)
    | false => exact decide_eq_false (fun h => by simp at hb; exact hb h)
  generalize decide (headOk s.data.toList) = D at *
  clear hO
  change ∀ w, Calls Tryd.prog 73 #[.string (s.extract 0 6)] w fun e w' => e = .returned (.tuple #[.int .i64 ((nL s.data.toList).1 : Int), .int .i64 ((nL s.data.toList).2 : Int)]) ∧ w = w' at k1
  change ∀ w, Calls Tryd.prog 73 #[.string (s.extract 6 12)] w fun e w' => e = .returned (.tuple #[.int .i64 ((cL s.data.toList).1 : Int), .int .i64 ((cL s.data.toList).2 : Int)]) ∧ w = w' at k2
  generalize nL s.data.toList = N at *
  generalize cL s.data.toList = C at *
  obtain ⟨n, e1⟩ := N
  obtain ⟨c, e2⟩ := C
  have K1 := Lib.hid k1
  have K2 := Lib.hid k2
  clear k1 k2 hx1 hx2 hg
  have HT := Lib.hid hT
  clear hT
  by_cases a1 : e1 = 0
  · subst a1
    by_cases a2 : n ≤ 262144
    · have hn : ¬ (262144 : Int) < (n : Int) := by omega
      by_cases a3 : e2 = 0
      · subst a3
        by_cases a4 : s[12] = 124
        · rw [HT.out true (iff_of_true rfl ⟨rfl, a2, rfl, a4⟩)]
          have hb : (s[12].toNat : Int) = 124 := by rw [a4]; rfl
          clear a2 a4
          go_enter Tryd.func65, Tryd.ntmps65
          go_wp2_with fail
          refine (K1.out w).mono ?_
          rintro e w1 ⟨rfl, rfl⟩
          go_wp2_with fail
          refine (K2.out w).mono ?_
          rintro e w1 ⟨rfl, rfl⟩
          go_wp2_with fail
          go_ret3
          exact ⟨rfl, rfl⟩
        · rw [HT.out false (iff_of_false (by simp) (fun h => a4 h.2.2.2))]
          have hb : ((s[12].toNat : Int) != 124) = true := byte_ne (c := 124) a4
          clear a2 a4
          go_enter Tryd.func65, Tryd.ntmps65
          go_wp2_with fail
          refine (K1.out w).mono ?_
          rintro e w1 ⟨rfl, rfl⟩
          go_wp2_with fail
          refine (K2.out w).mono ?_
          rintro e w1 ⟨rfl, rfl⟩
          go_wp2_with fail
          go_ret3
          exact ⟨rfl, rfl⟩
      · rw [HT.out false (iff_of_false (by simp) (fun h => a3 h.2.2.1))]
        have hb : ((e2 : Int) != 0) = true := by rw [bne_iff_ne]; omega
        clear a2 a3
        go_enter Tryd.func65, Tryd.ntmps65
        go_wp2_with fail
        refine (K1.out w).mono ?_
        rintro e w1 ⟨rfl, rfl⟩
        go_wp2_with fail
        refine (K2.out w).mono ?_
        rintro e w1 ⟨rfl, rfl⟩
        go_wp2_with fail
        go_ret3
        exact ⟨rfl, rfl⟩
    · rw [HT.out false (iff_of_false (by simp) (fun h => a2 h.2.1))]
      have hn : (262144 : Int) < (n : Int) := by omega
      clear a2
      go_enter Tryd.func65, Tryd.ntmps65
      go_wp2_with fail
      refine (K1.out w).mono ?_
      rintro e w1 ⟨rfl, rfl⟩
      go_wp2_with fail
      go_ret3
      exact ⟨rfl, rfl⟩
  · rw [HT.out false (iff_of_false (by simp) (fun h => a1 h.1))]
    have hb : ((e1 : Int) != 0) = true := by rw [bne_iff_ne]; omega
    clear a1
    go_enter Tryd.func65, Tryd.ntmps65
    go_wp2_with fail
    refine (K1.out w).mono ?_
    rintro e w1 ⟨rfl, rfl⟩
    go_wp2_with fail
    go_ret3
    exact ⟨rfl, rfl⟩
theorem fclone_any (s : ByteArray) (w : World) (hs : s.size ≤ 300000) : Calls Tryd.prog 66 #[.string s] w fun e w' => e = .returned (.string s) ∧ Below w.heap.size w w' := by
  go_enter Tryd.func66, Tryd.ntmps66
  go_wp2_with (go_at_call 74; refine (Tryd.stringslite_Clone _ _ (by omega)).mono ?_; rintro e w1 ⟨rfl, hb1⟩)
  go_ret
  exact ⟨rfl, hb1⟩
theorem headOk_take (l : List UInt8) : nL (l.take 13) = nL l ∧ cL (l.take 13) = cL l ∧ (headOk (l.take 13) ↔ headOk l) := by
  have h1 : nL (l.take 13) = nL l := by unfold nL; rw [List.take_take]; rfl
  have h2 : cL (l.take 13) = cL l := by unfold cL; rw [List.drop_take, List.take_take]; rfl
  refine ⟨h1, h2, ?_⟩
  unfold headOk
  rw [h1, h2]
  have : (l.take 13).getD 12 0 = l.getD 12 0 := by
    rw [List.getD_eq_getElem?_getD, List.getD_eq_getElem?_getD, List.getElem?_take, if_pos (by omega)]
  rw [this]
theorem rhV_take (l : List UInt8) : rhV (l.take 13) = rhV l := by
  obtain ⟨h1, h2, h3⟩ := headOk_take l
  have : decide (headOk (l.take 13)) = decide (headOk l) := by rw [decide_eq_decide]; exact h3
  unfold rhV
  rw [h1, h2, this]
theorem rhV_ok {l : List UInt8} (h : headOk l) : rhV l = .tuple #[.int .i64 ((nL l).1 : Int), .int .i64 ((cL l).1 : Int), .int .i64 0] := by
  unfold rhV
  rw [decide_eq_true h]
  rfl
theorem rhV_no {l : List UInt8} (h : ¬ headOk l) : rhV l = .tuple #[.int .i64 0, .int .i64 0, .int .i64 40] := by
  unfold rhV
  rw [decide_eq_false h]
  rfl
theorem tk_short {l : List UInt8} (h : l.length < 13) : tkL l = ([], 0, 21) := by unfold tkL; rw [if_pos h]
theorem tk_head {l : List UInt8} (h : ¬ l.length < 13) (h2 : ¬ headOk l) : tkL l = ([], 0, 40) := by unfold tkL; rw [if_neg h, if_pos h2]
theorem tk_cut {l : List UInt8} (h : ¬ l.length < 13) (h2 : headOk l) (h3 : l.length < 14 + (nL l).1) : tkL l = ([], 0, 21) := by unfold tkL; rw [if_neg h, if_neg (not_not_intro h2), if_pos h3]
theorem tk_end {l : List UInt8} (h : ¬ l.length < 13) (h2 : headOk l) (h3 : ¬ l.length < 14 + (nL l).1) (h4 : ¬ l.getD (13 + (nL l).1) 0 = 10) : tkL l = ([], 0, 40) := by unfold tkL; rw [if_neg h, if_neg (not_not_intro h2), if_neg h3, if_pos h4]
theorem tk_sum {l : List UInt8} (h : ¬ l.length < 13) (h2 : headOk l) (h3 : ¬ l.length < 14 + (nL l).1) (h4 : l.getD (13 + (nL l).1) 0 = 10) (h5 : ¬ sm ((l.drop 13).take (nL l).1) = (cL l).1) : tkL l = ([], 0, 41) := by unfold tkL; rw [if_neg h, if_neg (not_not_intro h2), if_neg h3, if_neg (not_not_intro h4), if_pos h5]
theorem tk_fine {l : List UInt8} (h : ¬ l.length < 13) (h2 : headOk l) (h3 : ¬ l.length < 14 + (nL l).1) (h4 : l.getD (13 + (nL l).1) 0 = 10) (h5 : sm ((l.drop 13).take (nL l).1) = (cL l).1) : tkL l = ((l.drop 13).take (nL l).1, 14 + (nL l).1, 0) := by unfold tkL; rw [if_neg h, if_neg (not_not_intro h2), if_neg h3, if_neg (not_not_intro h4), if_neg (not_not_intro h5)]
theorem nat_ne {a b : Nat} (h : ¬ a = b) : ((a : Int) != (b : Int)) = true := by rw [bne_iff_ne]; omega
theorem cut_cut (s : ByteArray) (n : Nat) (h : 13 + n ≤ s.size) : (s.extract 13 s.size).extract 0 n = s.extract 13 (13 + n) := by
  refine ByteArray.ext (Array.ext' ?_)
  rw [cut_list, Lib.extract_to_end, cut_list, List.drop_zero, show 13 + n - 13 = n - 0 by omega]
theorem tail_getD (s : ByteArray) (n : Nat) (h : 13 + n < s.size) (h2 : n < (s.extract 13 s.size).size) : s.data.toList.getD (13 + n) 0 = (s.extract 13 s.size)[n]'h2 := by
  rw [← byte_getD (s.extract 13 s.size) n h2, Lib.extract_to_end, List.getD_eq_getElem?_getD, List.getD_eq_getElem?_getD, List.getElem?_drop]
set_option maxHeartbeats 8000000 in
set_option maxRecDepth 100000 in
theorem take_any (s : ByteArray) (hs : s.size ≤ 300000) (w : World) (hT : TabW w) : Calls Tryd.prog 50 #[.string s] w fun e w' => e = .returned (tkV (tkL s.data.toList)) ∧ Below w.heap.size w w' := by
  have hl : s.data.toList.length = s.size := size_list s
  by_cases a0 : s.size < 13
  · rw [tk_short (by omega)]
    have hz : (s.size : Int) < 13 := by omega
    clear hT
    go_enter Tryd.func50, Tryd.ntmps50
    go_wp2_with fail
    go_ret3
    exact ⟨rfl, Below.refl _ _⟩
  have hz : ¬ (s.size : Int) < 13 := by omega
  have h13 : 13 ≤ s.size := by omega
  have b0 : ¬ s.data.toList.length < 13 := by omega
  have k1 := fun w => readHead_any (s.extract 0 13) (by rw [ByteArray.size_extract]; omega) w
  rw [cut_list, List.drop_zero, rhV_take] at k1
  by_cases a1 : headOk s.data.toList
  · rw [rhV_ok a1] at k1
    have K1 := Lib.hid k1
    have hn := a1.2.1
    have A1 := Lib.hid a1
    have HT := Lib.hid hT
    clear k1 hT a1
    have hrs : (s.extract 13 s.size).size = s.size - 13 := by rw [ByteArray.size_extract]; omega
    by_cases a2 : s.size < 14 + (nL s.data.toList).1
    · rw [tk_cut b0 A1.out (by omega)]
      clear b0
      generalize (nL s.data.toList).1 = n at *
      generalize (cL s.data.toList).1 = c at *
      have h2 : ((s.size - 13 : Nat) : Int) < (n : Int) + 1 := by omega
      clear a2 hrs
      go_enter Tryd.func50, Tryd.ntmps50
      go_wp2_with fail
      refine (K1.out w).mono ?_
      rintro e w1 ⟨rfl, rfl⟩
      go_wp2_with fail
      go_ret3
      exact ⟨rfl, Below.refl _ _⟩
    · have b2 : ¬ s.data.toList.length < 14 + (nL s.data.toList).1 := by omega
      have hlt : (nL s.data.toList).1 < (s.extract 13 s.size).size := by omega
      have hg := tail_getD s (nL s.data.toList).1 (by omega) hlt
      by_cases a3 : s.data.toList.getD (13 + (nL s.data.toList).1) 0 = 10
      · have hcc := cut_cut s (nL s.data.toList).1 (by omega)
        have hcl : (s.extract 13 (13 + (nL s.data.toList).1)).data.toList = (s.data.toList.drop 13).take (nL s.data.toList).1 := by
          rw [cut_list]
          congr 1
          omega
        have hcs : (s.extract 13 (13 + (nL s.data.toList).1)).size ≤ 300000 := by rw [ByteArray.size_extract]; omega
        have HSUM := Lib.hid (fun w hT => sum_any (s.extract 13 (13 + (nL s.data.toList).1)) w hcs hT)
        have hcrc : (crcS (s.extract 13 (13 + (nL s.data.toList).1))).toNat = sm ((s.data.toList.drop 13).take (nL s.data.toList).1) := by
          unfold crcS sm
          rw [hcl]
        rw [hcrc] at HSUM
        have HCL := Lib.hid (fun w => fclone_any (s.extract 13 (13 + (nL s.data.toList).1)) w hcs)
        have hlst := bytes_ext hcl
        rw [hg] at a3
        have hby : (((s.extract 13 s.size)[(nL s.data.toList).1]'hlt).toNat : Int) = 10 := by rw [a3]; rfl
        by_cases a4 : sm ((s.data.toList.drop 13).take (nL s.data.toList).1) = (cL s.data.toList).1
        · rw [tk_fine b0 A1.out b2 (hg.trans a3) a4]
          rw [a4] at HSUM
          have HCC := Lib.hid hcc
          have HLST := Lib.hid hlst
          clear b0 b2 a3 a4 hcrc hcl hcs hg hcc hlst
          generalize (s.data.toList.drop 13).take (nL s.data.toList).1 = tl at *
          generalize (nL s.data.toList).1 = n at *
          generalize (cL s.data.toList).1 = c at *
          generalize s.extract 13 (13 + n) = X at *
          have h2 : ¬ ((s.size - 13 : Nat) : Int) < (n : Int) + 1 := by omega
          have h4 : (n : Int) < ((s.size - 13 : Nat) : Int) := by omega
          have h5 : n ≤ s.size - 13 := by omega
          have h3 : n ≤ (s.extract 13 s.size).size := by omega
          clear a2 hrs
          go_enter Tryd.func50, Tryd.ntmps50
          go_wp2_with fail
          refine (K1.out w).mono ?_
          rintro e w1 ⟨rfl, rfl⟩
          go_wp2_with fail
          rw [HCC.out]
          refine (HSUM.out w HT.out).mono ?_
          rintro e w1 ⟨rfl, rfl⟩
          go_wp2_with fail
          rw [HCC.out]
          refine (HCL.out w).mono ?_
          rintro e w1 ⟨rfl, hb1⟩
          go_wp2_with fail
          go_ret3
          refine ⟨?_, hb1⟩
          unfold tkV
          rw [HLST.out]
          have e14 : (13 : Int) + (n : Int) + 1 = ((14 + n : Nat) : Int) := by omega
          rw [e14]
          rfl
        · rw [tk_sum b0 A1.out b2 (hg.trans a3) a4]
          have hne := nat_ne a4
          have HCC := Lib.hid hcc
          clear b0 b2 a3 a4 hcrc hcl hcs hg hcc hlst
          generalize sm ((s.data.toList.drop 13).take (nL s.data.toList).1) = z at *
          generalize (nL s.data.toList).1 = n at *
          generalize (cL s.data.toList).1 = c at *
          generalize s.extract 13 (13 + n) = X at *
          have h2 : ¬ ((s.size - 13 : Nat) : Int) < (n : Int) + 1 := by omega
          have h4 : (n : Int) < ((s.size - 13 : Nat) : Int) := by omega
          have h5 : n ≤ s.size - 13 := by omega
          have h3 : n ≤ (s.extract 13 s.size).size := by omega
          clear a2 hrs
          go_enter Tryd.func50, Tryd.ntmps50
          go_wp2_with fail
          refine (K1.out w).mono ?_
          rintro e w1 ⟨rfl, rfl⟩
          go_wp2_with fail
          rw [HCC.out]
          refine (HSUM.out w HT.out).mono ?_
          rintro e w1 ⟨rfl, rfl⟩
          go_wp2_with fail
          go_ret3
          exact ⟨rfl, Below.refl _ _⟩
      · rw [tk_end b0 A1.out b2 a3]
        rw [hg] at a3
        have hby : ((((s.extract 13 s.size)[(nL s.data.toList).1]'hlt).toNat : Int) != 10) = true := byte_ne (c := 10) a3
        clear b0 b2 a3 hg
        generalize (nL s.data.toList).1 = n at *
        generalize (cL s.data.toList).1 = c at *
        have h2 : ¬ ((s.size - 13 : Nat) : Int) < (n : Int) + 1 := by omega
        have h4 : (n : Int) < ((s.size - 13 : Nat) : Int) := by omega
        have h5 : n ≤ s.size - 13 := by omega
        clear a2 hrs
        go_enter Tryd.func50, Tryd.ntmps50
        go_wp2_with fail
        refine (K1.out w).mono ?_
        rintro e w1 ⟨rfl, rfl⟩
        go_wp2_with fail
        go_ret3
        exact ⟨rfl, Below.refl _ _⟩
  · rw [tk_head b0 a1]
    rw [rhV_no a1] at k1
    have K1 := Lib.hid k1
    clear k1 hT
    go_enter Tryd.func50, Tryd.ntmps50
    go_wp2_with fail
    refine (K1.out w).mono ?_
    rintro e w1 ⟨rfl, rfl⟩
    go_wp2_with fail
    go_ret3
    exact ⟨rfl, Below.refl _ _⟩
end Go.Proofs.YtcbkgcnajplagaaDoor
end
section
set_option linter.unusedVariables false
set_option linter.unusedSimpArgs false
namespace Go.Proofs.YtcbkgcnajplagaaDoor
open Go Go.RowKit

/-- A head, and what stands behind it. -/
def fr (n c : Nat) (r : List UInt8) : List UInt8 := hexL n ++ (hexL c ++ (124 :: r))
theorem fr_len (n c : Nat) (r : List UInt8) : (fr n c r).length = 13 + r.length := by
  simp only [fr, List.length_append, hexL_len, List.length_cons]
  omega
theorem fr_take6 (n c : Nat) (r : List UInt8) : (fr n c r).take 6 = hexL n := by
  unfold fr
  rw [List.take_append_of_le_length (by rw [hexL_len]; exact Nat.le_refl _), List.take_of_length_le (by rw [hexL_len]; exact Nat.le_refl _)]
theorem fr_drop6 (n c : Nat) (r : List UInt8) : (fr n c r).drop 6 = hexL c ++ (124 :: r) := by
  unfold fr
  exact List.drop_left' (hexL_len n)
theorem fr_mid (n c : Nat) (r : List UInt8) : ((fr n c r).drop 6).take 6 = hexL c := by
  rw [fr_drop6, List.take_append_of_le_length (by rw [hexL_len]; exact Nat.le_refl _), List.take_of_length_le (by rw [hexL_len]; exact Nat.le_refl _)]
theorem fr_drop12 (n c : Nat) (r : List UInt8) : (fr n c r).drop 12 = 124 :: r := by
  have : (fr n c r).drop 12 = ((fr n c r).drop 6).drop 6 := by rw [List.drop_drop]
  rw [this, fr_drop6]
  exact List.drop_left' (hexL_len c)
theorem fr_drop13 (n c : Nat) (r : List UInt8) : (fr n c r).drop 13 = r := by
  have : (fr n c r).drop 13 = ((fr n c r).drop 12).drop 1 := by rw [List.drop_drop]
  rw [this, fr_drop12]
  rfl
theorem fr_bar (n c : Nat) (r : List UInt8) : (fr n c r).getD 12 0 = 124 := by
  have h : (fr n c r)[12]? = ((fr n c r).drop 12)[0]? := by rw [List.getElem?_drop]
  rw [List.getD_eq_getElem?_getD, h, fr_drop12]
  rfl
theorem fr_at (n c j : Nat) (r : List UInt8) : (fr n c r).getD (13 + j) 0 = r.getD j 0 := by
  have h : (fr n c r)[13 + j]? = ((fr n c r).drop 13)[j]? := by rw [List.getElem?_drop]
  rw [List.getD_eq_getElem?_getD, h, fr_drop13, List.getD_eq_getElem?_getD]
theorem fr_nL (n c : Nat) (r : List UInt8) (hn : n < 16777216) : nL (fr n c r) = (n, 0) := by
  unfold nL
  rw [fr_take6, uh_hexL n hn]
theorem fr_cL (n c : Nat) (r : List UInt8) (hc : c < 16777216) : cL (fr n c r) = (c, 0) := by
  unfold cL
  rw [fr_mid, uh_hexL c hc]
theorem fr_head (n c : Nat) (r : List UInt8) (hn : n ≤ 262144) (hc : c < 16777216) : headOk (fr n c r) := by
  unfold headOk
  rw [fr_nL n c r (by omega), fr_cL n c r hc, fr_bar]
  exact ⟨rfl, hn, rfl, rfl⟩
theorem enc_fr (l : List UInt8) : enc l = fr l.length (sm l) (l ++ [10]) := rfl
theorem enc_app (l r : List UInt8) : enc l ++ r = fr l.length (sm l) (l ++ 10 :: r) := by
  simp only [enc, fr, List.append_assoc, List.cons_append, List.nil_append]
/-- A frame, whatever stands behind, is read. -/
theorem tk_enc (l r : List UInt8) (h : l.length ≤ 262144) : tkL (enc l ++ r) = (l, l.length + 14, 0) := by
  rw [enc_app]
  have e1 := fr_nL l.length (sm l) (l ++ 10 :: r) (by omega)
  have e2 := fr_cL l.length (sm l) (l ++ 10 :: r) (sm_lt l)
  have e3 : ((fr l.length (sm l) (l ++ 10 :: r)).drop 13).take l.length = l := by rw [fr_drop13]; simp
  have hf := fr_len l.length (sm l) (l ++ 10 :: r)
  rw [List.length_append, List.length_cons] at hf
  have e4 : (fr l.length (sm l) (l ++ 10 :: r)).getD (13 + l.length) 0 = 10 := by
    rw [fr_at, List.getD_eq_getElem?_getD, List.getElem?_append_right (Nat.le_refl _), Nat.sub_self]
    rfl
  rw [tk_fine (by omega) (fr_head _ _ _ h (sm_lt l)) (by rw [e1]; simp only; omega) (by rw [e1]; exact e4) (by rw [e1, e2]; simp only; rw [e3]), e1]
  simp only
  rw [e3, Nat.add_comm]
/-- A frame that is torn is not read. -/
theorem tk_torn (l : List UInt8) (j : Nat) (h : l.length ≤ 262144) (hj : j < l.length + 14) : (tkL ((enc l).take j)).2.2 ≠ 0 := by
  have hlen : ((enc l).take j).length = j := by rw [List.length_take, enc_len]; omega
  by_cases h13 : j < 13
  · rw [tk_short (by omega)]
    decide
  · have h1 : ((enc l).take j).take 13 = (enc l).take 13 := by rw [List.take_take, Nat.min_eq_left (by omega)]
    obtain ⟨a1, a2, a3⟩ := headOk_take ((enc l).take j)
    obtain ⟨b1, b2, b3⟩ := headOk_take (enc l)
    rw [h1] at a1 a2 a3
    have hh : headOk ((enc l).take j) := a3.1 (b3.2 (by rw [enc_fr]; exact fr_head _ _ _ h (sm_lt l)))
    have hn : (nL ((enc l).take j)).1 = l.length := by
      rw [← a1, b1, enc_fr, fr_nL _ _ _ (by omega)]
    rw [tk_cut (by omega) hh (by rw [hn, hlen]; omega)]
    decide
/-- Frames one behind the other. -/
def encs (ts : List (List UInt8)) : List UInt8 := ts.flatMap enc
theorem encs_cons (t : List UInt8) (ts : List (List UInt8)) : encs (t :: ts) = enc t ++ encs ts := by simp [encs]
theorem encs_append (a b : List (List UInt8)) : encs (a ++ b) = encs a ++ encs b := by simp [encs]
theorem encs_nil : encs [] = [] := rfl
/-- How many frames are whole within so many bytes. -/
def wh : List (List UInt8) → Nat → Nat
  | [], _ => 0
  | t :: ts, k => if t.length + 14 ≤ k then wh ts (k - (t.length + 14)) + 1 else 0
theorem allF_cut (l : List UInt8) : ∀ (ts : List (List UInt8)) (k f at_ : Nat), (∀ t ∈ ts, t.length ≤ 262144) → l.drop at_ = (encs ts).take k → (l.drop at_).length < f →
    allF l f at_ = (ts.take (wh ts k), at_ + (encs (ts.take (wh ts k))).length)
  | [], k, f, at_, _, hd, _ => by
    rw [encs_nil, List.take_nil] at hd
    rw [allF_no (by rw [hd]; exact tkL_nil)]
    rfl
  | t :: ts, k, f, at_, hts, hd, hf => by
    have ht := hts t (List.mem_cons_self ..)
    rw [encs_cons] at hd
    by_cases hk : t.length + 14 ≤ k
    · have hd2 : l.drop at_ = enc t ++ (encs ts).take (k - (t.length + 14)) := by
        rw [hd, List.take_append, enc_len, List.take_of_length_le (by rw [enc_len]; omega)]
      have hd3 : l.drop (at_ + (t.length + 14)) = (encs ts).take (k - (t.length + 14)) := by
        rw [← List.drop_drop, hd2]
        exact List.drop_left' (enc_len t)
      obtain ⟨g, rfl⟩ : ∃ g, f = g + 1 := ⟨f - 1, by omega⟩
      have hl2 : (l.drop (at_ + (t.length + 14))).length < g := by
        have e1 := congrArg List.length hd2
        rw [List.length_append, enc_len, ← hd3] at e1
        omega
      have hr : tkL (l.drop at_) = (t, t.length + 14, 0) := by rw [hd2]; exact tk_enc t _ ht
      rw [allF_ok hr, allF_cut l ts _ g _ (fun u hu => hts u (List.mem_cons_of_mem _ hu)) hd3 hl2, wh, if_pos hk, List.take_succ_cons, encs_cons, List.length_append, enc_len]
      simp only [Prod.mk.injEq, true_and]
      omega
    · have hd2 : l.drop at_ = (enc t).take k := by
        rw [hd, List.take_append_of_le_length (by rw [enc_len]; omega)]
      rw [allF_no (by rw [hd2]; exact tk_torn t k ht (by omega)), wh, if_neg hk]
      rfl
theorem alls_cut (ts : List (List UInt8)) (k : Nat) (h : ∀ t ∈ ts, t.length ≤ 262144) : alls ((encs ts).take k) = (ts.take (wh ts k), (encs (ts.take (wh ts k))).length) := by
  unfold alls
  rw [allF_cut _ ts k _ 0 h (by rw [List.drop_zero]) (by rw [List.drop_zero]; omega), Nat.zero_add]
/-- Six digits that are read are those of the number. -/
theorem hv_back : ∀ x : Fin 256, hv (UInt8.ofNat x.val) < 0 ∨ hexD (hv (UInt8.ofNat x.val)).toNat = UInt8.ofNat x.val := by decide +kernel
theorem hv_inv (c : UInt8) (h : ¬ hv c < 0) : hexD (hv c).toNat = c := by
  have := hv_back ⟨c.toNat, UInt8.toNat_lt c⟩
  simp only [UInt8.ofNat_toNat] at this
  exact this.resolve_left h
theorem uh_back (l : List UInt8) (h6 : l.length = 6) (n : Nat) (h : uhRes l = (n, 0)) : hexL n = l := by
  obtain ⟨c0, c1, c2, c3, c4, c5, rfl⟩ : ∃ c0 c1 c2 c3 c4 c5, l = [c0, c1, c2, c3, c4, c5] := by
    match l, h6 with
    | [c0, c1, c2, c3, c4, c5], _ => exact ⟨_, _, _, _, _, _, rfl⟩
  unfold uhRes at h
  cases hu : uh [c0, c1, c2, c3, c4, c5] 0 with
  | none => rw [hu] at h; simp at h
  | some m =>
    rw [hu] at h
    simp only [Prod.mk.injEq, and_true] at h
    subst h
    unfold uh at hu
    split at hu
    · simp at hu
    rename_i g0
    unfold uh at hu
    split at hu
    · simp at hu
    rename_i g1
    unfold uh at hu
    split at hu
    · simp at hu
    rename_i g2
    unfold uh at hu
    split at hu
    · simp at hu
    rename_i g3
    unfold uh at hu
    split at hu
    · simp at hu
    rename_i g4
    unfold uh at hu
    split at hu
    · simp at hu
    rename_i g5
    unfold uh at hu
    have i0 := hv_inv c0 g0
    have i1 := hv_inv c1 g1
    have i2 := hv_inv c2 g2
    have i3 := hv_inv c3 g3
    have i4 := hv_inv c4 g4
    have i5 := hv_inv c5 g5
    have l0 := (hv_lt c0).1
    have l1 := (hv_lt c1).1
    have l2 := (hv_lt c2).1
    have l3 := (hv_lt c3).1
    have l4 := (hv_lt c4).1
    have l5 := (hv_lt c5).1
    generalize hv c0 = v0 at *
    generalize hv c1 = v1 at *
    generalize hv c2 = v2 at *
    generalize hv c3 = v3 at *
    generalize hv c4 = v4 at *
    generalize hv c5 = v5 at *
    simp only [Option.some.injEq] at hu
    unfold hexL
    have d0 : m / 16 ^ 5 % 16 = v0.toNat := by omega
    have d1 : m / 16 ^ 4 % 16 = v1.toNat := by omega
    have d2 : m / 16 ^ 3 % 16 = v2.toNat := by omega
    have d3 : m / 16 ^ 2 % 16 = v3.toNat := by omega
    have d4 : m / 16 ^ 1 % 16 = v4.toNat := by omega
    have d5 : m / 16 ^ 0 % 16 = v5.toNat := by omega
    rw [d0, d1, d2, d3, d4, d5, i0, i1, i2, i3, i4, i5]
end Go.Proofs.YtcbkgcnajplagaaDoor
end
section
set_option linter.unusedVariables false
set_option linter.unusedSimpArgs false
namespace Go.Proofs.YtcbkgcnajplagaaDoor
open Go Go.RowKit

theorem drop_getD {l : List UInt8} {k : Nat} (hk : k < l.length) : l.drop k = l.getD k 0 :: l.drop (k + 1) := by
  rw [List.drop_eq_getElem_cons hk, List.getD_eq_getElem?_getD, List.getElem?_eq_getElem hk]
  rfl
/-- What is read, put again, is what was read. -/
theorem tk_back {l t : List UInt8} {n : Nat} (h : tkL l = (t, n, 0)) : enc t = l.take n ∧ t.length ≤ 262144 := by
  obtain ⟨h13, hh, hn, hle, h10, ht, hs⟩ := tkL_ok h
  obtain ⟨g1, g2, g3, g4⟩ := hh
  have htl : t.length = (nL l).1 := by rw [ht, List.length_take, List.length_drop]; omega
  have e1 : hexL (nL l).1 = l.take 6 := by
    refine uh_back (l.take 6) (by rw [List.length_take]; omega) _ ?_
    rw [← g1]
    rfl
  have e2 : hexL (cL l).1 = (l.drop 6).take 6 := by
    refine uh_back ((l.drop 6).take 6) (by rw [List.length_take, List.length_drop]; omega) _ ?_
    rw [← g3]
    rfl
  have a1 : l = l.take 6 ++ l.drop 6 := (List.take_append_drop 6 l).symm
  have a2 : l.drop 6 = (l.drop 6).take 6 ++ l.drop 12 := by
    conv => lhs; rw [← List.take_append_drop 6 (l.drop 6), List.drop_drop]
  have a3 : l.drop 12 = 124 :: l.drop 13 := by rw [drop_getD (by omega), g4]
  have a4 : l.drop 13 = t ++ l.drop (13 + (nL l).1) := by
    rw [ht]
    conv => lhs; rw [← List.take_append_drop (nL l).1 (l.drop 13), List.drop_drop]
  have a5 : l.drop (13 + (nL l).1) = 10 :: l.drop (14 + (nL l).1) := by
    rw [drop_getD (by omega), h10]
    congr 2
    omega
  have he : l = enc t ++ l.drop (14 + (nL l).1) := by
    rw [enc_app, htl, hs]
    unfold fr
    rw [e1, e2, ← a5, ← a4, ← a3, ← a2, ← a1]
  refine ⟨?_, by omega⟩
  have h14 : (enc t).length = n := by rw [enc_len]; omega
  conv => rhs; rw [he]
  rw [← h14]
  exact (List.take_left).symm
theorem allF_back (l : List UInt8) : ∀ (f at_ : Nat) (ts : List (List UInt8)) (n : Nat), at_ ≤ l.length → allF l f at_ = (ts, n) → n ≤ l.length ∧ l.take at_ ++ encs ts = l.take n ∧ ∀ t ∈ ts, t.length ≤ 262144
  | 0, at_, ts, n, hat, h => by
    simp only [allF, Prod.mk.injEq] at h
    obtain ⟨rfl, rfl⟩ := h
    exact ⟨hat, by rw [encs_nil, List.append_nil], by simp⟩
  | f + 1, at_, ts, n, hat, h => by
    by_cases he : (tkL (l.drop at_)).2.2 = 0
    · obtain ⟨t, m, hr⟩ : ∃ t m, tkL (l.drop at_) = (t, m, 0) := ⟨_, _, by rw [← he]⟩
      rw [allF_ok hr] at h
      have hp := tkL_pos hr
      rw [List.length_drop] at hp
      obtain ⟨hb, hl⟩ := tk_back hr
      simp only [Prod.mk.injEq] at h
      obtain ⟨rfl, rfl⟩ := h
      obtain ⟨i1, i2, i3⟩ := allF_back l f (at_ + m) (allF l f (at_ + m)).1 (allF l f (at_ + m)).2 (by omega) rfl
      refine ⟨i1, ?_, ?_⟩
      · rw [← i2, encs_cons, hb, ← List.append_assoc, List.take_add]
      · intro u hu
        rcases List.mem_cons.1 hu with rfl | hu
        · exact hl
        · exact i3 u hu
    · rw [allF_no he] at h
      simp only [Prod.mk.injEq] at h
      obtain ⟨rfl, rfl⟩ := h
      exact ⟨hat, by rw [encs_nil, List.append_nil], by simp⟩
theorem alls_back (l : List UInt8) : (alls l).2 ≤ l.length ∧ encs (alls l).1 = l.take (alls l).2 ∧ ∀ t ∈ (alls l).1, t.length ≤ 262144 := by
  have h := allF_back l (l.length + 1) 0 (alls l).1 (alls l).2 (Nat.zero_le _) rfl
  rw [List.take_zero, List.nil_append] at h
  exact h
/-- A frame's text with other bytes is told by its sum. -/
theorem tk_spoilt (l m : List UInt8) (h : l.length ≤ 262144) (hm : m.length = l.length) (hs : ¬ sm m = sm l) : tkL (fr l.length (sm l) (m ++ [10])) = ([], 0, 41) := by
  have e1 := fr_nL l.length (sm l) (m ++ [10]) (by omega)
  have e2 := fr_cL l.length (sm l) (m ++ [10]) (sm_lt l)
  have e3 : ((fr l.length (sm l) (m ++ [10])).drop 13).take l.length = m := by rw [fr_drop13, ← hm]; simp
  have hf := fr_len l.length (sm l) (m ++ [10])
  rw [List.length_append, List.length_cons, List.length_nil] at hf
  have e4 : (fr l.length (sm l) (m ++ [10])).getD (13 + l.length) 0 = 10 := by
    rw [fr_at, ← hm, List.getD_eq_getElem?_getD, List.getElem?_append_right (Nat.le_refl _), Nat.sub_self]
    rfl
  exact tk_sum (by omega) (fr_head _ _ _ h (sm_lt l)) (by rw [e1]; simp only; omega) (by rw [e1]; exact e4) (by rw [e1, e2]; simp only; rw [e3]; exact hs)
theorem sm_eq {l m : List UInt8} (h : sm m = sm l) : crcL 0xb704ce#24 m = crcL 0xb704ce#24 l := BitVec.eq_of_toNat_eq h
/-- Up to three bytes in a row. -/
theorem sm_three {p q : List UInt8} {x y z x' y' z' : UInt8} (h : sm (p ++ x' :: y' :: z' :: q) = sm (p ++ x :: y :: z :: q)) : x' = x ∧ y' = y ∧ z' = z := crc_burst (sm_eq h)
theorem sm_two {p : List UInt8} {x y x' y' : UInt8} (h : sm (p ++ [x', y']) = sm (p ++ [x, y])) : x' = x ∧ y' = y := by
  have h1 := sm_eq h
  have h2 : crcL 0xb704ce#24 (p ++ x' :: y' :: 0 :: []) = crcL 0xb704ce#24 (p ++ x :: y :: 0 :: []) := by
    have e : ∀ a b : UInt8, p ++ a :: b :: 0 :: [] = (p ++ [a, b]) ++ [0] := by intro a b; simp
    rw [e, e, crcL_append _ (_ ++ _), crcL_append _ (_ ++ _), h1]
  obtain ⟨a, b, _⟩ := crc_burst h2
  exact ⟨a, b⟩
theorem sm_one {p : List UInt8} {x x' : UInt8} (h : sm (p ++ [x']) = sm (p ++ [x])) : x' = x := by
  have h1 := sm_eq h
  have h2 : crcL 0xb704ce#24 (p ++ x' :: 0 :: 0 :: []) = crcL 0xb704ce#24 (p ++ x :: 0 :: 0 :: []) := by
    have e : ∀ a : UInt8, p ++ a :: 0 :: 0 :: [] = (p ++ [a]) ++ [0, 0] := by intro a; simp
    rw [e, e, crcL_append _ (_ ++ _), crcL_append _ (_ ++ _), h1]
  exact (crc_burst h2).1
end Go.Proofs.YtcbkgcnajplagaaDoor
end
section
set_option linter.unusedVariables false
set_option linter.unusedSimpArgs false
namespace Go.Proofs.YtcbkgcnajplagaaDoor
open Go Go.RowKit

theorem fr_set (n c i : Nat) (g : List UInt8) (b : UInt8) (h : i < g.length) : (fr n c (g ++ [10])).set (13 + i) b = fr n c (g.set i b ++ [10]) := by
  have e : fr n c (g ++ [10]) = (hexL n ++ (hexL c ++ [124])) ++ (g ++ [10]) := by simp [fr]
  have e2 : fr n c (g.set i b ++ [10]) = (hexL n ++ (hexL c ++ [124])) ++ (g.set i b ++ [10]) := by simp [fr]
  have hl : (hexL n ++ (hexL c ++ [124])).length = 13 := by rw [List.length_append, List.length_append, hexL_len, hexL_len]; rfl
  rw [e, e2, List.set_append_right _ _ (by rw [hl]; omega), hl, show 13 + i - 13 = i by omega, List.set_append_left _ _ h]
theorem fr_get (n c i : Nat) (g : List UInt8) (h : i < g.length) : (fr n c (g ++ [10])).getD (13 + i) 0 = g.getD i 0 := by
  rw [fr_at, List.getD_eq_getElem?_getD, List.getD_eq_getElem?_getD, List.getElem?_append_left h]
/-- The bytes of a text behind so many rounds: from k on each xor the next of d. -/
def G (l : List UInt8) (k : Nat) (d : Nat → UInt8) : Nat → List UInt8
  | 0 => l
  | j + 1 => (G l k d j).set (k + j) ((G l k d j).getD (k + j) 0 ^^^ d j)
theorem G_len (l : List UInt8) (k : Nat) (d : Nat → UInt8) : ∀ j, (G l k d j).length = l.length
  | 0 => rfl
  | j + 1 => by rw [G, List.length_set, G_len]
theorem set_mid (p q : List UInt8) (x b : UInt8) : (p ++ x :: q).set p.length b = p ++ b :: q := by
  rw [List.set_append_right _ _ (Nat.le_refl _), Nat.sub_self]
  rfl
theorem get_mid (p q : List UInt8) (x : UInt8) : (p ++ x :: q).getD p.length 0 = x := by
  rw [List.getD_eq_getElem?_getD, List.getElem?_append_right (Nat.le_refl _), Nat.sub_self]
  rfl
theorem G_one (p q : List UInt8) (x : UInt8) (d : Nat → UInt8) : G (p ++ x :: q) p.length d 1 = p ++ (x ^^^ d 0) :: q := by
  rw [G, G, Nat.add_zero, get_mid, set_mid]
theorem G_two (p q : List UInt8) (x y : UInt8) (d : Nat → UInt8) : G (p ++ x :: y :: q) p.length d 2 = p ++ (x ^^^ d 0) :: (y ^^^ d 1) :: q := by
  have e : p ++ (x ^^^ d 0) :: y :: q = (p ++ [x ^^^ d 0]) ++ y :: q := by simp
  have hl : p.length + 1 = (p ++ [x ^^^ d 0]).length := by simp
  rw [G, G_one, e, hl, get_mid, set_mid]
  simp
theorem G_three (p q : List UInt8) (x y z : UInt8) (d : Nat → UInt8) : G (p ++ x :: y :: z :: q) p.length d 3 = p ++ (x ^^^ d 0) :: (y ^^^ d 1) :: (z ^^^ d 2) :: q := by
  have e : p ++ (x ^^^ d 0) :: (y ^^^ d 1) :: z :: q = (p ++ [x ^^^ d 0, y ^^^ d 1]) ++ z :: q := by simp
  have hl : p.length + 2 = (p ++ [x ^^^ d 0, y ^^^ d 1]).length := by simp
  rw [G, G_two, e, hl, get_mid, set_mid]
  simp
theorem xor_self_zero {x d : UInt8} (h : x ^^^ d = x) : d = 0 := by
  have : x ^^^ (x ^^^ d) = x ^^^ x := by rw [h]
  rw [UInt8.xor_self, ← UInt8.xor_assoc, UInt8.xor_self, UInt8.zero_xor] at this
  exact this
/-- How many rounds there are. -/
def rnds (l : List UInt8) (k : Nat) : Nat := min 3 (l.length - k)
theorem split_at (l : List UInt8) (k : Nat) (h : k < l.length) : ∃ p x q, l = p ++ x :: q ∧ p.length = k :=
  ⟨l.take k, l[k], l.drop (k + 1), by rw [← List.drop_eq_getElem_cons h, List.take_append_drop], by simp; omega⟩
theorem G_told (l : List UInt8) (k : Nat) (d : Nat → UInt8) (hk : k < l.length) (hd : ¬ ∀ i, i < rnds l k → d i = 0) : ¬ sm (G l k d (rnds l k)) = sm l := by
  intro he
  apply hd
  obtain ⟨p, x, q, rfl, rfl⟩ := split_at l k hk
  match q with
  | [] =>
    have hr : rnds (p ++ [x]) p.length = 1 := by simp [rnds]
    rw [hr] at he ⊢
    rw [G_one] at he
    have h0 := xor_self_zero (sm_one he)
    intro i hi
    obtain rfl : i = 0 := by omega
    exact h0
  | [y] =>
    have hr : rnds (p ++ [x, y]) p.length = 2 := by simp [rnds]
    rw [hr] at he ⊢
    rw [G_two] at he
    obtain ⟨a, b⟩ := sm_two he
    have h0 := xor_self_zero a
    have h1 := xor_self_zero b
    intro i hi
    rcases (show i = 0 ∨ i = 1 by omega) with rfl | rfl
    · exact h0
    · exact h1
  | y :: z :: q =>
    have hr : rnds (p ++ x :: y :: z :: q) p.length = 3 := by simp [rnds]
    rw [hr] at he ⊢
    rw [G_three] at he
    obtain ⟨a, b, c⟩ := sm_three he
    have h0 := xor_self_zero a
    have h1 := xor_self_zero b
    have h2 := xor_self_zero c
    intro i hi
    rcases (show i = 0 ∨ i = 1 ∨ i = 2 by omega) with rfl | rfl | rfl
    · exact h0
    · exact h1
    · exact h2
/-- The bytes of the frame behind so many rounds. -/
def FG (l : List UInt8) (k : Nat) (d : Nat → UInt8) (j : Nat) : List UInt8 := fr l.length (sm l) (G l k d j ++ [10])
theorem FG_len (l : List UInt8) (k : Nat) (d : Nat → UInt8) (j : Nat) : (FG l k d j).length = l.length + 14 := by
  unfold FG
  rw [fr_len, List.length_append, G_len]
  simp only [List.length_cons, List.length_nil]
  omega
theorem FG_next (l : List UInt8) (k : Nat) (d : Nat → UInt8) (j : Nat) (h : k + j < l.length) : (FG l k d j).set (13 + (k + j)) ((FG l k d j).getD (13 + (k + j)) 0 ^^^ d j) = FG l k d (j + 1) := by
  have hl := G_len l k d j
  unfold FG
  rw [fr_get _ _ _ _ (by omega), fr_set _ _ _ _ _ (by omega)]
  rfl
theorem FG_take (l : List UInt8) (k : Nat) (d : Nat → UInt8) (hk : k < l.length) (hl : l.length ≤ 262144) (hd : ¬ ∀ i, i < rnds l k → d i = 0) : tkL (FG l k d (rnds l k)) = ([], 0, 41) :=
  tk_spoilt l _ hl (G_len ..) (G_told l k d hk hd)
end Go.Proofs.YtcbkgcnajplagaaDoor
end
section
set_option linter.unusedVariables false
set_option linter.unusedSimpArgs false
namespace Go.Proofs.YtcbkgcnajplagaaDoor
open Go Go.RowKit
set_option maxHeartbeats 2000000 in
theorem rput_any (s : ByteArray) (hs : s.size ≤ 300000) (w : World) : Calls Tryd.prog 23 #[.string s] w fun e w' => e = .returned (putV s) ∧ Below w.heap.size w w' := by
  unfold putV
  by_cases hl : s.size ≤ 262144
  · rw [if_pos hl]
    have hz : ¬ (262144 : Int) < (s.size : Int) := by omega
    have H1 := Lib.hid (rhex_ok s.size (by omega))
    have H2 := Lib.hid (fun w => rsum_any s w hs)
    have H3 := Lib.hid (rhex_ok (crcS s).toNat (crcS s).isLt)
    have HE := Lib.hid (encS_eq s)
    have hA : (⟨(hexL s.size).toArray⟩ : ByteArray).size = 6 := rfl
    have hB : (⟨(hexL (crcS s).toNat).toArray⟩ : ByteArray).size = 6 := rfl
    clear hl
    generalize (⟨(hexL s.size).toArray⟩ : ByteArray) = A at *
    generalize (⟨(hexL (crcS s).toNat).toArray⟩ : ByteArray) = B at *
    have h1 : (A ++ B).size = 12 := by rw [ByteArray.size_append]; omega
    have h2 : (A ++ B ++ ⟨#[124]⟩ : ByteArray).size = 13 := by rw [ByteArray.size_append, h1]; rfl
    have h3 : (A ++ B ++ ⟨#[124]⟩ ++ s : ByteArray).size = 13 + s.size := by rw [ByteArray.size_append, h2]
    go_enter Tryd.func23, Tryd.ntmps23
    go_wp2_with fail
    refine (H1.out w).mono ?_
    rintro e w1 ⟨rfl, hb1⟩
    go_wp2_with fail
    refine (H2.out w1).mono ?_
    rintro e w2 ⟨rfl, rfl⟩
    go_wp2_with fail
    refine (H3.out w1).mono ?_
    rintro e w2 ⟨rfl, hb2⟩
    go_wp2_with fail
    go_ret2
    rw [HE.out]
    exact ⟨rfl, below_then' hb1 hb2⟩
  · rw [if_neg hl]
    have hz : (262144 : Int) < (s.size : Int) := by omega
    clear hl
    go_enter Tryd.func23, Tryd.ntmps23
    go_wp2_with fail
    go_ret2
    exact ⟨rfl, Below.refl _ _⟩
end Go.Proofs.YtcbkgcnajplagaaDoor
end
