/- What Take of package frame and of the document's answers return: the text of the frame that bytes begin with, or why there is none. Conditions: the table of four bits lies as start-up lays it; up to 300000 bytes. -/
import Derived.Test.YtkehojgiappiiaaGreatDoorFPut
set_option linter.unusedVariables false
set_option linter.unusedSimpArgs false
namespace Go.Proofs.YtkehojgiappiiaaGreatDoor
open Go Go.RowKit

theorem cut_list (s : ByteArray) (a b : Nat) : (s.extract a b).data.toList = (s.data.toList.drop a).take (b - a) := Lib.extract_data s a b
theorem byte_getD (s : ByteArray) (k : Nat) (hk : k < s.size) : s.data.toList.getD k 0 = s[k]'hk := by
  rw [List.getD_eq_getElem?_getD, List.getElem?_eq_getElem (by simpa using hk)]
  rfl
def rhB (n c : Nat) : Bool → Value
  | true => .tuple #[.int .i64 (n : Int), .int .i64 (c : Int), .int .i64 0]
  | false => .tuple #[.int .i64 0, .int .i64 0, .int .i64 40]
def rhV (l : List UInt8) : Value := rhB (nL l).1 (cL l).1 (decide (headOk l))
theorem byte_ne {b c : UInt8} (h : ¬ b = c) : ((b.toNat : Int) != (c.toNat : Int)) = true := by
  rw [bne_iff_ne]
  intro he
  exact h (UInt8.toNat_inj.1 (by omega))
set_option maxHeartbeats 4000000 in
theorem readHead_any (s : ByteArray) (h13 : s.size = 13) (w : World) : Calls Tryz.prog 74 #[.string s] w fun e w' => e = .returned (rhV s.data.toList) ∧ w = w' := by
  have hx1 : (s.extract 0 6).size = 6 := by rw [ByteArray.size_extract]; omega
  have hx2 : (s.extract 6 12).size = 6 := by rw [ByteArray.size_extract]; omega
  have k1 := fun w => unhex_six (s.extract 0 6) hx1 w
  have k2 := fun w => unhex_six (s.extract 6 12) hx2 w
  unfold UPost at k1 k2
  rw [cut_list] at k1 k2
  have hg := byte_getD s 12 (by omega)
  have hz : (s.size : Int) = 13 := by omega
  have h12 : 12 < s.size := by omega
  have h6 : 6 ≤ s.size := by omega
  have h12' : 12 ≤ s.size := by omega
  unfold rhV
  have hO : headOk s.data.toList ↔ (nL s.data.toList).2 = 0 ∧ (nL s.data.toList).1 ≤ 262144 ∧ (cL s.data.toList).2 = 0 ∧ s[12]'h12 = 124 := by
    unfold headOk
    rw [hg]
  have hT : ∀ b : Bool, (b = true ↔ (nL s.data.toList).2 = 0 ∧ (nL s.data.toList).1 ≤ 262144 ∧ (cL s.data.toList).2 = 0 ∧ s[12]'h12 = 124) → decide (headOk s.data.toList) = b := by
    intro b hb
    rw [← hO] at hb
    cases b with
    | true => exact decide_eq_true (hb.1 rfl)
    | false => exact decide_eq_false (fun h => by simp at hb; exact hb h)
  generalize decide (headOk s.data.toList) = D at *
  clear hO
  change ∀ w, Calls Tryz.prog 79 #[.string (s.extract 0 6)] w fun e w' => e = .returned (.tuple #[.int .i64 ((nL s.data.toList).1 : Int), .int .i64 ((nL s.data.toList).2 : Int)]) ∧ w = w' at k1
  change ∀ w, Calls Tryz.prog 79 #[.string (s.extract 6 12)] w fun e w' => e = .returned (.tuple #[.int .i64 ((cL s.data.toList).1 : Int), .int .i64 ((cL s.data.toList).2 : Int)]) ∧ w = w' at k2
  generalize nL s.data.toList = N at *
  generalize cL s.data.toList = C at *
  obtain ⟨n, e1⟩ := N
  obtain ⟨c, e2⟩ := C
  have K1 := Lib.hid k1
  have K2 := Lib.hid k2
  clear k1 k2 hx1 hx2 hg
  have HT := Lib.hid hT
  clear hT
  by_cases a1 : e1 = 0
  · subst a1
    by_cases a2 : n ≤ 262144
    · have hn : ¬ (262144 : Int) < (n : Int) := by omega
      by_cases a3 : e2 = 0
      · subst a3
        by_cases a4 : s[12] = 124
        · rw [HT.out true (iff_of_true rfl ⟨rfl, a2, rfl, a4⟩)]
          have hb : (s[12].toNat : Int) = 124 := by rw [a4]; rfl
          clear a2 a4
          go_enter Tryz.func74, Tryz.ntmps74
          go_wp2_with fail
          refine (K1.out w).mono ?_
          rintro e w1 ⟨rfl, rfl⟩
          go_wp2_with fail
          refine (K2.out w).mono ?_
          rintro e w1 ⟨rfl, rfl⟩
          go_wp2_with fail
          go_ret3
          exact ⟨rfl, rfl⟩
        · rw [HT.out false (iff_of_false (by simp) (fun h => a4 h.2.2.2))]
          have hb : ((s[12].toNat : Int) != 124) = true := byte_ne (c := 124) a4
          clear a2 a4
          go_enter Tryz.func74, Tryz.ntmps74
          go_wp2_with fail
          refine (K1.out w).mono ?_
          rintro e w1 ⟨rfl, rfl⟩
          go_wp2_with fail
          refine (K2.out w).mono ?_
          rintro e w1 ⟨rfl, rfl⟩
          go_wp2_with fail
          go_ret3
          exact ⟨rfl, rfl⟩
      · rw [HT.out false (iff_of_false (by simp) (fun h => a3 h.2.2.1))]
        have hb : ((e2 : Int) != 0) = true := by rw [bne_iff_ne]; omega
        clear a2 a3
        go_enter Tryz.func74, Tryz.ntmps74
        go_wp2_with fail
        refine (K1.out w).mono ?_
        rintro e w1 ⟨rfl, rfl⟩
        go_wp2_with fail
        refine (K2.out w).mono ?_
        rintro e w1 ⟨rfl, rfl⟩
        go_wp2_with fail
        go_ret3
        exact ⟨rfl, rfl⟩
    · rw [HT.out false (iff_of_false (by simp) (fun h => a2 h.2.1))]
      have hn : (262144 : Int) < (n : Int) := by omega
      clear a2
      go_enter Tryz.func74, Tryz.ntmps74
      go_wp2_with fail
      refine (K1.out w).mono ?_
      rintro e w1 ⟨rfl, rfl⟩
      go_wp2_with fail
      go_ret3
      exact ⟨rfl, rfl⟩
  · rw [HT.out false (iff_of_false (by simp) (fun h => a1 h.1))]
    have hb : ((e1 : Int) != 0) = true := by rw [bne_iff_ne]; omega
    clear a1
    go_enter Tryz.func74, Tryz.ntmps74
    go_wp2_with fail
    refine (K1.out w).mono ?_
    rintro e w1 ⟨rfl, rfl⟩
    go_wp2_with fail
    go_ret3
    exact ⟨rfl, rfl⟩
theorem fclone_any (s : ByteArray) (w : World) (hs : s.size ≤ 300000) : Calls Tryz.prog 25 #[.string s] w fun e w' => e = .returned (.string s) ∧ Below w.heap.size w w' := by
  go_enter Tryz.func25, Tryz.ntmps25
  go_wp2_with (go_at_call 51; refine (Tryz.stringslite_Clone _ _ (by omega)).mono ?_; rintro e w1 ⟨rfl, hb1⟩)
  go_ret
  exact ⟨rfl, hb1⟩
theorem headOk_take (l : List UInt8) : nL (l.take 13) = nL l ∧ cL (l.take 13) = cL l ∧ (headOk (l.take 13) ↔ headOk l) := by
  have h1 : nL (l.take 13) = nL l := by unfold nL; rw [List.take_take]; rfl
  have h2 : cL (l.take 13) = cL l := by unfold cL; rw [List.drop_take, List.take_take]; rfl
  refine ⟨h1, h2, ?_⟩
  unfold headOk
  rw [h1, h2]
  have : (l.take 13).getD 12 0 = l.getD 12 0 := by
    rw [List.getD_eq_getElem?_getD, List.getD_eq_getElem?_getD, List.getElem?_take, if_pos (by omega)]
  rw [this]
theorem rhV_take (l : List UInt8) : rhV (l.take 13) = rhV l := by
  obtain ⟨h1, h2, h3⟩ := headOk_take l
  have : decide (headOk (l.take 13)) = decide (headOk l) := by rw [decide_eq_decide]; exact h3
  unfold rhV
  rw [h1, h2, this]
theorem rhV_ok {l : List UInt8} (h : headOk l) : rhV l = .tuple #[.int .i64 ((nL l).1 : Int), .int .i64 ((cL l).1 : Int), .int .i64 0] := by
  unfold rhV
  rw [decide_eq_true h]
  rfl
theorem rhV_no {l : List UInt8} (h : ¬ headOk l) : rhV l = .tuple #[.int .i64 0, .int .i64 0, .int .i64 40] := by
  unfold rhV
  rw [decide_eq_false h]
  rfl
theorem tk_short {l : List UInt8} (h : l.length < 13) : tkL l = ([], 0, 21) := by unfold tkL; rw [if_pos h]
theorem tk_head {l : List UInt8} (h : ¬ l.length < 13) (h2 : ¬ headOk l) : tkL l = ([], 0, 40) := by unfold tkL; rw [if_neg h, if_pos h2]
theorem tk_cut {l : List UInt8} (h : ¬ l.length < 13) (h2 : headOk l) (h3 : l.length < 14 + (nL l).1) : tkL l = ([], 0, 21) := by unfold tkL; rw [if_neg h, if_neg (not_not_intro h2), if_pos h3]
theorem tk_end {l : List UInt8} (h : ¬ l.length < 13) (h2 : headOk l) (h3 : ¬ l.length < 14 + (nL l).1) (h4 : ¬ l.getD (13 + (nL l).1) 0 = 10) : tkL l = ([], 0, 40) := by unfold tkL; rw [if_neg h, if_neg (not_not_intro h2), if_neg h3, if_pos h4]
theorem tk_sum {l : List UInt8} (h : ¬ l.length < 13) (h2 : headOk l) (h3 : ¬ l.length < 14 + (nL l).1) (h4 : l.getD (13 + (nL l).1) 0 = 10) (h5 : ¬ sm ((l.drop 13).take (nL l).1) = (cL l).1) : tkL l = ([], 0, 41) := by unfold tkL; rw [if_neg h, if_neg (not_not_intro h2), if_neg h3, if_neg (not_not_intro h4), if_pos h5]
theorem tk_fine {l : List UInt8} (h : ¬ l.length < 13) (h2 : headOk l) (h3 : ¬ l.length < 14 + (nL l).1) (h4 : l.getD (13 + (nL l).1) 0 = 10) (h5 : sm ((l.drop 13).take (nL l).1) = (cL l).1) : tkL l = ((l.drop 13).take (nL l).1, 14 + (nL l).1, 0) := by unfold tkL; rw [if_neg h, if_neg (not_not_intro h2), if_neg h3, if_neg (not_not_intro h4), if_neg (not_not_intro h5)]
theorem nat_ne {a b : Nat} (h : ¬ a = b) : ((a : Int) != (b : Int)) = true := by rw [bne_iff_ne]; omega
theorem cut_cut (s : ByteArray) (n : Nat) (h : 13 + n ≤ s.size) : (s.extract 13 s.size).extract 0 n = s.extract 13 (13 + n) := by
  refine ByteArray.ext (Array.ext' ?_)
  rw [cut_list, Lib.extract_to_end, cut_list, List.drop_zero, show 13 + n - 13 = n - 0 by omega]
theorem tail_getD (s : ByteArray) (n : Nat) (h : 13 + n < s.size) (h2 : n < (s.extract 13 s.size).size) : s.data.toList.getD (13 + n) 0 = (s.extract 13 s.size)[n]'h2 := by
  rw [← byte_getD (s.extract 13 s.size) n h2, Lib.extract_to_end, List.getD_eq_getElem?_getD, List.getD_eq_getElem?_getD, List.getElem?_drop]
set_option maxHeartbeats 8000000 in
set_option maxRecDepth 100000 in
theorem take_any (s : ByteArray) (hs : s.size ≤ 300000) (w : World) (hT : TabW w) : Calls Tryz.prog 64 #[.string s] w fun e w' => e = .returned (tkV (tkL s.data.toList)) ∧ Below w.heap.size w w' := by
  have hl : s.data.toList.length = s.size := size_list s
  by_cases a0 : s.size < 13
  · rw [tk_short (by omega)]
    have hz : (s.size : Int) < 13 := by omega
    clear hT
    go_enter Tryz.func64, Tryz.ntmps64
    go_wp2_with fail
    go_ret3
    exact ⟨rfl, Below.refl _ _⟩
  have hz : ¬ (s.size : Int) < 13 := by omega
  have h13 : 13 ≤ s.size := by omega
  have b0 : ¬ s.data.toList.length < 13 := by omega
  have k1 := fun w => readHead_any (s.extract 0 13) (by rw [ByteArray.size_extract]; omega) w
  rw [cut_list, List.drop_zero, rhV_take] at k1
  by_cases a1 : headOk s.data.toList
  · rw [rhV_ok a1] at k1
    have K1 := Lib.hid k1
    have hn := a1.2.1
    have A1 := Lib.hid a1
    have HT := Lib.hid hT
    clear k1 hT a1
    have hrs : (s.extract 13 s.size).size = s.size - 13 := by rw [ByteArray.size_extract]; omega
    by_cases a2 : s.size < 14 + (nL s.data.toList).1
    · rw [tk_cut b0 A1.out (by omega)]
      clear b0
      generalize (nL s.data.toList).1 = n at *
      generalize (cL s.data.toList).1 = c at *
      have h2 : ((s.size - 13 : Nat) : Int) < (n : Int) + 1 := by omega
      clear a2 hrs
      go_enter Tryz.func64, Tryz.ntmps64
      go_wp2_with fail
      refine (K1.out w).mono ?_
      rintro e w1 ⟨rfl, rfl⟩
      go_wp2_with fail
      go_ret3
      exact ⟨rfl, Below.refl _ _⟩
    · have b2 : ¬ s.data.toList.length < 14 + (nL s.data.toList).1 := by omega
      have hlt : (nL s.data.toList).1 < (s.extract 13 s.size).size := by omega
      have hg := tail_getD s (nL s.data.toList).1 (by omega) hlt
      by_cases a3 : s.data.toList.getD (13 + (nL s.data.toList).1) 0 = 10
      · have hcc := cut_cut s (nL s.data.toList).1 (by omega)
        have hcl : (s.extract 13 (13 + (nL s.data.toList).1)).data.toList = (s.data.toList.drop 13).take (nL s.data.toList).1 := by
          rw [cut_list]
          congr 1
          omega
        have hcs : (s.extract 13 (13 + (nL s.data.toList).1)).size ≤ 300000 := by rw [ByteArray.size_extract]; omega
        have HSUM := Lib.hid (fun w hT => sum_any (s.extract 13 (13 + (nL s.data.toList).1)) w hcs hT)
        have hcrc : (crcS (s.extract 13 (13 + (nL s.data.toList).1))).toNat = sm ((s.data.toList.drop 13).take (nL s.data.toList).1) := by
          unfold crcS sm
          rw [hcl]
        rw [hcrc] at HSUM
        have HCL := Lib.hid (fun w => fclone_any (s.extract 13 (13 + (nL s.data.toList).1)) w hcs)
        have hlst := bytes_ext hcl
        rw [hg] at a3
        have hby : (((s.extract 13 s.size)[(nL s.data.toList).1]'hlt).toNat : Int) = 10 := by rw [a3]; rfl
        by_cases a4 : sm ((s.data.toList.drop 13).take (nL s.data.toList).1) = (cL s.data.toList).1
        · rw [tk_fine b0 A1.out b2 (hg.trans a3) a4]
          rw [a4] at HSUM
          have HCC := Lib.hid hcc
          have HLST := Lib.hid hlst
          clear b0 b2 a3 a4 hcrc hcl hcs hg hcc hlst
          generalize (s.data.toList.drop 13).take (nL s.data.toList).1 = tl at *
          generalize (nL s.data.toList).1 = n at *
          generalize (cL s.data.toList).1 = c at *
          generalize s.extract 13 (13 + n) = X at *
          have h2 : ¬ ((s.size - 13 : Nat) : Int) < (n : Int) + 1 := by omega
          have h4 : (n : Int) < ((s.size - 13 : Nat) : Int) := by omega
          have h5 : n ≤ s.size - 13 := by omega
          have h3 : n ≤ (s.extract 13 s.size).size := by omega
          clear a2 hrs
          go_enter Tryz.func64, Tryz.ntmps64
          go_wp2_with fail
          refine (K1.out w).mono ?_
          rintro e w1 ⟨rfl, rfl⟩
          go_wp2_with fail
          rw [HCC.out]
          refine (HSUM.out w HT.out).mono ?_
          rintro e w1 ⟨rfl, rfl⟩
          go_wp2_with fail
          rw [HCC.out]
          refine (HCL.out w).mono ?_
          rintro e w1 ⟨rfl, hb1⟩
          go_wp2_with fail
          go_ret3
          refine ⟨?_, hb1⟩
          unfold tkV
          rw [HLST.out]
          have e14 : (13 : Int) + (n : Int) + 1 = ((14 + n : Nat) : Int) := by omega
          rw [e14]
          rfl
        · rw [tk_sum b0 A1.out b2 (hg.trans a3) a4]
          have hne := nat_ne a4
          have HCC := Lib.hid hcc
          clear b0 b2 a3 a4 hcrc hcl hcs hg hcc hlst
          generalize sm ((s.data.toList.drop 13).take (nL s.data.toList).1) = z at *
          generalize (nL s.data.toList).1 = n at *
          generalize (cL s.data.toList).1 = c at *
          generalize s.extract 13 (13 + n) = X at *
          have h2 : ¬ ((s.size - 13 : Nat) : Int) < (n : Int) + 1 := by omega
          have h4 : (n : Int) < ((s.size - 13 : Nat) : Int) := by omega
          have h5 : n ≤ s.size - 13 := by omega
          have h3 : n ≤ (s.extract 13 s.size).size := by omega
          clear a2 hrs
          go_enter Tryz.func64, Tryz.ntmps64
          go_wp2_with fail
          refine (K1.out w).mono ?_
          rintro e w1 ⟨rfl, rfl⟩
          go_wp2_with fail
          rw [HCC.out]
          refine (HSUM.out w HT.out).mono ?_
          rintro e w1 ⟨rfl, rfl⟩
          go_wp2_with fail
          go_ret3
          exact ⟨rfl, Below.refl _ _⟩
      · rw [tk_end b0 A1.out b2 a3]
        rw [hg] at a3
        have hby : ((((s.extract 13 s.size)[(nL s.data.toList).1]'hlt).toNat : Int) != 10) = true := byte_ne (c := 10) a3
        clear b0 b2 a3 hg
        generalize (nL s.data.toList).1 = n at *
        generalize (cL s.data.toList).1 = c at *
        have h2 : ¬ ((s.size - 13 : Nat) : Int) < (n : Int) + 1 := by omega
        have h4 : (n : Int) < ((s.size - 13 : Nat) : Int) := by omega
        have h5 : n ≤ s.size - 13 := by omega
        clear a2 hrs
        go_enter Tryz.func64, Tryz.ntmps64
        go_wp2_with fail
        refine (K1.out w).mono ?_
        rintro e w1 ⟨rfl, rfl⟩
        go_wp2_with fail
        go_ret3
        exact ⟨rfl, Below.refl _ _⟩
  · rw [tk_head b0 a1]
    rw [rhV_no a1] at k1
    have K1 := Lib.hid k1
    clear k1 hT
    go_enter Tryz.func64, Tryz.ntmps64
    go_wp2_with fail
    refine (K1.out w).mono ?_
    rintro e w1 ⟨rfl, rfl⟩
    go_wp2_with fail
    go_ret3
    exact ⟨rfl, Below.refl _ _⟩
end Go.Proofs.YtkehojgiappiiaaGreatDoor
