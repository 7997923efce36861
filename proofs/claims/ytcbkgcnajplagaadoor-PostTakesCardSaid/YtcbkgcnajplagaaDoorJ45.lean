/- What Take of the document's answers returns: the text of the frame that bytes begin with, or why there is none. Conditions: up to 300000 bytes. -/
import Derived.Test.YtcbkgcnajplagaaDoorJ20
import Derived.Test.YtcbkgcnajplagaaDoorJ44
import Derived.Test.YtcbkgcnajplagaaDoorJ15
set_option linter.unusedVariables false
set_option linter.unusedSimpArgs false
namespace Go.Proofs.YtcbkgcnajplagaaDoor
open Go Go.RowKit
theorem headOk_iff (s : ByteArray) (h : 12 < s.size) : headOk s.data.toList ↔ (nL s.data.toList).2 = 0 ∧ (nL s.data.toList).1 ≤ 262144 ∧ (cL s.data.toList).2 = 0 ∧ s[12]'h = 124 := by
  unfold headOk
  rw [byte_getD s 12 h]
set_option maxHeartbeats 8000000 in
set_option maxRecDepth 100000 in
theorem rtake_any (s : ByteArray) (hs : s.size ≤ 300000) (w : World) : Calls Tryd.prog 54 #[.string s] w fun e w' => e = .returned (tkV (tkL s.data.toList)) ∧ w = w' := by
  have hl : s.data.toList.length = s.size := size_list s
  by_cases a0 : s.size < 13
  · rw [tk_short (by omega)]
    have hz : (s.size : Int) < 13 := by omega
    go_enter Tryd.func54, Tryd.ntmps54
    go_wp2_with fail
    go_ret3
    exact ⟨rfl, rfl⟩
  have hz : ¬ (s.size : Int) < 13 := by omega
  have h6 : 6 ≤ s.size := by omega
  have h12' : 12 ≤ s.size := by omega
  have h12 : 12 < s.size := by omega
  have b0 : ¬ s.data.toList.length < 13 := by omega
  have hO := headOk_iff s h12
  have k1 := fun w => runhex_six (s.extract 0 6) (by rw [ByteArray.size_extract]; omega) w
  have k2 := fun w => runhex_six (s.extract 6 12) (by rw [ByteArray.size_extract]; omega) w
  unfold UPost at k1 k2
  rw [cut_list] at k1 k2
  change ∀ w, Calls Tryd.prog 68 #[.string (s.extract 0 6)] w fun e w' => e = .returned (.tuple #[.int .i64 ((nL s.data.toList).1 : Int), .int .i64 ((nL s.data.toList).2 : Int)]) ∧ w = w' at k1
  change ∀ w, Calls Tryd.prog 68 #[.string (s.extract 6 12)] w fun e w' => e = .returned (.tuple #[.int .i64 ((cL s.data.toList).1 : Int), .int .i64 ((cL s.data.toList).2 : Int)]) ∧ w = w' at k2
  by_cases a1 : headOk s.data.toList
  · obtain ⟨g1, g2, g3, g4⟩ := hO.1 a1
    rw [g1] at k1
    rw [g3] at k2
    have K1 := Lib.hid k1
    have K2 := Lib.hid k2
    have A1 := Lib.hid a1
    have hb4 : ((s[12]'h12).toNat : Int) = 124 := by rw [g4]; rfl
    have hn : ¬ (262144 : Int) < ((nL s.data.toList).1 : Int) := by omega
    clear k1 k2 a1 hO g1 g3 g4
    by_cases a2 : s.size < 14 + (nL s.data.toList).1
    · rw [tk_cut b0 A1.out (by omega)]
      clear b0 A1
      generalize (nL s.data.toList).1 = n at *
      generalize (cL s.data.toList).1 = c at *
      have h2 : (s.size : Int) - 14 < (n : Int) := by omega
      clear a2
      go_enter Tryd.func54, Tryd.ntmps54
      go_wp2_with fail
      refine (K1.out w).mono ?_
      rintro e w1 ⟨rfl, rfl⟩
      go_wp2_with fail
      refine (K2.out w).mono ?_
      rintro e w1 ⟨rfl, rfl⟩
      go_wp2_with fail
      go_ret3
      exact ⟨rfl, rfl⟩
    · have b2 : ¬ s.data.toList.length < 14 + (nL s.data.toList).1 := by omega
      have hlt : 13 + (nL s.data.toList).1 < s.size := by omega
      have hg := byte_getD s (13 + (nL s.data.toList).1) hlt
      by_cases a3 : s.data.toList.getD (13 + (nL s.data.toList).1) 0 = 10
      · have hcl : (s.extract 13 (13 + (nL s.data.toList).1)).data.toList = (s.data.toList.drop 13).take (nL s.data.toList).1 := by
          rw [cut_list]
          congr 1
          omega
        have hcs : (s.extract 13 (13 + (nL s.data.toList).1)).size ≤ 300000 := by rw [ByteArray.size_extract]; omega
        have HSUM := Lib.hid (fun w => rsum_any (s.extract 13 (13 + (nL s.data.toList).1)) w hcs)
        have hcrc : (crcS (s.extract 13 (13 + (nL s.data.toList).1))).toNat = sm ((s.data.toList.drop 13).take (nL s.data.toList).1) := by
          unfold crcS sm
          rw [hcl]
        rw [hcrc] at HSUM
        have hlst := bytes_ext hcl
        have hby := a3
        rw [hg] at hby
        by_cases a4 : sm ((s.data.toList.drop 13).take (nL s.data.toList).1) = (cL s.data.toList).1
        · rw [tk_fine b0 A1.out b2 a3 a4]
          rw [a4] at HSUM
          have HLST := Lib.hid hlst
          clear b0 b2 a3 a4 hcrc hcl hcs hg hlst A1
          generalize (s.data.toList.drop 13).take (nL s.data.toList).1 = tl at *
          generalize (nL s.data.toList).1 = n at *
          generalize (cL s.data.toList).1 = c at *
          have h2 : ¬ (s.size : Int) - 14 < (n : Int) := by omega
          have h13 : 13 ≤ s.size := by omega
          have hle : 13 + n ≤ s.size := by omega
          have hby2 : ((s[13 + n]'hlt).toNat : Int) = 10 := by rw [hby]; rfl
          obtain ⟨g, hgg⟩ : ∃ g : Nat, g = 13 + n := ⟨_, rfl⟩
          have hgz : (13 : Int) + (n : Int) = (g : Int) := by omega
          have HG := Lib.hid hgg
          rw [← hgg] at HSUM HLST hle
          have hlt2 : g < s.size := by omega
          have hby3 : ((s[g]'hlt2).toNat : Int) = 10 := by
            subst hgg
            exact hby2
          have hltz : (g : Int) < (s.size : Int) := by omega
          have hgez : (g : Int) ≤ (s.size : Int) := by omega
          have hg13 : 13 ≤ g := by omega
          have hg13z : (13 : Int) ≤ (g : Int) := by omega
          clear a2 hby hby2 hgg
          go_enter Tryd.func54, Tryd.ntmps54
          go_wp2_with fail
          refine (K1.out w).mono ?_
          rintro e w1 ⟨rfl, rfl⟩
          go_wp2_with fail
          refine (K2.out w).mono ?_
          rintro e w1 ⟨rfl, rfl⟩
          go_wp2_with fail
          refine (HSUM.out w).mono ?_
          rintro e w1 ⟨rfl, rfl⟩
          go_wp2_with fail
          go_ret3
          refine ⟨?_, rfl⟩
          unfold tkV
          rw [HLST.out]
          have e14 : (14 : Int) + (n : Int) = ((14 + n : Nat) : Int) := by omega
          rw [e14]
          rfl
        · rw [tk_sum b0 A1.out b2 a3 a4]
          have hne := nat_ne a4
          clear b0 b2 a3 a4 hcrc hcl hcs hg hlst A1
          generalize sm ((s.data.toList.drop 13).take (nL s.data.toList).1) = z at *
          generalize (nL s.data.toList).1 = n at *
          generalize (cL s.data.toList).1 = c at *
          have h2 : ¬ (s.size : Int) - 14 < (n : Int) := by omega
          have h13 : 13 ≤ s.size := by omega
          have hle : 13 + n ≤ s.size := by omega
          have hby2 : ((s[13 + n]'hlt).toNat : Int) = 10 := by rw [hby]; rfl
          obtain ⟨g, hgg⟩ : ∃ g : Nat, g = 13 + n := ⟨_, rfl⟩
          have hgz : (13 : Int) + (n : Int) = (g : Int) := by omega
          rw [← hgg] at HSUM hle
          have hlt2 : g < s.size := by omega
          have hby3 : ((s[g]'hlt2).toNat : Int) = 10 := by
            subst hgg
            exact hby2
          have hltz : (g : Int) < (s.size : Int) := by omega
          have hgez : (g : Int) ≤ (s.size : Int) := by omega
          have hg13 : 13 ≤ g := by omega
          have hg13z : (13 : Int) ≤ (g : Int) := by omega
          clear a2 hby hby2 hgg
          go_enter Tryd.func54, Tryd.ntmps54
          go_wp2_with fail
          refine (K1.out w).mono ?_
          rintro e w1 ⟨rfl, rfl⟩
          go_wp2_with fail
          refine (K2.out w).mono ?_
          rintro e w1 ⟨rfl, rfl⟩
          go_wp2_with fail
          refine (HSUM.out w).mono ?_
          rintro e w1 ⟨rfl, rfl⟩
          go_wp2_with fail
          go_ret3
          exact ⟨rfl, rfl⟩
      · rw [tk_end b0 A1.out b2 a3]
        rw [hg] at a3
        clear b0 b2 hg A1
        generalize (nL s.data.toList).1 = n at *
        generalize (cL s.data.toList).1 = c at *
        have h2 : ¬ (s.size : Int) - 14 < (n : Int) := by omega
        have hby2 : (((s[13 + n]'hlt).toNat : Int) != 10) = true := byte_ne (c := 10) a3
        obtain ⟨g, hgg⟩ : ∃ g : Nat, g = 13 + n := ⟨_, rfl⟩
        have hgz : (13 : Int) + (n : Int) = (g : Int) := by omega
        have hlt2 : g < s.size := by omega
        have hby3 : (((s[g]'hlt2).toNat : Int) != 10) = true := by
          subst hgg
          exact hby2
        have hltz : (g : Int) < (s.size : Int) := by omega
        clear a2 a3 hby2 hgg
        go_enter Tryd.func54, Tryd.ntmps54
        go_wp2_with fail
        refine (K1.out w).mono ?_
        rintro e w1 ⟨rfl, rfl⟩
        go_wp2_with fail
        refine (K2.out w).mono ?_
        rintro e w1 ⟨rfl, rfl⟩
        go_wp2_with fail
        go_ret3
        exact ⟨rfl, rfl⟩
  · rw [tk_head b0 a1]
    have H : ¬ (nL s.data.toList).2 = 0 ∨ ((nL s.data.toList).2 = 0 ∧ ¬ (cL s.data.toList).2 = 0) ∨ ((nL s.data.toList).2 = 0 ∧ (cL s.data.toList).2 = 0 ∧ ¬ (nL s.data.toList).1 ≤ 262144) ∨ ((nL s.data.toList).2 = 0 ∧ (cL s.data.toList).2 = 0 ∧ (nL s.data.toList).1 ≤ 262144 ∧ ¬ s[12]'h12 = 124) := by
      by_cases x1 : (nL s.data.toList).2 = 0
      · by_cases x2 : (cL s.data.toList).2 = 0
        · by_cases x3 : (nL s.data.toList).1 ≤ 262144
          · exact .inr (.inr (.inr ⟨x1, x2, x3, fun x4 => a1 (hO.2 ⟨x1, x3, x2, x4⟩)⟩))
          · exact .inr (.inr (.inl ⟨x1, x2, x3⟩))
        · exact .inr (.inl ⟨x1, x2⟩)
      · exact .inl x1
    clear a1 hO b0
    generalize (nL s.data.toList) = N at *
    generalize (cL s.data.toList) = C at *
    obtain ⟨n, e1⟩ := N
    obtain ⟨c, e2⟩ := C
    have K1 := Lib.hid k1
    have K2 := Lib.hid k2
    clear k1 k2
    simp only at K1 K2 H
    rcases H with x | ⟨rfl, x⟩ | ⟨rfl, rfl, x⟩ | ⟨rfl, rfl, y, x⟩
    · have hb : ((e1 : Int) != 0) = true := by rw [bne_iff_ne]; omega
      clear x
      go_enter Tryd.func54, Tryd.ntmps54
      go_wp2_with fail
      refine (K1.out w).mono ?_
      rintro e w1 ⟨rfl, rfl⟩
      go_wp2_with fail
      refine (K2.out w).mono ?_
      rintro e w1 ⟨rfl, rfl⟩
      go_wp2_with fail
      go_ret3
      exact ⟨rfl, rfl⟩
    · have hb : ((e2 : Int) != 0) = true := by rw [bne_iff_ne]; omega
      clear x
      go_enter Tryd.func54, Tryd.ntmps54
      go_wp2_with fail
      refine (K1.out w).mono ?_
      rintro e w1 ⟨rfl, rfl⟩
      go_wp2_with fail
      refine (K2.out w).mono ?_
      rintro e w1 ⟨rfl, rfl⟩
      go_wp2_with fail
      go_ret3
      exact ⟨rfl, rfl⟩
    · have hb : (262144 : Int) < (n : Int) := by omega
      clear x
      go_enter Tryd.func54, Tryd.ntmps54
      go_wp2_with fail
      refine (K1.out w).mono ?_
      rintro e w1 ⟨rfl, rfl⟩
      go_wp2_with fail
      refine (K2.out w).mono ?_
      rintro e w1 ⟨rfl, rfl⟩
      go_wp2_with fail
      go_ret3
      exact ⟨rfl, rfl⟩
    · have hb : ¬ (262144 : Int) < (n : Int) := by omega
      have hb2 : (((s[12]'h12).toNat : Int) != 124) = true := byte_ne (c := 124) x
      clear x y
      go_enter Tryd.func54, Tryd.ntmps54
      go_wp2_with fail
      refine (K1.out w).mono ?_
      rintro e w1 ⟨rfl, rfl⟩
      go_wp2_with fail
      refine (K2.out w).mono ?_
      rintro e w1 ⟨rfl, rfl⟩
      go_wp2_with fail
      go_ret3
      exact ⟨rfl, rfl⟩
end Go.Proofs.YtcbkgcnajplagaaDoor
