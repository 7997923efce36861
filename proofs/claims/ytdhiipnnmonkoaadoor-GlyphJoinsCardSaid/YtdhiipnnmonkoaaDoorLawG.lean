/- The walk of GlyphJoins: it returns true. Conditions: Go's two tables of UTF-8 lie as start-up lays them. -/
import Derived.Test.YtdhiipnnmonkoaaDoorLawF
set_option linter.unusedVariables false
namespace Go.Proofs.YtdhiipnnmonkoaaDoor
open Go Go.RowKit

theorem i64_and65535 (n : Int) : bits .and .i64 n 65535 = n % 65536 := by
  have h63 : (BitVec.ofInt 64 65535).toNat = 2 ^ 16 - 1 := by decide
  have key : (BitVec.ofInt 64 n &&& BitVec.ofInt 64 65535).toNat = (n % ((2 ^ 64 : Nat) : Int)).toNat % 2 ^ 16 := by
    rw [BitVec.toNat_and, BitVec.toNat_ofInt, h63, Nat.and_two_pow_sub_one_eq_mod]
  show IntKind.i64.wrap ((BitVec.ofInt 64 n &&& BitVec.ofInt 64 65535).toNat : Nat) = n % 65536
  rw [key, IntKind.wrap_i64]
  omega
theorem cont_byte (z : Int) (h0 : 128 ≤ z) (h1 : z < 192) : (z.toNat.toUInt8).toNat / 64 = 2 := by
  rw [byte_nat z (by omega) (by omega)]
  omega
theorem encodeRune_tail (r : Int) (h : isR r = true) : ∀ c ∈ (Lib.encodeRune r).tail, c.toNat / 64 = 2 := by
  obtain ⟨h0, h1, h2⟩ := (isR_iff r).1 h
  intro c hc
  by_cases c1 : r ≤ 127
  · rw [Lib.encodeRune, Lib.encodeRuneZ_one h0 c1] at hc
    simp at hc
  · by_cases c2 : r ≤ 2047
    · rw [Lib.encodeRune, Lib.encodeRuneZ_two (by omega) c2] at hc
      simp only [List.map_cons, List.map_nil, List.tail_cons, List.mem_cons, List.mem_nil_iff, or_false] at hc
      rw [hc]
      exact cont_byte _ (by omega) (by omega)
    · by_cases c3 : r ≤ 65535
      · rw [Lib.encodeRune, Lib.encodeRuneZ_three (by omega)] at hc
        simp only [List.map_cons, List.map_nil, List.tail_cons, List.mem_cons, List.mem_nil_iff, or_false] at hc
        rcases hc with hc | hc <;> rw [hc] <;> exact cont_byte _ (by omega) (by omega)
      · rw [Lib.encodeRune, Lib.encodeRuneZ_four (by omega) h1] at hc
        simp only [List.map_cons, List.map_nil, List.tail_cons, List.mem_cons, List.mem_nil_iff, or_false] at hc
        rcases hc with hc | hc | hc <;> rw [hc] <;> exact cont_byte _ (by omega) (by omega)
theorem not_bad (r : Int) (h : isR r = true) (t : List UInt8) : ¬ BadHead (Lib.encodeRune r ++ t) := by
  rintro ⟨h1, h2⟩
  rw [decodeL_enc r h t] at h1 h2
  have hr := (isR_iff r).1 h
  simp only at h1 h2
  have : r = 65533 := by omega
  subst this
  revert h2
  decide
/-- What begins no rune begins none, whatever that is no later byte of a rune stands behind. -/
theorem bad_append (l : List UInt8) (c : UInt8) (u : List UInt8) (hne : l ≠ []) (hb : BadHead l) (hc : c.toNat / 64 ≠ 2) : BadHead (l ++ c :: u) := by
  rcases decode_cases (l ++ c :: u) (by simp) with h | ⟨r, t, hr, e⟩
  · exact h
  · exfalso
    rcases List.append_eq_append_iff.1 e with ⟨p, h1, h2⟩ | ⟨p, h1, h2⟩
    · cases p with
      | nil =>
        rw [List.append_nil] at h1
        have := not_bad r hr []
        rw [List.append_nil, h1] at this
        exact this hb
      | cons d p =>
        have hd : c = d := by
          rw [List.cons_append] at h2
          injection h2
        subst hd
        refine hc (encodeRune_tail r hr c ?_)
        rw [h1]
        cases l with
        | nil => exact absurd rfl hne
        | cons x l => simp
    · rw [h1] at hb
      exact not_bad r hr p hb
theorem blanks_at (w : World) (j : Nat) (hj : j < 7) : ∃ (bl : ByteArray) (b : Int), (w.alloc (.cells #[.string { data := #[32] }, .string { data := #[9] }, .string { data := #[10] }, .string { data := #[13] }, .string { data := #[194, 160] }, .string { data := #[226, 128, 131] }, .string { data := #[227, 128, 128] }] 9)).cell? ⟨w.heap.size, j, none⟩ = some (.string bl) ∧ bl.data.toList = enc [b] ∧ isR b = true ∧ blankB b = true ∧ bl.size ≤ 3 := by
  have hb := heap_alloc_new w (.cells #[.string { data := #[32] }, .string { data := #[9] }, .string { data := #[10] }, .string { data := #[13] }, .string { data := #[194, 160] }, .string { data := #[226, 128, 131] }, .string { data := #[227, 128, 128] }] 9)
  rw [cell_of_row _ _ _ _ _ _ hb]
  match j, hj with
  | 0, _ => exact ⟨_, 32, rfl, by decide +kernel, by decide, by decide, by decide⟩
  | 1, _ => exact ⟨_, 9, rfl, by decide +kernel, by decide, by decide, by decide⟩
  | 2, _ => exact ⟨_, 10, rfl, by decide +kernel, by decide, by decide, by decide⟩
  | 3, _ => exact ⟨_, 13, rfl, by decide +kernel, by decide, by decide, by decide⟩
  | 4, _ => exact ⟨_, 160, rfl, by decide +kernel, by decide, by decide, by decide⟩
  | 5, _ => exact ⟨_, 8195, rfl, by decide +kernel, by decide, by decide, by decide⟩
  | 6, _ => exact ⟨_, 12288, rfl, by decide +kernel, by decide, by decide, by decide⟩
theorem Reads.pre {w : World} {B n k : Nat} {A : Option Addr} {xs : List Value} (h : Reads w B 1 A n xs) (hk : k ≤ n) : Reads w B 1 A k (xs.take k) := by
  refine ⟨by have := h.1; rw [List.length_take]; omega, fun h0 => ?_⟩
  obtain ⟨ad, e, hb, hc⟩ := h.2 (by omega)
  refine ⟨ad, e, hb, fun j u hj => hc j u ?_⟩
  rw [List.getElem?_take] at hj
  split at hj
  · exact hj
  · cases hj
theorem cat_data3 (s bl t : ByteArray) (rs : List Int) (b : Int) (rt : List Int) (hs : s.data.toList = enc rs) (hb : bl.data.toList = enc [b]) (ht : t.data.toList = enc rt) : (s ++ bl ++ t).data.toList = enc (rs ++ (b :: rt)) := by
  rw [ByteArray.data_append, ByteArray.data_append, Array.toList_append, Array.toList_append, hs, hb, ht, List.append_assoc, ← enc_append, ← enc_append]
  rfl
theorem cat_list3 (s bl t : ByteArray) : (s ++ bl ++ t).data.toList = s.data.toList ++ (bl.data.toList ++ t.data.toList) := by
  rw [ByteArray.data_append, ByteArray.data_append, Array.toList_append, Array.toList_append, List.append_assoc]
theorem blank_head (bl : ByteArray) (b : Int) (h : bl.data.toList = enc [b]) (hr : isR b = true) (hb : blankB b = true) : ∃ c u, bl.data.toList = c :: u ∧ c.toNat / 64 ≠ 2 := by
  rw [h]
  have hp := of_decide_eq_true hb
  rcases hp with rfl | rfl | rfl | rfl | rfl | rfl | rfl
  all_goals exact ⟨_, _, rfl, by decide +kernel⟩
theorem cat_size3 (s bl t : ByteArray) : (s ++ bl ++ t).size = s.size + bl.size + t.size := by
  rw [← size_list, ByteArray.data_append, ByteArray.data_append, Array.toList_append, Array.toList_append, List.length_append, List.length_append, size_list, size_list, size_list]
set_option maxRecDepth 100000 in
set_option maxHeartbeats 4000000 in
theorem glyphJoins_walk (s t : ByteArray) (which : Int) (w : World) (hT : Tabs w) : Calls Tryd.prog 9 #[.string s, .string t, .int .i64 which] w (Yes w) := by
  by_cases hlen : 2048 < s.size
  · go_enter Tryd.func9, Tryd.ntmps9
    go_wp2_with (go_at_call 22; refine (words_true _ (hT.below ((Below.refl _ _).alloc (Nat.le_refl _) _))).mono ?_; rintro e w1 ⟨rfl, hb1⟩)
    go_ret
    exact ⟨rfl, ((Below.refl _ _).alloc (Nat.le_refl _) _).trans (hb1.mono (by simp))⟩
  by_cases hlen2 : 2048 < t.size
  · go_enter Tryd.func9, Tryd.ntmps9
    go_wp2_with (go_at_call 22; refine (words_true _ (hT.below ((Below.refl _ _).alloc (Nat.le_refl _) _))).mono ?_; rintro e w1 ⟨rfl, hb1⟩)
    go_ret
    exact ⟨rfl, ((Below.refl _ _).alloc (Nat.le_refl _) _).trans (hb1.mono (by simp))⟩
  have hs : s.size ≤ 2048 := by omega
  have ht : t.size ≤ 2048 := by omega
  clear hlen hlen2
  have hand := i64_and65535 which
  have hM0 : 0 ≤ which % 65536 := by omega
  have hM1 : which % 65536 < 65536 := by omega
  generalize which % 65536 = M at hand hM0 hM1
  obtain ⟨j, hj, hj7⟩ : ∃ j : Nat, M % 7 = (j : Int) ∧ j < 7 := ⟨(M % 7).toNat, by omega, by omega⟩
  obtain ⟨bl, b, hcell, hbl, hbr, hbb, hbz⟩ := blanks_at w j hj7
  have hb0 : Below w.heap.size w (w.alloc (.cells #[.string { data := #[32] }, .string { data := #[9] }, .string { data := #[10] }, .string { data := #[13] }, .string { data := #[194, 160] }, .string { data := #[226, 128, 131] }, .string { data := #[227, 128, 128] }] 9)) := (Below.refl _ _).alloc (Nat.le_refl _) _
  have hlt0 : w.heap.size < (w.alloc (.cells #[.string { data := #[32] }, .string { data := #[9] }, .string { data := #[10] }, .string { data := #[13] }, .string { data := #[194, 160] }, .string { data := #[226, 128, 131] }, .string { data := #[227, 128, 128] }] 9)).heap.size := by simp
  have HBL := Lib.hid hbl
  have HBB := Lib.hid hbb
  have HBR := Lib.hid hbr
  clear hbl hbb hbr
  rcases text_or s.data.toList with ⟨rs, hgs, hss⟩ | hns
  · rcases text_or t.data.toList with ⟨rt, hgt, htt⟩ | hnt
    · have HS := Lib.hid hss
      have HTT := Lib.hid htt
      clear hss htt
      go_enter Tryd.func9, Tryd.ntmps9
      go_wp2_with fail
      refine (words_ok s rs hgs HS.out (by omega) _ (hT.below hb0)).mono ?_
      rintro e w1 ⟨A1, n1, c1, rfl, hr1, hb1, hp1, hp1'⟩
      have h01 := hb0.trans (hb1.mono hb0.size)
      go_wp2_with fail
      refine (words_ok t rt hgt HTT.out (by omega) _ (hT.below h01)).mono ?_
      rintro e w2 ⟨A2, n2, c2, rfl, hr2, hb2, hp2, hp2'⟩
      have h02 := below_then h01 hb2
      have hc1 : w1.cell? ⟨w.heap.size, j, none⟩ = some (.string bl) := by rw [hb1.cell hlt0]; exact hcell
      have hc2 : w2.cell? ⟨w.heap.size, j, none⟩ = some (.string bl) := by rw [hb2.cell (Nat.lt_of_lt_of_le hlt0 hb1.size)]; exact hc1
      have HU := Lib.hid (cat_data3 s bl t rs b rt HS.out HBL.out HTT.out)
      have hgu : Good (rs ++ (b :: rt)) := hgs.append ((Good.one HBR.out).append hgt)
      have HGU := Lib.hid hgu
      have hzu : (s ++ bl ++ t).size ≤ 100000 := by rw [cat_size3]; omega
      have HZU := Lib.hid hzu
      have hjoin : wordsL (rs ++ (b :: rt)) = wordsL rs ++ wordsL rt := words_join HBB.out rt rs []
      have HJ := Lib.hid hjoin
      clear hgu hzu hjoin
      go_wp2_with fail
      refine (words_ok (s ++ bl ++ t) (rs ++ (b :: rt)) HGU.out HU.out HZU.out _ (hT.below h02)).mono ?_
      rintro e w3 ⟨A3, n3, c3, rfl, hr3, hb3, hp3, hp3'⟩
      have h03 := below_then h02 hb3
      rw [HJ.out] at hr3
      have hn1 := reads_len hr1
      have hn2 := reads_len hr2
      have hn3 := reads_len hr3
      rw [List.length_append] at hn3
      have hw1 := words_len rs []
      have hw2 := words_len rt []
      have hn3' : n3 = n1 + n2 := by omega
      have hb31 : ((n3 : Int) == (n1 : Int) + (n2 : Int)) = true := by rw [beq_iff_eq]; omega
      have hn1b : n1 ≤ 100000 := by
        have h := (enc_len rs).1
        rw [← HS.out, size_list] at h
        unfold wordsL at hn1
        simp at hw1
        omega
      have hn2b : n2 ≤ 100000 := by
        have h := (enc_len rt).1
        rw [← HTT.out, size_list] at h
        unfold wordsL at hn2
        simp at hw2
        omega
      have hle : n1 ≤ n3 := by omega
      have hlc : n1 ≤ c3 := by omega
      have hn3b : n3 ≤ 200000 := by omega
      unfold maxLen at hp3'
      have HN1 := Lib.hid hn1
      have HN3 := Lib.hid hn3'
      clear hn1 hn2 hn3 hn3' hw1 hw2 hand hcell hc1
      have hx1 : Reads w3 w3.heap.size 1 A3 n1 (strs (wordsL rs)) := by
        have h := hr3.pre hle
        rw [strs_append, List.take_left' (by rw [strs_len]; exact HN1.out.symm)] at h
        exact h
      have hy1 : Reads w3 w1.heap.size 1 A1 n1 (strs (wordsL rs)) := (hr1.below hb2).below (hb3.mono hb2.size)
      have hy2 : Reads w3 w2.heap.size 1 A2 n2 (strs (wordsL rt)) := hr2.below hb3
      have hx2 : Reads w3 w3.heap.size 1 (if c3 = n1 then A3 else A3.map (·.add (n1 * 1))) (n3 - n1) (strs (wordsL rt)) := by
        have h := hr3.cut (cap := c3) hle hp3
        rw [strs_append, Nat.mul_one, List.drop_left' (by rw [strs_len]; exact HN1.out.symm)] at h
        rw [Nat.mul_one]
        exact h
      by_cases hcc : c3 = n1
      · subst hcc
        rw [if_pos rfl, show n3 - c3 = 0 by omega] at hx2
        go_wp2_with fail
        refine (sameStrs_true _ _ _ _ _ _ _ _ _ _ hx1 hy1 (by omega)).mono ?_
        rintro e w4 ⟨rfl, q, rfl⟩
        go_wp2_with fail
        refine (sameStrs_true _ _ _ _ _ _ _ _ _ _ (hx2.drewN q) (hy2.drewN q) (by omega)).mono ?_
        rintro e w5 ⟨rfl, q2, rfl⟩
        have h05 : Below w.heap.size w ((w3.drewN q).drewN q2) := below_drewN (below_drewN h03 q) q2
        have hT5 := hT.below h05
        rw [World.drewN_drewN] at h05 hT5
        go_wp2_with (go_at_call 22; refine (words_true _ hT5).mono ?_; rintro e w6 ⟨rfl, hb6⟩)
        go_ret
        exact ⟨rfl, below_then h05 hb6⟩
      · rw [if_neg hcc, Nat.mul_one] at hx2
        go_wp2_with fail
        refine (sameStrs_true _ _ _ _ _ _ _ _ _ _ hx1 hy1 (by omega)).mono ?_
        rintro e w4 ⟨rfl, q, rfl⟩
        go_wp2_with fail
        refine (sameStrs_true _ _ _ _ _ _ _ _ _ _ (hx2.drewN q) (hy2.drewN q) (by omega)).mono ?_
        rintro e w5 ⟨rfl, q2, rfl⟩
        have h05 : Below w.heap.size w ((w3.drewN q).drewN q2) := below_drewN (below_drewN h03 q) q2
        have hT5 := hT.below h05
        rw [World.drewN_drewN] at h05 hT5
        go_wp2_with (go_at_call 22; refine (words_true _ hT5).mono ?_; rintro e w6 ⟨rfl, hb6⟩)
        go_ret
        exact ⟨rfl, below_then h05 hb6⟩
    · have hnu : NoText (s ++ bl ++ t).data.toList := by
        rw [cat_list3, hss, HBL.out, ← List.append_assoc, ← enc_append]
        exact noText_append (hgs.append (Good.one HBR.out)) hnt
      have hzu : (s ++ bl ++ t).size ≤ 100000 := by rw [cat_size3]; omega
      have HZU := Lib.hid hzu
      have HU := Lib.hid hnu
      have HS := Lib.hid hss
      have HNT := Lib.hid hnt
      clear hss hnu hzu hnt
      go_enter Tryd.func9, Tryd.ntmps9
      go_wp2_with fail
      refine (words_ok s rs hgs HS.out (by omega) _ (hT.below hb0)).mono ?_
      rintro e w1 ⟨A1, n1, c1, rfl, hr1, hb1, hp1, hp1'⟩
      have h01 := hb0.trans (hb1.mono hb0.size)
      go_wp2_with fail
      refine (words_no t HNT.out (by omega) _ (hT.below h01)).mono ?_
      rintro e w2 ⟨rfl, hb2⟩
      have h02 := below_then h01 hb2
      have hc1 : w1.cell? ⟨w.heap.size, j, none⟩ = some (.string bl) := by rw [hb1.cell hlt0]; exact hcell
      have hc2 : w2.cell? ⟨w.heap.size, j, none⟩ = some (.string bl) := by rw [hb2.cell (Nat.lt_of_lt_of_le hlt0 hb1.size)]; exact hc1
      go_wp2_with fail
      refine (words_no (s ++ bl ++ t) HU.out HZU.out _ (hT.below h02)).mono ?_
      rintro e w3 ⟨rfl, hb3⟩
      have h03 := below_then h02 hb3
      go_wp2_with (go_at_call 22; refine (words_true _ (hT.below h03)).mono ?_; rintro e w6 ⟨rfl, hb6⟩)
      go_ret
      exact ⟨rfl, below_then h03 hb6⟩
  · have hnu : NoText (s ++ bl ++ t).data.toList := by
      rw [cat_list3]
      obtain ⟨ra, ta, hga, hsa, hna, hba⟩ := hns
      rw [hsa, List.append_assoc]
      obtain ⟨c, u, hcu, hc⟩ := blank_head bl b HBL.out HBR.out HBB.out
      refine ⟨ra, ta ++ (bl.data.toList ++ t.data.toList), hga, rfl, by simp [hna], ?_⟩
      rw [hcu, List.cons_append]
      exact bad_append ta c _ hna hba hc
    have hzu : (s ++ bl ++ t).size ≤ 100000 := by rw [cat_size3]; omega
    have HZU := Lib.hid hzu
    have HU := Lib.hid hnu
    have HNS := Lib.hid hns
    clear hnu hzu hns
    rcases text_or t.data.toList with ⟨rt, hgt, htt⟩ | hnt
    · have HTT := Lib.hid htt
      clear htt
      go_enter Tryd.func9, Tryd.ntmps9
      go_wp2_with fail
      refine (words_no s HNS.out (by omega) _ (hT.below hb0)).mono ?_
      rintro e w1 ⟨rfl, hb1⟩
      have h01 := hb0.trans (hb1.mono hb0.size)
      go_wp2_with fail
      refine (words_ok t rt hgt HTT.out (by omega) _ (hT.below h01)).mono ?_
      rintro e w2 ⟨A2, n2, c2, rfl, hr2, hb2, hp2, hp2'⟩
      have h02 := below_then h01 hb2
      have hc1 : w1.cell? ⟨w.heap.size, j, none⟩ = some (.string bl) := by rw [hb1.cell hlt0]; exact hcell
      have hc2 : w2.cell? ⟨w.heap.size, j, none⟩ = some (.string bl) := by rw [hb2.cell (Nat.lt_of_lt_of_le hlt0 hb1.size)]; exact hc1
      go_wp2_with fail
      refine (words_no (s ++ bl ++ t) HU.out HZU.out _ (hT.below h02)).mono ?_
      rintro e w3 ⟨rfl, hb3⟩
      have h03 := below_then h02 hb3
      go_wp2_with (go_at_call 22; refine (words_true _ (hT.below h03)).mono ?_; rintro e w6 ⟨rfl, hb6⟩)
      go_ret
      exact ⟨rfl, below_then h03 hb6⟩
    · have HNT := Lib.hid hnt
      clear hnt
      go_enter Tryd.func9, Tryd.ntmps9
      go_wp2_with fail
      refine (words_no s HNS.out (by omega) _ (hT.below hb0)).mono ?_
      rintro e w1 ⟨rfl, hb1⟩
      have h01 := hb0.trans (hb1.mono hb0.size)
      go_wp2_with fail
      refine (words_no t HNT.out (by omega) _ (hT.below h01)).mono ?_
      rintro e w2 ⟨rfl, hb2⟩
      have h02 := below_then h01 hb2
      have hc1 : w1.cell? ⟨w.heap.size, j, none⟩ = some (.string bl) := by rw [hb1.cell hlt0]; exact hcell
      have hc2 : w2.cell? ⟨w.heap.size, j, none⟩ = some (.string bl) := by rw [hb2.cell (Nat.lt_of_lt_of_le hlt0 hb1.size)]; exact hc1
      go_wp2_with fail
      refine (words_no (s ++ bl ++ t) HU.out HZU.out _ (hT.below h02)).mono ?_
      rintro e w3 ⟨rfl, hb3⟩
      have h03 := below_then h02 hb3
      go_wp2_with (go_at_call 22; refine (words_true _ (hT.below h03)).mono ?_; rintro e w6 ⟨rfl, hb6⟩)
      go_ret
      exact ⟨rfl, below_then h03 hb6⟩
end Go.Proofs.YtdhiipnnmonkoaaDoor
