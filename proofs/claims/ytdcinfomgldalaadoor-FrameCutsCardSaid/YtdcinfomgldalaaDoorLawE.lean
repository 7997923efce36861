/- The walk of FrameCuts: it returns true. Conditions: the table of four bits lies as start-up lays it; the slice reads as a list of texts. -/
import Derived.Test.YtdcinfomgldalaaDoorFrmE
set_option linter.unusedVariables false
set_option linter.unusedSimpArgs false
namespace Go.Proofs.YtdcinfomgldalaaDoor
open Go Go.RowKit

def ints (l : List Int) : List Value := l.map (Value.int .i64)
theorem ints_len (l : List Int) : (ints l).length = l.length := by simp [ints]
theorem ints_snoc (l : List Int) (z : Int) : ints l ++ [.int .i64 z] = ints (l ++ [z]) := by simp [ints]
theorem reads_int {w : World} {B n k : Nat} {A : Option Addr} {l : List Int} (h : Reads w B 1 A n (ints l)) (hk : k < n) :
    ∃ ad, A = some ad ∧ ad.block < B ∧ w.cell? (ad.add k) = some (.int .i64 (l.getD k 0)) := by
  obtain ⟨ad, u, e, hb, hx, hc⟩ := h.at_ hk
  refine ⟨ad, e, hb, ?_⟩
  rw [hc]
  unfold ints at hx
  rw [List.getElem?_map] at hx
  obtain ⟨z, hz, rfl⟩ := Option.map_eq_some_iff.1 hx
  rw [List.getD_eq_getElem?_getD, hz]
  rfl
theorem i64_and20 (n : Int) : bits .and .i64 n 1048575 = n % 1048576 := by
  have hm : (BitVec.ofInt 64 1048575).toNat = 2 ^ 20 - 1 := by decide
  have key : (BitVec.ofInt 64 n &&& BitVec.ofInt 64 1048575).toNat = (n % ((2 ^ 64 : Nat) : Int)).toNat % 2 ^ 20 := by
    rw [BitVec.toNat_and, BitVec.toNat_ofInt, hm, Nat.and_two_pow_sub_one_eq_mod]
  show IntKind.i64.wrap ((BitVec.ofInt 64 n &&& BitVec.ofInt 64 1048575).toNat : Nat) = n % 1048576
  rw [key, IntKind.wrap_i64]
  omega
theorem reads_take {w : World} {B n k : Nat} {A : Option Addr} {ts : List (List UInt8)} (h : Reads w B 1 A n (strs ts)) (hk : k ≤ n) : Reads w B 1 A k (strs (ts.take k)) := by
  have hn := reads_len h
  refine ⟨by rw [strs_len, List.length_take]; omega, fun h0 => ?_⟩
  obtain ⟨ad, e, hb, hc⟩ := h.2 (by omega)
  refine ⟨ad, e, hb, fun j u hj => hc j u ?_⟩
  have hjl := (List.getElem?_eq_some_iff.1 hj).1
  rw [strs_len, List.length_take] at hjl
  rw [← hj]
  unfold strs
  rw [List.getElem?_map, List.getElem?_map, List.getElem?_take, if_pos (by omega)]
set_option maxHeartbeats 8000000 in
set_option maxRecDepth 100000 in
theorem frameCuts_walk (A : Option Addr) (n c : Nat) (ts : List (List UInt8)) (cut : Int) (w : World) (hx : Reads w w.heap.size 1 A n (strs ts)) (hnc : n ≤ c) (hcm : c ≤ maxLen) (hT : TabW w) : Calls Tryd.prog 5 #[.slice A n c, .int .i64 cut] w (Gives (.bool true) w) := by
  have hn := reads_len hx
  have HN := Lib.hid hn
  have HT := Lib.hid hT
  have hpos := hT.size
  have HX := Lib.hid hx
  have HCM := Lib.hid (And.intro hnc hcm)
  clear hn hT hcm
  go_enter Tryd.func5, Tryd.ntmps5
  go_wp2_with fail
  go_loopw [5, 6] (fun m i wr => ∃ k : Nat, k ≤ n ∧ k ≤ 16 ∧ i = .int .i64 (k : Int) ∧ m = .int .i64 (sl (ts.take k) : Int) ∧ w = wr) (fun _ i _ => 16 - (intOf i).toNat)
  case atStart => exact ⟨0, Nat.zero_le _, by omega, rfl, rfl, rfl⟩
  case round =>
    obtain ⟨k, hk, hk16, rfl, rfl, rfl⟩ := hrel
    have hslb := sl_le (ts.take k)
    have htl : (ts.take k).length ≤ 16 := by rw [List.length_take]; omega
    have hsl2 : sl (ts.take k) ≤ 65536 := by omega
    clear hslb htl
    by_cases hgo : k < n ∧ k < 16
    · obtain ⟨hkn, hk2⟩ := hgo
      have hknz : (k : Int) < (n : Int) := by omega
      have hk2z : (k : Int) < 16 := by omega
      obtain ⟨ad, rfl, _, hc⟩ := reads_str HX.out hkn
      have hnext := sl_take ts k (by have := HN.out; omega)
      have hsz : (⟨(ts.getD k []).toArray⟩ : ByteArray).size = (ts.getD k []).length := mk_size _
      generalize (⟨(ts.getD k []).toArray⟩ : ByteArray) = T at *
      have hnx2 : (sl (ts.take (k + 1)) : Int) = (sl (ts.take k) : Int) + min (T.size : Int) 4096 := by omega
      have HNX := Lib.hid hnx2
      clear hsz hnext hnx2
      go_wp2_with fail
      refine ⟨⟨k + 1, by omega, by omega, by go_num, ?_, by trivial⟩, by simp [intOf]; omega⟩
      rw [HNX.out]
    · have HAW := Lib.hid (awake_any w HT.out)
      by_cases hkn : k < n
      · have hk16' : k = 16 := by omega
        have c1 : (k : Int) < (n : Int) := by omega
        have c2 : ¬ (k : Int) < 16 := by omega
        by_cases hbig : 2048 < sl (ts.take k)
        · have c3 : (2048 : Int) < (sl (ts.take k) : Int) := by omega
          clear hk16' hbig
          go_wp2_with fail
          refine HAW.out.mono ?_
          rintro e w1 ⟨rfl, hb⟩
          go_wp2_with fail
          go_ret
          exact ⟨rfl, hb⟩
        · have c3 : ¬ (2048 : Int) < (sl (ts.take k) : Int) := by omega
          have c4 : (16 : Int) < (n : Int) := by omega
          clear hk16' hbig
          go_wp2_with fail
          refine HAW.out.mono ?_
          rintro e w1 ⟨rfl, hb⟩
          go_wp2_with fail
          go_ret
          exact ⟨rfl, hb⟩
      · obtain rfl : k = n := by omega
        have c1 : ¬ (k : Int) < (k : Int) := by omega
        have htk : ts.take k = ts := List.take_of_length_le (by have := HN.out; omega)
        rw [htk] at hsl2 ⊢
        by_cases hbig : 2048 < sl ts
        · have c3 : (2048 : Int) < (sl ts : Int) := by omega
          clear hbig
          go_wp2_with fail
          refine HAW.out.mono ?_
          rintro e w1 ⟨rfl, hb⟩
          go_wp2_with fail
          go_ret
          exact ⟨rfl, hb⟩
        · have c3 : ¬ (2048 : Int) < (sl ts : Int) := by omega
          have c4 : ¬ (16 : Int) < (k : Int) := by omega
          have hmem := Lib.hid (sl_mem (ts := ts) (by omega))
          have hencs : (encs ts).length ≤ 2272 := by rw [sl_encs (by omega)]; have := HN.out; omega
          clear hbig htk HAW hgo
          go_wp2_with fail
          go_loopw [7, 8, 9] (fun a v i wr => ∃ j : Nat, j ≤ k ∧ i = .int .i64 (j : Int) ∧ a = .string ⟨(encs (ts.take j)).toArray⟩ ∧ wr.ownsRow w.heap.size 3 1 v j (ints (endsL ts j)) ∧ Below w.heap.size w wr ∧ Reads wr w.heap.size 1 A k (strs ts)) (fun _ _ i _ => k - (intOf i).toNat)
          case atStart => exact ⟨0, Nat.zero_le _, rfl, rfl, World.ownsRow_nil .., Below.refl _ _, HX.out⟩
          case round =>
            obtain ⟨j, hj, rfl, rfl, hown, hb, hr⟩ := hrel
            by_cases hlt : j < k
            · have hltz : (j : Int) < (k : Int) := by omega
              obtain ⟨ad, rfl, _, hcell⟩ := reads_str hr hlt
              have hjl : j < ts.length := by have := HN.out; omega
              have hm : ts.getD j [] ∈ ts := by
                rw [List.getD_eq_getElem?_getD, List.getElem?_eq_getElem hjl]
                exact List.getElem_mem _
              have htl := hmem.out _ hm
              have hnext := encs_take ts j hjl
              have hl1 := encs_take_len ts (j + 1)
              have hXs : (⟨(encs (ts.take j)).toArray⟩ : ByteArray).size = (encs (ts.take j)).length := mk_size _
              have hEs : (encS ⟨(ts.getD j []).toArray⟩).size = (ts.getD j []).length + 14 := by rw [encS_size, mk_size]
              have hcat : (⟨(encs (ts.take j)).toArray⟩ : ByteArray) ++ encS ⟨(ts.getD j []).toArray⟩ = ⟨(encs (ts.take (j + 1))).toArray⟩ := by
                refine bytes_ext ?_
                rw [ByteArray.data_append, Array.toList_append, encS_list, hnext]
              have hll := hl1
              rw [hnext, List.length_append, enc_len] at hll
              have hsum : (⟨(encs (ts.take j)).toArray⟩ : ByteArray).size + (encS ⟨(ts.getD j []).toArray⟩).size ≤ 2272 := by omega
              have hlen1 : Hid (((encs (ts.take (j + 1))).length : Int) = ((⟨(encs (ts.take j)).toArray⟩ : ByteArray).size : Int) + ((encS ⟨(ts.getD j []).toArray⟩).size : Int)) := Lib.hid (by
                rw [hnext, List.length_append, enc_len, hXs, hEs]
                omega)
              have hput := put_any ⟨(ts.getD j []).toArray⟩ (by rw [mk_size]; omega) wr (HT.out.below hb hpos)
              rw [putV_ok (by rw [mk_size]; omega)] at hput
              have HPUT := Lib.hid hput
              have HCAT := Lib.hid hcat
              clear hput hcat hll hEs hXs hl1 hnext htl hm
              generalize encS ⟨(ts.getD j []).toArray⟩ = E at *
              generalize (⟨(ts.getD j []).toArray⟩ : ByteArray) = T at *
              generalize (⟨(encs (ts.take j)).toArray⟩ : ByteArray) = X at *
              go_wp2_with fail
              refine HPUT.out.mono ?_
              rintro e w2 ⟨rfl, hb2⟩
              have hbw := below_then' hb hb2
              have hown2 := keep_none hown hb2
              have hr2 := hr.keep (w' := w2) (fun p hp => hb2.cell (by have := hb.size; omega))
              go_wp2_with (at_builtin; refine append_int rfl (.tmp 62) (.tmp 65) rfl w.heap.size _ j (ints (endsL ts j)) _ rfl hown2 w2.heap.size (by simp) rfl (by omega) hbw.size ?_; intro v3 w3 hown3 hg3)
              have hb3 : Below w.heap.size w w3 := hbw.grown hg3 hbw.size (fun q hq => (hown2.lt q hq).1)
              have hr3 := hr2.grown hg3 hbw.size (fun q hq => (hown2.lt q hq).1)
              go_roundw
              case rel => exact ⟨j + 1, by omega, by go_num, by rw [HCAT.out], by rw [endsL_next, hlen1.out, ← ints_snoc]; exact hown3, hb3, hr3⟩
              case measure => simp [intOf]; omega
            · obtain rfl : j = k := by omega
              have hall : ts.take j = ts := List.take_of_length_le (by have := HN.out; omega)
              rw [hall]
              have hnl : ¬ (j : Int) < (j : Int) := by omega
              obtain ⟨A2, c2, rfl, hq1, hq2⟩ := own_shape hown
              have hre := Lib.hid (Reads.of_own hown)
              have hXs : (⟨(encs ts).toArray⟩ : ByteArray).size = (encs ts).length := mk_size _
              have hand := i64_and20 cut
              obtain ⟨K, hK⟩ : ∃ K : Nat, (cut % 1048576).tmod (((⟨(encs ts).toArray⟩ : ByteArray).size : Int) + 1) = (K : Int) := ⟨((cut % 1048576).tmod (((⟨(encs ts).toArray⟩ : ByteArray).size : Int) + 1)).toNat, by
                rw [Int.toNat_of_nonneg (Int.tmod_nonneg _ (by omega))]⟩
              have hKl : (K : Int) < ((⟨(encs ts).toArray⟩ : ByteArray).size : Int) + 1 := by
                rw [← hK]
                exact Int.tmod_lt_of_pos _ (by omega)
              have hcl : ((⟨(encs ts).toArray⟩ : ByteArray).extract 0 K).data.toList = (encs ts).take K := by
                rw [cut_list, List.drop_zero]
                rfl
              have hall2 := all_any ((⟨(encs ts).toArray⟩ : ByteArray).extract 0 K) (by rw [ByteArray.size_extract]; omega) wr (HT.out.below hb hpos)
              rw [hcl, alls_cut ts K (fun u hu => by have := hmem.out u hu; omega)] at hall2
              have HALL := Lib.hid hall2
              have hKle : K ≤ (⟨(encs ts).toArray⟩ : ByteArray).size := by omega
              have hKz : (K : Int) ≤ ((⟨(encs ts).toArray⟩ : ByteArray).size : Int) := by omega
              have hne : ¬ ((⟨(encs ts).toArray⟩ : ByteArray).size : Int) + 1 = 0 := by omega
              have HQ := Lib.hid (And.intro hq1 hq2)
              have hX2 : (⟨(encs ts).toArray⟩ : ByteArray).size ≤ 2272 := by omega
              have HK := Lib.hid hKl
              clear hall2 hcl hKl hXs hq1 hq2 hall hencs
              generalize (⟨(encs ts).toArray⟩ : ByteArray) = X at *
              go_wp2_with fail
              refine HALL.out.mono ?_
              rintro e w3 ⟨A3, n3, c3, rfl, hr3, hb3, hq3, hq4⟩
              have hbw := below_then' hb hb3
              have hn3 := reads_len hr3
              have hwl := wh_le ts K
              have hwl2 : wh ts K ≤ j := by have := HN.out; omega
              have hn3b : n3 ≤ 1000000 := by rw [hn3, List.length_take]; omega
              have HR3 := Lib.hid hr3
              have HQ3 := Lib.hid (And.intro hq3 hq4)
              have hre3 := Lib.hid ((hre.out).below hb3)
              have hr4 := Lib.hid (hr.keep (w' := w3) (fun p hp => hb3.cell (by have := hb.size; omega)))
              clear hr3 hq3 hq4 hn3 hwl
              go_wp2_with fail
              go_loopw [15, 16] (fun i v wx => ∃ q : Nat, q ≤ wh ts K ∧ i = .int .i64 (q : Int) ∧ v = .int .i64 ((encs (ts.take q)).length : Int) ∧ w3 = wx) (fun i _ _ => wh ts K - (intOf i).toNat)
              case atStart => exact ⟨0, Nat.zero_le _, rfl, rfl, rfl⟩
              case round =>
                obtain ⟨q, hq, rfl, rfl, rfl⟩ := hrel
                have hiff := wh_iff ts K q
                by_cases hqw : q < wh ts K
                · obtain ⟨h1, h2⟩ := hiff.1 hqw
                  have hqj : q < j := by omega
                  obtain ⟨ad, rfl, _, hcell⟩ := reads_int hre3.out hqj
                  rw [endsL_at ts j q hqj] at hcell
                  have hz1 : (q : Int) < (j : Int) := by omega
                  have hz2 : ((encs (ts.take (q + 1))).length : Int) ≤ (K : Int) := by omega
                  clear hiff h1 h2
                  go_wp2_with fail
                  exact ⟨⟨q + 1, by omega, by go_num, by trivial, by trivial⟩, by simp [intOf]; omega⟩
                · obtain rfl : q = wh ts K := by omega
                  have hwc : wh ts K ≤ c := by omega
                  have hwz : (0 : Int) ≤ (wh ts K : Int) := by omega
                  have hwcz : (wh ts K : Int) ≤ (c : Int) := by omega
                  by_cases hqj : wh ts K < j
                  · obtain ⟨ad, rfl, _, hcell⟩ := reads_int hre3.out hqj
                    rw [endsL_at ts j _ hqj] at hcell
                    have hz1 : (wh ts K : Int) < (j : Int) := by omega
                    have hz2 : ¬ ((encs (ts.take (wh ts K + 1))).length : Int) ≤ (K : Int) := by
                      intro h
                      have := hiff.2 ⟨by have := HN.out; omega, by omega⟩
                      omega
                    clear hiff
                    go_wp2_with fail
                    refine (same_true A3 A n3 (wh ts K) c3 c _ _ (ts.take (wh ts K)) w3 HR3.out (reads_take hr4.out hwl2) hn3b).mono ?_
                    rintro e w4 ⟨rfl, z, rfl⟩
                    have hbz := below_drewN hbw z
                    go_wp2_with fail
                    refine (awake_any (w3.drewN z) (HT.out.below hbz hpos)).mono ?_
                    rintro e w5 ⟨rfl, hb5⟩
                    go_wp2_with fail
                    go_ret
                    exact ⟨rfl, below_then' hbz hb5⟩
                  · have hz1 : ¬ (wh ts K : Int) < (j : Int) := by omega
                    clear hiff
                    go_wp2_with fail
                    refine (same_true A3 A n3 (wh ts K) c3 c _ _ (ts.take (wh ts K)) w3 HR3.out (reads_take hr4.out hwl2) hn3b).mono ?_
                    rintro e w4 ⟨rfl, z, rfl⟩
                    have hbz := below_drewN hbw z
                    go_wp2_with fail
                    refine (awake_any (w3.drewN z) (HT.out.below hbz hpos)).mono ?_
                    rintro e w5 ⟨rfl, hb5⟩
                    go_wp2_with fail
                    go_ret
                    exact ⟨rfl, below_then' hbz hb5⟩
end Go.Proofs.YtdcinfomgldalaaDoor
