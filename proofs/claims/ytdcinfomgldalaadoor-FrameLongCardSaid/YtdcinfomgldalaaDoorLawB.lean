/- The walk of FrameTwice: it returns true. Conditions: the table of four bits lies as start-up lays it. -/
import Derived.Test.YtdcinfomgldalaaDoorLawA
set_option linter.unusedVariables false
set_option linter.unusedSimpArgs false
namespace Go.Proofs.YtdcinfomgldalaaDoor
open Go Go.RowKit

theorem mk_size (l : List UInt8) : (⟨l.toArray⟩ : ByteArray).size = l.length := List.size_toArray ..
theorem encs_take (L : List (List UInt8)) (k : Nat) (hk : k < L.length) : encs (L.take (k + 1)) = encs (L.take k) ++ enc (L.getD k []) := by
  rw [List.take_succ_eq_append_getElem hk, encs_append, List.getD_eq_getElem?_getD, List.getElem?_eq_getElem hk]
  simp [encs]
theorem encs_take_len (L : List (List UInt8)) (k : Nat) : (encs (L.take k)).length ≤ (encs L).length := by
  have : encs L = encs (L.take k) ++ encs (L.drop k) := by rw [← encs_append, List.take_append_drop]
  rw [this, List.length_append]
  omega
set_option maxHeartbeats 8000000 in
set_option maxRecDepth 100000 in
theorem frameTwice_walk (s : ByteArray) (w : World) (hT : TabW w) : Calls Tryd.prog 8 #[.string s] w (Gives (.bool true) w) := by
  by_cases h1 : 8192 < s.size
  · have HA := Lib.hid (awake_any w hT)
    have hz : (8192 : Int) < (s.size : Int) := by omega
    clear hT h1
    go_enter Tryd.func8, Tryd.ntmps8
    go_wp2_with fail
    refine HA.out.mono ?_
    rintro e w1 ⟨rfl, hb⟩
    go_wp2_with fail
    go_ret
    exact ⟨rfl, hb⟩
  have hz : ¬ (8192 : Int) < (s.size : Int) := by omega
  have P1 := Lib.hid (all_any s (by omega) w hT)
  have HT := Lib.hid hT
  have hpos := hT.size
  obtain ⟨b1, b2, b3⟩ := alls_back s.data.toList
  have hlen := alls_len s.data.toList
  rw [size_list] at b1 hlen
  have hel : (encs (alls s.data.toList).1).length ≤ 8192 := by rw [b2, List.length_take, size_list]; omega
  have hcut : s.extract 0 (alls s.data.toList).2 = ⟨(encs (alls s.data.toList).1).toArray⟩ := by
    refine bytes_ext ?_
    rw [cut_list, List.drop_zero, b2]
    rfl
  have HCUT := Lib.hid hcut
  have B3 := Lib.hid b3
  clear b2 b3 hcut
  generalize alls s.data.toList = R at *
  obtain ⟨L, N⟩ := R
  simp only at P1 HCUT B3 b1 hlen hel
  clear hT h1
  go_enter Tryd.func8, Tryd.ntmps8
  go_wp2_with fail
  refine P1.out.mono ?_
  rintro e w1 ⟨A, n, c, rfl, hr, hb1, hq1, hq2⟩
  have hn := reads_len hr
  have hn2 : n ≤ 8192 := by simp only at hn; omega
  have HN := Lib.hid hn
  clear hn hlen
  have HR := Lib.hid hr
  have HQ := Lib.hid (And.intro hq1 hq2)
  have HB1 := Lib.hid hb1
  clear hr hq1 hq2 hb1
  go_wp2_with fail
  go_loopw [5, 6] (fun a i wr => ∃ k : Nat, k ≤ n ∧ i = .int .i64 (k : Int) ∧ a = .string ⟨(encs (L.take k)).toArray⟩ ∧ Below w.heap.size w wr ∧ w1.heap.size ≤ wr.heap.size ∧ Reads wr w1.heap.size 1 A n (strs L)) (fun _ i _ => n - (intOf i).toNat)
  case atStart => exact ⟨0, Nat.zero_le _, rfl, rfl, HB1.out, Nat.le_refl _, HR.out⟩
  case round =>
    obtain ⟨k, hk, rfl, rfl, hb, hz1, hr⟩ := hrel
    by_cases hlt : k < n
    · have hltz : (k : Int) < (n : Int) := by omega
      obtain ⟨ad, rfl, _, hc⟩ := reads_str hr hlt
      have hkl : k < L.length := by have := HN.out; omega
      have hmem : L.getD k [] ∈ L := by
        rw [List.getD_eq_getElem?_getD, List.getElem?_eq_getElem hkl]
        exact List.getElem_mem _
      have htl := B3.out _ hmem
      have hnext := encs_take L k hkl
      have hl1 := encs_take_len L (k + 1)
      have hX : (⟨(encs (L.take k)).toArray⟩ : ByteArray).size = (encs (L.take k)).length := mk_size _
      have hE : (encS ⟨(L.getD k []).toArray⟩).size = (L.getD k []).length + 14 := by rw [encS_size, mk_size]
      have hcat : (⟨(encs (L.take k)).toArray⟩ : ByteArray) ++ encS ⟨(L.getD k []).toArray⟩ = ⟨(encs (L.take (k + 1))).toArray⟩ := by
        refine bytes_ext ?_
        rw [ByteArray.data_append, Array.toList_append, encS_list, hnext]
      have hll := hl1
      rw [hnext, List.length_append, enc_len] at hll
      have hsum : (⟨(encs (L.take k)).toArray⟩ : ByteArray).size + (encS ⟨(L.getD k []).toArray⟩).size ≤ 8192 := by omega
      have hput := put_any ⟨(L.getD k []).toArray⟩ (by rw [mk_size]; omega) wr (HT.out.below hb hpos)
      rw [putV_ok (by rw [mk_size]; exact htl)] at hput
      have HPUT := Lib.hid hput
      have HCAT := Lib.hid hcat
      clear hput hcat hll hE hX hl1 hnext htl hmem
      generalize encS ⟨(L.getD k []).toArray⟩ = E at *
      generalize (⟨(L.getD k []).toArray⟩ : ByteArray) = T at *
      generalize (⟨(encs (L.take k)).toArray⟩ : ByteArray) = X at *
      go_wp2_with fail
      refine HPUT.out.mono ?_
      rintro e w2 ⟨rfl, hb2⟩
      have hbw := below_then' hb hb2
      have hr2 := hr.keep (w' := w2) (fun p hp => hb2.cell (by omega))
      go_wp2_with fail
      go_roundw
      case rel => exact ⟨k + 1, by omega, by go_num, by rw [HCAT.out], hbw, by have := hb2.size; omega, hr2⟩
      case measure => simp [intOf]; omega
    · obtain rfl : k = n := by omega
      have hall : L.take k = L := List.take_of_length_le (by have := HN.out; omega)
      rw [hall, ← HCUT.out]
      have hN0 : (0 : Int) ≤ (N : Int) := by omega
      have hN1 : (N : Int) ≤ (s.size : Int) := by omega
      go_wp2_with fail
      refine (awake_any wr (HT.out.below hb hpos)).mono ?_
      rintro e w4 ⟨rfl, hb4⟩
      go_wp2_with fail
      go_ret
      exact ⟨rfl, below_then' hb hb4⟩
end Go.Proofs.YtdcinfomgldalaaDoor
