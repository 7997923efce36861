/- The walk of BencCuts: it returns true. Conditions: Go's table of powers of ten lies as start-up lays it; the value reads as a tree. -/
import Derived.Test.YtcgcocnbjijdaaaDoorLawB
set_option linter.unusedVariables false
set_option linter.unusedSimpArgs false
namespace Go.Proofs.YtcgcocnbjijdaaaDoor
open Go Go.RowKit

theorem i64_and65535 (n : Int) : bits .and .i64 n 65535 = n % 65536 := by
  have hm : (BitVec.ofInt 64 65535).toNat = 2 ^ 16 - 1 := by decide
  have key : (BitVec.ofInt 64 n &&& BitVec.ofInt 64 65535).toNat = (n % ((2 ^ 64 : Nat) : Int)).toNat % 2 ^ 16 := by
    rw [BitVec.toNat_and, BitVec.toNat_ofInt, hm, Nat.and_two_pow_sub_one_eq_mod]
  show IntKind.i64.wrap ((BitVec.ofInt 64 n &&& BitVec.ofInt 64 65535).toNat : Nat) = n % 65536
  rw [key, IntKind.wrap_i64]
  omega
theorem cut_res {t : T} {s : ByteArray} (h : PutIs t s 0) (hwf : wfT t = true) {j : Nat} (hj : j < s.size) : takeRes (s.extract 0 j).data.toList = .error 21 := by
  obtain ⟨g1, rfl⟩ := h.good rfl
  obtain ⟨a1, a2, a3⟩ := gdT_iff.1 g1
  have h1 := rd_cut t 0 j a1 hwf (by omega) (by simpa using a3) (by simpa [ByteArray.size] using hj)
  have h2 : ((⟨(enc t).toArray⟩ : ByteArray).extract 0 j).data.toList = (enc t).take j := by
    rw [Lib.extract_data]
    simp
  unfold takeRes
  rw [h2, h1]
set_option maxRecDepth 100000 in
set_option maxHeartbeats 16000000 in
theorem bencCuts_walk (t : T) (v : Value) (cut : Int) (w : World) (ht : RdA (fun b => b < w.heap.size) w t v) (hwt : wfT t = true) (hT : Tabs w w.heap.size) : Calls Tryd.prog 6 #[v, .int .i64 cut] w (Gives (.bool true) w) := by
  have hkt := ht
  obtain ⟨A, c, rfl, _⟩ := ht.rd
  obtain ⟨hq1, hb0, hsz⟩ := box_start w (.int .i64 t.k) (.int .i64 t.n) (.string t.s) (.slice A t.l.length c)
  obtain ⟨w0, hw0⟩ : ∃ w0, w0 = w.alloc (.cells #[.int .i64 t.k, .int .i64 t.n, .string t.s, .slice A t.l.length c] 24) := ⟨_, rfl⟩
  rw [← hw0] at hq1 hb0 hsz
  have HQ1 := Lib.hid hq1
  have HT := Lib.hid hT
  have HKT := Lib.hid hkt
  have HWT := Lib.hid hwt
  have HB0 := Lib.hid hb0
  have aw : ∀ w1 : World, Below w.heap.size w w1 → Calls Tryd.prog 11 #[] w1 (Gives (.bool true) w1) := fun w1 hb => awake_any w.heap.size _ (hT.on hb) hb.size
  have AW := Lib.hid aw
  clear hq1 hT hkt hwt hb0 aw
  cases hs1 : smallT t with
  | false =>
    have HS1 := Lib.hid hs1
    clear hs1
    go_enter Tryd.func6, Tryd.ntmps6
    go_wp2_with fail
    rw [← hw0]
    refine (small_any t _ Tr w0 (HKT.out.any.next HB0.out)).mono ?_
    rintro e w1 ⟨rfl, hb1⟩
    rw [HS1.out]
    have hbw := below_then HB0.out hb1
    clear hb1
    go_wp2_with fail
    refine (AW.out _ hbw).mono ?_
    rintro e w2 ⟨rfl, hb2⟩
    go_wp2_with fail
    go_ret
    exact ⟨rfl, below_then hbw hb2⟩
  | true =>
    have HS1 := Lib.hid hs1
    clear hs1
    go_enter Tryd.func6, Tryd.ntmps6
    go_wp2_with fail
    rw [← hw0]
    refine (small_any t _ Tr w0 (HKT.out.any.next HB0.out)).mono ?_
    rintro e w1 ⟨rfl, hb1⟩
    rw [HS1.out]
    have hbw := below_then HB0.out hb1
    have q1 := Lib.hid (on_blk hb1 HQ1.out)
    obtain ⟨e0, e1, e2, e3, ef⟩ := val_block q1.out
    have l1 := blk_lt q1.out
    clear hb1
    go_wp2_with fail
    refine (put_out t _ w1 (RdA.on HKT.out hbw) HS1.out HWT.out ((HT.out.on hbw).up hbw.size)).mono ?_
    rintro e w3 ⟨s, x, rfl, hp, hb3⟩
    have hbw3 := below_then hbw hb3
    clear hb3 hbw
    by_cases hx : x = 0
    · subst hx
      have hpos : 0 < s.size := by
        obtain ⟨g1, rfl⟩ := hp.good rfl
        have := enc_pos (gdT_iff.1 g1).1
        simpa [ByteArray.size] using this
      have hlt : s.size ≤ 65536 := by
        obtain ⟨g1, rfl⟩ := hp.good rfl
        have := (gdT_iff.1 g1).2.2
        simpa [ByteArray.size] using this
      have HCUT := Lib.hid (fun j (hj : j < s.size) => cut_res hp HWT.out hj)
      have hne : ¬ (s.size : Int) = 0 := by omega
      have hand := i64_and65535 cut
      obtain ⟨j, hrem⟩ : ∃ j : Nat, cut % 65536 % (s.size : Int) = (j : Int) := ⟨(cut % 65536 % (s.size : Int)).toNat, by have := Int.emod_nonneg (cut % 65536) hne; omega⟩
      have hjlt : j < s.size := by have := Int.emod_lt_of_pos (cut % 65536) (show (0 : Int) < (s.size : Int) by omega); omega
      have hjle : (j : Int) ≤ (s.size : Int) := by omega
      have hj0 : (0 : Int) ≤ (j : Int) := by omega
      have htk := take_any (s.extract 0 j) (by rw [ByteArray.size_extract]; omega) w3
      rw [HCUT.out j hjlt] at htk
      have HTK := Lib.hid htk
      clear hp htk
      go_wp2_with fail
      refine HTK.out.mono ?_
      rintro e w4 ⟨rfl, hb4⟩
      have hbw4 := below_then hbw3 hb4
      unfold zeroA
      clear hb4
      go_wp2_with fail
      have hbw5 := hbw4.alloc hbw4.size (.cells #[.int .i64 0, .int .i64 0, .string ⟨#[]⟩, .slice none 0 0] 24)
      refine (AW.out _ hbw5).mono ?_
      rintro e w6 ⟨rfl, hb6⟩
      go_wp2_with fail
      go_ret
      exact ⟨rfl, below_then hbw5 hb6⟩
    · obtain ⟨rfl, _⟩ := hp.none_ hx
      go_wp2_with fail
      refine (AW.out _ hbw3).mono ?_
      rintro e w5 ⟨rfl, hb5⟩
      go_wp2_with fail
      go_ret
      exact ⟨rfl, below_then hbw3 hb5⟩
end Go.Proofs.YtcgcocnbjijdaaaDoor
