/- The walk of FrameTells: it returns true. Conditions: the table of four bits lies as start-up lays it. -/
import Derived.Test.YtdcinfomgldalaaDoorLawB
import Derived.Test.YtdcinfomgldalaaDoorFrmD
set_option linter.unusedVariables false
set_option linter.unusedSimpArgs false
namespace Go.Proofs.YtdcinfomgldalaaDoor
open Go Go.RowKit

theorem i64_and8 (n : Int) : bits .and .i64 n 255 = n % 256 := by
  have hm : (BitVec.ofInt 64 255).toNat = 2 ^ 8 - 1 := by decide
  have key : (BitVec.ofInt 64 n &&& BitVec.ofInt 64 255).toNat = (n % ((2 ^ 64 : Nat) : Int)).toNat % 2 ^ 8 := by
    rw [BitVec.toNat_and, BitVec.toNat_ofInt, hm, Nat.and_two_pow_sub_one_eq_mod]
  show IntKind.i64.wrap ((BitVec.ofInt 64 n &&& BitVec.ofInt 64 255).toNat : Nat) = n % 256
  rw [key, IntKind.wrap_i64]
  omega
theorem i64_and16 (n : Int) : bits .and .i64 n 65535 = n % 65536 := by
  have hm : (BitVec.ofInt 64 65535).toNat = 2 ^ 16 - 1 := by decide
  have key : (BitVec.ofInt 64 n &&& BitVec.ofInt 64 65535).toNat = (n % ((2 ^ 64 : Nat) : Int)).toNat % 2 ^ 16 := by
    rw [BitVec.toNat_and, BitVec.toNat_ofInt, hm, Nat.and_two_pow_sub_one_eq_mod]
  show IntKind.i64.wrap ((BitVec.ofInt 64 n &&& BitVec.ofInt 64 65535).toNat : Nat) = n % 65536
  rw [key, IntKind.wrap_i64]
  omega
theorem u8_xor_bytes (a b : UInt8) : bits .xor .u8 (a.toNat : Int) (b.toNat : Int) = ((a ^^^ b).toNat : Int) := by
  rw [u8_xor_nat _ _ (UInt8.toNat_lt a) (UInt8.toNat_lt b), UInt8.toNat_xor]
def byteAt (n : Int) : UInt8 := UInt8.ofNat (n % 256).toNat
theorem byteAt_nat (n : Int) : bits .and .i64 n 255 = ((byteAt n).toNat : Int) := by
  rw [i64_and8]
  unfold byteAt
  rw [UInt8.toNat_ofNat']
  omega
/-- The bytes of a number, the lowest first. -/
def dOf (n : Int) : Nat → UInt8
  | 0 => byteAt n
  | 1 => byteAt (n / 256)
  | _ => byteAt (n / 65536)
theorem tells_idle (s : ByteArray) (at_ by_ : Int) (w : World) (hT : TabW w) (h : s.size = 0 ∨ 4096 < s.size) : Calls Tryd.prog 6 #[.string s, .int .i64 at_, .int .i64 by_] w (Gives (.bool true) w) := by
  have HA := Lib.hid (awake_any w hT)
  clear hT
  rcases h with h | h
  · obtain rfl : s = ByteArray.empty := by
      refine ByteArray.ext (Array.ext' ?_)
      have : s.data.toList = [] := List.eq_nil_of_length_eq_zero (by rw [size_list]; exact h)
      rw [this]
      rfl
    clear h
    go_enter Tryd.func6, Tryd.ntmps6
    go_wp2_with fail
    refine HA.out.mono ?_
    rintro e w1 ⟨rfl, hb⟩
    go_wp2_with fail
    go_ret
    exact ⟨rfl, hb⟩
  · have hne : s.toList.isEmpty = false := by
      rw [← decide_eq_emptyBytes s, decide_eq_false_iff_not]
      rintro rfl
      exact absurd h (by decide)
    have hz : (4096 : Int) < (s.size : Int) := by omega
    clear h
    go_enter Tryd.func6, Tryd.ntmps6
    go_wp2_with fail
    refine HA.out.mono ?_
    rintro e w1 ⟨rfl, hb⟩
    go_wp2_with fail
    go_ret
    exact ⟨rfl, hb⟩
set_option maxHeartbeats 8000000 in
set_option maxRecDepth 100000 in
theorem tells_main (s : ByteArray) (at_ by_ : Int) (w : World) (hT : TabW w) (h0 : 0 < s.size) (h1 : s.size ≤ 4096) : Calls Tryd.prog 6 #[.string s, .int .i64 at_, .int .i64 by_] w (Gives (.bool true) w) := by
  have hne : s.toList.isEmpty = false := by
    rw [← decide_eq_emptyBytes s, decide_eq_false_iff_not]
    rintro rfl
    exact absurd h0 (by decide)
  have hz : ¬ (4096 : Int) < (s.size : Int) := by omega
  have hb16 := i64_and16 at_
  obtain ⟨k, hk⟩ : ∃ k : Nat, (at_ % 65536).tmod (s.size : Int) = (k : Int) := ⟨((at_ % 65536).tmod (s.size : Int)).toNat, by
    rw [Int.toNat_of_nonneg (Int.tmod_nonneg _ (by omega))]⟩
  have hkl : (k : Int) < (s.size : Int) := by
    rw [← hk]
    exact Int.tmod_lt_of_pos _ (by omega)
  have hkn : k < s.data.toList.length := by rw [size_list]; omega
  have hput := put_any s (by omega) w hT
  rw [putV_ok (by omega)] at hput
  have hsz := encS_size s
  have hFG : (encS s).data.toList = FG s.data.toList k (dOf by_) 0 := rfl
  have HFG := Lib.hid hFG
  have hcv := fun (w : World) => run_bytes_of_string (P := Tryd.prog) w 9 36 5 (encS s) Tryd.underlying9 Tryd.underlying36 Tryd.underlying5
  have htold := Lib.hid (fun hd => FG_take s.data.toList k (dOf by_) hkn (by rw [size_list]; omega) hd)
  have hnext := Lib.hid (fun j hj => FG_next s.data.toList k (dOf by_) j hj)
  have hflen := Lib.hid (fun j => FG_len s.data.toList k (dOf by_) j)
  have hr3 : rnds s.data.toList k = min 3 (s.size - k) := by unfold rnds; rw [size_list]
  rw [hr3] at htold
  rw [size_list] at hnext hflen
  have HPUT := Lib.hid hput
  have HSZ := Lib.hid hsz
  clear hsz
  have HT := Lib.hid hT
  have hpos := hT.size
  have HK := Lib.hid hk
  have d0 := byteAt_nat by_
  have d1 := byteAt_nat (by_ / 256)
  have d2 := byteAt_nat (by_ / 65536)
  clear hput hT hFG h0 h1 hkn hr3
  generalize encS s = F at *
  generalize FG s.data.toList k (dOf by_) = X at *
  go_enter Tryd.func6, Tryd.ntmps6
  go_wp2_with fail
  refine HPUT.out.mono ?_
  rintro e w1 ⟨rfl, hb1⟩
  have hszz : (F.size : Int) = (s.size : Int) + 14 := by have := HSZ.out; omega
  obtain ⟨W0, hW0⟩ : ∃ W0, W0 = (w1.alloc (.cells (bytesRow F (grownCap w1 F.size 0 5)) 5 ((bytesRow F (grownCap w1 F.size 0 5)).size, (bytesRow F (grownCap w1 F.size 0 5)).size + 1))).drew := ⟨_, rfl⟩
  have hrow : RowB W0 w1.heap.size (X 0) := by
    rw [hW0, ← HFG.out]
    refine RowB.new w1 _ _ _ _ _ (.inl (by simp [bytesRow])) (fun j hj => ?_)
    have hj2 : j < F.data.size := by simpa using hj
    rw [bytesRow_at F _ j hj2]
    simp
  have hbe : Below w1.heap.size w1 W0 := by
    rw [hW0]
    exact below_drewN ((Below.refl _ w1).alloc (Nat.le_refl _) _) 1
  have HW0 := Lib.hid hW0
  have HROW := Lib.hid hrow
  have HBE := Lib.hid (below_then' hb1 hbe)
  have hgw : w.heap.size ≤ w1.heap.size := hb1.size
  have HGW := Lib.hid hgw
  clear hrow hbe hW0 hb1 hgw
  go_wp2_with fail
  rw [← HW0.out]
  generalize grownCap w1 F.size 0 5 = cap at *
  clear hcv
  generalize hg : w1.heap.size = g at *
  go_loopw [11, 12] (fun b i wr => ∃ (j : Nat) (same : Bool), j ≤ 3 ∧ k + j ≤ s.size ∧ i = .int .i64 (j : Int) ∧ b = .bool same ∧ Hid (same = true ↔ ∀ i, i < j → dOf by_ i = 0) ∧ RowB wr g (X j) ∧ Below w.heap.size w wr) (fun _ i _ => 3 - (intOf i).toNat)
  case atStart => exact ⟨0, true, by omega, by omega, rfl, rfl, Lib.hid (by simp), HROW.out, HBE.out⟩
  case round =>
    obtain ⟨j, same, hj, hkj, rfl, rfl, HS, hr, hb⟩ := hrel
    by_cases hgo : j < 3 ∧ k + j < s.size
    · obtain ⟨hj3, hkj2⟩ := hgo
      have hj3z : (j : Int) < 3 := by omega
      have hkjz : (k : Int) + (j : Int) < (s.size : Int) := by omega
      have hxl := hflen.out j
      obtain ⟨q, hq⟩ : ∃ q : Nat, q = 13 + (k + j) := ⟨_, rfl⟩
      have hqz : (13 : Int) + (k : Int) + (j : Int) = (q : Int) := by omega
      have hql : q < (X j).length := by omega
      have hqF : (q : Int) < (F.size : Int) := by omega
      have hc := hr.cell hql
      have hfz := hr.frozen hql
      have hlt := hr.lt
      have hget : (X j)[q] = (X j).getD q 0 := by rw [List.getD_eq_getElem?_getD, List.getElem?_eq_getElem hql]; rfl
      rw [hget] at hc
      have hnx := hnext.out j hkj2
      rw [← hq] at hnx
      have hst := hr.set hql ((X j).getD q 0 ^^^ dOf by_ j)
      rw [hnx] at hst
      have hxor := u8_xor_bytes ((X j).getD q 0) (dOf by_ j)
      have hv := UInt8.toNat_lt (dOf by_ j)
      have hv2 := UInt8.toNat_lt ((X j).getD q 0)
      have hv3 := UInt8.toNat_lt ((X j).getD q 0 ^^^ dOf by_ j)
      have hand2 : bits .and .i64 (by_ / 2 ^ (8 * j)) 255 = ((dOf by_ j).toNat : Int) := by
        rcases (show j = 0 ∨ j = 1 ∨ j = 2 by omega) with rfl | rfl | rfl
        · simpa [dOf] using d0
        · simpa [dOf] using d1
        · simpa [dOf] using d2
      have hmod : ((dOf by_ j).toNat : Int) % 256 = ((dOf by_ j).toNat : Int) := by omega
      have HST := Lib.hid hst
      have HD : Hid (∀ v : Bool, (v = true ↔ (same = true ∧ dOf by_ j = 0)) → (v = true ↔ ∀ i, i < j + 1 → dOf by_ i = 0)) := Lib.hid (by
        intro v hv
        rw [hv, HS.out]
        constructor
        · rintro ⟨h1, h2⟩ i hi
          rcases Nat.lt_or_ge i j with h | h
          · exact h1 i h
          · obtain rfl : i = j := by omega
            exact h2
        · intro h
          exact ⟨fun i hi => h i (by omega), h j (by omega)⟩)
      clear hst hnx hget hxl HS
      generalize (X j).getD q 0 = x0 at *
      generalize dOf by_ j = dj at *
      clear hq
      have hbset := fun v => below_setCell hb (p := ⟨g, q, none⟩) HGW.out v
      cases same with
      | false =>
        have HF := Lib.hid (HD.out false (by simp))
        clear HD
        go_wp2_with fail
        refine ⟨⟨j + 1, false, by omega, by omega, by go_num, rfl, HF, ?_, hbset _⟩, by simp [intOf]; omega⟩
        first | exact HST.out | (rw [← UInt8.toNat_xor]; exact HST.out) | (have h := HST.out; have e := hxor; simp at h e ⊢; rw [e]; exact h)
      | true =>
        by_cases hd : dj = 0
        · subst hd
          have HF := Lib.hid (HD.out true (by simp))
          clear HD
          go_wp2_with fail
          refine ⟨⟨j + 1, true, by omega, by omega, by go_num, rfl, HF, ?_, hbset _⟩, by simp [intOf]; omega⟩
          first | exact HST.out | (rw [← UInt8.toNat_xor]; exact HST.out) | (have h := HST.out; have e := hxor; simp at h e ⊢; rw [e]; exact h)
        · have HF := Lib.hid (HD.out false (by simpa using hd))
          have hdz : ((dj.toNat : Int) == 0) = false := by
            rw [beq_eq_false_iff_ne]
            intro h
            exact hd (UInt8.toNat_inj.1 (by show dj.toNat = 0; omega))
          clear HD hd
          go_wp2_with fail
          refine ⟨⟨j + 1, false, by omega, by omega, by go_num, rfl, HF, ?_, hbset _⟩, by simp [intOf]; omega⟩
          first | exact HST.out | (rw [← UInt8.toNat_xor]; exact HST.out) | (have h := HST.out; have e := hxor; simp at h e ⊢; rw [e]; exact h)
    · have hm : min 3 (s.size - k) = j := by omega
      have htd := htold.out
      rw [hm] at htd
      have HTD := Lib.hid htd
      have hsplit : ¬ (j : Int) < 3 ∨ ((j : Int) < 3 ∧ ¬ (k : Int) + (j : Int) < (s.size : Int)) := by omega
      have hxl := hflen.out j
      have hcs := hr.conv cap 36 9 Tryd.underlying36 Tryd.underlying9
      rw [hxl, ← HSZ.out] at hcs
      have hzX : (⟨(X j).toArray⟩ : ByteArray).size ≤ 300000 := by rw [mk_size]; omega
      have HTK := Lib.hid (fun hd => (by
        have := take_any ⟨(X j).toArray⟩ hzX wr (HT.out.below hb hpos)
        rw [HTD.out hd] at this
        exact this : Calls Tryd.prog 12 #[.string ⟨(X j).toArray⟩] wr fun e w' => e = .returned (tkV ([], 0, 41)) ∧ Below wr.heap.size wr w'))
      have HAW := Lib.hid (awake_any wr (HT.out.below hb hpos))
      generalize (⟨(X j).toArray⟩ : ByteArray) = Y at *
      clear hxl htd hm
      cases same with
      | true =>
        rcases hsplit with c1 | ⟨c1, c2⟩
        · go_wp2_with fail
          refine HAW.out.mono ?_
          rintro e w4 ⟨rfl, hb4⟩
          go_wp2_with fail
          go_ret
          exact ⟨rfl, below_then' hb hb4⟩
        · go_wp2_with fail
          refine HAW.out.mono ?_
          rintro e w4 ⟨rfl, hb4⟩
          go_wp2_with fail
          go_ret
          exact ⟨rfl, below_then' hb hb4⟩
      | false =>
        have htk := HTK.out (fun h => by have := HS.out.2 h; simp at this)
        rw [show tkV ([], 0, 41) = .tuple #[.string ⟨#[]⟩, .int .i64 0, .int .i64 41] from rfl] at htk
        have HTK2 := Lib.hid htk
        clear htk
        rcases hsplit with c1 | ⟨c1, c2⟩
        · go_wp2_with fail
          refine HTK2.out.mono ?_
          rintro e w4 ⟨rfl, hb4⟩
          have hb04 := below_then' hb hb4
          go_wp2_with fail
          refine (awake_any w4 (HT.out.below hb04 hpos)).mono ?_
          rintro e w5 ⟨rfl, hb5⟩
          go_wp2_with fail
          go_ret
          exact ⟨rfl, below_then' hb04 hb5⟩
        · go_wp2_with fail
          refine HTK2.out.mono ?_
          rintro e w4 ⟨rfl, hb4⟩
          have hb04 := below_then' hb hb4
          go_wp2_with fail
          refine (awake_any w4 (HT.out.below hb04 hpos)).mono ?_
          rintro e w5 ⟨rfl, hb5⟩
          go_wp2_with fail
          go_ret
          exact ⟨rfl, below_then' hb04 hb5⟩
theorem frameTells_walk (s : ByteArray) (at_ by_ : Int) (w : World) (hT : TabW w) : Calls Tryd.prog 6 #[.string s, .int .i64 at_, .int .i64 by_] w (Gives (.bool true) w) := by
  by_cases h : s.size = 0 ∨ 4096 < s.size
  · exact tells_idle s at_ by_ w hT h
  · exact tells_main s at_ by_ w hT (by omega) (by omega)
end Go.Proofs.YtdcinfomgldalaaDoor
