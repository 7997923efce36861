/- CrcBurst returns true. Conditions: the table of four bits lies as start-up lays it. -/
import Derived.Test.YthogclpbbpfcoaaDoorRow
set_option linter.unusedVariables false
set_option linter.unusedSimpArgs false
namespace Go.Proofs.YthogclpbbpfcoaaDoor
open Go Go.RowKit

set_option maxHeartbeats 2000000 in
set_option maxRecDepth 100000 in
theorem burst_idle (s : ByteArray) (at_ by_ : Int) (w : World) (hT : TabW w) (h : s.size < 3 ∨ 4096 < s.size ∨ by_ % 16777216 = 0) : Calls Tryd.prog 4 #[.string s, .int .i64 at_, .int .i64 by_] w fun e w' => e = .returned (.bool true) ∧ w = w' := by
  have HA := Lib.hid (awake_any w hT)
  have hb24 := i64_and24 by_
  by_cases h1 : (s.size : Int) < 3
  · clear hT h
    go_enter Tryd.func4, Tryd.ntmps4
    go_wp2_with fail
    refine HA.out.mono ?_
    rintro e w1 ⟨rfl, rfl⟩
    go_wp2_with fail
    go_ret
    exact ⟨rfl, rfl⟩
  · by_cases h2 : 4096 < (s.size : Int)
    · clear hT h
      go_enter Tryd.func4, Tryd.ntmps4
      go_wp2_with fail
      refine HA.out.mono ?_
      rintro e w1 ⟨rfl, rfl⟩
      go_wp2_with fail
      go_ret
      exact ⟨rfl, rfl⟩
    · have h3 : by_ % 16777216 = 0 := by omega
      rw [h3] at hb24
      clear hT h h3
      go_enter Tryd.func4, Tryd.ntmps4
      go_wp2_with fail
      refine HA.out.mono ?_
      rintro e w1 ⟨rfl, rfl⟩
      go_wp2_with fail
      go_ret
      exact ⟨rfl, rfl⟩
theorem three_parts (l : List UInt8) (k : Nat) (h : k + 3 ≤ l.length) : ∃ p x y z q, l = p ++ x :: y :: z :: q ∧ p.length = k := by
  refine ⟨l.take k, l[k], l[k + 1], l[k + 2], l.drop (k + 3), ?_, by simp; omega⟩
  conv => lhs; rw [← List.take_append_drop k l]
  rw [List.drop_eq_getElem_cons (by omega), List.drop_eq_getElem_cons (by omega), List.drop_eq_getElem_cons (by omega)]
/-- The bytes behind so many rounds. -/
def xl (p q : List UInt8) (x y z d0 d1 d2 : UInt8) : Nat → List UInt8
  | 0 => p ++ x :: y :: z :: q
  | 1 => p ++ (x ^^^ d0) :: y :: z :: q
  | 2 => p ++ (x ^^^ d0) :: (y ^^^ d1) :: z :: q
  | _ => p ++ (x ^^^ d0) :: (y ^^^ d1) :: (z ^^^ d2) :: q
def byteAt (n : Int) : UInt8 := UInt8.ofNat (n % 256).toNat
theorem byteAt_nat (n : Int) : bits .and .i64 n 255 = ((byteAt n).toNat : Int) := by
  rw [i64_and8]
  unfold byteAt
  rw [UInt8.toNat_ofNat']
  omega
theorem xor_byte_self {x d : UInt8} (h : x = x ^^^ d) : d = 0 := by
  have : x ^^^ x = x ^^^ (x ^^^ d) := by rw [← h]
  rw [UInt8.xor_self, ← UInt8.xor_assoc, UInt8.xor_self, UInt8.zero_xor] at this
  exact this.symm
theorem burst_apart {p q : List UInt8} {x y z : UInt8} {n : Int} (h : ¬ n % 16777216 = 0) : crcL 0xb704ce#24 (p ++ x :: y :: z :: q) ≠ crcL 0xb704ce#24 (xl p q x y z (byteAt n) (byteAt (n / 256)) (byteAt (n / 65536)) 3) := by
  intro he
  obtain ⟨h0, h1, h2⟩ := crc_burst he
  have e0 := xor_byte_self h0
  have e1 := xor_byte_self h1
  have e2 := xor_byte_self h2
  have f0 := byteAt_nat n
  have f1 := byteAt_nat (n / 256)
  have f2 := byteAt_nat (n / 65536)
  rw [i64_and8, e0] at f0
  rw [i64_and8, e1] at f1
  rw [i64_and8, e2] at f2
  have z0 : ((0 : UInt8).toNat : Int) = 0 := rfl
  rw [z0] at f0 f1 f2
  omega
set_option maxHeartbeats 2000000 in
set_option maxRecDepth 100000 in
theorem burst_main (s : ByteArray) (at_ by_ : Int) (w : World) (hT : TabW w) (h1 : 3 ≤ s.size) (h2 : s.size ≤ 4096) (h3 : ¬ by_ % 16777216 = 0) : Calls Tryd.prog 4 #[.string s, .int .i64 at_, .int .i64 by_] w (Gives (.bool true) w) := by
  have hb24 := i64_and24 by_
  have hz1 : ¬ (s.size : Int) < 3 := by omega
  have hz2 : ¬ 4096 < (s.size : Int) := by omega
  have hb16 := i64_and16 at_
  obtain ⟨k, hk⟩ : ∃ k : Nat, (at_ % 65536).tmod ((s.size : Int) - 2) = (k : Int) := ⟨((at_ % 65536).tmod ((s.size : Int) - 2)).toNat, by
    rw [Int.toNat_of_nonneg (Int.tmod_nonneg _ (by omega))]⟩
  have hkl : (k : Int) < (s.size : Int) - 2 := by
    rw [← hk]
    exact Int.tmod_lt_of_pos _ (by omega)
  have hcv := fun (w : World) => run_bytes_of_string (P := Tryd.prog) w 9 25 5 s Tryd.underlying9 Tryd.underlying25 Tryd.underlying5
  obtain ⟨p, x, y, z, q, hl, hp⟩ := three_parts s.data.toList k (by simp; omega)
  have hap := Lib.hid (burst_apart (p := p) (q := q) (x := x) (y := y) (z := z) h3)
  have hf0 := byteAt_nat by_
  have hf1 := byteAt_nat (by_ / 256)
  have hf2 := byteAt_nat (by_ / 65536)
  have hv0 := UInt8.toNat_lt (byteAt by_)
  have hv1 := UInt8.toNat_lt (byteAt (by_ / 256))
  have hv2 := UInt8.toNat_lt (byteAt (by_ / 65536))
  have hx0 := u8_xor_bytes x (byteAt by_)
  have hx1 := u8_xor_bytes y (byteAt (by_ / 256))
  have hx2 := u8_xor_bytes z (byteAt (by_ / 65536))
  have hxv0 := UInt8.toNat_lt x
  have hyv0 := UInt8.toNat_lt y
  have hzv0 := UInt8.toNat_lt z
  obtain ⟨W0, hW0⟩ : ∃ W0, W0 = (w.alloc (.cells (bytesRow s (grownCap w s.size 0 5)) 5 ((bytesRow s (grownCap w s.size 0 5)).size, (bytesRow s (grownCap w s.size 0 5)).size + 1))).drew := ⟨_, rfl⟩
  have hrow : RowB W0 w.heap.size s.data.toList := by
    rw [hW0]
    refine RowB.new w _ _ _ _ (.inl (by simp [bytesRow])) (fun j hj => ?_)
    have hj2 : j < s.data.size := by simpa using hj
    rw [bytesRow_at s _ j hj2]
    simp
  have hbe : Below w.heap.size w W0 := by
    rw [hW0]
    exact below_drewN ((Below.refl _ w).alloc (Nat.le_refl _) _) 1
  generalize hcap : grownCap w s.size 0 5 = cap at *
  rw [hl] at hrow
  have HL := Lib.hid hl
  have HR := Lib.hid hrow
  have HB := Lib.hid hbe
  have HT := Lib.hid hT
  have HW0 := Lib.hid hW0
  have HK := Lib.hid hk
  generalize byteAt by_ = d0 at *
  generalize byteAt (by_ / 256) = d1 at *
  generalize byteAt (by_ / 65536) = d2 at *
  clear hl hrow hbe hT hW0
  have hlen : p.length + 3 ≤ s.size := by omega
  subst hp
  have hG : w.heap.size ≤ w.heap.size := Nat.le_refl _
  go_enter Tryd.func4, Tryd.ntmps4
  go_wp2_with fail
  rw [← HW0.out]
  generalize hg : w.heap.size = g at *
  go_loopw [9] (fun i wr => ∃ j : Nat, j ≤ 3 ∧ i = .int .i64 (j : Int) ∧ RowB wr g (xl p q x y z d0 d1 d2 j) ∧ Below g w wr) (fun i _ => 3 - (intOf i).toNat)
  case atStart => exact ⟨0, by omega, rfl, HR.out, HB.out⟩
  case round =>
    obtain ⟨j, hj, rfl, hr, hb⟩ := hrel
    by_cases hj3 : j < 3
    · have hsz := hb.size
      rcases (show j = 0 ∨ j = 1 ∨ j = 2 by omega) with rfl | rfl | rfl
      · have hc := hr.cell (j := p.length) (by simp [xl])
        have hfz := hr.frozen (j := p.length) (by simp [xl])
        have hst := Lib.hid (hr.set (j := p.length) (by simp [xl]) (x ^^^ d0))
        have hlt := hr.lt
        simp [xl] at hc
        go_wp2_with fail
        go_region
        go_wp2_with fail
        go_roundw
        case rel => exact ⟨1, by omega, rfl, by have h := hst.out; simp [xl] at h ⊢; exact h, below_drewN (below_setCell hb (p := ⟨g, p.length, none⟩) (Nat.le_refl _) _) 1⟩
        case measure => simp [intOf]
      · have hc := hr.cell (j := p.length + 1) (by simp [xl])
        have hfz := hr.frozen (j := p.length + 1) (by simp [xl])
        have hst := Lib.hid (hr.set (j := p.length + 1) (by simp [xl]) (y ^^^ d1))
        have hlt := hr.lt
        simp [xl] at hc
        go_wp2_with fail
        go_region
        go_wp2_with fail
        go_roundw
        case rel => exact ⟨2, by omega, rfl, by have h := hst.out; simp [xl] at h ⊢; exact h, below_drewN (below_setCell hb (p := ⟨g, p.length + 1, none⟩) (Nat.le_refl _) _) 1⟩
        case measure => simp [intOf]
      · have hc := hr.cell (j := p.length + 2) (by simp [xl])
        have hfz := hr.frozen (j := p.length + 2) (by simp [xl])
        have hst := Lib.hid (hr.set (j := p.length + 2) (by simp [xl]) (z ^^^ d2))
        have hlt := hr.lt
        simp [xl] at hc
        go_wp2_with fail
        go_region
        go_wp2_with fail
        go_roundw
        case rel => exact ⟨3, by omega, rfl, by have h := hst.out; simp [xl] at h ⊢; exact h, below_drewN (below_setCell hb (p := ⟨g, p.length + 2, none⟩) (Nat.le_refl _) _) 1⟩
        case measure => simp [intOf]
    · obtain rfl : j = 3 := by omega
      have hb2 := hb
      rw [← hg] at hb2
      have HT1 := Lib.hid (HT.out.below hb2 HT.out.size)
      have hcs := fun n => (hr.drewN n).conv cap 25 9 Tryd.underlying25 Tryd.underlying9
      have hxl : (xl p q x y z d0 d1 d2 3).length = s.size := by
        have := congrArg List.length HL.out
        simp [xl] at this ⊢
        omega
      rw [hxl] at hcs
      have hne := hap.out
      generalize hX : xl p q x y z d0 d1 d2 3 = X at *
      have hzs : s.size ≤ 100000 := by omega
      have hzX : (⟨X.toArray⟩ : ByteArray).size ≤ 100000 := by show X.toArray.size ≤ 100000; simp; omega
      have hdiff : (((crcS s).toNat : Int) != ((crcS ⟨X.toArray⟩).toNat : Int)) = true := by
        rw [bne_iff_ne]
        intro he
        apply hne
        have h5 : crcS s = crcS ⟨X.toArray⟩ := BitVec.eq_of_toNat_eq (by omega)
        unfold crcS at h5
        rw [HL.out] at h5
        exact h5
      have HX := Lib.hid hzX
      have HZ := Lib.hid hzs
      clear hne hzX hzs
      go_wp2_with fail
      go_quiet (first | (go_at_call 8; exact awake_q wr HT1.out _) | (go_at_call 9; refine sum_q _ wr ?_ HT1.out _; first | exact HZ.out | exact HX.out))
      go_wp2_with fail
      go_ret
      exact ⟨rfl, hg ▸ below_drewN hb _⟩
theorem crcBurst_walk (s : ByteArray) (at_ by_ : Int) (w : World) (hT : TabW w) : Calls Tryd.prog 4 #[.string s, .int .i64 at_, .int .i64 by_] w (Gives (.bool true) w) := by
  by_cases h : s.size < 3 ∨ 4096 < s.size ∨ by_ % 16777216 = 0
  · exact (burst_idle s at_ by_ w hT h).mono (by rintro e w' ⟨rfl, rfl⟩; exact ⟨rfl, Below.refl _ _⟩)
  · exact burst_main s at_ by_ w hT (by omega) (by omega) (by omega)
end Go.Proofs.YthogclpbbpfcoaaDoor
