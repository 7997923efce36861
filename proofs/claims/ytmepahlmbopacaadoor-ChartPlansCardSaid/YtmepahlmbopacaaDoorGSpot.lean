/- What Spot of package crc and of the document's answers return. Conditions: the table of four bits and Go's table of powers of ten lie as start-up lays them. -/
import Derived.Test.YtmepahlmbopacaaDoorSum
import Derived.Test.YtmepahlmbopacaaDoorVKit
import Derived.Test.YtmepahlmbopacaaDoorShelf
import Derived.Lib.AppendIntMem
import Derived.Lib.ItoaLen
import Derived.DataShut
set_option linter.unusedVariables false
set_option linter.unusedSimpArgs false
namespace Go.Proofs.YtmepahlmbopacaaDoor
open Go Go.RowKit
theorem Dn_one (j : Nat) (x : BitVec 24) : Dn (j + 1) x = D (Dn j x) := by
  rw [← Dn_add 1 j x]
  rfl
theorem xor_poly (N : Nat) (h : 2 * N < 9223372036854775808) : bits .xor .i64 (2 * (N : Int)) 25578747 = ((2 * N ^^^ 25578747 : Nat) : Int) := by
  have := i64_xor_nat (2 * N) 25578747 h (by omega)
  rw [Int.natCast_mul] at this
  exact this
set_option maxHeartbeats 4000000 in
set_option maxRecDepth 100000 in
theorem rsum_any (s : ByteArray) (w : World) (hs : s.size ≤ 100000) : Calls Tryd.prog 82 #[.string s] w fun e w' => e = .returned (.int .i64 ((crcS s).toNat : Int)) ∧ w = w' := by
  go_enter Tryd.func82, Tryd.ntmps82
  go_wp2_with fail
  go_loopw [3, 4] (fun c i wr => ∃ k : Nat, k ≤ s.size ∧ c = .int .i64 ((crcL 0xb704ce#24 (s.data.toList.take k)).toNat : Int) ∧ i = .int .i64 (k : Int) ∧ w = wr) (fun _ i _ => s.size - (intOf i).toNat)
  case atStart => exact ⟨0, Nat.zero_le _, rfl, rfl, rfl⟩
  case round =>
    obtain ⟨k, hk, rfl, rfl, rfl⟩ := hrel
    by_cases hlt : k < s.size
    · have hltz : (k : Int) < (s.size : Int) := by omega
      have hnx := Lib.hid (crcL_take 0xb704ce#24 s.data.toList k (by simpa using hlt))
      generalize hC : crcL 0xb704ce#24 (s.data.toList.take k) = C at *
      have hbt : (s[k]'hlt).toNat < 256 := UInt8.toNat_lt _
      have h1 := xor_byte C (s[k]'hlt)
      clear hC
      go_wp2_with fail
      obtain ⟨wo, rfl⟩ : ∃ wo : World, wo = w := ⟨_, rfl⟩
      go_loopw [3, 5] (fun c i wr => ∃ j : Nat, j ≤ 8 ∧ c = .int .i64 ((Dn j (C ^^^ BitVec.ofNat 24 ((s[k]'hlt).toNat * 65536))).toNat : Int) ∧ i = .int .i64 (j : Int) ∧ wo = wr) (fun _ i _ => 8 - (intOf i).toNat)
      case atStart => exact ⟨0, Nat.zero_le _, rfl, rfl, rfl⟩
      case round =>
        obtain ⟨j, hj, rfl, rfl, rfl⟩ := hrel
        by_cases hj8 : j < 8
        · have hjz : (j : Int) < 8 := by omega
          have hone := Dn_one j (C ^^^ BitVec.ofNat 24 ((s[k]'hlt).toNat * 65536))
          generalize hX : Dn j (C ^^^ BitVec.ofNat 24 ((s[k]'hlt).toNat * 65536)) = X at *
          have hd := D_nat X
          rw [← hone] at hd
          have hone' := Lib.hid hone
          have hXl := X.isLt
          have hp := xor_poly X.toNat (by omega)
          clear hX hone
          generalize X.toNat = N at *
          by_cases hge : 16777216 ≤ 2 * N
          · have hgez : (16777216 : Int) ≤ 2 * (N : Int) := by omega
            rw [if_pos hge] at hd
            rw [← hd] at hp
            clear hd
            go_wp2_with fail
            exact ⟨⟨j + 1, by omega, rfl, by go_num, by trivial⟩, by simp [intOf]; omega⟩
          · have hgez : ¬ (16777216 : Int) ≤ 2 * (N : Int) := by omega
            rw [if_neg hge] at hd
            have HD := Lib.hid hd
            clear hd hp
            go_wp2_with fail
            exact ⟨⟨j + 1, by omega, by rw [HD.out, Int.natCast_mul]; rfl, by go_num, by trivial⟩, by simp [intOf]; omega⟩
        · have hjz : ¬ (j : Int) < 8 := by omega
          obtain rfl : j = 8 := by omega
          go_wp2_with fail
          exact ⟨⟨k + 1, by omega, by rw [hnx.out]; rfl, by go_num, by trivial⟩, by simp [intOf]; omega⟩
    · obtain rfl : k = s.size := by omega
      have hnl : ¬ (s.size : Int) < (s.size : Int) := by omega
      have hall : crcL 0xb704ce#24 (s.data.toList.take s.size) = crcS s := by
        rw [List.take_of_length_le (by simp)]
        rfl
      rw [hall]
      go_wp2_with fail
      go_ret
      exact ⟨rfl, rfl⟩
def Tabs (w : World) (B : Nat) : Prop := Lib.TabBelow Tryd.prog B w "internal/strconv.uint64pow10" .u64 Lib.pow10Tab
theorem Tabs.on {w w1 : World} {B : Nat} (h : Tabs w B) (hb : Below B w w1) : Tabs w1 B := Lib.TabBelow.on h hb
theorem Tabs.up {w : World} {B C : Nat} (h : Tabs w B) (hB : B ≤ C) : Tabs w C := fun w' hb => h w' (hb.mono hB)
theorem Tabs.next {w w1 : World} (h : Tabs w w.heap.size) (hb : Below w.heap.size w w1) : Tabs w1 w1.heap.size := (h.on hb).up hb.size
def I64 (n : Int) : Prop := -9223372036854775808 ≤ n ∧ n ≤ 9223372036854775807
theorem i64_of_wf {n : Int} (h : (Lit.int .i64 n).wf = true) : I64 n := by
  have := (Lit.wf_int_iff .i64 n).1 h
  have h1 : IntKind.i64.min = -9223372036854775808 := by decide
  have h2 : IntKind.i64.max = 9223372036854775807 := by decide
  rw [h1, h2] at this
  exact this
def itS (n : Int) : ByteArray := ⟨(Lib.itoa n).toArray⟩
theorem itS_size (n : Int) (h : I64 n) : (itS n).size ≤ 21 := by
  have := Lib.itoa_length_le n h.1 h.2
  show (Lib.itoa n).toArray.size ≤ 21
  simpa using this
theorem itoa_any (n : Int) (h : I64 n) (w : World) (hT : Tabs w w.heap.size) : Calls Tryd.prog 52 #[.int .i64 n] w (Gives (.string (itS n)) w) := by
  refine (Tryd.strconv_Itoa n h.1 h.2 w (hT w (Below.refl _ _))).mono ?_
  rintro e w' ⟨rfl, k, os, rfl⟩
  exact ⟨rfl, Lib.below_grow _ w (Nat.le_refl _) k os⟩
def spotS (kind : ByteArray) (a b : Int) : ByteArray := kind ++ ⟨#[47]⟩ ++ itS a ++ ⟨#[47]⟩ ++ itS b
theorem spotS_size (kind : ByteArray) (a b : Int) (ha : I64 a) (hb : I64 b) (hk : kind.size ≤ 1024) : (spotS kind a b).size ≤ 100000 := by
  have h1 := itS_size a ha
  have h2 := itS_size b hb
  have h3 : (⟨#[47]⟩ : ByteArray).size = 1 := rfl
  unfold spotS
  rw [ByteArray.size_append, ByteArray.size_append, ByteArray.size_append, ByteArray.size_append]
  omega
set_option maxHeartbeats 2000000 in
theorem spot_any (kind : ByteArray) (a b : Int) (w : World) (ha : I64 a) (hb : I64 b) (hk : kind.size ≤ 1024) (hT : TabW w) (hP : Tabs w w.heap.size) : Calls Tryd.prog 37 #[.string kind, .int .i64 a, .int .i64 b] w (Gives (.int .i64 ((crcS (spotS kind a b)).toNat : Int)) w) := by
  have h1 := itS_size a ha
  have h2 := itS_size b hb
  have HS := Lib.hid (spotS_size kind a b ha hb hk)
  have HA := Lib.hid (itoa_any a ha)
  have HB := Lib.hid (itoa_any b hb)
  have HT := Lib.hid hT
  have HP := Lib.hid hP
  have hE : Hid (spotS kind a b = kind ++ ⟨#[47]⟩ ++ itS a ++ ⟨#[47]⟩ ++ itS b) := Lib.hid rfl
  clear hT hP ha hb
  generalize itS a = A at *
  generalize itS b = B at *
  go_enter Tryd.func37, Tryd.ntmps37
  go_wp2_with fail
  refine (HA.out w HP.out).mono ?_
  rintro e w1 ⟨rfl, hb1⟩
  have hs1 : (kind ++ ⟨#[47]⟩ : ByteArray).size = kind.size + 1 := by rw [ByteArray.size_append]; rfl
  generalize hn1 : (kind ++ ⟨#[47]⟩ : ByteArray) = S1 at *
  have hs2 : (S1 ++ A).size = S1.size + A.size := ByteArray.size_append
  have hm2 : S1.size + A.size ≤ 2000 := by omega
  have hs3 : (S1 ++ A ++ ⟨#[47]⟩ : ByteArray).size = S1.size + A.size + 1 := by rw [ByteArray.size_append, hs2]; rfl
  go_wp2_with fail
  refine (HB.out w1 (HP.out.next hb1)).mono ?_
  rintro e w2 ⟨rfl, hb2⟩
  have hb12 := below_then hb1 hb2
  generalize hn2 : (S1 ++ A ++ ⟨#[47]⟩ : ByteArray) = S2 at *
  have hm3 : S2.size + B.size ≤ 3000 := by omega
  have hsum := sum_any (spotS kind a b) w2 (by have := HS.out; omega) (HT.out.below hb12 HT.out.size)
  have HSUM := Lib.hid hsum
  have HE : Hid (spotS kind a b = S2 ++ B) := Lib.hid hE.out
  clear hE hsum
  go_wp2_with fail
  rw [← HE.out]
  refine HSUM.out.mono ?_
  rintro e w3 ⟨rfl, rfl⟩
  go_wp2_with fail
  go_ret
  exact ⟨rfl, hb12⟩
set_option maxHeartbeats 2000000 in
theorem rspot_any (kind : ByteArray) (a b : Int) (w : World) (ha : I64 a) (hb : I64 b) (hk : kind.size ≤ 1024) (hT : TabW w) (hP : Tabs w w.heap.size) : Calls Tryd.prog 58 #[.string kind, .int .i64 a, .int .i64 b] w (Gives (.int .i64 ((crcS (spotS kind a b)).toNat : Int)) w) := by
  have h1 := itS_size a ha
  have h2 := itS_size b hb
  have HS := Lib.hid (spotS_size kind a b ha hb hk)
  have HA := Lib.hid (itoa_any a ha)
  have HB := Lib.hid (itoa_any b hb)
  have HT := Lib.hid hT
  have HP := Lib.hid hP
  have hE : Hid (spotS kind a b = kind ++ ⟨#[47]⟩ ++ itS a ++ ⟨#[47]⟩ ++ itS b) := Lib.hid rfl
  clear hT hP ha hb
  generalize itS a = A at *
  generalize itS b = B at *
  go_enter Tryd.func58, Tryd.ntmps58
  go_wp2_with fail
  refine (HA.out w HP.out).mono ?_
  rintro e w1 ⟨rfl, hb1⟩
  have hs1 : (kind ++ ⟨#[47]⟩ : ByteArray).size = kind.size + 1 := by rw [ByteArray.size_append]; rfl
  generalize hn1 : (kind ++ ⟨#[47]⟩ : ByteArray) = S1 at *
  have hs2 : (S1 ++ A).size = S1.size + A.size := ByteArray.size_append
  have hm2 : S1.size + A.size ≤ 2000 := by omega
  have hs3 : (S1 ++ A ++ ⟨#[47]⟩ : ByteArray).size = S1.size + A.size + 1 := by rw [ByteArray.size_append, hs2]; rfl
  go_wp2_with fail
  refine (HB.out w1 (HP.out.next hb1)).mono ?_
  rintro e w2 ⟨rfl, hb2⟩
  have hb12 := below_then hb1 hb2
  generalize hn2 : (S1 ++ A ++ ⟨#[47]⟩ : ByteArray) = S2 at *
  have hm3 : S2.size + B.size ≤ 3000 := by omega
  have hsum := rsum_any (spotS kind a b) w2 HS.out
  have HSUM := Lib.hid hsum
  have HE : Hid (spotS kind a b = S2 ++ B) := Lib.hid hE.out
  clear hE hsum
  go_wp2_with fail
  rw [← HE.out]
  refine HSUM.out.mono ?_
  rintro e w3 ⟨rfl, rfl⟩
  go_wp2_with fail
  go_ret
  exact ⟨rfl, hb12⟩
end Go.Proofs.YtmepahlmbopacaaDoor
