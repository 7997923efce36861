/- A number's text by hand, and that CrcApart returns true. Conditions: the table of four bits and Go's table of powers of ten lie as start-up lays them. -/
import Derived.Test.YthogclpbbpfcoaaDoorSpot
set_option linter.unusedVariables false
set_option linter.unusedSimpArgs false
namespace Go.Proofs.YthogclpbbpfcoaaDoor
open Go Go.RowKit

def D0 (m : Nat) : List UInt8 := if m = 0 then [] else Lib.decDigits m
theorem dec_small {u : Nat} (h : u < 10) : Lib.decDigits u = [UInt8.ofNat (48 + u)] := by rw [Lib.decDigits, dif_pos h]
theorem dec_big {u : Nat} (h : ¬ u < 10) : Lib.decDigits u = Lib.decDigits (u / 10) ++ [UInt8.ofNat (48 + u % 10)] := by rw [Lib.decDigits, dif_neg h]
theorem D0_step {m : Nat} (h : ¬ m = 0) : D0 m = D0 (m / 10) ++ [UInt8.ofNat (48 + m % 10)] := by
  unfold D0
  rw [if_neg h]
  by_cases h1 : m < 10
  · rw [if_pos (by omega), dec_small h1, Nat.mod_eq_of_lt h1]
    rfl
  · rw [if_neg (by omega), dec_big h1]
theorem conv_one {W : World} {g : Nat} {b : UInt8} (h : RowB W g [b]) : (convert 25 9 (.slice (some ⟨g, 0, none⟩) 1 1)).run Tryd.prog W = .ok (.string ⟨#[b]⟩) W := h.conv 1 25 9 Tryd.underlying25 Tryd.underlying9
theorem row_one (w : World) (b : UInt8) : RowB (w.alloc (.cells #[.int .u8 (b.toNat : Int)] 5)) w.heap.size [b] :=
  RowB.new w _ 0 0 _ (.inr rfl) (fun j hj => by
    obtain rfl : j = 0 := by simpa using hj
    rfl)
theorem dig_nat (m : Nat) : (UInt8.ofNat (48 + m % 10)).toNat = 48 + m % 10 := by
  rw [UInt8.toNat_ofNat']
  omega
theorem cat_one (b : UInt8) (l : List UInt8) : (⟨#[b]⟩ : ByteArray) ++ ⟨l.toArray⟩ = ⟨(b :: l).toArray⟩ := by
  refine ByteArray.ext (Array.toList_inj.1 ?_)
  rw [ByteArray.data_append]
  simp
set_option maxHeartbeats 4000000 in
set_option maxRecDepth 100000 in
theorem digits_pos (u : Nat) (hu : 0 < u) (h64 : u ≤ 9223372036854775807) (w : World) : Calls Tryd.prog 13 #[.int .i64 ((u : Int))] w (Gives (.string ⟨(Lib.decDigits u).toArray⟩) w) := by
  have hlen : (Lib.decDigits u).length ≤ 20 := by rw [Lib.decDigits_length]; exact Lib.nDigits_le20 u (by omega)
  have hne : (((u : Int)) == 0) = false := by simp; omega
  have hnn : ¬ ((u : Int)) < 0 := by omega
  have HL := Lib.hid hlen
  clear hlen
  go_enter Tryd.func13, Tryd.ntmps13
  go_wp2_with fail
  go_loopw [3, 4] (fun s k wr => ∃ (m : Nat) (l : List UInt8), k = .int .i64 ((m : Int)) ∧ s = .string ⟨l.toArray⟩ ∧ Hid (D0 m ++ l = Lib.decDigits u) ∧ m ≤ u ∧ Below w.heap.size w wr) (fun _ k _ => (intOf k).natAbs)
  case atStart => exact ⟨u, [], rfl, rfl, Lib.hid (by unfold D0; rw [if_neg (by omega), List.append_nil]), Nat.le_refl _, Below.refl _ _⟩
  case round =>
    obtain ⟨m, l, rfl, rfl, HD, hmu, hb⟩ := hrel
    by_cases hm : m = 0
    · subst hm
      have hd := HD.out
      unfold D0 at hd
      rw [if_pos rfl, List.nil_append] at hd
      rw [hd]
      go_wp2_with fail
      go_ret
      exact ⟨rfl, hb⟩
    · have hq : ((m : Int)).tdiv 10 = ((m / 10 : Nat) : Int) := by rw [Int.tdiv_eq_ediv_of_nonneg (by omega)]; omega
      have hr : ((m : Int)).tmod 10 = ((m % 10 : Nat) : Int) := by rw [Int.tmod_eq_emod_of_nonneg (by omega)]; omega
      have hr9 : m % 10 < 10 := Nat.mod_lt _ (by omega)
      have hm0 : ¬ ((m : Int)) = 0 := by omega
      have hd2 := HD.out
      rw [D0_step hm, List.append_assoc] at hd2
      have hb1 := dig_nat m
      generalize UInt8.ofNat (48 + m % 10) = b at *
      have hcv := conv_one (row_one wr b)
      rw [hb1, show ((48 + m % 10 : Nat) : Int) = 48 + (m : Int) % 10 by omega] at hcv
      have hcat := Lib.hid (cat_one b l)
      clear hb1
      have hll : l.length ≤ 20 := by
        have h1 := HL.out
        have h2 := congrArg List.length HD.out
        rw [List.length_append] at h2
        omega
      have HD2 := Lib.hid hd2
      obtain ⟨S, hS⟩ : ∃ S : ByteArray, S = ⟨l.toArray⟩ := ⟨_, rfl⟩
      have hSs : S.size ≤ 20 := by rw [hS]; show l.toArray.size ≤ 20; simpa using hll
      rw [← hS] at hcat ⊢
      clear hS hd2 hll
      have hr0 : ¬ ((m % 10 : Nat) : Int) < 0 := by omega
      go_wp2_with fail
      exact ⟨⟨m / 10, b :: l, by go_num, by rw [hcat.out], Lib.hid (by simpa using HD2.out), by omega, hb.alloc hb.size _⟩, by simp [intOf]; omega⟩
set_option maxHeartbeats 4000000 in
set_option maxRecDepth 100000 in
theorem digits_neg (u : Nat) (hu : 0 < u) (h64 : u ≤ 9223372036854775808) (w : World) : Calls Tryd.prog 13 #[.int .i64 (-(u : Int))] w (Gives (.string ⟨(45 :: Lib.decDigits u).toArray⟩) w) := by
  have hlen : (Lib.decDigits u).length ≤ 20 := by rw [Lib.decDigits_length]; exact Lib.nDigits_le20 u (by omega)
  have hne : ((-(u : Int)) == 0) = false := by simp; omega
  have hnn : (-(u : Int)) < 0 := by omega
  have HL := Lib.hid hlen
  clear hlen
  go_enter Tryd.func13, Tryd.ntmps13
  go_wp2_with fail
  go_loopw [3, 4] (fun s k wr => ∃ (m : Nat) (l : List UInt8), k = .int .i64 (-(m : Int)) ∧ s = .string ⟨l.toArray⟩ ∧ Hid (D0 m ++ l = Lib.decDigits u) ∧ m ≤ u ∧ Below w.heap.size w wr) (fun _ k _ => (intOf k).natAbs)
  case atStart => exact ⟨u, [], rfl, rfl, Lib.hid (by unfold D0; rw [if_neg (by omega), List.append_nil]), Nat.le_refl _, Below.refl _ _⟩
  case round =>
    obtain ⟨m, l, rfl, rfl, HD, hmu, hb⟩ := hrel
    by_cases hm : m = 0
    · subst hm
      have hd := HD.out
      unfold D0 at hd
      rw [if_pos rfl, List.nil_append] at hd
      rw [hd]
      have hcat := Lib.hid (cat_one 45 (Lib.decDigits u))
      obtain ⟨S, hS⟩ : ∃ S : ByteArray, S = ⟨(Lib.decDigits u).toArray⟩ := ⟨_, rfl⟩
      have hSs : S.size ≤ 20 := by rw [hS]; show (Lib.decDigits u).toArray.size ≤ 20; simpa using HL.out
      rw [← hS] at hcat ⊢
      clear hS hd
      go_wp2_with fail
      go_ret
      exact ⟨congrArg _ (congrArg _ hcat.out), hb⟩
    · have hq : (-(m : Int)).tdiv 10 = -((m / 10 : Nat) : Int) := by rw [Int.neg_tdiv, Int.tdiv_eq_ediv_of_nonneg (by omega)]; omega
      have hr : (-(m : Int)).tmod 10 = -((m % 10 : Nat) : Int) := by rw [Int.neg_tmod, Int.tmod_eq_emod_of_nonneg (by omega)]; omega
      have hr9 : m % 10 < 10 := Nat.mod_lt _ (by omega)
      have hm0 : ¬ (-(m : Int)) = 0 := by omega
      have hd2 := HD.out
      rw [D0_step hm, List.append_assoc] at hd2
      have hb1 := dig_nat m
      generalize UInt8.ofNat (48 + m % 10) = b at *
      have hcv := conv_one (row_one wr b)
      rw [hb1, show ((48 + m % 10 : Nat) : Int) = 48 + (m : Int) % 10 by omega] at hcv
      have hcat := Lib.hid (cat_one b l)
      clear hb1
      have hll : l.length ≤ 20 := by
        have h1 := HL.out
        have h2 := congrArg List.length HD.out
        rw [List.length_append] at h2
        omega
      have HD2 := Lib.hid hd2
      obtain ⟨S, hS⟩ : ∃ S : ByteArray, S = ⟨l.toArray⟩ := ⟨_, rfl⟩
      have hSs : S.size ≤ 20 := by rw [hS]; show l.toArray.size ≤ 20; simpa using hll
      rw [← hS] at hcat ⊢
      clear hS hd2 hll
      by_cases hz : m % 10 = 0
      · have hr0 : ¬ -(((m % 10 : Nat) : Int)) < 0 := by omega
        rw [show (m : Int) % 10 = 0 by omega, Int.add_zero] at hcv
        go_wp2_with fail
        exact ⟨⟨m / 10, b :: l, by simp, by rw [hcat.out], Lib.hid (by simpa using HD2.out), by omega, hb.alloc hb.size _⟩, by simp [intOf]; omega⟩
      · have hr0 : -(((m % 10 : Nat) : Int)) < 0 := by omega
        go_wp2_with fail
        exact ⟨⟨m / 10, b :: l, by simp, by rw [hcat.out], Lib.hid (by simpa using HD2.out), by omega, hb.alloc hb.size _⟩, by simp [intOf]; omega⟩
theorem digits_any (n : Int) (h : I64 n) (w : World) : Calls Tryd.prog 13 #[.int .i64 n] w (Gives (.string (itS n)) w) := by
  have h1 := h.1
  have h2 := h.2
  unfold itS Lib.itoa
  by_cases h0 : n = 0
  · subst h0
    rw [if_neg (by omega), show (0 : Int).toNat = 0 from rfl, dec_small (by omega)]
    go_enter Tryd.func13, Tryd.ntmps13
    go_wp2_with fail
    go_ret
    exact ⟨rfl, Below.refl _ _⟩
  · by_cases hn : n < 0
    · rw [if_pos hn]
      have := digits_neg n.natAbs (by omega) (by omega) w
      rwa [show -(n.natAbs : Int) = n by omega] at this
    · rw [if_neg hn]
      have := digits_pos n.toNat (by omega) (by omega) w
      rwa [show (n.toNat : Int) = n by omega] at this
set_option maxHeartbeats 2000000 in
theorem crcApart_walk (a b : Int) (w : World) (ha : I64 a) (hb : I64 b) (hT : TabW w ∧ Tabs w w.heap.size) : Calls Tryd.prog 7 #[.int .i64 a, .int .i64 b] w (Gives (.bool true) w) := by
  have H1 := Lib.hid (spot_any ⟨#[110]⟩ a b w ha hb (by decide) hT.1 hT.2)
  have h1 := itS_size a ha
  have h2 := itS_size b hb
  have HS := Lib.hid (spotS_size ⟨#[110]⟩ a b ha hb (by decide))
  have HA := Lib.hid (digits_any a ha)
  have HB := Lib.hid (digits_any b hb)
  have HT := Lib.hid hT.1
  have hE : Hid (spotS ⟨#[110]⟩ a b = ⟨#[110, 47]⟩ ++ itS a ++ ⟨#[47]⟩ ++ itS b) := Lib.hid rfl
  clear hT ha hb
  generalize itS a = A at *
  generalize itS b = B at *
  generalize spotS ⟨#[110]⟩ a b = SP at *
  go_enter Tryd.func7, Tryd.ntmps7
  go_wp2_with fail
  refine H1.out.mono ?_
  rintro e w1 ⟨rfl, hb1⟩
  go_wp2_with fail
  refine (HA.out w1).mono ?_
  rintro e w2 ⟨rfl, hb2⟩
  have hb12 := below_then hb1 hb2
  have hs1 : (⟨#[110, 47]⟩ : ByteArray).size = 2 := rfl
  have hs2 : ((⟨#[110, 47]⟩ : ByteArray) ++ A).size = 2 + A.size := by rw [ByteArray.size_append, hs1]
  have hs3 : ((⟨#[110, 47]⟩ : ByteArray) ++ A ++ ⟨#[47]⟩).size = 2 + A.size + 1 := by rw [ByteArray.size_append, hs2]; rfl
  go_wp2_with fail
  refine (HB.out w2).mono ?_
  rintro e w3 ⟨rfl, hb3⟩
  have hb13 := below_then hb12 hb3
  have hE2 := hE.out
  generalize ((⟨#[110, 47]⟩ : ByteArray) ++ A ++ ⟨#[47]⟩) = S2 at *
  have hm : S2.size + B.size ≤ 2000 := by omega
  have HE2 := Lib.hid hE2
  have hT3 := HT.out.below hb13 HT.out.size
  have HSUM := Lib.hid (sum_any SP w3 HS.out hT3)
  have HAW := Lib.hid (awake_any w3 hT3)
  clear hE hE2 hT3
  go_wp2_with fail
  rw [← HE2.out]
  refine HSUM.out.mono ?_
  rintro e w4 ⟨rfl, rfl⟩
  go_wp2_with fail
  refine HAW.out.mono ?_
  rintro e w5 ⟨rfl, rfl⟩
  go_wp2_with fail
  go_ret
  exact ⟨rfl, hb13⟩
end Go.Proofs.YthogclpbbpfcoaaDoor
