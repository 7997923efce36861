/- What Spot of package crc and of the document's answers return, and that CrcSpots returns true. Conditions: the table of four bits and Go's table of powers of ten lie as start-up lays them. -/
import Derived.Test.YthogclpbbpfcoaaDoorRow
import Derived.Test.YthogclpbbpfcoaaDoorShelf
import Derived.Lib.AppendIntMem
import Derived.Lib.ItoaLen
import Derived.DataShut
set_option linter.unusedVariables false
set_option linter.unusedSimpArgs false
namespace Go.Proofs.YthogclpbbpfcoaaDoor
open Go Go.RowKit

theorem below_then {w w1 w2 : World} (h : Below w.heap.size w w1) (k : Below w1.heap.size w1 w2) : Below w.heap.size w w2 := h.trans (k.mono h.size)
def Tabs (w : World) (B : Nat) : Prop := Lib.TabBelow Tryd.prog B w "internal/strconv.uint64pow10" .u64 Lib.pow10Tab
theorem Tabs.on {w w1 : World} {B : Nat} (h : Tabs w B) (hb : Below B w w1) : Tabs w1 B := Lib.TabBelow.on h hb
theorem Tabs.up {w : World} {B C : Nat} (h : Tabs w B) (hB : B ≤ C) : Tabs w C := fun w' hb => h w' (hb.mono hB)
theorem Tabs.next {w w1 : World} (h : Tabs w w.heap.size) (hb : Below w.heap.size w w1) : Tabs w1 w1.heap.size := (h.on hb).up hb.size
def I64 (n : Int) : Prop := -9223372036854775808 ≤ n ∧ n ≤ 9223372036854775807
theorem i64_of_wf {n : Int} (h : (Lit.int .i64 n).wf = true) : I64 n := by
  have := (Lit.wf_int_iff .i64 n).1 h
  have h1 : IntKind.i64.min = -9223372036854775808 := by decide
  have h2 : IntKind.i64.max = 9223372036854775807 := by decide
  rw [h1, h2] at this
  exact this
def itS (n : Int) : ByteArray := ⟨(Lib.itoa n).toArray⟩
theorem itS_size (n : Int) (h : I64 n) : (itS n).size ≤ 21 := by
  have := Lib.itoa_length_le n h.1 h.2
  show (Lib.itoa n).toArray.size ≤ 21
  simpa using this
theorem itoa_any (n : Int) (h : I64 n) (w : World) (hT : Tabs w w.heap.size) : Calls Tryd.prog 15 #[.int .i64 n] w (Gives (.string (itS n)) w) := by
  refine (Tryd.strconv_Itoa n h.1 h.2 w (hT w (Below.refl _ _))).mono ?_
  rintro e w' ⟨rfl, k, os, rfl⟩
  exact ⟨rfl, Lib.below_grow _ w (Nat.le_refl _) k os⟩
def spotS (kind : ByteArray) (a b : Int) : ByteArray := kind ++ ⟨#[47]⟩ ++ itS a ++ ⟨#[47]⟩ ++ itS b
theorem spotS_size (kind : ByteArray) (a b : Int) (ha : I64 a) (hb : I64 b) (hk : kind.size ≤ 1024) : (spotS kind a b).size ≤ 100000 := by
  have h1 := itS_size a ha
  have h2 := itS_size b hb
  have h3 : (⟨#[47]⟩ : ByteArray).size = 1 := rfl
  unfold spotS
  rw [ByteArray.size_append, ByteArray.size_append, ByteArray.size_append, ByteArray.size_append]
  omega
set_option maxHeartbeats 2000000 in
theorem spot_any (kind : ByteArray) (a b : Int) (w : World) (ha : I64 a) (hb : I64 b) (hk : kind.size ≤ 1024) (hT : TabW w) (hP : Tabs w w.heap.size) : Calls Tryd.prog 11 #[.string kind, .int .i64 a, .int .i64 b] w (Gives (.int .i64 ((crcS (spotS kind a b)).toNat : Int)) w) := by
  have h1 := itS_size a ha
  have h2 := itS_size b hb
  have HS := Lib.hid (spotS_size kind a b ha hb hk)
  have HA := Lib.hid (itoa_any a ha)
  have HB := Lib.hid (itoa_any b hb)
  have HT := Lib.hid hT
  have HP := Lib.hid hP
  have hE : Hid (spotS kind a b = kind ++ ⟨#[47]⟩ ++ itS a ++ ⟨#[47]⟩ ++ itS b) := Lib.hid rfl
  clear hT hP ha hb
  generalize itS a = A at *
  generalize itS b = B at *
  go_enter Tryd.func11, Tryd.ntmps11
  go_wp2_with fail
  refine (HA.out w HP.out).mono ?_
  rintro e w1 ⟨rfl, hb1⟩
  have hs1 : (kind ++ ⟨#[47]⟩ : ByteArray).size = kind.size + 1 := by rw [ByteArray.size_append]; rfl
  generalize hn1 : (kind ++ ⟨#[47]⟩ : ByteArray) = S1 at *
  have hs2 : (S1 ++ A).size = S1.size + A.size := ByteArray.size_append
  have hm2 : S1.size + A.size ≤ 2000 := by omega
  have hs3 : (S1 ++ A ++ ⟨#[47]⟩ : ByteArray).size = S1.size + A.size + 1 := by rw [ByteArray.size_append, hs2]; rfl
  go_wp2_with fail
  refine (HB.out w1 (HP.out.next hb1)).mono ?_
  rintro e w2 ⟨rfl, hb2⟩
  have hb12 := below_then hb1 hb2
  generalize hn2 : (S1 ++ A ++ ⟨#[47]⟩ : ByteArray) = S2 at *
  have hm3 : S2.size + B.size ≤ 3000 := by omega
  have hsum := sum_any (spotS kind a b) w2 HS.out (HT.out.below hb12 HT.out.size)
  have HSUM := Lib.hid hsum
  have HE : Hid (spotS kind a b = S2 ++ B) := Lib.hid hE.out
  clear hE hsum
  go_wp2_with fail
  rw [← HE.out]
  refine HSUM.out.mono ?_
  rintro e w3 ⟨rfl, rfl⟩
  go_wp2_with fail
  go_ret
  exact ⟨rfl, hb12⟩
set_option maxHeartbeats 2000000 in
theorem rspot_any (kind : ByteArray) (a b : Int) (w : World) (ha : I64 a) (hb : I64 b) (hk : kind.size ≤ 1024) (hT : TabW w) (hP : Tabs w w.heap.size) : Calls Tryd.prog 12 #[.string kind, .int .i64 a, .int .i64 b] w (Gives (.int .i64 ((crcS (spotS kind a b)).toNat : Int)) w) := by
  have h1 := itS_size a ha
  have h2 := itS_size b hb
  have HS := Lib.hid (spotS_size kind a b ha hb hk)
  have HA := Lib.hid (itoa_any a ha)
  have HB := Lib.hid (itoa_any b hb)
  have HT := Lib.hid hT
  have HP := Lib.hid hP
  have hE : Hid (spotS kind a b = kind ++ ⟨#[47]⟩ ++ itS a ++ ⟨#[47]⟩ ++ itS b) := Lib.hid rfl
  clear hT hP ha hb
  generalize itS a = A at *
  generalize itS b = B at *
  go_enter Tryd.func12, Tryd.ntmps12
  go_wp2_with fail
  refine (HA.out w HP.out).mono ?_
  rintro e w1 ⟨rfl, hb1⟩
  have hs1 : (kind ++ ⟨#[47]⟩ : ByteArray).size = kind.size + 1 := by rw [ByteArray.size_append]; rfl
  generalize hn1 : (kind ++ ⟨#[47]⟩ : ByteArray) = S1 at *
  have hs2 : (S1 ++ A).size = S1.size + A.size := ByteArray.size_append
  have hm2 : S1.size + A.size ≤ 2000 := by omega
  have hs3 : (S1 ++ A ++ ⟨#[47]⟩ : ByteArray).size = S1.size + A.size + 1 := by rw [ByteArray.size_append, hs2]; rfl
  go_wp2_with fail
  refine (HB.out w1 (HP.out.next hb1)).mono ?_
  rintro e w2 ⟨rfl, hb2⟩
  have hb12 := below_then hb1 hb2
  generalize hn2 : (S1 ++ A ++ ⟨#[47]⟩ : ByteArray) = S2 at *
  have hm3 : S2.size + B.size ≤ 3000 := by omega
  have hsum := rsum_any (spotS kind a b) w2 HS.out
  have HSUM := Lib.hid hsum
  have HE : Hid (spotS kind a b = S2 ++ B) := Lib.hid hE.out
  clear hE hsum
  go_wp2_with fail
  rw [← HE.out]
  refine HSUM.out.mono ?_
  rintro e w3 ⟨rfl, rfl⟩
  go_wp2_with fail
  go_ret
  exact ⟨rfl, hb12⟩
set_option maxHeartbeats 2000000 in
theorem crcSpots_walk (kind : ByteArray) (a b : Int) (w : World) (ha : I64 a) (hb : I64 b) (hT : TabW w ∧ Tabs w w.heap.size) : Calls Tryd.prog 6 #[.string kind, .int .i64 a, .int .i64 b] w (Gives (.bool true) w) := by
  by_cases hk : 1024 < kind.size
  · have hz : (1024 : Int) < (kind.size : Int) := by omega
    have HA := Lib.hid (awake_any w hT.1)
    clear hT ha hb
    go_enter Tryd.func6, Tryd.ntmps6
    go_wp2_with fail
    refine HA.out.mono ?_
    rintro e w1 ⟨rfl, rfl⟩
    go_wp2_with fail
    go_ret
    exact ⟨rfl, Below.refl _ _⟩
  · have hz : ¬ (1024 : Int) < (kind.size : Int) := by omega
    have H1 := Lib.hid (spot_any kind a b w ha hb (by omega) hT.1 hT.2)
    have H2 := Lib.hid (fun w => rspot_any kind a b w ha hb (by omega))
    have hlt := (crcS (spotS kind a b)).isLt
    have hl2 : (((crcS (spotS kind a b)).toNat : Nat) : Int) < 16777216 := by omega
    generalize (crcS (spotS kind a b)).toNat = N at *
    have HT := Lib.hid hT
    clear hT ha hb
    go_enter Tryd.func6, Tryd.ntmps6
    go_wp2_with fail
    refine H1.out.mono ?_
    rintro e w1 ⟨rfl, hb1⟩
    have hT1 := HT.out.1.below hb1 HT.out.1.size
    have HT1 := Lib.hid hT1
    clear hT1
    go_wp2_with fail
    refine (H2.out w1 HT1.out (HT.out.2.next hb1)).mono ?_
    rintro e w2 ⟨rfl, hb2⟩
    have hb12 := below_then hb1 hb2
    go_wp2_with fail
    refine (awake_any w2 (HT.out.1.below hb12 HT.out.1.size)).mono ?_
    rintro e w3 ⟨rfl, rfl⟩
    go_wp2_with fail
    go_ret
    exact ⟨rfl, hb12⟩
end Go.Proofs.YthogclpbbpfcoaaDoor
