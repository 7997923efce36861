/- CrcAdds returns true. Conditions: the table of four bits lies as start-up lays it. -/
import Derived.Test.YthogclpbbpfcoaaDoorRow
import Derived.Deep.OwnRows
import Derived.Lib.Strings
set_option linter.unusedVariables false
set_option linter.unusedSimpArgs false
namespace Go.Proofs.YthogclpbbpfcoaaDoor
open Go Go.RowKit

theorem byte_row : (Tryd.prog.info? 5).map (fun i => (i.zero, i.size, i.bytes)) = some (some (.int .u8 0), 1, 1) := by kernel_rfl
theorem row_made (w : World) (n : Nat) : RowB (w.alloc (.cells (madeCells #[.int .u8 0] n) 5)) w.heap.size (List.replicate n 0) :=
  RowB.new w _ 0 0 _ (.inr rfl) (fun j hj => by
    have hj2 : j < n := by simpa using hj
    simp [madeCells, hj2, Nat.mod_one])
/-- Four ways by which the least is found. -/
theorem least_ways (s t u : Nat) : ∃ n : Nat, n ≤ s ∧ n ≤ t ∧ n ≤ u ∧ ((¬ (u : Int) < (t : Int) ∧ ¬ (t : Int) < (s : Int) ∧ (s : Int) = (n : Int)) ∨ (¬ (u : Int) < (t : Int) ∧ (t : Int) < (s : Int) ∧ (t : Int) = (n : Int)) ∨ ((u : Int) < (t : Int) ∧ ¬ (u : Int) < (s : Int) ∧ (s : Int) = (n : Int)) ∨ ((u : Int) < (t : Int) ∧ (u : Int) < (s : Int) ∧ (u : Int) = (n : Int))) := by
  refine ⟨min s (min t u), by omega, by omega, by omega, ?_⟩
  by_cases h1 : (u : Int) < (t : Int) <;> by_cases h2 : (t : Int) < (s : Int) <;> by_cases h3 : (u : Int) < (s : Int) <;> simp [h1, h2, h3] <;> omega
set_option maxHeartbeats 4000000 in
set_option maxRecDepth 100000 in
theorem adds_idle (s t u : ByteArray) (w : World) (hT : TabW w) (h1 : 4096 < s.size) (h2 : 4096 < t.size) (h3 : 4096 < u.size) : Calls Tryd.prog 5 #[.string s, .string t, .string u] w fun e w' => e = .returned (.bool true) ∧ w = w' := by
  have HA := Lib.hid (awake_any w hT)
  obtain ⟨n, hs, ht, hu, hway⟩ := least_ways s.size t.size u.size
  have hz : 4096 < (n : Int) := by omega
  clear hT h1 h2 h3 hs ht hu
  rcases hway with ⟨h1, h2, h3⟩ | ⟨h1, h2, h3⟩ | ⟨h1, h2, h3⟩ | ⟨h1, h2, h3⟩
  all_goals
    go_enter Tryd.func5, Tryd.ntmps5
    go_wp2_with fail
    refine HA.out.mono ?_
    rintro e w1 ⟨rfl, rfl⟩
    go_wp2_with fail
    go_ret
    exact ⟨rfl, rfl⟩
/-- The bytes behind so many rounds. -/
def xrow (s t u : ByteArray) (n j : Nat) : List UInt8 := (List.zipWith (· ^^^ ·) (List.zipWith (· ^^^ ·) s.data.toList t.data.toList) u.data.toList).take j ++ List.replicate (n - j) 0
theorem xrow_zero (s t u : ByteArray) (n : Nat) : xrow s t u n 0 = List.replicate n 0 := by simp [xrow]
theorem xrow_length (s t u : ByteArray) (n j : Nat) (hj : j ≤ n) (hs : n ≤ s.size) (ht : n ≤ t.size) (hu : n ≤ u.size) : (xrow s t u n j).length = n := by
  have h1 : s.data.size = s.size := rfl
  have h2 : t.data.size = t.size := rfl
  have h3 : u.data.size = u.size := rfl
  simp [xrow, h1, h2, h3]
  omega
theorem xrow_set {w : World} {g n j : Nat} {s t u : ByteArray} (hr : RowB w g (xrow s t u n j)) (hj : j < n) (hs : n ≤ s.size) (ht : n ≤ t.size) (hu : n ≤ u.size) :
    RowB (w.setCell ⟨g, j, none⟩ (.int .u8 ((s[j]'(by omega) ^^^ t[j]'(by omega) ^^^ u[j]'(by omega)).toNat : Int))) g (xrow s t u n (j + 1)) := by
  have h1 : s.data.size = s.size := rfl
  have h2 : t.data.size = t.size := rfl
  have h3 : u.data.size = u.size := rfl
  have hl := xrow_length s t u n j (by omega) hs ht hu
  have hst := hr.set (j := j) (by omega) (s[j]'(by omega) ^^^ t[j]'(by omega) ^^^ u[j]'(by omega))
  have e : (xrow s t u n j).set j (s[j]'(by omega) ^^^ t[j]'(by omega) ^^^ u[j]'(by omega)) = xrow s t u n (j + 1) := by
    refine List.ext_getElem (by rw [List.length_set, hl, xrow_length s t u n (j + 1) (by omega) hs ht hu]) ?_
    intro i hi1 hi2
    have hi : i < n := by rw [List.length_set, hl] at hi1; exact hi1
    rw [List.getElem_set]
    by_cases hji : j = i
    · subst hji
      rw [if_pos rfl]
      simp [xrow, List.getElem_append, h1, h2, h3, show j < s.size by omega, show j < t.size by omega, show j < u.size by omega]
      rw [dif_pos (by omega)]
      rfl
    · rw [if_neg hji]
      simp only [xrow, List.getElem_append, List.length_take, List.length_zipWith, Array.length_toList, h1, h2, h3]
      by_cases hij : i < j
      · rw [dif_pos (by omega), dif_pos (by omega)]
        simp
      · rw [dif_neg (by omega), dif_neg (by omega)]
        simp
  rw [e] at hst
  exact hst
theorem sum_adds (s t u : ByteArray) (n : Nat) (hs : n ≤ s.size) (ht : n ≤ t.size) (hu : n ≤ u.size) : crcS ⟨(xrow s t u n n).toArray⟩ = crcS (s.extract 0 n) ^^^ crcS (t.extract 0 n) ^^^ crcS (u.extract 0 n) := by
  have h1 : s.data.size = s.size := rfl
  have h2 : t.data.size = t.size := rfl
  have h3 : u.data.size = u.size := rfl
  have h := crc_adds (s.data.toList.take n) (t.data.toList.take n) (u.data.toList.take n) 0xb704ce#24 0xb704ce#24 0xb704ce#24 (by simp [h1, h2]; omega) (by simp [h2, h3]; omega)
  rw [show (0xb704ce#24 ^^^ 0xb704ce#24 ^^^ 0xb704ce#24) = 0xb704ce#24 by decide] at h
  unfold crcS
  rw [Lib.extract_data, Lib.extract_data, Lib.extract_data]
  simp only [List.drop_zero, Nat.sub_zero]
  rw [← h]
  simp [xrow, List.take_zipWith]
set_option maxHeartbeats 8000000 in
set_option maxRecDepth 100000 in
theorem adds_main (s t u : ByteArray) (w : World) (hT : TabW w) (h : s.size ≤ 4096 ∨ t.size ≤ 4096 ∨ u.size ≤ 4096) : Calls Tryd.prog 5 #[.string s, .string t, .string u] w (Gives (.bool true) w) := by
  obtain ⟨n, hs, ht, hu, hway⟩ := least_ways s.size t.size u.size
  have hn : n ≤ 4096 := by omega
  have hz : ¬ 4096 < (n : Int) := by omega
  have hmk := run_make_row' (P := Tryd.prog) 25 5 (.int .u8 0) 1 Tryd.underlying25 byte_row rfl .i64 .i64 n (by omega) (by omega)
  obtain ⟨W0, hW0⟩ : ∃ W0, W0 = w.alloc (.cells (madeCells #[.int .u8 0] n) 5) := ⟨_, rfl⟩
  have hrow : RowB W0 w.heap.size (List.replicate n 0) := by rw [hW0]; exact row_made w n
  have hbe : Below w.heap.size w W0 := by rw [hW0]; exact (Below.refl _ w).alloc (Nat.le_refl _) _
  have HR := Lib.hid hrow
  have HB := Lib.hid hbe
  have HT := Lib.hid hT
  have HW0 := Lib.hid hW0
  clear hrow hbe hT hW0 h
  rcases hway with ⟨h1, h2, h3⟩ | ⟨h1, h2, h3⟩ | ⟨h1, h2, h3⟩ | ⟨h1, h2, h3⟩
  all_goals
    go_enter Tryd.func5, Tryd.ntmps5
    go_wp2_with fail
    rw [← HW0.out]
    generalize hg : w.heap.size = g at *
    have HG := Lib.hid hg
    clear h1 h2 h3 hmk hg
    go_loopw [9] (fun i wr => ∃ j : Nat, j ≤ n ∧ i = .int .i64 (j : Int) ∧ RowB wr g (xrow s t u n j) ∧ Below g w wr) (fun i _ => n - (intOf i).toNat)
    case atStart => exact ⟨0, by omega, rfl, by rw [xrow_zero]; exact HR.out, HB.out⟩
    case round =>
      obtain ⟨j, hj, rfl, hr, hb⟩ := hrel
      by_cases hlt : j < n
      · have hlz : (j : Int) < (n : Int) := by omega
        have hfz : wr.frozen? ⟨g, j, none⟩ = false := hr.frozen (by rw [xrow_length s t u n j hj hs ht hu]; exact hlt)
        obtain ⟨c0, hc⟩ : ∃ c0 : Int, wr.cell? ⟨g, j, none⟩ = some (.int .u8 c0) := ⟨_, hr.cell (by rw [xrow_length s t u n j hj hs ht hu]; exact hlt)⟩
        have hj1 : j < s.size := by omega
        have hj2 : j < t.size := by omega
        have hj3 : j < u.size := by omega
        have hz1 : (j : Int) < (s.size : Int) := by omega
        have hz2 : (j : Int) < (t.size : Int) := by omega
        have hz3 : (j : Int) < (u.size : Int) := by omega
        have hst := Lib.hid (xrow_set hr hlt hs ht hu)
        have hx1 := u8_xor_bytes (s[j]'hj1) (t[j]'hj2)
        have hx2 := u8_xor_bytes (s[j]'hj1 ^^^ t[j]'hj2) (u[j]'hj3)
        have hblt := hr.lt
        go_wp2_with fail
        go_region
        go_wp2_with fail
        go_roundw
        case rel => exact ⟨j + 1, by omega, by go_num, by rw [← UInt8.toNat_xor, u8_xor_bytes]; exact hst.out, below_drewN (below_setCell hb (p := ⟨g, j, none⟩) (Nat.le_refl _) _) 1⟩
        case measure => simp [intOf]; omega
      · obtain rfl : j = n := by omega
        have hb2 := hb
        rw [← HG.out] at hb2
        have HT1 := Lib.hid (HT.out.below hb2 HT.out.size)
        have hxl := xrow_length s t u j j (Nat.le_refl _) hs ht hu
        have hcs := fun n => (hr.drewN n).conv j 25 9 Tryd.underlying25 Tryd.underlying9
        rw [hxl] at hcs
        have hsum := congrArg BitVec.toNat (sum_adds s t u j hs ht hu)
        rw [BitVec.toNat_xor, BitVec.toNat_xor] at hsum
        have hA := (crcS (s.extract 0 j)).isLt
        have hB := (crcS (t.extract 0 j)).isLt
        have hC := (crcS (u.extract 0 j)).isLt
        have hAB := Nat.xor_lt_two_pow hA hB
        have hxa := i64_xor_nat (crcS (s.extract 0 j)).toNat (crcS (t.extract 0 j)).toNat (by omega) (by omega)
        have hxb := i64_xor_nat ((crcS (s.extract 0 j)).toNat ^^^ (crcS (t.extract 0 j)).toNat) (crcS (u.extract 0 j)).toNat (by omega) (by omega)
        rw [← hsum] at hxb
        have HX : Hid ((⟨(xrow s t u j j).toArray⟩ : ByteArray).size ≤ 100000) := Lib.hid (by show (xrow s t u j j).toArray.size ≤ 100000; simp [hxl]; omega)
        have HS : Hid ((s.extract 0 j).size ≤ 100000) := Lib.hid (by rw [ByteArray.size_extract]; omega)
        have HU : Hid ((t.extract 0 j).size ≤ 100000) := Lib.hid (by rw [ByteArray.size_extract]; omega)
        have HV : Hid ((u.extract 0 j).size ≤ 100000) := Lib.hid (by rw [ByteArray.size_extract]; omega)
        have hk1 : (j : Int) ≤ (s.size : Int) := by omega
        have hk2 : (j : Int) ≤ (t.size : Int) := by omega
        have hk3 : (j : Int) ≤ (u.size : Int) := by omega
        clear hsum hA hB hC hAB hxl
        generalize xrow s t u j j = X at *
        go_wp2_with fail
        go_quiet (first | (go_at_call 8; exact awake_q wr HT1.out _) | (go_at_call 9; refine sum_q _ wr ?_ HT1.out _; first | exact HX.out | exact HS.out | exact HU.out | exact HV.out))
        go_wp2_with fail
        go_ret
        exact ⟨rfl, HG.out ▸ below_drewN hb _⟩
theorem crcAdds_walk (s t u : ByteArray) (w : World) (hT : TabW w) : Calls Tryd.prog 5 #[.string s, .string t, .string u] w (Gives (.bool true) w) := by
  by_cases h : s.size ≤ 4096 ∨ t.size ≤ 4096 ∨ u.size ≤ 4096
  · exact adds_main s t u w hT h
  · exact (adds_idle s t u w hT (by omega) (by omega) (by omega)).mono (by rintro e w' ⟨rfl, rfl⟩; exact ⟨rfl, Below.refl _ _⟩)
end Go.Proofs.YthogclpbbpfcoaaDoor
