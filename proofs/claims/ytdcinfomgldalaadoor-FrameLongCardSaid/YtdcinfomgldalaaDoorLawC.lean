/- The walk of FrameLong: it returns true. Conditions: the table of four bits lies as start-up lays it. -/
import Derived.Test.YtdcinfomgldalaaDoorLawB
import Derived.Deep.OwnRows
set_option linter.unusedVariables false
set_option linter.unusedSimpArgs false
namespace Go.Proofs.YtdcinfomgldalaaDoor
open Go Go.RowKit

theorem i64_and3 (n : Int) : bits .and .i64 n 3 = n % 4 := by
  have hm : (BitVec.ofInt 64 3).toNat = 2 ^ 2 - 1 := by decide
  have key : (BitVec.ofInt 64 n &&& BitVec.ofInt 64 3).toNat = (n % ((2 ^ 64 : Nat) : Int)).toNat % 2 ^ 2 := by
    rw [BitVec.toNat_and, BitVec.toNat_ofInt, hm, Nat.and_two_pow_sub_one_eq_mod]
  show IntKind.i64.wrap ((BitVec.ofInt 64 n &&& BitVec.ofInt 64 3).toNat : Nat) = n % 4
  rw [key, IntKind.wrap_i64]
  omega
def zS (n : Nat) : ByteArray := ⟨(List.replicate n (0 : UInt8)).toArray⟩
theorem zS_size (n : Nat) : (zS n).size = n := by
  unfold zS
  rw [mk_size, List.length_replicate]
theorem row_z (w : World) (n : Nat) : (convert 36 9 (.slice (some ⟨w.heap.size, 0, none⟩) n n)).run Tryd.prog (w.alloc (.cells (madeCells #[.int .u8 0] n) 5)) = .ok (.string (zS n)) (w.alloc (.cells (madeCells #[.int .u8 0] n) 5)) := by
  have h := run_convert_bytes_back (P := Tryd.prog) (w.alloc (.cells (madeCells #[.int .u8 0] n) 5)) 36 9 5 ⟨w.heap.size, 0, none⟩ n (List.replicate n 0) Tryd.underlying36 Tryd.underlying5 Tryd.underlying9 (fun j hj => by
    have hj2 : j < n := by simpa using hj
    rw [add_flat, Nat.zero_add, World.cell?_alloc_mark]
    simp [madeCells, hj2, Nat.mod_one])
  rw [List.length_replicate] at h
  exact h
theorem z_put (n : Nat) (h : n ≤ 262144) (w : World) (hT : TabW w) : Calls Tryd.prog 10 #[.string (zS n)] w fun e w' => e = .returned (.tuple #[.string (encS (zS n)), .int .i64 0]) ∧ Below w.heap.size w w' := by
  have := put_any (zS n) (by rw [zS_size]; omega) w hT
  rw [putV_ok (by rw [zS_size]; exact h)] at this
  exact this
theorem z_no (n : Nat) (h : 262144 < n) (h2 : n ≤ 300000) (w : World) (hT : TabW w) : Calls Tryd.prog 10 #[.string (zS n)] w fun e w' => e = .returned (.tuple #[.string ⟨#[]⟩, .int .i64 23]) ∧ Below w.heap.size w w' := by
  have := put_any (zS n) (by rw [zS_size]; exact h2) w hT
  unfold putV at this
  rw [if_neg (by rw [zS_size]; omega)] at this
  exact this
theorem z_take (n : Nat) (h : n ≤ 262144) (w : World) (hT : TabW w) : Calls Tryd.prog 12 #[.string (encS (zS n))] w fun e w' => e = .returned (.tuple #[.string (zS n), .int .i64 ((encS (zS n)).size : Int), .int .i64 0]) ∧ Below w.heap.size w w' := by
  have e := tkV_enc (zS n) ByteArray.empty (by rw [zS_size]; exact h)
  rw [ByteArray.append_empty] at e
  have := take_any (encS (zS n)) (by rw [encS_size, zS_size]; omega) w hT
  rw [e] at this
  exact this
set_option maxRecDepth 100000 in
set_option maxHeartbeats 16000000 in
theorem long_0 (more : Int) (w : World) (hT : TabW w) (h3' : more % 4 = 0) : Calls Tryd.prog 7 #[.int .i64 more] w (Gives (.bool true) w) := by
  have h3 : bits .and .i64 more 3 = 0 := by rw [i64_and3]; exact h3'
  have hmk : ∀ w : World, (Instr.makeSlice 36 (.int .i64 262143) (.int .i64 262143)).run Tryd.prog w = .ok (.slice (some ⟨w.heap.size, 0, none⟩) 262143 262143) (w.alloc (.cells (madeCells #[.int .u8 0] 262143) 5)) := run_make_row' (P := Tryd.prog) 36 5 (.int .u8 0) 1 Tryd.underlying36 byte_row rfl .i64 .i64 262143 (by omega) (by omega)
  have hcv := row_z w 262143
  obtain ⟨W0, hW0⟩ : ∃ W0, W0 = w.alloc (.cells (madeCells #[.int .u8 0] 262143) 5) := ⟨_, rfl⟩
  have hb0 : Below w.heap.size w W0 := by rw [hW0]; exact (Below.refl _ w).alloc (Nat.le_refl _) _
  have hpos := hT.size
  have hT0 := hT.below hb0 hpos
  have hput := z_put 262143 (by omega) W0 hT0
  have htake := z_take 262143 (by omega)
  have HT := Lib.hid hT
  have HPUT := Lib.hid hput
  have HTAKE := Lib.hid htake
  have HB0 := Lib.hid hb0
  have HW0 := Lib.hid hW0
  clear hT hT0 hput htake hb0 hW0 h3'
  generalize encS (zS 262143) = P at *
  generalize zS 262143 = S at *
  generalize madeCells #[.int .u8 0] 262143 = C at *
  go_enter Tryd.func7, Tryd.ntmps7
  go_wp2_with fail
  rw [← HW0.out]
  refine HPUT.out.mono ?_
  rintro e w1 ⟨rfl, hb1⟩
  have hb01 := below_then' HB0.out hb1
  go_wp2_with fail
  refine (HTAKE.out w1 (HT.out.below hb01 hpos)).mono ?_
  rintro e w2 ⟨rfl, hb2⟩
  have hb02 := below_then' hb01 hb2
  go_wp2_with fail
  refine (awake_any w2 (HT.out.below hb02 hpos)).mono ?_
  rintro e w3 ⟨rfl, hb3⟩
  go_wp2_with fail
  go_ret
  exact ⟨rfl, below_then' hb02 hb3⟩
set_option maxRecDepth 100000 in
set_option maxHeartbeats 16000000 in
theorem long_1 (more : Int) (w : World) (hT : TabW w) (h3' : more % 4 = 1) : Calls Tryd.prog 7 #[.int .i64 more] w (Gives (.bool true) w) := by
  have h3 : bits .and .i64 more 3 = 1 := by rw [i64_and3]; exact h3'
  have hmk : ∀ w : World, (Instr.makeSlice 36 (.int .i64 262144) (.int .i64 262144)).run Tryd.prog w = .ok (.slice (some ⟨w.heap.size, 0, none⟩) 262144 262144) (w.alloc (.cells (madeCells #[.int .u8 0] 262144) 5)) := run_make_row' (P := Tryd.prog) 36 5 (.int .u8 0) 1 Tryd.underlying36 byte_row rfl .i64 .i64 262144 (by omega) (by omega)
  have hcv := row_z w 262144
  obtain ⟨W0, hW0⟩ : ∃ W0, W0 = w.alloc (.cells (madeCells #[.int .u8 0] 262144) 5) := ⟨_, rfl⟩
  have hb0 : Below w.heap.size w W0 := by rw [hW0]; exact (Below.refl _ w).alloc (Nat.le_refl _) _
  have hpos := hT.size
  have hT0 := hT.below hb0 hpos
  have hput := z_put 262144 (by omega) W0 hT0
  have htake := z_take 262144 (by omega)
  have HT := Lib.hid hT
  have HPUT := Lib.hid hput
  have HTAKE := Lib.hid htake
  have HB0 := Lib.hid hb0
  have HW0 := Lib.hid hW0
  clear hT hT0 hput htake hb0 hW0 h3'
  generalize encS (zS 262144) = P at *
  generalize zS 262144 = S at *
  generalize madeCells #[.int .u8 0] 262144 = C at *
  go_enter Tryd.func7, Tryd.ntmps7
  go_wp2_with fail
  rw [← HW0.out]
  refine HPUT.out.mono ?_
  rintro e w1 ⟨rfl, hb1⟩
  have hb01 := below_then' HB0.out hb1
  go_wp2_with fail
  refine (HTAKE.out w1 (HT.out.below hb01 hpos)).mono ?_
  rintro e w2 ⟨rfl, hb2⟩
  have hb02 := below_then' hb01 hb2
  go_wp2_with fail
  refine (awake_any w2 (HT.out.below hb02 hpos)).mono ?_
  rintro e w3 ⟨rfl, hb3⟩
  go_wp2_with fail
  go_ret
  exact ⟨rfl, below_then' hb02 hb3⟩
set_option maxRecDepth 100000 in
set_option maxHeartbeats 16000000 in
theorem long_2 (more : Int) (w : World) (hT : TabW w) (h3' : more % 4 = 2) : Calls Tryd.prog 7 #[.int .i64 more] w (Gives (.bool true) w) := by
  have h3 : bits .and .i64 more 3 = 2 := by rw [i64_and3]; exact h3'
  have hmk : ∀ w : World, (Instr.makeSlice 36 (.int .i64 262145) (.int .i64 262145)).run Tryd.prog w = .ok (.slice (some ⟨w.heap.size, 0, none⟩) 262145 262145) (w.alloc (.cells (madeCells #[.int .u8 0] 262145) 5)) := run_make_row' (P := Tryd.prog) 36 5 (.int .u8 0) 1 Tryd.underlying36 byte_row rfl .i64 .i64 262145 (by omega) (by omega)
  have hcv := row_z w 262145
  obtain ⟨W0, hW0⟩ : ∃ W0, W0 = w.alloc (.cells (madeCells #[.int .u8 0] 262145) 5) := ⟨_, rfl⟩
  have hb0 : Below w.heap.size w W0 := by rw [hW0]; exact (Below.refl _ w).alloc (Nat.le_refl _) _
  have hpos := hT.size
  have hT0 := hT.below hb0 hpos
  have hput := z_no 262145 (by omega) (by omega) W0 hT0
  have HT := Lib.hid hT
  have HPUT := Lib.hid hput
  have HB0 := Lib.hid hb0
  have HW0 := Lib.hid hW0
  clear hT hT0 hput hb0 hW0 h3'
  generalize zS 262145 = S at *
  generalize madeCells #[.int .u8 0] 262145 = C at *
  go_enter Tryd.func7, Tryd.ntmps7
  go_wp2_with fail
  rw [← HW0.out]
  refine HPUT.out.mono ?_
  rintro e w1 ⟨rfl, hb1⟩
  have hb01 := below_then' HB0.out hb1
  go_wp2_with fail
  refine (awake_any w1 (HT.out.below hb01 hpos)).mono ?_
  rintro e w3 ⟨rfl, hb3⟩
  go_wp2_with fail
  go_ret
  exact ⟨rfl, below_then' hb01 hb3⟩
set_option maxRecDepth 100000 in
set_option maxHeartbeats 16000000 in
theorem long_3 (more : Int) (w : World) (hT : TabW w) (h3' : more % 4 = 3) : Calls Tryd.prog 7 #[.int .i64 more] w (Gives (.bool true) w) := by
  have h3 : bits .and .i64 more 3 = 3 := by rw [i64_and3]; exact h3'
  have hmk : ∀ w : World, (Instr.makeSlice 36 (.int .i64 262146) (.int .i64 262146)).run Tryd.prog w = .ok (.slice (some ⟨w.heap.size, 0, none⟩) 262146 262146) (w.alloc (.cells (madeCells #[.int .u8 0] 262146) 5)) := run_make_row' (P := Tryd.prog) 36 5 (.int .u8 0) 1 Tryd.underlying36 byte_row rfl .i64 .i64 262146 (by omega) (by omega)
  have hcv := row_z w 262146
  obtain ⟨W0, hW0⟩ : ∃ W0, W0 = w.alloc (.cells (madeCells #[.int .u8 0] 262146) 5) := ⟨_, rfl⟩
  have hb0 : Below w.heap.size w W0 := by rw [hW0]; exact (Below.refl _ w).alloc (Nat.le_refl _) _
  have hpos := hT.size
  have hT0 := hT.below hb0 hpos
  have hput := z_no 262146 (by omega) (by omega) W0 hT0
  have HT := Lib.hid hT
  have HPUT := Lib.hid hput
  have HB0 := Lib.hid hb0
  have HW0 := Lib.hid hW0
  clear hT hT0 hput hb0 hW0 h3'
  generalize zS 262146 = S at *
  generalize madeCells #[.int .u8 0] 262146 = C at *
  go_enter Tryd.func7, Tryd.ntmps7
  go_wp2_with fail
  rw [← HW0.out]
  refine HPUT.out.mono ?_
  rintro e w1 ⟨rfl, hb1⟩
  have hb01 := below_then' HB0.out hb1
  go_wp2_with fail
  refine (awake_any w1 (HT.out.below hb01 hpos)).mono ?_
  rintro e w3 ⟨rfl, hb3⟩
  go_wp2_with fail
  go_ret
  exact ⟨rfl, below_then' hb01 hb3⟩
theorem frameLong_walk (more : Int) (w : World) (hT : TabW w) : Calls Tryd.prog 7 #[.int .i64 more] w (Gives (.bool true) w) := by
  rcases (show more % 4 = 0 ∨ more % 4 = 1 ∨ more % 4 = 2 ∨ more % 4 = 3 by omega) with h | h | h | h
  · exact long_0 more w hT h
  · exact long_1 more w hT h
  · exact long_2 more w hT h
  · exact long_3 more w hT h
end Go.Proofs.YtdcinfomgldalaaDoor
