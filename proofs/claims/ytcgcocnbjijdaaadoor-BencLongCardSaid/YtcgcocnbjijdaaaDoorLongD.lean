/- The walk of BencLong: it returns true. Conditions: Go's table of powers of ten lies as start-up lays it. -/
import Derived.Test.YtcgcocnbjijdaaaDoorLongC
set_option linter.unusedVariables false
set_option linter.unusedSimpArgs false
namespace Go.Proofs.YtcgcocnbjijdaaaDoor
open Go Go.RowKit

set_option maxRecDepth 100000 in
set_option maxHeartbeats 16000000 in
theorem long_three (which more : Int) (w : World) (hT : Tabs w w.heap.size) (ho : which % 2 = 0) (h3' : more % 4 = 3) : Calls Tryd.prog 9 #[.int .i64 which, .int .i64 more] w (Gives (.bool true) w) := by
  have h1 : bits .and .i64 which 1 = 0 := by rw [i64_and1]; omega
  have h3 : bits .and .i64 more 3 = 3 := by rw [i64_and3]; exact h3'
  have hmk : ∀ w : World, (Instr.makeSlice 42 (.int .i64 65531) (.int .i64 65531)).run Tryd.prog w = .ok (.slice (some ⟨w.heap.size, 0, none⟩) 65531 65531) (w.alloc (.cells (madeCells #[.int .u8 0] 65531) 5)) := run_make_row' (P := Tryd.prog) 42 5 (.int .u8 0) 1 Tryd.underlying42 byte_row rfl .i64 .i64 65531 (by omega) (by omega)
  have hcv := row_z w 65531 (by omega)
  obtain ⟨W0, hW0⟩ : ∃ W0, W0 = w.alloc (.cells (madeCells #[.int .u8 0] 65531) 5) := ⟨_, rfl⟩
  have hb0 : Below w.heap.size w W0 := by rw [hW0]; exact (Below.refl _ w).alloc (Nat.le_refl _) _
  have hput := zP_no 3 rfl W0 ((hT.on hb0).up hb0.size)
  rw [show 65528 + 3 = 65531 from rfl] at hput
  have HT := Lib.hid hT
  have HPUT := Lib.hid hput
  have HB0 := Lib.hid hb0
  have HW0 := Lib.hid hW0
  clear hT hput hb0 hW0 h3' ho
  generalize zS 65531 = S at *
  generalize madeCells #[.int .u8 0] 65531 = C at *
  go_enter Tryd.func9, Tryd.ntmps9
  go_wp2_with fail
  rw [← HW0.out]
  refine HPUT.out.mono ?_
  rintro e w1 ⟨rfl, hb1⟩
  have hb01 := below_then HB0.out hb1
  go_wp2_with fail
  refine (awake_any w.heap.size _ (HT.out.on hb01) hb01.size).mono ?_
  rintro e w2 ⟨rfl, hb2⟩
  go_wp2_with fail
  go_ret
  exact ⟨rfl, below_then hb01 hb2⟩
set_option maxRecDepth 100000 in
set_option maxHeartbeats 16000000 in
theorem long_0 (which more : Int) (w : World) (hT : Tabs w w.heap.size) (ho : which % 2 = 0) (h3' : more % 4 = 0) : Calls Tryd.prog 9 #[.int .i64 which, .int .i64 more] w (Gives (.bool true) w) := by
  have h1 : bits .and .i64 which 1 = 0 := by rw [i64_and1]; omega
  have h3 : bits .and .i64 more 3 = 0 := by rw [i64_and3]; exact h3'
  have hmk : ∀ w : World, (Instr.makeSlice 42 (.int .i64 65528) (.int .i64 65528)).run Tryd.prog w = .ok (.slice (some ⟨w.heap.size, 0, none⟩) 65528 65528) (w.alloc (.cells (madeCells #[.int .u8 0] 65528) 5)) := run_make_row' (P := Tryd.prog) 42 5 (.int .u8 0) 1 Tryd.underlying42 byte_row rfl .i64 .i64 65528 (by omega) (by omega)
  have hcv := row_z w 65528 (by omega)
  obtain ⟨W0, hW0⟩ : ∃ W0, W0 = w.alloc (.cells (madeCells #[.int .u8 0] 65528) 5) := ⟨_, rfl⟩
  have hb0 : Below w.heap.size w W0 := by rw [hW0]; exact (Below.refl _ w).alloc (Nat.le_refl _) _
  have hput := zP_put 0 (by omega) W0 ((hT.on hb0).up hb0.size)
  have htake := zP_take 0 (by omega)
  have hsz := zP_size 0 (by omega)
  rw [show 65528 + 0 = 65528 from rfl] at hput htake hsz
  rw [show 65534 + 0 = 65534 from rfl] at hsz
  rw [hsz] at htake
  have hszz : ((zP 65528).size : Int) = 65534 := by rw [hsz]; rfl
  have HT := Lib.hid hT
  have HPUT := Lib.hid hput
  have HTAKE := Lib.hid htake
  have HB0 := Lib.hid hb0
  have HW0 := Lib.hid hW0
  clear hT hput htake hb0 hW0 h3' ho hsz
  have hzt : Hid ((zT 65528).k = 2 ∧ (zT 65528).n = 0 ∧ (zT 65528).s = zS 65528 ∧ (zT 65528).l.length = 0) := Lib.hid ⟨rfl, rfl, rfl, rfl⟩
  generalize zT 65528 = t at *
  generalize zS 65528 = S at *
  generalize zP 65528 = P at *
  generalize madeCells #[.int .u8 0] 65528 = C at *
  go_enter Tryd.func9, Tryd.ntmps9
  go_wp2_with fail
  rw [← HW0.out]
  refine HPUT.out.mono ?_
  rintro e w1 ⟨rfl, hb1⟩
  have hb01 := below_then HB0.out hb1
  go_wp2_with fail
  refine (HTAKE.out w1).mono ?_
  rintro e w2 ⟨A, c, rfl, hr, hb2⟩
  dsimp only at hr ⊢
  clear hr
  rw [hzt.out.1, hzt.out.2.1, hzt.out.2.2.1, hzt.out.2.2.2]
  have hb02 := below_then hb01 hb2
  go_wp2_with fail
  have hb03 := hb02.alloc hb02.size (.cells #[.int .i64 2, .int .i64 0, .string S, .slice A 0 c] 24)
  refine (awake_any w.heap.size _ (HT.out.on hb03) hb03.size).mono ?_
  rintro e w3 ⟨rfl, hb3⟩
  go_wp2_with fail
  go_ret
  exact ⟨rfl, below_then hb03 hb3⟩
set_option maxRecDepth 100000 in
set_option maxHeartbeats 16000000 in
theorem long_1 (which more : Int) (w : World) (hT : Tabs w w.heap.size) (ho : which % 2 = 0) (h3' : more % 4 = 1) : Calls Tryd.prog 9 #[.int .i64 which, .int .i64 more] w (Gives (.bool true) w) := by
  have h1 : bits .and .i64 which 1 = 0 := by rw [i64_and1]; omega
  have h3 : bits .and .i64 more 3 = 1 := by rw [i64_and3]; exact h3'
  have hmk : ∀ w : World, (Instr.makeSlice 42 (.int .i64 65529) (.int .i64 65529)).run Tryd.prog w = .ok (.slice (some ⟨w.heap.size, 0, none⟩) 65529 65529) (w.alloc (.cells (madeCells #[.int .u8 0] 65529) 5)) := run_make_row' (P := Tryd.prog) 42 5 (.int .u8 0) 1 Tryd.underlying42 byte_row rfl .i64 .i64 65529 (by omega) (by omega)
  have hcv := row_z w 65529 (by omega)
  obtain ⟨W0, hW0⟩ : ∃ W0, W0 = w.alloc (.cells (madeCells #[.int .u8 0] 65529) 5) := ⟨_, rfl⟩
  have hb0 : Below w.heap.size w W0 := by rw [hW0]; exact (Below.refl _ w).alloc (Nat.le_refl _) _
  have hput := zP_put 1 (by omega) W0 ((hT.on hb0).up hb0.size)
  have htake := zP_take 1 (by omega)
  have hsz := zP_size 1 (by omega)
  rw [show 65528 + 1 = 65529 from rfl] at hput htake hsz
  rw [show 65534 + 1 = 65535 from rfl] at hsz
  rw [hsz] at htake
  have hszz : ((zP 65529).size : Int) = 65535 := by rw [hsz]; rfl
  have HT := Lib.hid hT
  have HPUT := Lib.hid hput
  have HTAKE := Lib.hid htake
  have HB0 := Lib.hid hb0
  have HW0 := Lib.hid hW0
  clear hT hput htake hb0 hW0 h3' ho hsz
  have hzt : Hid ((zT 65529).k = 2 ∧ (zT 65529).n = 0 ∧ (zT 65529).s = zS 65529 ∧ (zT 65529).l.length = 0) := Lib.hid ⟨rfl, rfl, rfl, rfl⟩
  generalize zT 65529 = t at *
  generalize zS 65529 = S at *
  generalize zP 65529 = P at *
  generalize madeCells #[.int .u8 0] 65529 = C at *
  go_enter Tryd.func9, Tryd.ntmps9
  go_wp2_with fail
  rw [← HW0.out]
  refine HPUT.out.mono ?_
  rintro e w1 ⟨rfl, hb1⟩
  have hb01 := below_then HB0.out hb1
  go_wp2_with fail
  refine (HTAKE.out w1).mono ?_
  rintro e w2 ⟨A, c, rfl, hr, hb2⟩
  dsimp only at hr ⊢
  clear hr
  rw [hzt.out.1, hzt.out.2.1, hzt.out.2.2.1, hzt.out.2.2.2]
  have hb02 := below_then hb01 hb2
  go_wp2_with fail
  have hb03 := hb02.alloc hb02.size (.cells #[.int .i64 2, .int .i64 0, .string S, .slice A 0 c] 24)
  refine (awake_any w.heap.size _ (HT.out.on hb03) hb03.size).mono ?_
  rintro e w3 ⟨rfl, hb3⟩
  go_wp2_with fail
  go_ret
  exact ⟨rfl, below_then hb03 hb3⟩
set_option maxRecDepth 100000 in
set_option maxHeartbeats 16000000 in
theorem long_2 (which more : Int) (w : World) (hT : Tabs w w.heap.size) (ho : which % 2 = 0) (h3' : more % 4 = 2) : Calls Tryd.prog 9 #[.int .i64 which, .int .i64 more] w (Gives (.bool true) w) := by
  have h1 : bits .and .i64 which 1 = 0 := by rw [i64_and1]; omega
  have h3 : bits .and .i64 more 3 = 2 := by rw [i64_and3]; exact h3'
  have hmk : ∀ w : World, (Instr.makeSlice 42 (.int .i64 65530) (.int .i64 65530)).run Tryd.prog w = .ok (.slice (some ⟨w.heap.size, 0, none⟩) 65530 65530) (w.alloc (.cells (madeCells #[.int .u8 0] 65530) 5)) := run_make_row' (P := Tryd.prog) 42 5 (.int .u8 0) 1 Tryd.underlying42 byte_row rfl .i64 .i64 65530 (by omega) (by omega)
  have hcv := row_z w 65530 (by omega)
  obtain ⟨W0, hW0⟩ : ∃ W0, W0 = w.alloc (.cells (madeCells #[.int .u8 0] 65530) 5) := ⟨_, rfl⟩
  have hb0 : Below w.heap.size w W0 := by rw [hW0]; exact (Below.refl _ w).alloc (Nat.le_refl _) _
  have hput := zP_put 2 (by omega) W0 ((hT.on hb0).up hb0.size)
  have htake := zP_take 2 (by omega)
  have hsz := zP_size 2 (by omega)
  rw [show 65528 + 2 = 65530 from rfl] at hput htake hsz
  rw [show 65534 + 2 = 65536 from rfl] at hsz
  rw [hsz] at htake
  have hszz : ((zP 65530).size : Int) = 65536 := by rw [hsz]; rfl
  have HT := Lib.hid hT
  have HPUT := Lib.hid hput
  have HTAKE := Lib.hid htake
  have HB0 := Lib.hid hb0
  have HW0 := Lib.hid hW0
  clear hT hput htake hb0 hW0 h3' ho hsz
  have hzt : Hid ((zT 65530).k = 2 ∧ (zT 65530).n = 0 ∧ (zT 65530).s = zS 65530 ∧ (zT 65530).l.length = 0) := Lib.hid ⟨rfl, rfl, rfl, rfl⟩
  generalize zT 65530 = t at *
  generalize zS 65530 = S at *
  generalize zP 65530 = P at *
  generalize madeCells #[.int .u8 0] 65530 = C at *
  go_enter Tryd.func9, Tryd.ntmps9
  go_wp2_with fail
  rw [← HW0.out]
  refine HPUT.out.mono ?_
  rintro e w1 ⟨rfl, hb1⟩
  have hb01 := below_then HB0.out hb1
  go_wp2_with fail
  refine (HTAKE.out w1).mono ?_
  rintro e w2 ⟨A, c, rfl, hr, hb2⟩
  dsimp only at hr ⊢
  clear hr
  rw [hzt.out.1, hzt.out.2.1, hzt.out.2.2.1, hzt.out.2.2.2]
  have hb02 := below_then hb01 hb2
  go_wp2_with fail
  have hb03 := hb02.alloc hb02.size (.cells #[.int .i64 2, .int .i64 0, .string S, .slice A 0 c] 24)
  refine (awake_any w.heap.size _ (HT.out.on hb03) hb03.size).mono ?_
  rintro e w3 ⟨rfl, hb3⟩
  go_wp2_with fail
  go_ret
  exact ⟨rfl, below_then hb03 hb3⟩
theorem bencLong_walk (which more : Int) (w : World) (hT : Tabs w w.heap.size) : Calls Tryd.prog 9 #[.int .i64 which, .int .i64 more] w (Gives (.bool true) w) := by
  by_cases ho : which % 2 = 0
  · rcases (show more % 4 = 0 ∨ more % 4 = 1 ∨ more % 4 = 2 ∨ more % 4 = 3 by omega) with h | h | h | h
    · exact long_0 which more w hT ho h
    · exact long_1 which more w hT ho h
    · exact long_2 which more w hT ho h
    · exact long_three which more w hT ho h
  · exact long_odd which more w hT ho
end Go.Proofs.YtcgcocnbjijdaaaDoor
