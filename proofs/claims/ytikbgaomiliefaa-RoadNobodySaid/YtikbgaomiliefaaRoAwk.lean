/- What must come, whatever the arguments are. Conditions: the program's road. -/
import Derived.Test.YtikbgaomiliefaaRoPS
set_option linter.unusedVariables false
set_option linter.unusedSimpArgs false
set_option maxRecDepth 100000
namespace Go.Proofs.Ytikbgaomiliefaa.Ro
open Go Go.RowKit
abbrev aL : Lt := (-1, 0, ⟨#[97]⟩)
abbrev bL : Lt := (1, 0, ⟨#[98]⟩)
theorem aw1 : sendQ (List.replicate 3 []) aL = ([[], [aL], []], 0) := by rfl
theorem aw2 : sendQ [[], [aL], []] bL = ([[], [aL, bL], []], 0) := by rfl
theorem aw3 : waitsQ [[], [aL, bL], []] 0 = 2 := by rfl
theorem aw4 : swapQ [[], [aL, bL], []] 0 0 = ([[], [bL, aL], []], 0) := by rfl
theorem aw5 : nextQ [[], [bL, aL], []] 0 = ([[], [aL], []], bL, 0) := by rfl
theorem aw6 : nextQ [[], [aL], []] 0 = ([[], [], []], aL, 0) := by rfl
theorem aw7 : waitsQ [[], [], []] 0 = 0 := by rfl
set_option maxHeartbeats 8000000 in
theorem awake_any (C : Code) (w : World) : Calls Try.prog 11 #[] w (Gives (.bool true) w) := by
  have H0 := Lib.hid (C.new 2 w (by omega) (by omega))
  have HC1 := Lib.hid (fun w p F (h : C.Is w p F (List.replicate 3 [])) => C.send_is h (-1) 0 ⟨#[97]⟩ (in64 (by decide)) (in64 (by decide)) (by decide) aw1)
  have HC2 := Lib.hid (fun w p F (h : C.Is w p F [[], [aL], []]) => C.send_is h 1 0 ⟨#[98]⟩ (in64 (by decide)) (in64 (by decide)) (by decide) aw2)
  have HC3 := Lib.hid (fun w p F (h : C.Is w p F [[], [aL, bL], []]) => C.waits_is h 0 (in64 (by decide)) aw3)
  have HC4 := Lib.hid (fun w p F (h : C.Is w p F [[], [aL, bL], []]) => C.swap_is h 0 0 (in64 (by decide)) (in64 (by decide)) aw4)
  have HC5 := Lib.hid (fun w p F (h : C.Is w p F [[], [bL, aL], []]) => C.next_is h 0 (in64 (by decide)) aw5)
  have HC6 := Lib.hid (fun w p F (h : C.Is w p F [[], [aL], []]) => C.next_is h 0 (in64 (by decide)) aw6)
  have HC7 := Lib.hid (fun w p F (h : C.Is w p F [[], [], []]) => C.waits_is h 0 (in64 (by decide)) aw7)
  go_enter Try.func11, Try.ntmps11
  go_wp2_with fail
  refine H0.out.mono ?_
  rintro e w1 ⟨p, F1, rfl, h1, hF, hB⟩
  have HO1 := Lib.hid (show OS C w w1 p F1 _ from ⟨h1, hF, hB⟩)
  have H1 := Lib.hid (HC1.out _ _ _ h1)
  clear h1 hF hB
  go_wp2_with fail
  refine H1.out.mono ?_
  rintro e w2 ⟨rfl, F2, h2, T2⟩
  have HO2 := Lib.hid (HO1.out.code h2 T2)
  have H2 := Lib.hid (HC2.out _ _ _ h2)
  clear h2 T2 H1 HO1
  go_wp2_with fail
  refine H2.out.mono ?_
  rintro e w3 ⟨rfl, F3, h3, T3⟩
  have HO3 := Lib.hid (HO2.out.code h3 T3)
  have H3 := Lib.hid (HC3.out _ _ _ h3)
  clear h3 T3 H2 HO2
  go_wp2_with fail
  refine H3.out.mono ?_
  rintro e w4 ⟨rfl, hb4⟩
  have HO4 := Lib.hid (HO3.out.on hb4)
  have H4 := Lib.hid (HC4.out _ _ _ HO4.out.road)
  clear hb4 H3 HO3
  go_wp2_with fail
  refine H4.out.mono ?_
  rintro e w5 ⟨rfl, F5, h5, T5⟩
  have HO5 := Lib.hid (HO4.out.code h5 T5)
  clear h5 T5 H4 HO4
  go_wp2_with fail
  have H5 := Lib.hid (HC5.out _ _ _ HO5.out.road)
  refine H5.out.mono ?_
  rintro e w6 ⟨rfl, F6, h6, T6⟩
  have HO6 := Lib.hid (HO5.out.code h6 T6)
  clear h6 T6 H5 HO5
  go_wp2_with fail
  obtain ⟨W7, hW7⟩ : ∃ W7, W7 = w6.alloc (.cells #[.int .i64 1, .int .i64 0, .string ⟨#[98]⟩] 34) := ⟨_, rfl⟩
  rw [← hW7]
  have hb7 : Below w6.heap.size w6 W7 := by rw [hW7]; exact (Below.refl _ w6).alloc (Nat.le_refl _) _
  have rL : Row W7 w6.heap.size 34 [.int .i64 1, .int .i64 0, .string ⟨#[98]⟩] := by rw [hW7]; exact Row.new w6 _ _
  have hLo : ¬ F6 w6.heap.size := fun hF => by have := C.lt HO6.out.road _ hF; omega
  have HO7 := Lib.hid (HO6.out.on hb7)
  obtain ⟨X, hX⟩ : ∃ X, w6.heap.size = X := ⟨_, rfl⟩
  rw [hX] at rL hLo
  rw [hX]
  have HL7 := Lib.hid (And.intro rL hLo)
  have H7 := Lib.hid (HC6.out _ _ _ HO7.out.road)
  clear hb7 rL hW7 hX HO6 hLo
  refine H7.out.mono ?_
  rintro e w8 ⟨rfl, F8, h8, T8⟩
  have rL8 := HL7.out.1.keep (T8.block X HL7.out.1.lt HL7.out.2)
  have HO8 := Lib.hid (HO7.out.code h8 T8)
  have HL8 := Lib.hid rL8
  clear h8 T8 H7 HO7 HL7 rL8
  have hb9 : Below w8.heap.size w8 (w8.alloc (.cells #[.int .i64 (-1), .int .i64 0, .string ⟨#[97]⟩] 34)) := (Below.refl _ w8).alloc (Nat.le_refl _) _
  have rM : Row (w8.alloc (.cells #[.int .i64 (-1), .int .i64 0, .string ⟨#[97]⟩] 34)) w8.heap.size 34 [.int .i64 (-1), .int .i64 0, .string ⟨#[97]⟩] := Row.new w8 _ _
  have rL9 := HL8.out.keep (hb9.block _ HL8.out.lt)
  have HO9 := Lib.hid (HO8.out.on hb9)
  have l0 := rL9.cell (j := 0) rfl
  have l1 := rL9.cell (j := 1) rfl
  have l2 := rL9.cell (j := 2) rfl
  have ll := rL9.lt
  have m2 := rM.cell (j := 2) rfl
  have ml := rM.lt
  have H9 := Lib.hid (HC7.out _ _ _ HO9.out.road)
  clear hb9 rM HO8 rL9
  go_wp2_with fail
  refine H9.out.mono ?_
  rintro e w10 ⟨rfl, hb10⟩
  have HF := Lib.hid (HO9.out.on hb10).below
  clear hb10 H9 HO9 l0 l1 l2 ll m2 ml
  go_wp2_with fail
  go_ret
  exact ⟨rfl, HF.out⟩
end Go.Proofs.Ytikbgaomiliefaa.Ro
