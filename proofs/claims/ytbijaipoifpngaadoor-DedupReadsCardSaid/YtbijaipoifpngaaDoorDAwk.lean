/- What awake of the statements returns. Conditions: Go's table of powers of ten lies below. -/
import Derived.Test.YtbijaipoifpngaaDoorDText
set_option linter.unusedVariables false
set_option linter.unusedSimpArgs false
set_option maxRecDepth 100000
namespace Go.Proofs.YtbijaipoifpngaaDoor.Be
open Go Go.RowKit
def qA : List E := q0.set 1 ⟨5, 0, true⟩
theorem qA_put : putM q0 1 5 0 true = (qA, 0) := by decide +kernel
theorem qA_ok : Okq qA := by
  have := putM_ok okq0 1 5 0 true
  rw [qA_put] at this
  exact this
theorem qA_f5 : findM qA 1 5 = ((0, true), 0) := by decide +kernel
theorem qA_f4 : findM qA 1 4 = ((0, false), 90) := by decide +kernel
theorem qA_f6 : findM qA 1 6 = ((0, false), 3) := by decide +kernel
theorem qA_l : lastM qA 1 = 5 := by decide +kernel
theorem itoa_dig {n : Nat} (h : n < 10) : Lib.itoa (n : Int) = [UInt8.ofNat (48 + n)] := by rw [itoa_nat, dec_small h]
theorem qA_rows : rowsFrom 0 qA = [tR 1 5 0 1] := by rfl
theorem qA_text : textB qA = ⟨#[108, 108, 105, 49, 101, 105, 53, 101, 105, 48, 101, 105, 49, 101, 101, 101]⟩ := by
  have h1 : Lib.itoa 1 = [49] := itoa_dig (n := 1) (by omega)
  have h5 : Lib.itoa 5 = [53] := itoa_dig (n := 5) (by omega)
  have h0 : Lib.itoa 0 = [48] := itoa_dig (n := 0) (by omega)
  unfold textB textT
  rw [qA_rows]
  simp [enc_list, tR, encL, tN, enc_num, h1, h5, h0]
set_option maxHeartbeats 8000000 in
theorem awake_any (B0 : Nat) (w : World) (hT : Tabs w B0) (hB0 : B0 ≤ w.heap.size) : Calls Tryd.prog 18 #[] w (Gives (.bool true) w) := by
  have hnew := new_any w
  go_enter Tryd.func18, Tryd.ntmps18
  go_wp2_with fail
  refine hnew.mono ?_
  rintro e w1 ⟨p, rfl, ht1, hp1, hb1⟩
  have hput := put_any ht1 1 5 0 true (.slice none 0 0)
  rw [qA_put] at hput
  have HT1 := Lib.hid ht1
  clear ht1 hnew
  go_wp2_with fail
  refine hput.mono ?_
  rintro e w2 ⟨rfl, ht2, hg2⟩
  have hb2 : Below w.heap.size w w2 := below_grown_new hb1 hg2 hp1
  clear hb1 hg2 hput
  have hf1 := find_any ht2 1 5
  rw [qA_f5] at hf1
  simp only [repV] at hf1
  go_wp2_with fail
  refine hf1.mono ?_
  rintro e w3 ⟨rfl, hb3⟩
  have hB3 : Below w2.heap.size w2 (w3.alloc (.cells #[.int .i64 0, .bool true, .slice none 0 0] 32)) := hb3.alloc hb3.size _
  have hf2 := find_any (ht2.on hB3) 1 4
  have hr3 := Row.new w3 32 [.int .i64 0, .bool true, .slice none 0 0]
  rw [qA_f4] at hf2
  simp only [repV] at hf2
  clear hf1
  go_wp2_with fail
  refine hf2.mono ?_
  rintro e w4 ⟨rfl, hb4⟩
  have hB4 : Below w2.heap.size w2 (w4.alloc (.cells #[.int .i64 0, .bool false, .slice none 0 0] 32)) := (hB3.trans (hb4.mono hB3.size)).alloc (by have := hB3.size; have := hb4.size; omega) _
  have hr4 := (hr3.on hb4).al (.cells #[.int .i64 0, .bool false, .slice none 0 0] 32)
  have hf3 := find_any (ht2.on hB4) 1 6
  rw [qA_f6] at hf3
  simp only [repV] at hf3
  clear hf2
  go_wp2_with fail
  refine hf3.mono ?_
  rintro e w5 ⟨rfl, hb5⟩
  have hB5 : Below w2.heap.size w2 (w5.alloc (.cells #[.int .i64 0, .bool false, .slice none 0 0] 32)) := (hB4.trans (hb5.mono hB4.size)).alloc (by have := hB4.size; have := hb5.size; omega) _
  have hr5 := (hr4.on hb5).al (.cells #[.int .i64 0, .bool false, .slice none 0 0] 32)
  have c1 : (w5.alloc (.cells #[.int .i64 0, .bool false, .slice none 0 0] 32)).cell? ⟨w3.heap.size, 1, none⟩ = some (.bool true) := hr5.cell rfl
  have hl := last_any (ht2.on hB5) 1
  rw [qA_l] at hl
  have hB05 := hb2.trans (hB5.mono hb2.size)
  have htx := ttext_any (ht2.on hB5) ((hT.on (hB05.mono hB0)).up (Nat.le_trans hB0 hB05.size))
  rw [qA_text] at htx
  clear hf3
  go_wp2_with (first | (refine hl.mono ?_; rintro e w6 ⟨rfl, rfl⟩) | (refine htx.mono ?_; rintro e w7 ⟨rfl, hb7⟩))
  go_ret
  exact ⟨rfl, hB05.trans (hb7.mono hB05.size)⟩
end Go.Proofs.YtbijaipoifpngaaDoor.Be
