/- What take returns of runes of up to three bytes. Conditions: at least one byte. -/
import Derived.Test.YtdhiipnnmonkoaaDoorTakeA
set_option linter.unusedVariables false
namespace Go.Proofs.YtdhiipnnmonkoaaDoor
open Go Go.RowKit Go.Lib

set_option maxRecDepth 100000 in
set_option maxHeartbeats 1000000 in
theorem t1 (s : ByteArray) (w : World) (hs : s.size ≤ 9223372036854775807) (x0 x1 x2 x3 : UInt8) (g0 : 0 < s.size) (e0 : s[0] = x0) (h0 : x0.toNat < 128) :
    Calls Tryd.prog 29 #[.string s] w (TakePost s.size x0.toNat x1.toNat x2.toNat x3.toNat w) := by
  have hd : decodeN s.size x0.toNat x1.toNat x2.toNat x3.toNat = (x0.toNat, 1) := by
    unfold decodeN
    repeat' split
    all_goals first | rfl | (exfalso; omega)
  have hp : takeN s.size x0.toNat x1.toNat x2.toNat x3.toNat = (((x0.toNat : Nat) : Int), ((1 : Nat) : Int)) := takeN_ok hd (by omega)
  have z0 := x0.toNat_lt
  have z1 := x1.toNat_lt
  have z2 := x2.toNat_lt
  have z3 := x3.toNat_lt
  unfold TakePost
  rw [hp]
  clear hp hd
  go_enter Tryd.func29, Tryd.ntmps29
  go_wp2
  refine wp_loop_rounds 1 ?_
  rw [rounds_succ]
  go_wp2_with (first | (go_at_call 33; refine (is_yes _ _ (isR_yes (by omega))).mono ?_; rintro e w' ⟨rfl, rfl⟩) | (go_at_call 45; refine (wide_1 _ _ (by omega)).mono ?_; rintro e w' ⟨rfl, rfl⟩))
  go_ret2
  exact ⟨ret2_int (by omega) (by omega), rfl⟩
set_option maxRecDepth 100000 in
set_option maxHeartbeats 1000000 in
theorem t2 (s : ByteArray) (w : World) (hs : s.size ≤ 9223372036854775807) (x0 x1 x2 x3 : UInt8) (g0 : 0 < s.size) (e0 : s[0] = x0) (h0 : 128 ≤ x0.toNat) (h1 : x0.toNat < 192) :
    Calls Tryd.prog 29 #[.string s] w (TakePost s.size x0.toNat x1.toNat x2.toNat x3.toNat w) := by
  have hd : decodeN s.size x0.toNat x1.toNat x2.toNat x3.toNat = (65533, 1) := by
    unfold decodeN
    repeat' split
    all_goals first | rfl | (exfalso; omega)
  have hp : takeN s.size x0.toNat x1.toNat x2.toNat x3.toNat = (0, 0) := takeN_bad hd
  have z0 := x0.toNat_lt
  have z1 := x1.toNat_lt
  have z2 := x2.toNat_lt
  have z3 := x3.toNat_lt
  unfold TakePost
  rw [hp]
  clear hp hd
  go_enter Tryd.func29, Tryd.ntmps29
  go_wp2
  go_ret2
  exact ⟨ret2_int (by omega) (by omega), rfl⟩
set_option maxRecDepth 100000 in
set_option maxHeartbeats 1000000 in
theorem t3 (s : ByteArray) (w : World) (hs : s.size ≤ 9223372036854775807) (x0 x1 x2 x3 : UInt8) (g0 : 0 < s.size) (e0 : s[0] = x0) (h0 : 248 ≤ x0.toNat) :
    Calls Tryd.prog 29 #[.string s] w (TakePost s.size x0.toNat x1.toNat x2.toNat x3.toNat w) := by
  have hd : decodeN s.size x0.toNat x1.toNat x2.toNat x3.toNat = (65533, 1) := by
    unfold decodeN
    repeat' split
    all_goals first | rfl | (exfalso; omega)
  have hp : takeN s.size x0.toNat x1.toNat x2.toNat x3.toNat = (0, 0) := takeN_bad hd
  have z0 := x0.toNat_lt
  have z1 := x1.toNat_lt
  have z2 := x2.toNat_lt
  have z3 := x3.toNat_lt
  unfold TakePost
  rw [hp]
  clear hp hd
  go_enter Tryd.func29, Tryd.ntmps29
  go_wp2
  go_ret2
  exact ⟨ret2_int (by omega) (by omega), rfl⟩
set_option maxRecDepth 100000 in
set_option maxHeartbeats 1000000 in
theorem t4a (s : ByteArray) (w : World) (hs : s.size ≤ 9223372036854775807) (x0 x1 x2 x3 : UInt8) (g0 : 0 < s.size) (e0 : s[0] = x0) (h0 : 192 ≤ x0.toNat) (h1 : x0.toNat < 224) (h2 : s.size < 2) :
    Calls Tryd.prog 29 #[.string s] w (TakePost s.size x0.toNat x1.toNat x2.toNat x3.toNat w) := by
  have hd : decodeN s.size x0.toNat x1.toNat x2.toNat x3.toNat = (65533, 1) := by
    unfold decodeN
    repeat' split
    all_goals first | rfl | (exfalso; omega)
  have hp : takeN s.size x0.toNat x1.toNat x2.toNat x3.toNat = (0, 0) := takeN_bad hd
  have z0 := x0.toNat_lt
  have z1 := x1.toNat_lt
  have z2 := x2.toNat_lt
  have z3 := x3.toNat_lt
  unfold TakePost
  rw [hp]
  clear hp hd
  go_enter Tryd.func29, Tryd.ntmps29
  go_wp2
  go_ret2
  exact ⟨ret2_int (by omega) (by omega), rfl⟩
set_option maxRecDepth 100000 in
set_option maxHeartbeats 1000000 in
theorem t4b (s : ByteArray) (w : World) (hs : s.size ≤ 9223372036854775807) (x0 x1 x2 x3 : UInt8) (g0 : 0 < s.size) (e0 : s[0] = x0) (g1 : 1 < s.size) (e1 : s[1] = x1) (h0 : 192 ≤ x0.toNat) (h1 : x0.toNat < 224) (h2 : x1.toNat < 128) :
    Calls Tryd.prog 29 #[.string s] w (TakePost s.size x0.toNat x1.toNat x2.toNat x3.toNat w) := by
  have hd : decodeN s.size x0.toNat x1.toNat x2.toNat x3.toNat = (65533, 1) := by
    unfold decodeN
    repeat' split
    all_goals first | rfl | (exfalso; omega)
  have hp : takeN s.size x0.toNat x1.toNat x2.toNat x3.toNat = (0, 0) := takeN_bad hd
  have z0 := x0.toNat_lt
  have z1 := x1.toNat_lt
  have z2 := x2.toNat_lt
  have z3 := x3.toNat_lt
  unfold TakePost
  rw [hp]
  clear hp hd
  go_enter Tryd.func29, Tryd.ntmps29
  go_wp2
  refine wp_loop_rounds 1 ?_
  rw [rounds_succ]
  go_wp2
  go_ret2
  exact ⟨ret2_int (by omega) (by omega), rfl⟩
set_option maxRecDepth 100000 in
set_option maxHeartbeats 1000000 in
theorem t4c (s : ByteArray) (w : World) (hs : s.size ≤ 9223372036854775807) (x0 x1 x2 x3 : UInt8) (g0 : 0 < s.size) (e0 : s[0] = x0) (g1 : 1 < s.size) (e1 : s[1] = x1) (h0 : 192 ≤ x0.toNat) (h1 : x0.toNat < 224) (h2 : 192 ≤ x1.toNat) :
    Calls Tryd.prog 29 #[.string s] w (TakePost s.size x0.toNat x1.toNat x2.toNat x3.toNat w) := by
  have hd : decodeN s.size x0.toNat x1.toNat x2.toNat x3.toNat = (65533, 1) := by
    unfold decodeN
    repeat' split
    all_goals first | rfl | (exfalso; omega)
  have hp : takeN s.size x0.toNat x1.toNat x2.toNat x3.toNat = (0, 0) := takeN_bad hd
  have z0 := x0.toNat_lt
  have z1 := x1.toNat_lt
  have z2 := x2.toNat_lt
  have z3 := x3.toNat_lt
  unfold TakePost
  rw [hp]
  clear hp hd
  go_enter Tryd.func29, Tryd.ntmps29
  go_wp2
  refine wp_loop_rounds 1 ?_
  rw [rounds_succ]
  go_wp2
  go_ret2
  exact ⟨ret2_int (by omega) (by omega), rfl⟩
set_option maxRecDepth 100000 in
set_option maxHeartbeats 1000000 in
theorem t4d (s : ByteArray) (w : World) (hs : s.size ≤ 9223372036854775807) (x0 x1 x2 x3 : UInt8) (g0 : 0 < s.size) (e0 : s[0] = x0) (g1 : 1 < s.size) (e1 : s[1] = x1) (h0 : 192 ≤ x0.toNat) (h1 : x0.toNat < 224) (h2 : 128 ≤ x1.toNat) (h3 : x1.toNat < 192) (h4 : x0.toNat < 194) :
    Calls Tryd.prog 29 #[.string s] w (TakePost s.size x0.toNat x1.toNat x2.toNat x3.toNat w) := by
  have hd : decodeN s.size x0.toNat x1.toNat x2.toNat x3.toNat = (65533, 1) := by
    unfold decodeN
    repeat' split
    all_goals first | rfl | (exfalso; omega)
  have hp : takeN s.size x0.toNat x1.toNat x2.toNat x3.toNat = (0, 0) := takeN_bad hd
  have z0 := x0.toNat_lt
  have z1 := x1.toNat_lt
  have z2 := x2.toNat_lt
  have z3 := x3.toNat_lt
  unfold TakePost
  rw [hp]
  clear hp hd
  go_enter Tryd.func29, Tryd.ntmps29
  go_wp2
  refine wp_loop_rounds 2 ?_
  rw [rounds_succ]
  go_wp2
  rw [rounds_succ]
  go_wp2_with (first | (go_at_call 33; refine (is_yes _ _ (isR_yes (by omega))).mono ?_; rintro e w' ⟨rfl, rfl⟩) | (go_at_call 45; refine (wide_1 _ _ (by omega)).mono ?_; rintro e w' ⟨rfl, rfl⟩))
  go_ret2
  exact ⟨ret2_int (by omega) (by omega), rfl⟩
set_option maxRecDepth 100000 in
set_option maxHeartbeats 1000000 in
theorem t4e (s : ByteArray) (w : World) (hs : s.size ≤ 9223372036854775807) (x0 x1 x2 x3 : UInt8) (g0 : 0 < s.size) (e0 : s[0] = x0) (g1 : 1 < s.size) (e1 : s[1] = x1) (h0 : 192 ≤ x0.toNat) (h1 : x0.toNat < 224) (h2 : 128 ≤ x1.toNat) (h3 : x1.toNat < 192) (h4 : 194 ≤ x0.toNat) :
    Calls Tryd.prog 29 #[.string s] w (TakePost s.size x0.toNat x1.toNat x2.toNat x3.toNat w) := by
  have hd : decodeN s.size x0.toNat x1.toNat x2.toNat x3.toNat = (x0.toNat % 32 * 64 + x1.toNat % 64, 2) := by
    unfold decodeN
    repeat' split
    all_goals first | rfl | (exfalso; omega)
  have hp : takeN s.size x0.toNat x1.toNat x2.toNat x3.toNat = (((x0.toNat % 32 * 64 + x1.toNat % 64 : Nat) : Int), ((2 : Nat) : Int)) := takeN_ok hd (by omega)
  have z0 := x0.toNat_lt
  have z1 := x1.toNat_lt
  have z2 := x2.toNat_lt
  have z3 := x3.toNat_lt
  unfold TakePost
  rw [hp]
  clear hp hd
  go_enter Tryd.func29, Tryd.ntmps29
  go_wp2
  refine wp_loop_rounds 2 ?_
  rw [rounds_succ]
  go_wp2
  rw [rounds_succ]
  go_wp2_with (first | (go_at_call 33; refine (is_yes _ _ (isR_yes (by omega))).mono ?_; rintro e w' ⟨rfl, rfl⟩) | (go_at_call 45; refine (wide_2 _ _ (by omega)).mono ?_; rintro e w' ⟨rfl, rfl⟩))
  go_ret2
  exact ⟨ret2_int (by omega) (by omega), rfl⟩
set_option maxRecDepth 100000 in
set_option maxHeartbeats 1000000 in
theorem t5a (s : ByteArray) (w : World) (hs : s.size ≤ 9223372036854775807) (x0 x1 x2 x3 : UInt8) (g0 : 0 < s.size) (e0 : s[0] = x0) (h0 : 224 ≤ x0.toNat) (h1 : x0.toNat < 240) (h2 : s.size < 3) :
    Calls Tryd.prog 29 #[.string s] w (TakePost s.size x0.toNat x1.toNat x2.toNat x3.toNat w) := by
  have hd : decodeN s.size x0.toNat x1.toNat x2.toNat x3.toNat = (65533, 1) := by
    unfold decodeN
    repeat' split
    all_goals first | rfl | (exfalso; omega)
  have hp : takeN s.size x0.toNat x1.toNat x2.toNat x3.toNat = (0, 0) := takeN_bad hd
  have z0 := x0.toNat_lt
  have z1 := x1.toNat_lt
  have z2 := x2.toNat_lt
  have z3 := x3.toNat_lt
  unfold TakePost
  rw [hp]
  clear hp hd
  go_enter Tryd.func29, Tryd.ntmps29
  go_wp2
  go_ret2
  exact ⟨ret2_int (by omega) (by omega), rfl⟩
set_option maxRecDepth 100000 in
set_option maxHeartbeats 1000000 in
theorem t5b (s : ByteArray) (w : World) (hs : s.size ≤ 9223372036854775807) (x0 x1 x2 x3 : UInt8) (g0 : 0 < s.size) (e0 : s[0] = x0) (g1 : 1 < s.size) (e1 : s[1] = x1) (g2 : 2 < s.size) (e2 : s[2] = x2) (h0 : 224 ≤ x0.toNat) (h1 : x0.toNat < 240) (h2 : x1.toNat < 128) :
    Calls Tryd.prog 29 #[.string s] w (TakePost s.size x0.toNat x1.toNat x2.toNat x3.toNat w) := by
  have hd : decodeN s.size x0.toNat x1.toNat x2.toNat x3.toNat = (65533, 1) := by
    unfold decodeN
    repeat' split
    all_goals first | rfl | (exfalso; omega)
  have hp : takeN s.size x0.toNat x1.toNat x2.toNat x3.toNat = (0, 0) := takeN_bad hd
  have z0 := x0.toNat_lt
  have z1 := x1.toNat_lt
  have z2 := x2.toNat_lt
  have z3 := x3.toNat_lt
  unfold TakePost
  rw [hp]
  clear hp hd
  go_enter Tryd.func29, Tryd.ntmps29
  go_wp2
  refine wp_loop_rounds 1 ?_
  rw [rounds_succ]
  go_wp2
  go_ret2
  exact ⟨ret2_int (by omega) (by omega), rfl⟩
set_option maxRecDepth 100000 in
set_option maxHeartbeats 1000000 in
theorem t5c (s : ByteArray) (w : World) (hs : s.size ≤ 9223372036854775807) (x0 x1 x2 x3 : UInt8) (g0 : 0 < s.size) (e0 : s[0] = x0) (g1 : 1 < s.size) (e1 : s[1] = x1) (g2 : 2 < s.size) (e2 : s[2] = x2) (h0 : 224 ≤ x0.toNat) (h1 : x0.toNat < 240) (h2 : 192 ≤ x1.toNat) :
    Calls Tryd.prog 29 #[.string s] w (TakePost s.size x0.toNat x1.toNat x2.toNat x3.toNat w) := by
  have hd : decodeN s.size x0.toNat x1.toNat x2.toNat x3.toNat = (65533, 1) := by
    unfold decodeN
    repeat' split
    all_goals first | rfl | (exfalso; omega)
  have hp : takeN s.size x0.toNat x1.toNat x2.toNat x3.toNat = (0, 0) := takeN_bad hd
  have z0 := x0.toNat_lt
  have z1 := x1.toNat_lt
  have z2 := x2.toNat_lt
  have z3 := x3.toNat_lt
  unfold TakePost
  rw [hp]
  clear hp hd
  go_enter Tryd.func29, Tryd.ntmps29
  go_wp2
  refine wp_loop_rounds 1 ?_
  rw [rounds_succ]
  go_wp2
  go_ret2
  exact ⟨ret2_int (by omega) (by omega), rfl⟩
set_option maxRecDepth 100000 in
set_option maxHeartbeats 1000000 in
theorem t5d (s : ByteArray) (w : World) (hs : s.size ≤ 9223372036854775807) (x0 x1 x2 x3 : UInt8) (g0 : 0 < s.size) (e0 : s[0] = x0) (g1 : 1 < s.size) (e1 : s[1] = x1) (g2 : 2 < s.size) (e2 : s[2] = x2) (h0 : 224 ≤ x0.toNat) (h1 : x0.toNat < 240) (h2 : 128 ≤ x1.toNat) (h3 : x1.toNat < 192) (h4 : x2.toNat < 128) :
    Calls Tryd.prog 29 #[.string s] w (TakePost s.size x0.toNat x1.toNat x2.toNat x3.toNat w) := by
  have hd : decodeN s.size x0.toNat x1.toNat x2.toNat x3.toNat = (65533, 1) := by
    unfold decodeN
    repeat' split
    all_goals first | rfl | (exfalso; omega)
  have hp : takeN s.size x0.toNat x1.toNat x2.toNat x3.toNat = (0, 0) := takeN_bad hd
  have z0 := x0.toNat_lt
  have z1 := x1.toNat_lt
  have z2 := x2.toNat_lt
  have z3 := x3.toNat_lt
  unfold TakePost
  rw [hp]
  clear hp hd
  go_enter Tryd.func29, Tryd.ntmps29
  go_wp2
  refine wp_loop_rounds 2 ?_
  rw [rounds_succ]
  go_wp2
  rw [rounds_succ]
  go_wp2
  go_ret2
  exact ⟨ret2_int (by omega) (by omega), rfl⟩
set_option maxRecDepth 100000 in
set_option maxHeartbeats 1000000 in
theorem t5e (s : ByteArray) (w : World) (hs : s.size ≤ 9223372036854775807) (x0 x1 x2 x3 : UInt8) (g0 : 0 < s.size) (e0 : s[0] = x0) (g1 : 1 < s.size) (e1 : s[1] = x1) (g2 : 2 < s.size) (e2 : s[2] = x2) (h0 : 224 ≤ x0.toNat) (h1 : x0.toNat < 240) (h2 : 128 ≤ x1.toNat) (h3 : x1.toNat < 192) (h4 : 192 ≤ x2.toNat) :
    Calls Tryd.prog 29 #[.string s] w (TakePost s.size x0.toNat x1.toNat x2.toNat x3.toNat w) := by
  have hd : decodeN s.size x0.toNat x1.toNat x2.toNat x3.toNat = (65533, 1) := by
    unfold decodeN
    repeat' split
    all_goals first | rfl | (exfalso; omega)
  have hp : takeN s.size x0.toNat x1.toNat x2.toNat x3.toNat = (0, 0) := takeN_bad hd
  have z0 := x0.toNat_lt
  have z1 := x1.toNat_lt
  have z2 := x2.toNat_lt
  have z3 := x3.toNat_lt
  unfold TakePost
  rw [hp]
  clear hp hd
  go_enter Tryd.func29, Tryd.ntmps29
  go_wp2
  refine wp_loop_rounds 2 ?_
  rw [rounds_succ]
  go_wp2
  rw [rounds_succ]
  go_wp2
  go_ret2
  exact ⟨ret2_int (by omega) (by omega), rfl⟩
set_option maxRecDepth 100000 in
set_option maxHeartbeats 1000000 in
theorem t5f1 (s : ByteArray) (w : World) (hs : s.size ≤ 9223372036854775807) (x0 x1 x2 x3 : UInt8) (g0 : 0 < s.size) (e0 : s[0] = x0) (g1 : 1 < s.size) (e1 : s[1] = x1) (g2 : 2 < s.size) (e2 : s[2] = x2) (h0 : 224 ≤ x0.toNat) (h1 : x0.toNat < 240) (h2 : 128 ≤ x1.toNat) (h3 : x1.toNat < 192) (h4 : 128 ≤ x2.toNat) (h5 : x2.toNat < 192) (h6 : x0.toNat % 16 * 4096 + x1.toNat % 64 * 64 + x2.toNat % 64 ≤ 127) :
    Calls Tryd.prog 29 #[.string s] w (TakePost s.size x0.toNat x1.toNat x2.toNat x3.toNat w) := by
  have hd : decodeN s.size x0.toNat x1.toNat x2.toNat x3.toNat = (65533, 1) := by
    unfold decodeN
    repeat' split
    all_goals first | rfl | (exfalso; omega)
  have hp : takeN s.size x0.toNat x1.toNat x2.toNat x3.toNat = (0, 0) := takeN_bad hd
  have z0 := x0.toNat_lt
  have z1 := x1.toNat_lt
  have z2 := x2.toNat_lt
  have z3 := x3.toNat_lt
  unfold TakePost
  rw [hp]
  clear hp hd
  go_enter Tryd.func29, Tryd.ntmps29
  go_wp2
  refine wp_loop_rounds 3 ?_
  rw [rounds_succ]
  go_wp2
  rw [rounds_succ]
  go_wp2
  rw [rounds_succ]
  go_wp2_with (first | (go_at_call 33; refine (is_yes _ _ (isR_yes (by omega))).mono ?_; rintro e w' ⟨rfl, rfl⟩) | (go_at_call 45; refine (wide_1 _ _ (by omega)).mono ?_; rintro e w' ⟨rfl, rfl⟩))
  go_ret2
  exact ⟨ret2_int (by omega) (by omega), rfl⟩
set_option maxRecDepth 100000 in
set_option maxHeartbeats 1000000 in
theorem t5f2 (s : ByteArray) (w : World) (hs : s.size ≤ 9223372036854775807) (x0 x1 x2 x3 : UInt8) (g0 : 0 < s.size) (e0 : s[0] = x0) (g1 : 1 < s.size) (e1 : s[1] = x1) (g2 : 2 < s.size) (e2 : s[2] = x2) (h0 : 224 ≤ x0.toNat) (h1 : x0.toNat < 240) (h2 : 128 ≤ x1.toNat) (h3 : x1.toNat < 192) (h4 : 128 ≤ x2.toNat) (h5 : x2.toNat < 192) (h6 : 127 < x0.toNat % 16 * 4096 + x1.toNat % 64 * 64 + x2.toNat % 64) (h7 : x0.toNat % 16 * 4096 + x1.toNat % 64 * 64 + x2.toNat % 64 ≤ 2047) :
    Calls Tryd.prog 29 #[.string s] w (TakePost s.size x0.toNat x1.toNat x2.toNat x3.toNat w) := by
  have hd : decodeN s.size x0.toNat x1.toNat x2.toNat x3.toNat = (65533, 1) := by
    unfold decodeN
    repeat' split
    all_goals first | rfl | (exfalso; omega)
  have hp : takeN s.size x0.toNat x1.toNat x2.toNat x3.toNat = (0, 0) := takeN_bad hd
  have z0 := x0.toNat_lt
  have z1 := x1.toNat_lt
  have z2 := x2.toNat_lt
  have z3 := x3.toNat_lt
  unfold TakePost
  rw [hp]
  clear hp hd
  go_enter Tryd.func29, Tryd.ntmps29
  go_wp2
  refine wp_loop_rounds 3 ?_
  rw [rounds_succ]
  go_wp2
  rw [rounds_succ]
  go_wp2
  rw [rounds_succ]
  go_wp2_with (first | (go_at_call 33; refine (is_yes _ _ (isR_yes (by omega))).mono ?_; rintro e w' ⟨rfl, rfl⟩) | (go_at_call 45; refine (wide_2 _ _ (by omega)).mono ?_; rintro e w' ⟨rfl, rfl⟩))
  go_ret2
  exact ⟨ret2_int (by omega) (by omega), rfl⟩
set_option maxRecDepth 100000 in
set_option maxHeartbeats 1000000 in
theorem t5g (s : ByteArray) (w : World) (hs : s.size ≤ 9223372036854775807) (x0 x1 x2 x3 : UInt8) (g0 : 0 < s.size) (e0 : s[0] = x0) (g1 : 1 < s.size) (e1 : s[1] = x1) (g2 : 2 < s.size) (e2 : s[2] = x2) (h0 : 224 ≤ x0.toNat) (h1 : x0.toNat < 240) (h2 : 128 ≤ x1.toNat) (h3 : x1.toNat < 192) (h4 : 128 ≤ x2.toNat) (h5 : x2.toNat < 192) (h6 : 55296 ≤ x0.toNat % 16 * 4096 + x1.toNat % 64 * 64 + x2.toNat % 64) (h7 : x0.toNat % 16 * 4096 + x1.toNat % 64 * 64 + x2.toNat % 64 ≤ 57343) :
    Calls Tryd.prog 29 #[.string s] w (TakePost s.size x0.toNat x1.toNat x2.toNat x3.toNat w) := by
  have hd : decodeN s.size x0.toNat x1.toNat x2.toNat x3.toNat = (65533, 1) := by
    unfold decodeN
    repeat' split
    all_goals first | rfl | (exfalso; omega)
  have hp : takeN s.size x0.toNat x1.toNat x2.toNat x3.toNat = (0, 0) := takeN_bad hd
  have z0 := x0.toNat_lt
  have z1 := x1.toNat_lt
  have z2 := x2.toNat_lt
  have z3 := x3.toNat_lt
  unfold TakePost
  rw [hp]
  clear hp hd
  go_enter Tryd.func29, Tryd.ntmps29
  go_wp2
  refine wp_loop_rounds 3 ?_
  rw [rounds_succ]
  go_wp2
  rw [rounds_succ]
  go_wp2
  rw [rounds_succ]
  go_wp2_with (go_at_call 33; refine (is_no _ _ (isR_no (by omega))).mono ?_; rintro e w' ⟨rfl, rfl⟩)
  go_ret2
  exact ⟨ret2_int (by omega) (by omega), rfl⟩
set_option maxRecDepth 100000 in
set_option maxHeartbeats 1000000 in
theorem t5h (s : ByteArray) (w : World) (hs : s.size ≤ 9223372036854775807) (x0 x1 x2 x3 : UInt8) (g0 : 0 < s.size) (e0 : s[0] = x0) (g1 : 1 < s.size) (e1 : s[1] = x1) (g2 : 2 < s.size) (e2 : s[2] = x2) (h0 : 224 ≤ x0.toNat) (h1 : x0.toNat < 240) (h2 : 128 ≤ x1.toNat) (h3 : x1.toNat < 192) (h4 : 128 ≤ x2.toNat) (h5 : x2.toNat < 192) (h6 : 2047 < x0.toNat % 16 * 4096 + x1.toNat % 64 * 64 + x2.toNat % 64) (h7 : x0.toNat % 16 * 4096 + x1.toNat % 64 * 64 + x2.toNat % 64 < 55296) :
    Calls Tryd.prog 29 #[.string s] w (TakePost s.size x0.toNat x1.toNat x2.toNat x3.toNat w) := by
  have hd : decodeN s.size x0.toNat x1.toNat x2.toNat x3.toNat = (x0.toNat % 16 * 4096 + x1.toNat % 64 * 64 + x2.toNat % 64, 3) := by
    unfold decodeN
    repeat' split
    all_goals first | rfl | (exfalso; omega)
  have hp : takeN s.size x0.toNat x1.toNat x2.toNat x3.toNat = (((x0.toNat % 16 * 4096 + x1.toNat % 64 * 64 + x2.toNat % 64 : Nat) : Int), ((3 : Nat) : Int)) := takeN_ok hd (by omega)
  have z0 := x0.toNat_lt
  have z1 := x1.toNat_lt
  have z2 := x2.toNat_lt
  have z3 := x3.toNat_lt
  unfold TakePost
  rw [hp]
  clear hp hd
  go_enter Tryd.func29, Tryd.ntmps29
  go_wp2
  refine wp_loop_rounds 3 ?_
  rw [rounds_succ]
  go_wp2
  rw [rounds_succ]
  go_wp2
  rw [rounds_succ]
  go_wp2_with (first | (go_at_call 33; refine (is_yes _ _ (isR_yes (by omega))).mono ?_; rintro e w' ⟨rfl, rfl⟩) | (go_at_call 45; refine (wide_3 _ _ (by omega)).mono ?_; rintro e w' ⟨rfl, rfl⟩))
  go_ret2
  exact ⟨ret2_int (by omega) (by omega), rfl⟩
set_option maxRecDepth 100000 in
set_option maxHeartbeats 1000000 in
theorem t5i (s : ByteArray) (w : World) (hs : s.size ≤ 9223372036854775807) (x0 x1 x2 x3 : UInt8) (g0 : 0 < s.size) (e0 : s[0] = x0) (g1 : 1 < s.size) (e1 : s[1] = x1) (g2 : 2 < s.size) (e2 : s[2] = x2) (h0 : 224 ≤ x0.toNat) (h1 : x0.toNat < 240) (h2 : 128 ≤ x1.toNat) (h3 : x1.toNat < 192) (h4 : 128 ≤ x2.toNat) (h5 : x2.toNat < 192) (h6 : 57343 < x0.toNat % 16 * 4096 + x1.toNat % 64 * 64 + x2.toNat % 64) :
    Calls Tryd.prog 29 #[.string s] w (TakePost s.size x0.toNat x1.toNat x2.toNat x3.toNat w) := by
  have hd : decodeN s.size x0.toNat x1.toNat x2.toNat x3.toNat = (x0.toNat % 16 * 4096 + x1.toNat % 64 * 64 + x2.toNat % 64, 3) := by
    unfold decodeN
    repeat' split
    all_goals first | rfl | (exfalso; omega)
  have hp : takeN s.size x0.toNat x1.toNat x2.toNat x3.toNat = (((x0.toNat % 16 * 4096 + x1.toNat % 64 * 64 + x2.toNat % 64 : Nat) : Int), ((3 : Nat) : Int)) := takeN_ok hd (by omega)
  have z0 := x0.toNat_lt
  have z1 := x1.toNat_lt
  have z2 := x2.toNat_lt
  have z3 := x3.toNat_lt
  unfold TakePost
  rw [hp]
  clear hp hd
  go_enter Tryd.func29, Tryd.ntmps29
  go_wp2
  refine wp_loop_rounds 3 ?_
  rw [rounds_succ]
  go_wp2
  rw [rounds_succ]
  go_wp2
  rw [rounds_succ]
  go_wp2_with (first | (go_at_call 33; refine (is_yes _ _ (isR_yes (by omega))).mono ?_; rintro e w' ⟨rfl, rfl⟩) | (go_at_call 45; refine (wide_3 _ _ (by omega)).mono ?_; rintro e w' ⟨rfl, rfl⟩))
  go_ret2
  exact ⟨ret2_int (by omega) (by omega), rfl⟩
end Go.Proofs.YtdhiipnnmonkoaaDoor
