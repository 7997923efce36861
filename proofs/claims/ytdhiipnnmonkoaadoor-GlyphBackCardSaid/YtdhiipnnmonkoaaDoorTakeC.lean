/- What take returns of runes of four bytes. Conditions: at least one byte. -/
import Derived.Test.YtdhiipnnmonkoaaDoorTakeA
set_option linter.unusedVariables false
namespace Go.Proofs.YtdhiipnnmonkoaaDoor
open Go Go.RowKit Go.Lib

set_option maxRecDepth 100000 in
set_option maxHeartbeats 1000000 in
theorem t6a (s : ByteArray) (w : World) (hs : s.size ≤ 9223372036854775807) (x0 x1 x2 x3 : UInt8) (g0 : 0 < s.size) (e0 : s[0] = x0) (h0 : 240 ≤ x0.toNat) (h1 : x0.toNat < 248) (h2 : s.size < 4) :
    Calls Tryd.prog 29 #[.string s] w (TakePost s.size x0.toNat x1.toNat x2.toNat x3.toNat w) := by
  have hd : decodeN s.size x0.toNat x1.toNat x2.toNat x3.toNat = (65533, 1) := by
    unfold decodeN
    repeat' split
    all_goals first | rfl | (exfalso; omega)
  have hp : takeN s.size x0.toNat x1.toNat x2.toNat x3.toNat = (0, 0) := takeN_bad hd
  have z0 := x0.toNat_lt
  have z1 := x1.toNat_lt
  have z2 := x2.toNat_lt
  have z3 := x3.toNat_lt
  unfold TakePost
  rw [hp]
  clear hp hd
  go_enter Tryd.func29, Tryd.ntmps29
  go_wp2
  go_ret2
  exact ⟨ret2_int (by omega) (by omega), rfl⟩
set_option maxRecDepth 100000 in
set_option maxHeartbeats 1000000 in
theorem t6b (s : ByteArray) (w : World) (hs : s.size ≤ 9223372036854775807) (x0 x1 x2 x3 : UInt8) (g0 : 0 < s.size) (e0 : s[0] = x0) (g1 : 1 < s.size) (e1 : s[1] = x1) (g2 : 2 < s.size) (e2 : s[2] = x2) (g3 : 3 < s.size) (e3 : s[3] = x3) (h0 : 240 ≤ x0.toNat) (h1 : x0.toNat < 248) (h2 : x1.toNat < 128) :
    Calls Tryd.prog 29 #[.string s] w (TakePost s.size x0.toNat x1.toNat x2.toNat x3.toNat w) := by
  have hd : decodeN s.size x0.toNat x1.toNat x2.toNat x3.toNat = (65533, 1) := by
    unfold decodeN
    repeat' split
    all_goals first | rfl | (exfalso; omega)
  have hp : takeN s.size x0.toNat x1.toNat x2.toNat x3.toNat = (0, 0) := takeN_bad hd
  have z0 := x0.toNat_lt
  have z1 := x1.toNat_lt
  have z2 := x2.toNat_lt
  have z3 := x3.toNat_lt
  unfold TakePost
  rw [hp]
  clear hp hd
  go_enter Tryd.func29, Tryd.ntmps29
  go_wp2
  refine wp_loop_rounds 1 ?_
  rw [rounds_succ]
  go_wp2
  go_ret2
  exact ⟨ret2_int (by omega) (by omega), rfl⟩
set_option maxRecDepth 100000 in
set_option maxHeartbeats 1000000 in
theorem t6c (s : ByteArray) (w : World) (hs : s.size ≤ 9223372036854775807) (x0 x1 x2 x3 : UInt8) (g0 : 0 < s.size) (e0 : s[0] = x0) (g1 : 1 < s.size) (e1 : s[1] = x1) (g2 : 2 < s.size) (e2 : s[2] = x2) (g3 : 3 < s.size) (e3 : s[3] = x3) (h0 : 240 ≤ x0.toNat) (h1 : x0.toNat < 248) (h2 : 192 ≤ x1.toNat) :
    Calls Tryd.prog 29 #[.string s] w (TakePost s.size x0.toNat x1.toNat x2.toNat x3.toNat w) := by
  have hd : decodeN s.size x0.toNat x1.toNat x2.toNat x3.toNat = (65533, 1) := by
    unfold decodeN
    repeat' split
    all_goals first | rfl | (exfalso; omega)
  have hp : takeN s.size x0.toNat x1.toNat x2.toNat x3.toNat = (0, 0) := takeN_bad hd
  have z0 := x0.toNat_lt
  have z1 := x1.toNat_lt
  have z2 := x2.toNat_lt
  have z3 := x3.toNat_lt
  unfold TakePost
  rw [hp]
  clear hp hd
  go_enter Tryd.func29, Tryd.ntmps29
  go_wp2
  refine wp_loop_rounds 1 ?_
  rw [rounds_succ]
  go_wp2
  go_ret2
  exact ⟨ret2_int (by omega) (by omega), rfl⟩
set_option maxRecDepth 100000 in
set_option maxHeartbeats 1000000 in
theorem t6d (s : ByteArray) (w : World) (hs : s.size ≤ 9223372036854775807) (x0 x1 x2 x3 : UInt8) (g0 : 0 < s.size) (e0 : s[0] = x0) (g1 : 1 < s.size) (e1 : s[1] = x1) (g2 : 2 < s.size) (e2 : s[2] = x2) (g3 : 3 < s.size) (e3 : s[3] = x3) (h0 : 240 ≤ x0.toNat) (h1 : x0.toNat < 248) (h2 : 128 ≤ x1.toNat) (h3 : x1.toNat < 192) (h4 : x2.toNat < 128) :
    Calls Tryd.prog 29 #[.string s] w (TakePost s.size x0.toNat x1.toNat x2.toNat x3.toNat w) := by
  have hd : decodeN s.size x0.toNat x1.toNat x2.toNat x3.toNat = (65533, 1) := by
    unfold decodeN
    repeat' split
    all_goals first | rfl | (exfalso; omega)
  have hp : takeN s.size x0.toNat x1.toNat x2.toNat x3.toNat = (0, 0) := takeN_bad hd
  have z0 := x0.toNat_lt
  have z1 := x1.toNat_lt
  have z2 := x2.toNat_lt
  have z3 := x3.toNat_lt
  unfold TakePost
  rw [hp]
  clear hp hd
  go_enter Tryd.func29, Tryd.ntmps29
  go_wp2
  refine wp_loop_rounds 2 ?_
  rw [rounds_succ]
  go_wp2
  rw [rounds_succ]
  go_wp2
  go_ret2
  exact ⟨ret2_int (by omega) (by omega), rfl⟩
set_option maxRecDepth 100000 in
set_option maxHeartbeats 1000000 in
theorem t6e (s : ByteArray) (w : World) (hs : s.size ≤ 9223372036854775807) (x0 x1 x2 x3 : UInt8) (g0 : 0 < s.size) (e0 : s[0] = x0) (g1 : 1 < s.size) (e1 : s[1] = x1) (g2 : 2 < s.size) (e2 : s[2] = x2) (g3 : 3 < s.size) (e3 : s[3] = x3) (h0 : 240 ≤ x0.toNat) (h1 : x0.toNat < 248) (h2 : 128 ≤ x1.toNat) (h3 : x1.toNat < 192) (h4 : 192 ≤ x2.toNat) :
    Calls Tryd.prog 29 #[.string s] w (TakePost s.size x0.toNat x1.toNat x2.toNat x3.toNat w) := by
  have hd : decodeN s.size x0.toNat x1.toNat x2.toNat x3.toNat = (65533, 1) := by
    unfold decodeN
    repeat' split
    all_goals first | rfl | (exfalso; omega)
  have hp : takeN s.size x0.toNat x1.toNat x2.toNat x3.toNat = (0, 0) := takeN_bad hd
  have z0 := x0.toNat_lt
  have z1 := x1.toNat_lt
  have z2 := x2.toNat_lt
  have z3 := x3.toNat_lt
  unfold TakePost
  rw [hp]
  clear hp hd
  go_enter Tryd.func29, Tryd.ntmps29
  go_wp2
  refine wp_loop_rounds 2 ?_
  rw [rounds_succ]
  go_wp2
  rw [rounds_succ]
  go_wp2
  go_ret2
  exact ⟨ret2_int (by omega) (by omega), rfl⟩
set_option maxRecDepth 100000 in
set_option maxHeartbeats 1000000 in
theorem t6f (s : ByteArray) (w : World) (hs : s.size ≤ 9223372036854775807) (x0 x1 x2 x3 : UInt8) (g0 : 0 < s.size) (e0 : s[0] = x0) (g1 : 1 < s.size) (e1 : s[1] = x1) (g2 : 2 < s.size) (e2 : s[2] = x2) (g3 : 3 < s.size) (e3 : s[3] = x3) (h0 : 240 ≤ x0.toNat) (h1 : x0.toNat < 248) (h2 : 128 ≤ x1.toNat) (h3 : x1.toNat < 192) (h4 : 128 ≤ x2.toNat) (h5 : x2.toNat < 192) (h6 : x3.toNat < 128) :
    Calls Tryd.prog 29 #[.string s] w (TakePost s.size x0.toNat x1.toNat x2.toNat x3.toNat w) := by
  have hd : decodeN s.size x0.toNat x1.toNat x2.toNat x3.toNat = (65533, 1) := by
    unfold decodeN
    repeat' split
    all_goals first | rfl | (exfalso; omega)
  have hp : takeN s.size x0.toNat x1.toNat x2.toNat x3.toNat = (0, 0) := takeN_bad hd
  have z0 := x0.toNat_lt
  have z1 := x1.toNat_lt
  have z2 := x2.toNat_lt
  have z3 := x3.toNat_lt
  unfold TakePost
  rw [hp]
  clear hp hd
  go_enter Tryd.func29, Tryd.ntmps29
  go_wp2
  refine wp_loop_rounds 3 ?_
  rw [rounds_succ]
  go_wp2
  rw [rounds_succ]
  go_wp2
  rw [rounds_succ]
  go_wp2
  go_ret2
  exact ⟨ret2_int (by omega) (by omega), rfl⟩
set_option maxRecDepth 100000 in
set_option maxHeartbeats 1000000 in
theorem t6g (s : ByteArray) (w : World) (hs : s.size ≤ 9223372036854775807) (x0 x1 x2 x3 : UInt8) (g0 : 0 < s.size) (e0 : s[0] = x0) (g1 : 1 < s.size) (e1 : s[1] = x1) (g2 : 2 < s.size) (e2 : s[2] = x2) (g3 : 3 < s.size) (e3 : s[3] = x3) (h0 : 240 ≤ x0.toNat) (h1 : x0.toNat < 248) (h2 : 128 ≤ x1.toNat) (h3 : x1.toNat < 192) (h4 : 128 ≤ x2.toNat) (h5 : x2.toNat < 192) (h6 : 192 ≤ x3.toNat) :
    Calls Tryd.prog 29 #[.string s] w (TakePost s.size x0.toNat x1.toNat x2.toNat x3.toNat w) := by
  have hd : decodeN s.size x0.toNat x1.toNat x2.toNat x3.toNat = (65533, 1) := by
    unfold decodeN
    repeat' split
    all_goals first | rfl | (exfalso; omega)
  have hp : takeN s.size x0.toNat x1.toNat x2.toNat x3.toNat = (0, 0) := takeN_bad hd
  have z0 := x0.toNat_lt
  have z1 := x1.toNat_lt
  have z2 := x2.toNat_lt
  have z3 := x3.toNat_lt
  unfold TakePost
  rw [hp]
  clear hp hd
  go_enter Tryd.func29, Tryd.ntmps29
  go_wp2
  refine wp_loop_rounds 3 ?_
  rw [rounds_succ]
  go_wp2
  rw [rounds_succ]
  go_wp2
  rw [rounds_succ]
  go_wp2
  go_ret2
  exact ⟨ret2_int (by omega) (by omega), rfl⟩
set_option maxRecDepth 100000 in
set_option maxHeartbeats 1000000 in
theorem t6h1 (s : ByteArray) (w : World) (hs : s.size ≤ 9223372036854775807) (x0 x1 x2 x3 : UInt8) (g0 : 0 < s.size) (e0 : s[0] = x0) (g1 : 1 < s.size) (e1 : s[1] = x1) (g2 : 2 < s.size) (e2 : s[2] = x2) (g3 : 3 < s.size) (e3 : s[3] = x3) (h0 : 240 ≤ x0.toNat) (h1 : x0.toNat < 248) (h2 : 128 ≤ x1.toNat) (h3 : x1.toNat < 192) (h4 : 128 ≤ x2.toNat) (h5 : x2.toNat < 192) (h6 : 128 ≤ x3.toNat) (h7 : x3.toNat < 192) (h8 : x0.toNat % 8 * 262144 + x1.toNat % 64 * 4096 + x2.toNat % 64 * 64 + x3.toNat % 64 ≤ 127) :
    Calls Tryd.prog 29 #[.string s] w (TakePost s.size x0.toNat x1.toNat x2.toNat x3.toNat w) := by
  have hd : decodeN s.size x0.toNat x1.toNat x2.toNat x3.toNat = (65533, 1) := by
    unfold decodeN
    repeat' split
    all_goals first | rfl | (exfalso; omega)
  have hp : takeN s.size x0.toNat x1.toNat x2.toNat x3.toNat = (0, 0) := takeN_bad hd
  have z0 := x0.toNat_lt
  have z1 := x1.toNat_lt
  have z2 := x2.toNat_lt
  have z3 := x3.toNat_lt
  unfold TakePost
  rw [hp]
  clear hp hd
  go_enter Tryd.func29, Tryd.ntmps29
  go_wp2
  refine wp_loop_rounds 4 ?_
  rw [rounds_succ]
  go_wp2
  rw [rounds_succ]
  go_wp2
  rw [rounds_succ]
  go_wp2
  rw [rounds_succ]
  go_wp2_with (first | (go_at_call 33; refine (is_yes _ _ (isR_yes (by omega))).mono ?_; rintro e w' ⟨rfl, rfl⟩) | (go_at_call 45; refine (wide_1 _ _ (by omega)).mono ?_; rintro e w' ⟨rfl, rfl⟩))
  go_ret2
  exact ⟨ret2_int (by omega) (by omega), rfl⟩
set_option maxRecDepth 100000 in
set_option maxHeartbeats 1000000 in
theorem t6h2 (s : ByteArray) (w : World) (hs : s.size ≤ 9223372036854775807) (x0 x1 x2 x3 : UInt8) (g0 : 0 < s.size) (e0 : s[0] = x0) (g1 : 1 < s.size) (e1 : s[1] = x1) (g2 : 2 < s.size) (e2 : s[2] = x2) (g3 : 3 < s.size) (e3 : s[3] = x3) (h0 : 240 ≤ x0.toNat) (h1 : x0.toNat < 248) (h2 : 128 ≤ x1.toNat) (h3 : x1.toNat < 192) (h4 : 128 ≤ x2.toNat) (h5 : x2.toNat < 192) (h6 : 128 ≤ x3.toNat) (h7 : x3.toNat < 192) (h8 : 127 < x0.toNat % 8 * 262144 + x1.toNat % 64 * 4096 + x2.toNat % 64 * 64 + x3.toNat % 64) (h9 : x0.toNat % 8 * 262144 + x1.toNat % 64 * 4096 + x2.toNat % 64 * 64 + x3.toNat % 64 ≤ 2047) :
    Calls Tryd.prog 29 #[.string s] w (TakePost s.size x0.toNat x1.toNat x2.toNat x3.toNat w) := by
  have hd : decodeN s.size x0.toNat x1.toNat x2.toNat x3.toNat = (65533, 1) := by
    unfold decodeN
    repeat' split
    all_goals first | rfl | (exfalso; omega)
  have hp : takeN s.size x0.toNat x1.toNat x2.toNat x3.toNat = (0, 0) := takeN_bad hd
  have z0 := x0.toNat_lt
  have z1 := x1.toNat_lt
  have z2 := x2.toNat_lt
  have z3 := x3.toNat_lt
  unfold TakePost
  rw [hp]
  clear hp hd
  go_enter Tryd.func29, Tryd.ntmps29
  go_wp2
  refine wp_loop_rounds 4 ?_
  rw [rounds_succ]
  go_wp2
  rw [rounds_succ]
  go_wp2
  rw [rounds_succ]
  go_wp2
  rw [rounds_succ]
  go_wp2_with (first | (go_at_call 33; refine (is_yes _ _ (isR_yes (by omega))).mono ?_; rintro e w' ⟨rfl, rfl⟩) | (go_at_call 45; refine (wide_2 _ _ (by omega)).mono ?_; rintro e w' ⟨rfl, rfl⟩))
  go_ret2
  exact ⟨ret2_int (by omega) (by omega), rfl⟩
set_option maxRecDepth 100000 in
set_option maxHeartbeats 1000000 in
theorem t6h3 (s : ByteArray) (w : World) (hs : s.size ≤ 9223372036854775807) (x0 x1 x2 x3 : UInt8) (g0 : 0 < s.size) (e0 : s[0] = x0) (g1 : 1 < s.size) (e1 : s[1] = x1) (g2 : 2 < s.size) (e2 : s[2] = x2) (g3 : 3 < s.size) (e3 : s[3] = x3) (h0 : 240 ≤ x0.toNat) (h1 : x0.toNat < 248) (h2 : 128 ≤ x1.toNat) (h3 : x1.toNat < 192) (h4 : 128 ≤ x2.toNat) (h5 : x2.toNat < 192) (h6 : 128 ≤ x3.toNat) (h7 : x3.toNat < 192) (h8 : 2047 < x0.toNat % 8 * 262144 + x1.toNat % 64 * 4096 + x2.toNat % 64 * 64 + x3.toNat % 64) (h9 : x0.toNat % 8 * 262144 + x1.toNat % 64 * 4096 + x2.toNat % 64 * 64 + x3.toNat % 64 < 55296) :
    Calls Tryd.prog 29 #[.string s] w (TakePost s.size x0.toNat x1.toNat x2.toNat x3.toNat w) := by
  have hd : decodeN s.size x0.toNat x1.toNat x2.toNat x3.toNat = (65533, 1) := by
    unfold decodeN
    repeat' split
    all_goals first | rfl | (exfalso; omega)
  have hp : takeN s.size x0.toNat x1.toNat x2.toNat x3.toNat = (0, 0) := takeN_bad hd
  have z0 := x0.toNat_lt
  have z1 := x1.toNat_lt
  have z2 := x2.toNat_lt
  have z3 := x3.toNat_lt
  unfold TakePost
  rw [hp]
  clear hp hd
  go_enter Tryd.func29, Tryd.ntmps29
  go_wp2
  refine wp_loop_rounds 4 ?_
  rw [rounds_succ]
  go_wp2
  rw [rounds_succ]
  go_wp2
  rw [rounds_succ]
  go_wp2
  rw [rounds_succ]
  go_wp2_with (first | (go_at_call 33; refine (is_yes _ _ (isR_yes (by omega))).mono ?_; rintro e w' ⟨rfl, rfl⟩) | (go_at_call 45; refine (wide_3 _ _ (by omega)).mono ?_; rintro e w' ⟨rfl, rfl⟩))
  go_ret2
  exact ⟨ret2_int (by omega) (by omega), rfl⟩
set_option maxRecDepth 100000 in
set_option maxHeartbeats 1000000 in
theorem t6h4 (s : ByteArray) (w : World) (hs : s.size ≤ 9223372036854775807) (x0 x1 x2 x3 : UInt8) (g0 : 0 < s.size) (e0 : s[0] = x0) (g1 : 1 < s.size) (e1 : s[1] = x1) (g2 : 2 < s.size) (e2 : s[2] = x2) (g3 : 3 < s.size) (e3 : s[3] = x3) (h0 : 240 ≤ x0.toNat) (h1 : x0.toNat < 248) (h2 : 128 ≤ x1.toNat) (h3 : x1.toNat < 192) (h4 : 128 ≤ x2.toNat) (h5 : x2.toNat < 192) (h6 : 128 ≤ x3.toNat) (h7 : x3.toNat < 192) (h8 : 55296 ≤ x0.toNat % 8 * 262144 + x1.toNat % 64 * 4096 + x2.toNat % 64 * 64 + x3.toNat % 64) (h9 : x0.toNat % 8 * 262144 + x1.toNat % 64 * 4096 + x2.toNat % 64 * 64 + x3.toNat % 64 ≤ 57343) :
    Calls Tryd.prog 29 #[.string s] w (TakePost s.size x0.toNat x1.toNat x2.toNat x3.toNat w) := by
  have hd : decodeN s.size x0.toNat x1.toNat x2.toNat x3.toNat = (65533, 1) := by
    unfold decodeN
    repeat' split
    all_goals first | rfl | (exfalso; omega)
  have hp : takeN s.size x0.toNat x1.toNat x2.toNat x3.toNat = (0, 0) := takeN_bad hd
  have z0 := x0.toNat_lt
  have z1 := x1.toNat_lt
  have z2 := x2.toNat_lt
  have z3 := x3.toNat_lt
  unfold TakePost
  rw [hp]
  clear hp hd
  go_enter Tryd.func29, Tryd.ntmps29
  go_wp2
  refine wp_loop_rounds 4 ?_
  rw [rounds_succ]
  go_wp2
  rw [rounds_succ]
  go_wp2
  rw [rounds_succ]
  go_wp2
  rw [rounds_succ]
  go_wp2_with (go_at_call 33; refine (is_no _ _ (isR_no (by omega))).mono ?_; rintro e w' ⟨rfl, rfl⟩)
  go_ret2
  exact ⟨ret2_int (by omega) (by omega), rfl⟩
set_option maxRecDepth 100000 in
set_option maxHeartbeats 1000000 in
theorem t6h5 (s : ByteArray) (w : World) (hs : s.size ≤ 9223372036854775807) (x0 x1 x2 x3 : UInt8) (g0 : 0 < s.size) (e0 : s[0] = x0) (g1 : 1 < s.size) (e1 : s[1] = x1) (g2 : 2 < s.size) (e2 : s[2] = x2) (g3 : 3 < s.size) (e3 : s[3] = x3) (h0 : 240 ≤ x0.toNat) (h1 : x0.toNat < 248) (h2 : 128 ≤ x1.toNat) (h3 : x1.toNat < 192) (h4 : 128 ≤ x2.toNat) (h5 : x2.toNat < 192) (h6 : 128 ≤ x3.toNat) (h7 : x3.toNat < 192) (h8 : 57343 < x0.toNat % 8 * 262144 + x1.toNat % 64 * 4096 + x2.toNat % 64 * 64 + x3.toNat % 64) (h9 : x0.toNat % 8 * 262144 + x1.toNat % 64 * 4096 + x2.toNat % 64 * 64 + x3.toNat % 64 ≤ 65535) :
    Calls Tryd.prog 29 #[.string s] w (TakePost s.size x0.toNat x1.toNat x2.toNat x3.toNat w) := by
  have hd : decodeN s.size x0.toNat x1.toNat x2.toNat x3.toNat = (65533, 1) := by
    unfold decodeN
    repeat' split
    all_goals first | rfl | (exfalso; omega)
  have hp : takeN s.size x0.toNat x1.toNat x2.toNat x3.toNat = (0, 0) := takeN_bad hd
  have z0 := x0.toNat_lt
  have z1 := x1.toNat_lt
  have z2 := x2.toNat_lt
  have z3 := x3.toNat_lt
  unfold TakePost
  rw [hp]
  clear hp hd
  go_enter Tryd.func29, Tryd.ntmps29
  go_wp2
  refine wp_loop_rounds 4 ?_
  rw [rounds_succ]
  go_wp2
  rw [rounds_succ]
  go_wp2
  rw [rounds_succ]
  go_wp2
  rw [rounds_succ]
  go_wp2_with (first | (go_at_call 33; refine (is_yes _ _ (isR_yes (by omega))).mono ?_; rintro e w' ⟨rfl, rfl⟩) | (go_at_call 45; refine (wide_3 _ _ (by omega)).mono ?_; rintro e w' ⟨rfl, rfl⟩))
  go_ret2
  exact ⟨ret2_int (by omega) (by omega), rfl⟩
set_option maxRecDepth 100000 in
set_option maxHeartbeats 1000000 in
theorem t6i (s : ByteArray) (w : World) (hs : s.size ≤ 9223372036854775807) (x0 x1 x2 x3 : UInt8) (g0 : 0 < s.size) (e0 : s[0] = x0) (g1 : 1 < s.size) (e1 : s[1] = x1) (g2 : 2 < s.size) (e2 : s[2] = x2) (g3 : 3 < s.size) (e3 : s[3] = x3) (h0 : 240 ≤ x0.toNat) (h1 : x0.toNat < 248) (h2 : 128 ≤ x1.toNat) (h3 : x1.toNat < 192) (h4 : 128 ≤ x2.toNat) (h5 : x2.toNat < 192) (h6 : 128 ≤ x3.toNat) (h7 : x3.toNat < 192) (h8 : 1114111 < x0.toNat % 8 * 262144 + x1.toNat % 64 * 4096 + x2.toNat % 64 * 64 + x3.toNat % 64) :
    Calls Tryd.prog 29 #[.string s] w (TakePost s.size x0.toNat x1.toNat x2.toNat x3.toNat w) := by
  have hd : decodeN s.size x0.toNat x1.toNat x2.toNat x3.toNat = (65533, 1) := by
    unfold decodeN
    repeat' split
    all_goals first | rfl | (exfalso; omega)
  have hp : takeN s.size x0.toNat x1.toNat x2.toNat x3.toNat = (0, 0) := takeN_bad hd
  have z0 := x0.toNat_lt
  have z1 := x1.toNat_lt
  have z2 := x2.toNat_lt
  have z3 := x3.toNat_lt
  unfold TakePost
  rw [hp]
  clear hp hd
  go_enter Tryd.func29, Tryd.ntmps29
  go_wp2
  refine wp_loop_rounds 4 ?_
  rw [rounds_succ]
  go_wp2
  rw [rounds_succ]
  go_wp2
  rw [rounds_succ]
  go_wp2
  rw [rounds_succ]
  go_wp2_with (go_at_call 33; refine (is_no _ _ (isR_no (by omega))).mono ?_; rintro e w' ⟨rfl, rfl⟩)
  go_ret2
  exact ⟨ret2_int (by omega) (by omega), rfl⟩
set_option maxRecDepth 100000 in
set_option maxHeartbeats 1000000 in
theorem t6j (s : ByteArray) (w : World) (hs : s.size ≤ 9223372036854775807) (x0 x1 x2 x3 : UInt8) (g0 : 0 < s.size) (e0 : s[0] = x0) (g1 : 1 < s.size) (e1 : s[1] = x1) (g2 : 2 < s.size) (e2 : s[2] = x2) (g3 : 3 < s.size) (e3 : s[3] = x3) (h0 : 240 ≤ x0.toNat) (h1 : x0.toNat < 248) (h2 : 128 ≤ x1.toNat) (h3 : x1.toNat < 192) (h4 : 128 ≤ x2.toNat) (h5 : x2.toNat < 192) (h6 : 128 ≤ x3.toNat) (h7 : x3.toNat < 192) (h8 : 65535 < x0.toNat % 8 * 262144 + x1.toNat % 64 * 4096 + x2.toNat % 64 * 64 + x3.toNat % 64) (h9 : x0.toNat % 8 * 262144 + x1.toNat % 64 * 4096 + x2.toNat % 64 * 64 + x3.toNat % 64 ≤ 1114111) :
    Calls Tryd.prog 29 #[.string s] w (TakePost s.size x0.toNat x1.toNat x2.toNat x3.toNat w) := by
  have hd : decodeN s.size x0.toNat x1.toNat x2.toNat x3.toNat = (x0.toNat % 8 * 262144 + x1.toNat % 64 * 4096 + x2.toNat % 64 * 64 + x3.toNat % 64, 4) := by
    unfold decodeN
    repeat' split
    all_goals first | rfl | (exfalso; omega)
  have hp : takeN s.size x0.toNat x1.toNat x2.toNat x3.toNat = (((x0.toNat % 8 * 262144 + x1.toNat % 64 * 4096 + x2.toNat % 64 * 64 + x3.toNat % 64 : Nat) : Int), ((4 : Nat) : Int)) := takeN_ok hd (by omega)
  have z0 := x0.toNat_lt
  have z1 := x1.toNat_lt
  have z2 := x2.toNat_lt
  have z3 := x3.toNat_lt
  unfold TakePost
  rw [hp]
  clear hp hd
  go_enter Tryd.func29, Tryd.ntmps29
  go_wp2
  refine wp_loop_rounds 4 ?_
  rw [rounds_succ]
  go_wp2
  rw [rounds_succ]
  go_wp2
  rw [rounds_succ]
  go_wp2
  rw [rounds_succ]
  go_wp2_with (first | (go_at_call 33; refine (is_yes _ _ (isR_yes (by omega))).mono ?_; rintro e w' ⟨rfl, rfl⟩) | (go_at_call 45; refine (wide_4 _ _ (by omega)).mono ?_; rintro e w' ⟨rfl, rfl⟩))
  go_ret2
  exact ⟨ret2_int (by omega) (by omega), rfl⟩
end Go.Proofs.YtdhiipnnmonkoaaDoor
