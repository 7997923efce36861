/- BencLong's second half: it returns true where the first number is odd. Conditions: Go's table of powers of ten lies as start-up lays it. -/
import Derived.Test.YtcgcocnbjijdaaaDoorLongA
set_option linter.unusedVariables false
set_option linter.unusedSimpArgs false
namespace Go.Proofs.YtcgcocnbjijdaaaDoor
open Go Go.RowKit

theorem i64_and1 (n : Int) : bits .and .i64 n 1 = n % 2 := by
  have hm : (BitVec.ofInt 64 1).toNat = 2 ^ 1 - 1 := by decide
  have key : (BitVec.ofInt 64 n &&& BitVec.ofInt 64 1).toNat = (n % ((2 ^ 64 : Nat) : Int)).toNat % 2 ^ 1 := by
    rw [BitVec.toNat_and, BitVec.toNat_ofInt, hm, Nat.and_two_pow_sub_one_eq_mod]
  show IntKind.i64.wrap ((BitVec.ofInt 64 n &&& BitVec.ofInt 64 1).toNat : Nat) = n % 2
  rw [key, IntKind.wrap_i64]
  omega
theorem i64_and3 (n : Int) : bits .and .i64 n 3 = n % 4 := by
  have hm : (BitVec.ofInt 64 3).toNat = 2 ^ 2 - 1 := by decide
  have key : (BitVec.ofInt 64 n &&& BitVec.ofInt 64 3).toNat = (n % ((2 ^ 64 : Nat) : Int)).toNat % 2 ^ 2 := by
    rw [BitVec.toNat_and, BitVec.toNat_ofInt, hm, Nat.and_two_pow_sub_one_eq_mod]
  show IntKind.i64.wrap ((BitVec.ofInt 64 n &&& BitVec.ofInt 64 3).toNat : Nat) = n % 4
  rw [key, IntKind.wrap_i64]
  omega
def chS (j : Nat) : ByteArray := ⟨(List.replicate j (108 : UInt8) ++ List.replicate j (101 : UInt8)).toArray⟩
theorem chS_size (j : Nat) : (chS j).size = 2 * j := by
  show (List.replicate j (108 : UInt8) ++ List.replicate j 101).toArray.size = 2 * j
  simp
  omega
theorem chS_next (j : Nat) : (⟨#[108]⟩ : ByteArray) ++ chS j ++ ⟨#[101]⟩ = chS (j + 1) := by
  refine ByteArray.ext (Array.toList_inj.1 ?_)
  rw [ByteArray.data_append, ByteArray.data_append]
  have e : List.replicate j (101 : UInt8) ++ [101] = 101 :: List.replicate j 101 := by rw [← List.replicate_succ, ← List.replicate_succ']
  simp [chS, List.replicate_succ, e]
def longRes (k : Nat) : Except Int (T × Nat) := if 2 < k then .error 22 else .ok (chainT (5 + k), 2 * (6 + k))
theorem long_res (k : Nat) (hk : k ≤ 3) : takeRes (chS (6 + k)).data.toList = longRes k := by
  unfold longRes
  split
  · obtain rfl : k = 3 := by omega
    exact chain_no
  · have := chain_take (5 + k) (by omega)
    rw [show 5 + k + 1 = 6 + k by omega] at this
    exact this
set_option maxRecDepth 100000 in
set_option maxHeartbeats 16000000 in
theorem long_odd (which more : Int) (w : World) (hT : Tabs w w.heap.size) (ho : ¬ which % 2 = 0) : Calls Tryd.prog 9 #[.int .i64 which, .int .i64 more] w (Gives (.bool true) w) := by
  have h1 : bits .and .i64 which 1 = 1 := by rw [i64_and1]; omega
  obtain ⟨k, hk⟩ : ∃ k : Nat, more % 4 = (k : Int) := ⟨(more % 4).toNat, by omega⟩
  have hk3 : k ≤ 3 := by omega
  have h3 : bits .and .i64 more 3 = (k : Int) := by rw [i64_and3]; exact hk
  have HT := Lib.hid hT
  clear hk ho hT
  go_enter Tryd.func9, Tryd.ntmps9
  go_wp2_with fail
  go_loopw [12, 13] (fun sv i wr => ∃ j : Nat, j ≤ 6 + k ∧ i = .int .i64 (j : Int) ∧ sv = .string (chS j) ∧ w = wr) (fun _ i _ => 6 + k - (intOf i).toNat)
  case atStart => exact ⟨0, by omega, rfl, rfl, rfl⟩
  case round =>
    obtain ⟨j, hj, rfl, rfl, rfl⟩ := hrel
    by_cases hlt : j < 6 + k
    · have hltz : (j : Int) < 6 + (k : Int) := by omega
      have hsz := chS_size j
      have hnx := Lib.hid (chS_next j)
      generalize hS : chS j = S at *
      have hsz2 : S.size ≤ 18 := by omega
      clear hS hsz
      go_wp2_with fail
      refine ⟨⟨j + 1, by omega, by go_num, by rw [hnx.out], by trivial⟩, by simp [intOf]; omega⟩
    · have hltz : ¬ (j : Int) < 6 + (k : Int) := by omega
      obtain rfl : j = 6 + k := by omega
      have hsz := chS_size (6 + k)
      have h14 := fun W => take_any (chS (6 + k)) (by omega) W
      rw [long_res k hk3] at h14
      generalize hS : chS (6 + k) = S at *
      clear hS
      by_cases hk2 : 2 < k
      · have hk2z : (2 : Int) < (k : Int) := by omega
        unfold longRes at h14
        rw [if_pos hk2] at h14
        have H14 := Lib.hid h14
        clear h14 hsz
        go_wp2_with fail
        refine (H14.out _).mono ?_
        rintro e w1 ⟨rfl, hb1⟩
        unfold zeroA
        go_wp2_with fail
        have hb2 := hb1.alloc hb1.size (.cells #[.int .i64 0, .int .i64 0, .string ⟨#[]⟩, .slice none 0 0] 24)
        refine (awake_any w.heap.size _ (HT.out.on hb2) hb2.size).mono ?_
        rintro e w2 ⟨rfl, hb3⟩
        go_wp2_with fail
        go_ret
        exact ⟨rfl, below_then hb2 hb3⟩
      · have hk2z : ¬ (2 : Int) < (k : Int) := by omega
        unfold longRes at h14
        rw [if_neg hk2, ← hsz] at h14
        generalize chainT (5 + k) = t at *
        have h15 : ∀ W, Calls Tryd.prog 14 #[.string S] W (TOut (t, S.size, 0) W) := fun W => (h14 W).mono (fun _ _ h => by
          obtain ⟨v, he, hr, hb⟩ := h
          obtain ⟨A, c, rfl, _⟩ := hr.rd
          exact ⟨A, c, he, hr.any, hb⟩)
        have H15 := Lib.hid h15
        clear h14 h15 hsz
        go_wp2_with fail
        refine (H15.out _).mono ?_
        rintro e w1 ⟨A, c, rfl, hr, hb1⟩
        dsimp only at hr ⊢
        clear hr
        go_wp2_with fail
        have hb2 := hb1.alloc hb1.size (.cells #[.int .i64 t.k, .int .i64 t.n, .string t.s, .slice A t.l.length c] 24)
        refine (awake_any w.heap.size _ (HT.out.on hb2) hb2.size).mono ?_
        rintro e w2 ⟨rfl, hb3⟩
        go_wp2_with fail
        go_ret
        exact ⟨rfl, below_then hb2 hb3⟩
end Go.Proofs.YtcgcocnbjijdaaaDoor
