/- What the small functions of package block return: given, Blocks, Loose, has, share, tear. Conditions: a disk that New gave, in memory. -/
import Derived.Test.YtkehojgiappiiaaGreatDoorMem
import Derived.LaidEqlPtr
set_option linter.unusedVariables false
set_option linter.unusedSimpArgs false
namespace Go.Proofs.YtkehojgiappiiaaGreatDoor
open Go Go.RowKit
section
variable {w w' : World} {F : Nat → Prop} {d bn bs N : Nat} {v : Value} {nw su : List ByteArray} {L : List (Nat × Nat × ByteArray)}
theorem disk_row : (Tryz.prog.info? 69).map (fun i => i.size) = some 4 := by kernel_rfl
theorem eql_self (d : Nat) (w : World) : (binOp .eql 26 (.pointer (some ⟨d, 0, none⟩)) (.pointer (some ⟨d, 0, none⟩))).run Tryz.prog w = .ok (.bool true) w := by
  obtain ⟨i, hi, _⟩ := Option.map_eq_some_iff.1 disk_row
  exact run_eql_ptr_same w _ Tryz.underlying26 hi
theorem given_any (h : DkW w F d bn bs N v nw su L) : Calls Tryz.prog 33 #[.pointer (some ⟨d, 0, none⟩)] w fun e w' => e = .returned (.bool true) ∧ ∃ q, w' = w.drewN q := by
  have hc := h.c0
  have hl := h.lt d h.fd
  have he := eql_self d w
  clear h
  go_enter Tryz.func33, Tryz.ntmps33
  go_wp2
  go_ret
  exact ⟨rfl, 0, rfl⟩
theorem blocks_any (h : DkW w F d bn bs N v nw su L) : Calls Tryz.prog 39 #[.pointer (some ⟨d, 0, none⟩)] w fun e w' => e = .returned (.int .i64 (N : Int)) ∧ ∃ q, w' = w.drewN q := by
  have hg := given_any h
  go_enter Tryz.func39, Tryz.ntmps39
  go_wp2_with fail
  refine hg.mono ?_
  rintro e w1 ⟨rfl, q, rfl⟩
  have hc := (h.drewN q).c1
  have hl := (h.drewN q).lt d h.fd
  clear h hg
  go_wp2
  go_ret
  exact ⟨rfl, _, rfl⟩
theorem loose_any (h : DkW w F d bn bs N v nw su L) : Calls Tryz.prog 44 #[.pointer (some ⟨d, 0, none⟩)] w fun e w' => e = .returned (.int .i64 (L.length : Int)) ∧ ∃ q, w' = w.drewN q := by
  have hg := given_any h
  obtain ⟨A, c, rfl, hn, hc⟩ := own_shape h.own
  go_enter Tryz.func44, Tryz.ntmps44
  go_wp2_with fail
  refine hg.mono ?_
  rintro e w1 ⟨rfl, q, rfl⟩
  have hc := (h.drewN q).c3
  have hl := (h.drewN q).lt d h.fd
  clear h hg
  go_wp2
  go_ret
  exact ⟨rfl, _, rfl⟩
theorem has_yes (h : DkW w F d bn bs N v nw su L) (k : Nat) (hk : k < N) : Calls Tryz.prog 60 #[.pointer (some ⟨d, 0, none⟩), .int .i64 (k : Int)] w fun e w' => e = .returned (.bool true) ∧ ∃ q, w' = w.drewN q := by
  have hg := blocks_any h
  have hkz : (k : Int) < (N : Int) := by omega
  go_enter Tryz.func60, Tryz.ntmps60
  go_wp2_with fail
  refine hg.mono ?_
  rintro e w1 ⟨rfl, q, rfl⟩
  clear h hg
  go_wp2
  go_ret
  exact ⟨rfl, _, rfl⟩
theorem has_no (h : DkW w F d bn bs N v nw su L) (z : Int) (hz : z < 0 ∨ (N : Int) ≤ z) : Calls Tryz.prog 60 #[.pointer (some ⟨d, 0, none⟩), .int .i64 z] w fun e w' => e = .returned (.bool false) ∧ ∃ q, w' = w.drewN q := by
  have hg := blocks_any h
  by_cases h0 : z < 0
  · have hn : ¬ (0 ≤ z) := by omega
    clear hz
    go_enter Tryz.func60, Tryz.ntmps60
    go_wp2
    go_ret
    exact ⟨rfl, 0, rfl⟩
  · have hn : 0 ≤ z := by omega
    have hn2 : decide (z < (N : Int)) = false := decide_eq_false (by omega)
    clear hz h0
    go_enter Tryz.func60, Tryz.ntmps60
    go_wp2_with fail
    refine hg.mono ?_
    rintro e w1 ⟨rfl, q, rfl⟩
    clear h hg
    go_wp2
    go_ret
    exact ⟨rfl, _, rfl⟩
end
/-- How many of all a number tells. -/
def shr (n : Int) (all : Nat) : Nat := n.toNat % (all + 1)
theorem shr_le (n : Int) (all : Nat) : shr n all ≤ all := by
  have := Nat.mod_lt n.toNat (show 0 < all + 1 by omega)
  unfold shr
  omega
theorem share_any (n : Int) (all : Nat) (h1 : -9223372036854775808 ≤ n) (h2 : n ≤ 9223372036854775807) (ha : all ≤ 1000000) (w : World) : Calls Tryz.prog 34 #[.int .i64 n, .int .i64 (all : Int)] w fun e w' => e = .returned (.int .i64 (shr n all : Int)) ∧ w = w' := by
  by_cases h0 : n < 0
  · have hr : shr n all = 0 := by unfold shr; rw [show n.toNat = 0 by omega, Nat.zero_mod]
    rw [hr]
    go_enter Tryz.func34, Tryz.ntmps34
    go_wp2
    go_ret
    exact ⟨rfl, rfl⟩
  · obtain ⟨m, rfl⟩ : ∃ m : Nat, n = m := ⟨n.toNat, by omega⟩
    have hr : shr (m : Int) all = m % (all + 1) := rfl
    have hlt := shr_le (m : Int) all
    rw [hr] at hlt
    have HR := Lib.hid hr
    clear hr
    generalize shr (m : Int) all = r at *
    go_enter Tryz.func34, Tryz.ntmps34
    go_wp2
    go_ret
    exact ⟨by rw [HR.out]; push_cast; rfl, rfl⟩
/-- What a block has that had other bytes, when only the first ones of a write came to it. -/
def tearB (s had : ByteArray) (k : Nat) : ByteArray := s.extract 0 k ++ had.extract (min k had.size) had.size
theorem tearB_over {s had : ByteArray} {k : Nat} (h : had.size < k) : tearB s had k = s.extract 0 k := by
  unfold tearB
  rw [Nat.min_eq_right (by omega)]
  simp
theorem tearB_in {s had : ByteArray} {k : Nat} (h : ¬ had.size < k) : tearB s had k = s.extract 0 k ++ had.extract k had.size := by
  unfold tearB
  rw [Nat.min_eq_left (by omega)]
theorem tear_any (s had : ByteArray) (k : Nat) (hk : k ≤ s.size) (hs : s.size ≤ 1000000) (hh : had.size ≤ 1000000) (w : World) : Calls Tryz.prog 37 #[.string s, .string had, .int .i64 (k : Int)] w fun e w' => e = .returned (.string (tearB s had k)) ∧ ∃ q, w' = w.drewN q := by
  by_cases h : had.size < k
  · rw [tearB_over h]
    go_enter Tryz.func37, Tryz.ntmps37
    go_wp2
    go_quiet (fail)
    go_wp2
    go_ret
    exact ⟨rfl, _, rfl⟩
  · rw [tearB_in h]
    go_enter Tryz.func37, Tryz.ntmps37
    go_wp2
    go_quiet (fail)
    go_wp2
    go_ret
    exact ⟨rfl, _, rfl⟩
end Go.Proofs.YtkehojgiappiiaaGreatDoor
