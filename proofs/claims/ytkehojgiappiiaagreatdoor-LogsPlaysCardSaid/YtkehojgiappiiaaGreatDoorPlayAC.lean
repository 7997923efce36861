/- PlayA, PlayB, PlayC in one text. Conditions: as each part says. -/
import Derived.Test.YtkehojgiappiiaaGreatDoorAgain
section
set_option linter.unusedVariables false
set_option linter.unusedSimpArgs false
namespace Go.Proofs.YtkehojgiappiiaaGreatDoor
open Go Go.RowKit
theorem encs_upto (rs : List (List UInt8)) (k : Nat) (hk : k < rs.length) : (encs (rs.take (k + 1))).length = (encs (rs.take k)).length + ((rs.getD k []).length + 14) := by
  rw [List.take_add_one, List.getD_eq_getElem?_getD, List.getElem?_eq_getElem hk, Option.toList_some, encs_one, List.length_append, enc_len]
  rfl
theorem encs_le (rs : List (List UInt8)) (k : Nat) : (encs (rs.take k)).length ≤ (encs rs).length := by
  have h := congrArg List.length (encs_take_pre rs k)
  rw [List.length_append] at h
  omega
set_option maxHeartbeats 4000000 in
set_option maxRecDepth 100000 in
theorem size_any (rs : List (List UInt8)) (A : Option Addr) (n c : Nat) (w : World) (hR : Reads w w.heap.size 1 A n (strL rs)) (hn : n ≤ maxLen) (hl : (encs rs).length ≤ 1000000) : Calls Tryz.prog 20 #[.slice A n c] w (Gives (.int .i64 ((encs rs).length : Int)) w) := by
  have HLEN := Lib.hid (reads_len hR)
  have hnm : (n : Int) ≤ 9223372036854775807 := by unfold maxLen at hn; omega
  have HR := Lib.hid hR
  have HL := Lib.hid hl
  clear hR hn hl
  go_enter Tryz.func20, Tryz.ntmps20
  go_wp2_with fail
  go_loopw [3, 4] (fun vs vi wr => ∃ (k s : Nat), vi = .int .i64 (k : Int) ∧ k ≤ n ∧ vs = .int .i64 (s : Int) ∧ Hid (s = (encs (rs.take k)).length) ∧ s ≤ 1000000 ∧ wr = w) (fun _ vi _ => n - (intOf vi).toNat)
  case atStart => exact ⟨0, 0, rfl, Nat.zero_le _, rfl, Lib.hid (by simp [encs]), Nat.zero_le _, rfl⟩
  case round =>
    obtain ⟨k, s, rfl, hk, rfl, HS, hs, rfl⟩ := hrel
    by_cases hkn : k < n
    · obtain ⟨ad, rfl, hb, hcell⟩ := reads_str HR.out hkn
      have hb2 : (ad.add k).block < wr.heap.size := by rw [block_of_add]; exact hb
      have hup := encs_upto rs k (by rw [← HLEN.out]; exact hkn)
      have hle := encs_le rs (k + 1)
      have hL := HL.out
      rw [hup, ← HS.out] at hle
      generalize hr : rs.getD k [] = r at hcell hup hle
      have hkz : (k : Int) < (n : Int) := by omega
      have hrz : (s : Int) + (r.length : Int) + 14 ≤ 1000000 := by omega
      have HU := Lib.hid hup
      clear hup hle hL hr
      clear hb
      have hw1 : IntKind.i64.wrap ((s : Int) + (r.length : Int)) = (s : Int) + (r.length : Int) := by simp only [IntKind.wrap_i64]; omega
      have hw2 : IntKind.i64.wrap ((s : Int) + (r.length : Int) + 14) = (s : Int) + (r.length : Int) + 14 := by simp only [IntKind.wrap_i64]; omega
      go_wp2_with fail
      go_roundw
      case rel => exact ⟨k + 1, s + r.length + 14, by go_num, by omega, by go_num, Lib.hid (by rw [HU.out, ← HS.out]; omega), by omega, trivial⟩
      case measure => simp [intOf]; omega
    · have hkz : ¬ (k : Int) < (n : Int) := by omega
      have hse : s = (encs rs).length := by rw [HS.out, List.take_of_length_le (by rw [← HLEN.out]; omega)]
      subst hse
      go_wp2_with fail
      go_ret
      exact ⟨rfl, Below.refl _ _⟩
set_option maxHeartbeats 4000000 in
set_option maxRecDepth 100000 in
theorem proom_any (N t : Nat) (h4 : 4 ≤ N) (hN : N ≤ 4000) (w : World) : Calls Tryz.prog 19 #[.int .i64 (N : Int), .int .i64 ((t % 2 : Nat) : Int)] w (Gives (.int .i64 ((128 * hB N t : Nat) : Int)) w) := by
  have hq : ((N : Int) - 2).tdiv 2 = (((N - 2) / 2 : Nat) : Int) := by rw [Int.tdiv_eq_ediv_of_nonneg (by omega)]; omega
  obtain ⟨f, hf⟩ : ∃ f, f = (N - 2) / 2 := ⟨_, rfl⟩
  rw [← hf] at hq
  obtain ⟨q, hqt⟩ : ∃ q, q = t % 2 := ⟨_, rfl⟩
  rw [← hqt]
  have hf2 : 2 * f + 2 ≤ N := by omega
  have hfz : 2 * (f : Int) + 2 ≤ (N : Int) := by omega
  have h4z : (4 : Int) ≤ (N : Int) := by omega
  have hNz : (N : Int) ≤ 4000 := by omega
  by_cases h0 : q = 0
  · subst h0
    have hv : ((128 * hB N t : Nat) : Int) = 128 * (f : Int) := by unfold hB; rw [if_pos (by omega)]; omega
    rw [hv]
    clear hv hqt hf
    go_enter Tryz.func19, Tryz.ntmps19
    go_wp2_with fail
    go_ret
    exact ⟨rfl, Below.refl _ _⟩
  · have hq0 : ¬ (q : Int) = 0 := by omega
    have hv : ((128 * hB N t : Nat) : Int) = 128 * ((N : Int) - 2 - (f : Int)) := by unfold hB; rw [if_neg (by omega)]; omega
    rw [hv]
    clear hv hqt hf
    go_enter Tryz.func19, Tryz.ntmps19
    go_wp2_with fail
    go_ret
    exact ⟨rfl, Below.refl _ _⟩
end Go.Proofs.YtkehojgiappiiaaGreatDoor
end
section
set_option linter.unusedVariables false
set_option linter.unusedSimpArgs false
namespace Go.Proofs.YtkehojgiappiiaaGreatDoor
open Go Go.RowKit
set_option maxHeartbeats 4000000 in
set_option maxRecDepth 100000 in
theorem long_not (rs : List (List UInt8)) (A : Option Addr) (n c : Nat) (w : World) (hR : Reads w w.heap.size 1 A n (strL rs)) (hn : n ≤ maxLen) (hl : ∀ r ∈ rs, r.length ≤ 32768) : Calls Tryz.prog 28 #[.slice A n c] w (Gives (.bool false) w) := by
  have HLEN := Lib.hid (reads_len hR)
  have hnm : (n : Int) ≤ 9223372036854775807 := by unfold maxLen at hn; omega
  have HR := Lib.hid hR
  have HL := Lib.hid hl
  clear hR hn hl
  go_enter Tryz.func28, Tryz.ntmps28
  go_wp2_with fail
  go_loopw [3] (fun vi wr => ∃ (k : Nat), vi = .int .i64 (k : Int) ∧ k ≤ n ∧ wr = w) (fun vi _ => n - (intOf vi).toNat)
  case atStart => exact ⟨0, rfl, Nat.zero_le _, rfl⟩
  case round =>
    obtain ⟨k, rfl, hk, rfl⟩ := hrel
    by_cases hkn : k < n
    · obtain ⟨ad, rfl, hb, hcell⟩ := reads_str HR.out hkn
      have hb2 : (ad.add k).block < wr.heap.size := by rw [block_of_add]; exact hb
      have hle : (rs.getD k []).length ≤ 32768 := by
        have hk2 : k < rs.length := by rw [← HLEN.out]; exact hkn
        rw [List.getD_eq_getElem?_getD, List.getElem?_eq_getElem hk2]
        exact HL.out _ (List.getElem_mem hk2)
      generalize hr : rs.getD k [] = r at hcell hle
      have hkz : (k : Int) < (n : Int) := by omega
      have hrz : ¬ (32768 : Int) < (r.length : Int) := by omega
      clear hr hb hle
      go_wp2_with fail
      go_roundw
      case rel => exact ⟨k + 1, by go_num, by omega, trivial⟩
      case measure => simp [intOf]; omega
    · have hkz : ¬ (k : Int) < (n : Int) := by omega
      go_wp2_with fail
      go_ret
      exact ⟨rfl, Below.refl _ _⟩
/-- The bytes of the first texts, each at most so many. -/
def few (t : List UInt8) (rs : List (List UInt8)) (k : Nat) : Nat := min t.length 4096 + ((rs.take k).map fun r => min r.length 4096).sum
theorem few_next (t : List UInt8) (rs : List (List UInt8)) (k : Nat) (hk : k < rs.length) : few t rs (k + 1) = few t rs k + min (rs.getD k []).length 4096 := by
  unfold few
  rw [List.take_add_one, List.getD_eq_getElem?_getD, List.getElem?_eq_getElem hk, List.map_append, List.sum_append]
  simp only [Option.toList_some, List.map_cons, List.map_nil, List.sum_cons, List.sum_nil, Option.getD_some]
  omega
theorem few_le (t : List UInt8) (rs : List (List UInt8)) (k : Nat) : few t rs k ≤ 4096 * (k + 1) := by
  induction k with
  | zero => simp [few]; omega
  | succ k ih =>
    by_cases hk : k < rs.length
    · rw [few_next t rs k hk]
      omega
    · have : few t rs (k + 1) = few t rs k := by unfold few; rw [List.take_of_length_le (by omega), List.take_of_length_le (by omega)]
      omega
/-- Few texts of few bytes. -/
def lightL (t : List UInt8) (rs : List (List UInt8)) : Bool := decide (rs.length ≤ 40 ∧ few t rs (min rs.length 40) < 2048)
set_option maxHeartbeats 4000000 in
set_option maxRecDepth 100000 in
theorem light_any (k0 a0 b0 : Int) (t : List UInt8) (rs : List (List UInt8)) (A : Option Addr) (n c : Nat) (w : World) (hR : Reads w w.heap.size 1 A n (strL rs)) (hn : n ≤ maxLen) (htl : t.length ≤ maxLen) : Calls Tryz.prog 5 #[.agg #[.int .i64 k0, .int .i64 a0, .int .i64 b0, .string ⟨t.toArray⟩, .slice A n c]] w (fun e w' => e = .returned (.bool (lightL t rs)) ∧ Below w.heap.size w w') := by
  have HLEN := Lib.hid (reads_len hR)
  have hnm : (n : Int) ≤ 9223372036854775807 := by unfold maxLen at hn; omega
  have htm : (t.length : Int) ≤ 9223372036854775807 := by unfold maxLen at htl; omega
  have HR := Lib.hid hR
  clear hR hn htl
  go_enter Tryz.func5, Tryz.ntmps5
  obtain ⟨m0, hm0⟩ : ∃ m0, m0 = min t.length 4096 := ⟨_, rfl⟩
  have hmz : min (t.length : Int) 4096 = (m0 : Int) := by omega
  obtain ⟨W1, hW1⟩ : ∃ W1, W1 = w.alloc (.cells #[.int .i64 k0, .int .i64 a0, .int .i64 b0, .string ⟨t.toArray⟩, .slice A n c] 31) := ⟨_, rfl⟩
  have c4 : W1.cell? ⟨w.heap.size, 4, none⟩ = some (.slice A n c) := by rw [hW1]; exact news_cells w #[.int .i64 k0, .int .i64 a0, .int .i64 b0, .string ⟨t.toArray⟩, .slice A n c] 31 4 _ rfl
  have hb1 : Below w.heap.size w W1 := by rw [hW1]; exact (Below.refl _ _).alloc (Nat.le_refl _) _
  have hs1 : w.heap.size < W1.heap.size := by rw [hW1]; simp
  have HR1 := Lib.hid (HR.out.below hb1)
  have HM := Lib.hid hm0
  have HB1 := Lib.hid hb1
  clear hm0 hb1 HR
  go_wp2_with fail
  rw [← hW1]
  clear hW1
  obtain ⟨X, hX⟩ : ∃ X, X = w.heap.size := ⟨_, rfl⟩
  rw [← hX] at c4 hs1 HR1 HB1 ⊢
  have HX := Lib.hid hX
  clear hX
  go_loopw [3, 4] (fun vs vi wr => ∃ (k s : Nat), vi = .int .i64 (k : Int) ∧ k ≤ n ∧ k ≤ 40 ∧ vs = .int .i64 (s : Int) ∧ Hid (s = few t rs k) ∧ s ≤ 4096 * (k + 1) ∧ wr = W1) (fun _ vi _ => n - (intOf vi).toNat)
  case atStart => exact ⟨0, m0, rfl, Nat.zero_le _, Nat.zero_le _, rfl, Lib.hid (by rw [HM.out]; simp [few]), by have := HM.out; omega, rfl⟩
  case round =>
    obtain ⟨k, s, rfl, hk, hk40, rfl, HS, hs, rfl⟩ := hrel
    have hs2 : s ≤ 200000 := by omega
    clear hs
    by_cases hend : k < n ∧ k < 40
    · obtain ⟨hkn, hk2⟩ := hend
      obtain ⟨ad, rfl, hb, hcell⟩ := reads_str HR1.out hkn
      have hb2 : (ad.add k).block < wr.heap.size := by rw [block_of_add]; omega
      have hup := few_next t rs k (by rw [← HLEN.out]; exact hkn)
      rw [← HS.out] at hup
      have hle := few_le t rs (k + 1)
      rw [hup] at hle
      generalize hr : rs.getD k [] = r at hcell hup hle
      obtain ⟨m, hm⟩ : ∃ m, m = min r.length 4096 := ⟨_, rfl⟩
      rw [← hm] at hup hle
      have hmz2 : min (r.length : Int) 4096 = (m : Int) := by omega
      have hm4 : m ≤ 4096 := by omega
      have hkz : (k : Int) < (n : Int) := by omega
      have hkz2 : (k : Int) < 40 := by omega
      have hw1 : IntKind.i64.wrap ((s : Int) + (m : Int)) = (s : Int) + (m : Int) := by simp only [IntKind.wrap_i64]; omega
      have HU := Lib.hid (And.intro hup hle)
      clear hup hle hm hr hb
      go_wp2_with fail
      go_roundw
      case rel => exact ⟨k + 1, s + m, by go_num, by omega, by omega, by go_num, Lib.hid HU.out.1.symm, by have := HU.out.2; omega, trivial⟩
      case measure => simp [intOf]; omega
    · by_cases hkn : k < n
      · have hkz : (k : Int) < (n : Int) := by omega
        have hkz2 : ¬ (k : Int) < 40 := by omega
        have hnz : ¬ (n : Int) ≤ 40 := by omega
        have hv : lightL t rs = false := by unfold lightL; rw [decide_eq_false]; rw [← HLEN.out]; omega
        have HV := Lib.hid hv
        clear hend hv
        go_wp2_with fail
        go_ret
        refine ⟨?_, by rw [← HX.out]; exact HB1.out⟩
        rw [HV.out]
        rfl
      · have hkz : ¬ (k : Int) < (n : Int) := by omega
        have hnz : (n : Int) ≤ 40 := by omega
        have hkn2 : k = n := by omega
        have hv : lightL t rs = decide ((s : Int) < 2048) := by
          unfold lightL
          rw [HS.out, hkn2, HLEN.out, Nat.min_eq_left (by have := HLEN.out; omega)]
          have := HLEN.out
          congr 1
          exact propext ⟨fun h => by omega, fun h => ⟨by omega, by omega⟩⟩
        have HV := Lib.hid hv
        clear hend hv hkn2
        go_wp2_with fail
        go_ret
        refine ⟨?_, by rw [← HX.out]; exact HB1.out⟩
        rw [HV.out]
        rfl
end Go.Proofs.YtkehojgiappiiaaGreatDoor
end
section
set_option linter.unusedVariables false
set_option linter.unusedSimpArgs false
namespace Go.Proofs.YtkehojgiappiiaaGreatDoor
open Go Go.RowKit
/-- The statement's state, as a value. -/
def stV (N sr q : Nat) (A : Option Addr) (n c : Nat) : Value := .agg #[.int .i64 (N : Int), .int .i64 (sr : Int), .int .i64 (q : Int), .slice A n c]
set_option maxHeartbeats 8000000 in
set_option maxRecDepth 100000 in
theorem adds_full (N t sr : Nat) (h4 : 4 ≤ N) (hN : N ≤ 4000) (R : List (List UInt8)) (A : Option Addr) (n c : Nat) (r : List UInt8) (w : World) (hR : Reads w w.heap.size 1 A n (strL R)) (hn : n ≤ maxLen) (hl : (encs R).length ≤ 128 * hB N t) (hr : r.length ≤ 32768) (hfull : 128 * hB N t - (encs R).length < r.length + 14) :
    Calls Tryz.prog 7 #[stV N sr (t % 2) A n c, .string ⟨r.toArray⟩] w fun e w' => e = .returned (.tuple #[stV N sr (t % 2) A n c, .int .i64 70]) ∧ Below w.heap.size w w' := by
  obtain ⟨W1, hW1⟩ : ∃ W1, W1 = w.alloc (.cells #[.int .i64 (N : Int), .int .i64 (sr : Int), .int .i64 ((t % 2 : Nat) : Int), .slice A n c] 25) := ⟨_, rfl⟩
  have hb1 : Below w.heap.size w W1 := by rw [hW1]; exact (Below.refl _ _).alloc (Nat.le_refl _) _
  have hrm := fun w => proom_any N t h4 hN w
  have hsz := fun (w' : World) (hb : Below w.heap.size w w') => size_any R A n c w' ((hR.below hb).more hb.size) hn (by have := hB_half N t; omega)
  have hnr : ¬ (r.length : Int) > 32768 := by omega
  have hB4 : 128 * hB N t ≤ 600000 := by have := hB_half N t; omega
  obtain ⟨m, hm⟩ : ∃ m, m = 128 * hB N t := ⟨_, rfl⟩
  obtain ⟨z, hz⟩ : ∃ z, z = (encs R).length := ⟨_, rfl⟩
  rw [← hm, ← hz] at hl hfull
  rw [← hm] at hrm hB4
  rw [← hz] at hsz
  have hfz : (m : Int) - (z : Int) < (r.length : Int) + 14 := by omega
  have hmz : (m : Int) ≤ 600000 := by omega
  have hzm : (z : Int) ≤ (m : Int) := by omega
  have hrz : (r.length : Int) ≤ 32768 := by omega
  generalize hq : t % 2 = q at *
  have HRM := Lib.hid hrm
  have HSZ := Lib.hid hsz
  have HB1 := Lib.hid hb1
  have HW1 := Lib.hid hW1
  unfold stV
  clear hrm hsz hb1 hm hz hl hfull hR hn hq hW1 hB4
  go_enter Tryz.func7, Tryz.ntmps7
  go_wp2_with fail
  rw [← HW1.out]
  generalize hW2 : W1.alloc (.cells #[.int .i64 0, .int .i64 0, .int .i64 0, .slice none 0 0] 25) = W2
  have hr1 : Row W2 w.heap.size 25 [.int .i64 (N : Int), .int .i64 (sr : Int), .int .i64 (q : Int), .slice A n c] := by
    have h0 : Row W1 w.heap.size 25 [.int .i64 (N : Int), .int .i64 (sr : Int), .int .i64 (q : Int), .slice A n c] := by rw [HW1.out]; exact Row.new w _ _
    rw [← hW2]
    exact h0.keep (heap_alloc_lt W1 _ h0.lt)
  have hs1 : W1.heap.size = w.heap.size + 1 := by rw [HW1.out]; simp
  have hr2 : Row W2 (w.heap.size + 1) 25 [.int .i64 0, .int .i64 0, .int .i64 0, .slice none 0 0] := by rw [← hW2, ← hs1]; exact Row.new W1 _ _
  have hb2 : Below w.heap.size w W2 := by rw [← hW2]; exact HB1.out.alloc (by omega) _
  clear hW2 HW1 HB1
  obtain ⟨X, hX⟩ : ∃ X, X = w.heap.size := ⟨_, rfl⟩
  rw [← hX] at hr1 hr2 hb2 HSZ ⊢
  have HX := Lib.hid hX
  clear hX
  have c0 := hr1.cell (j := 0) rfl
  have c2 := hr1.cell (j := 2) rfl
  have c3 := hr1.cell (j := 3) rfl
  have hX2 : X + 2 ≤ W2.heap.size := hr2.lt
  have hX1 : X < W2.heap.size := hr1.lt
  have HRS := Lib.hid (And.intro hr1 (And.intro hr2 hb2))
  clear hr1 hr2 hb2 hs1
  have hw1 : IntKind.i64.wrap ((r.length : Int) + 14) = (r.length : Int) + 14 := by simp only [IntKind.wrap_i64]; omega
  have hw2 : IntKind.i64.wrap ((m : Int) - (z : Int)) = (m : Int) - (z : Int) := by simp only [IntKind.wrap_i64]; omega
  go_region_held3 (fun w' => w'.cell? ⟨X, 0, none⟩ = some (.int .i64 (N : Int)) ∧ w'.cell? ⟨X, 2, none⟩ = some (.int .i64 (q : Int)) ∧ w'.cell? ⟨X, 3, none⟩ = some (.slice A n c))
    (first | exact ⟨e0, e2, e3⟩ | exact ⟨d0, d2, d3⟩ | exact ⟨c0, c2, c3⟩)
    (first
      | (go_at_call 19; refine (HRM.out _).mono ?_; rintro e w3 ⟨rfl, hb3⟩; have HT3 := Lib.hid hb3; have HR3 := Lib.hid (HRS.out.1.keep (hb3.block _ hX1)); have hX3 := HR3.out.lt; have d0 := HR3.out.cell (j := 0) rfl; have d2 := HR3.out.cell (j := 2) rfl; have d3 := HR3.out.cell (j := 3) rfl; clear hb3)
      | (go_at_call 20; refine (HSZ.out w3 ((HRS.out.2.2.trans (below_drewN (Below.refl _ W2) 1)).trans (HT3.out.mono (show X ≤ W2.heap.size by omega)))).mono ?_; rintro e w4 ⟨rfl, hb4⟩; have HT4 := Lib.hid hb4; have HR4 := Lib.hid (HR3.out.keep (hb4.block _ hX3)); have e0 := HR4.out.cell (j := 0) rfl; have e2 := HR4.out.cell (j := 2) rfl; have e3 := HR4.out.cell (j := 3) rfl; clear hb4))
  have e1 := HR4.out.cell (j := 1) rfl
  have hX4 := HR4.out.lt
  have hS3 := HRS.out.2.1.keep (HT3.out.block _ hX2)
  have hS4 := hS3.keep (HT4.out.block _ hS3.lt)
  have hS4l := hS4.lt
  have f0 := hS4.cell (j := 0) rfl
  have f1 := hS4.cell (j := 1) rfl
  have f2 := hS4.cell (j := 2) rfl
  have f3 := hS4.cell (j := 3) rfl
  have y0 := hS4.frozen 0
  have y1 := hS4.frozen 1
  have y2 := hS4.frozen 2
  have y3 := hS4.frozen 3
  clear c0 c2 c3 d0 d2 d3 hw1 hw2
  go_wp2_with fail
  have hf := (((hS4.set 0 (.int .i64 (N : Int))).set 1 (.int .i64 (sr : Int))).set 2 (.int .i64 (q : Int))).set 3 (.slice A n c)
  have hb4 := ((HRS.out.2.2.trans (below_drewN (Below.refl _ W2) 1)).trans (HT3.out.mono (show X ≤ W2.heap.size by omega))).trans (HT4.out.mono (show X ≤ w3.heap.size by omega))
  have hb5 := below_setCell (p := ⟨X + 1, 3, none⟩) (below_setCell (p := ⟨X + 1, 2, none⟩) (below_setCell (p := ⟨X + 1, 1, none⟩) (below_setCell (p := ⟨X + 1, 0, none⟩) hb4 (Nat.le_succ X) (.int .i64 (N : Int))) (Nat.le_succ X) (.int .i64 (sr : Int))) (Nat.le_succ X) (.int .i64 (q : Int))) (Nat.le_succ X) (.slice A n c)
  generalize ((((w4.setCell ⟨X + 1, 0, none⟩ (.int .i64 (N : Int))).setCell ⟨X + 1, 1, none⟩ (.int .i64 (sr : Int))).setCell ⟨X + 1, 2, none⟩ (.int .i64 (q : Int))).setCell ⟨X + 1, 3, none⟩ (.slice A n c)) = W5 at *
  have g0 := hf.cell (j := 0) rfl
  have g1 := hf.cell (j := 1) rfl
  have g2 := hf.cell (j := 2) rfl
  have g3 := hf.cell (j := 3) rfl
  refine bodyPost_ret (v := .tuple #[.agg #[.int .i64 (N : Int), .int .i64 (sr : Int), .int .i64 (q : Int), .slice A n c], .int .i64 70]) (by simp [results, Tryz.results7, go_sem, g0, g1, g2, g3]) rfl ⟨rfl, ?_⟩
  rw [← HX.out]
  exact hb5
end Go.Proofs.YtkehojgiappiiaaGreatDoor
end
