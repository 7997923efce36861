/- The walk of LogsRoom: it returns true. Conditions: the tables lie as start-up lays them. -/
import Derived.Test.YtoakhndbjggboaaDoorZ
set_option linter.unusedVariables false
set_option linter.unusedSimpArgs false
namespace Go.Proofs.YtoakhndbjggboaaDoor
open Go Go.RowKit
set_option maxHeartbeats 8000000 in
set_option maxRecDepth 100000 in
theorem logsRoom_walk (z : Int) (A : Option Addr) (n c : Nat) (l : List Int) (W : World) (hR : Reads W W.heap.size 1 A n (intL l)) (hn : n ≤ maxLen) (hT : Tab W W.heap.size) : Calls Tryd.prog 3 #[.int .i64 z, .slice A n c] W (Gives (.bool true) W) := by
  have hand := i64_and4 z
  obtain ⟨N, hN⟩ : ∃ N : Nat, z % 16 = (N : Int) - 4 := ⟨(4 + z % 16).toNat, by omega⟩
  rw [hN] at hand
  have hN1 : 4 ≤ N := by omega
  have hN2 : N ≤ 19 := by omega
  have hbg := begun_any N hN1 (by omega) W hT
  have haw := fun w (h : Tab w W.heap.size) => awake_any w h
  obtain ⟨L0, hL0⟩ : ∃ L0 : Nat, L0 = 128 * hB N 0 := ⟨_, rfl⟩
  have hlz : 128 * (((N : Int) - 2) / 2) = (L0 : Int) := by rw [hL0]; unfold hB; rw [if_pos (by decide)]; omega
  have hL1 : L0 ≤ 2000 := by have := hB_half N 0; omega
  have hnm : (n : Int) ≤ 9223372036854775807 := by unfold maxLen at hn; omega
  have hNz1 : (4 : Int) ≤ (N : Int) := by omega
  have hNz2 : (N : Int) ≤ 19 := by omega
  have HB := Lib.hid hbg
  have HA := Lib.hid haw
  have HR := Lib.hid hR
  have HL0 := Lib.hid hL0
  clear hbg haw hR hT hL0 hN hn
  go_enter Tryd.func3, Tryd.ntmps3
  go_wp2_with fail
  rw [show (4 : Int) + ((N : Int) - 4) = (N : Int) by omega]
  refine HB.out.mono ?_
  rintro e w1 ⟨p, d, F1, G1, st, su, rfl, h1, hb1⟩
  have H1 := Lib.hid (And.intro h1 hb1)
  clear h1 hb1 HB
  go_wp2_with fail
  go_loopw [9, 10] (fun vl vi wr => ∃ (k left : Nat) (F G : Nat → Prop) (R : List (List UInt8)) (ll : List (Nat × ByteArray)), vi = .int .i64 (k : Int) ∧ k ≤ n ∧ k ≤ 100 ∧ vl = .int .i64 (left : Int) ∧ Hid (left + (encs R).length = L0) ∧ LogF wr W.heap.size F G p d N 0 st R 0 su ll ∧ Hid (ll.length ≤ 300 * k) ∧ Below W.heap.size W wr) (fun _ vi _ => n - (intOf vi).toNat)
  case atStart => exact ⟨0, L0, F1, G1, [], [], rfl, Nat.zero_le _, by omega, rfl, Lib.hid rfl, H1.out.1, Lib.hid (Nat.zero_le _), H1.out.2⟩
  case round =>
    clear H1
    obtain ⟨k, left, F, G, R, ll, rfl, hk, hk1, rfl, HLE, hL, HLL, hb⟩ := hrel
    by_cases hend : k < n ∧ k < 100
    · obtain ⟨hlt, hlt2⟩ := hend
      have hltz : (k : Int) < (n : Int) := by omega
      have hltz2 : (k : Int) < 100 := by omega
      obtain ⟨ad, u, rfl, hbk, hcell⟩ := reads_int (HR.out.below hb) hlt
      have hbk2 : (ad.add k).block < wr.heap.size := by rw [block_of_add]; have := hb.size; omega
      obtain ⟨kk, hkk⟩ : ∃ kk : Nat, u % 256 = (kk : Int) := ⟨(u % 256).toNat, by omega⟩
      have hkk2 : kk ≤ 255 := by omega
      have hku : bits .and .i64 u 255 = (kk : Int) := (i64_and255 u).trans hkk
      have hmk := make_z kk (by omega)
      have hcv := row_z wr kk
      obtain ⟨W2, hW2⟩ : ∃ W2, W2 = wr.alloc (.cells (madeCells #[.int .u8 0] kk) 5) := ⟨_, rfl⟩
      have h2 : LogF W2 W.heap.size F G p d N 0 st R 0 su ll := by rw [hW2]; exact hL.below ((Below.refl _ _).alloc (Nat.le_refl _) _)
      have hb2 : Below W.heap.size W W2 := by rw [hW2]; exact hb.alloc hb.size _
      have hL1' : left ≤ 2000 := by have := HLE.out; omega
      have hkz : (kk : Int) ≤ 255 := by omega
      have hlz2 : (left : Int) ≤ 2000 := by omega
      by_cases hfit : kk + 14 ≤ left
      · have hfz : (kk : Int) + 14 ≤ (left : Int) := by omega
        have had := logf_add h2 (zL kk) (by rw [zL_len]; omega) (by rw [zL_len]; have := HLE.out; have := HL0.out; omega) (by have := HLL.out; omega)
        have HAD := Lib.hid had
        have H2 := Lib.hid hb2
        have HLE2 : Hid ((left - kk - 14) + (encs (R ++ [zL kk])).length = L0) := Lib.hid (by rw [encs_one, List.length_append, enc_len, zL_len]; have := HLE.out; omega)
        have hlf : ((left - kk - 14 : Nat) : Int) = (left : Int) - (kk : Int) - 14 := by omega
        clear had h2 hb2 hL hb hfit hkk HLE
        go_wp2_with fail
        rw [← hW2]
        clear hW2
        refine HAD.out.mono ?_
        rintro e w3 ⟨rfl, F3, G3, l3, h3, hl3, hb3⟩
        have hb3' := H2.out.trans hb3
        have hrm := logf_room h3 ((left : Int) - (kk : Int) - 14) (by rw [← hlf]; have := HLE2.out; have := HL0.out; congr 1; omega)
        have HRM := Lib.hid hrm
        have H3 := Lib.hid (And.intro h3 (And.intro hl3 hb3'))
        clear hrm h3 hl3 hb3 hb3' HAD
        go_wp2_with fail
        refine HRM.out.mono ?_
        rintro e w4 ⟨rfl, hb4⟩
        have h4 := H3.out.1.below hb4
        have hb4' := H3.out.2.2.trans (hb4.mono (B' := W.heap.size) H3.out.2.2.size)
        go_wp2_with fail
        go_roundw
        case rel => exact ⟨k + 1, left - kk - 14, F3, G3, _, l3, by go_num, by omega, by omega, by rw [hlf], HLE2, h4, Lib.hid (by have := H3.out.2.1; have := HLL.out; omega), hb4'⟩
        case measure => simp [intOf]; omega
      · have hfz : ¬ (kk : Int) + 14 ≤ (left : Int) := by omega
        have had := logf_no h2 (zL kk) 70 (one_full (by rw [zL_len]; omega) (by rw [zL_len]; have := HLE.out; have := HL0.out; omega)) (by decide)
        have HAD := Lib.hid had
        have H2 := Lib.hid hb2
        clear had h2 hb2 hL hb hfit hkk
        go_wp2_with fail
        rw [← hW2]
        clear hW2
        refine HAD.out.mono ?_
        rintro e w3 ⟨rfl, h3, hb3⟩
        have hb3' := H2.out.trans hb3
        have hrm := logf_room h3 (left : Int) (by have := HLE.out; have := HL0.out; congr 1; omega)
        have HRM := Lib.hid hrm
        have H3 := Lib.hid (And.intro h3 hb3')
        clear hrm h3 hb3 hb3' HAD
        go_wp2_with fail
        refine HRM.out.mono ?_
        rintro e w4 ⟨rfl, hb4⟩
        have h4 := H3.out.1.below hb4
        have hb4' := H3.out.2.trans (hb4.mono (B' := W.heap.size) H3.out.2.size)
        go_wp2_with fail
        go_roundw
        case rel => exact ⟨k + 1, left, F, G, R, ll, by go_num, by omega, by omega, rfl, HLE, h4, Lib.hid (by have := HLL.out; omega), hb4'⟩
        case measure => simp [intOf]; omega
    · have haw := HA.out wr hL.tab
      have HAW := Lib.hid haw
      have HBB := Lib.hid hb
      clear haw hL hb
      by_cases hlt : k < n
      · have hltz : (k : Int) < (n : Int) := by omega
        have hltz2 : ¬ (k : Int) < 100 := by omega
        clear hend
        go_wp2_with fail
        refine HAW.out.mono ?_
        rintro e w9 ⟨rfl, hb9⟩
        go_wp2_with fail
        go_ret
        exact ⟨rfl, HBB.out.trans hb9⟩
      · have hltz : ¬ (k : Int) < (n : Int) := by omega
        clear hend
        go_wp2_with fail
        refine HAW.out.mono ?_
        rintro e w9 ⟨rfl, hb9⟩
        go_wp2_with fail
        go_ret
        exact ⟨rfl, HBB.out.trans hb9⟩
end Go.Proofs.YtoakhndbjggboaaDoor
