/- Places to wait do not know of one another. Conditions: the program's road; the calls as they come in. -/
import Derived.Test.YtikbgaomiliefaaRoLawB
set_option linter.unusedVariables false
set_option linter.unusedSimpArgs false
set_option maxRecDepth 100000
namespace Go.Proofs.Ytikbgaomiliefaa.Ro
open Go Go.RowKit
/-- Letters from a on, fewer than so many, of those that go to one place of three. -/
def pl (t : Nat) (a : Nat) : Nat → List Lt
  | 0 => []
  | m + 1 => if a % 3 = t then tL 0 ((t : Int) - 1) a :: pl t (a + 1) m else pl t (a + 1) m
def apQ (a m : Nat) (L : List Lt) : Rd := [pl 0 a m, pl 1 a m, pl 2 a m, L]
theorem pl_last (t : Nat) : ∀ (m a : Nat), pl t a (m + 1) = if (a + m) % 3 = t then pl t a m ++ [tL 0 ((t : Int) - 1) (a + m)] else pl t a m
  | 0, a => by simp [pl]
  | m + 1, a => by
    have ih := pl_last t m (a + 1)
    rw [show a + 1 + m = a + (m + 1) by omega] at ih
    rw [show pl t a (m + 1 + 1) = if a % 3 = t then tL 0 ((t : Int) - 1) a :: pl t (a + 1) (m + 1) else pl t (a + 1) (m + 1) from rfl, ih, show pl t a (m + 1) = if a % 3 = t then tL 0 ((t : Int) - 1) a :: pl t (a + 1) m else pl t (a + 1) m from rfl]
    split <;> split <;> rfl
theorem pl_len (t : Nat) : ∀ (m a : Nat), (pl t a m).length ≤ m
  | 0, a => Nat.le_refl _
  | m + 1, a => by
    have ih := pl_len t m (a + 1)
    unfold pl
    split
    · simp only [List.length_cons]; omega
    · omega
theorem three (i : Nat) : i % 3 = 0 ∨ i % 3 = 1 ∨ i % 3 = 2 := by omega
theorem sz1 (c : UInt8) : ¬ 1048576 < (⟨#[c]⟩ : ByteArray).size := by show ¬ 1048576 < 1; omega
theorem ap_send {n : Nat} (h : n < 1000) (L : List Lt) : sendQ (apQ 0 n L) (0, ((n % 3 : Nat) : Int) - 1, ⟨#[chr n]⟩) = (apQ 0 (n + 1) L, 0) := by
  have p0 := pl_last 0 n 0
  have p1 := pl_last 1 n 0
  have p2 := pl_last 2 n 0
  have l0 := pl_len 0 n 0
  have l1 := pl_len 1 n 0
  have l2 := pl_len 2 n 0
  rw [Nat.zero_add] at p0 p1 p2
  unfold apQ
  rw [p0, p1, p2]
  generalize pl 0 0 n = a0 at *
  generalize pl 1 0 n = a1 at *
  generalize pl 2 0 n = a2 at *
  have hs := sz1 (chr n)
  unfold sendQ
  rcases three n with e | e | e
  all_goals
    rw [e]
    simp only [Nat.reduceEqDiff, if_true, if_false, Nat.one_ne_zero, Nat.zero_ne_one]
  · have h2 : thereQ [a0, a1, a2, L] 0 = true := rfl
    have h3 : thereQ [a0, a1, a2, L] (((0 : Nat) : Int) - 1) = true := rfl
    rw [if_neg (by simp only [h2, h3]; simpa using hs), if_neg (by show ¬ 1024 ≤ a0.length; omega)]
    rfl
  · have h2 : thereQ [a0, a1, a2, L] 0 = true := rfl
    have h3 : thereQ [a0, a1, a2, L] (((1 : Nat) : Int) - 1) = true := rfl
    rw [if_neg (by simp only [h2, h3]; simpa using hs), if_neg (by show ¬ 1024 ≤ a1.length; omega)]
    rfl
  · have h2 : thereQ [a0, a1, a2, L] 0 = true := rfl
    have h3 : thereQ [a0, a1, a2, L] (((2 : Nat) : Int) - 1) = true := rfl
    rw [if_neg (by simp only [h2, h3]; simpa using hs), if_neg (by show ¬ 1024 ≤ a2.length; omega)]
    rfl
theorem pl_step (t a m : Nat) : pl t a (m + 1) = if a % 3 = t then tL 0 ((t : Int) - 1) a :: pl t (a + 1) m else pl t (a + 1) m := rfl
theorem ap_next (a m : Nat) (L : List Lt) : nextQ (apQ a (m + 1) L) (((a % 3 : Nat) : Int) - 1) = (apQ (a + 1) m L, (0, ((a % 3 : Nat) : Int) - 1, ⟨#[chr a]⟩), 0) := by
  unfold apQ
  rw [pl_step, pl_step, pl_step]
  rcases three a with e | e | e
  all_goals
    rw [e]
    simp only [Nat.reduceEqDiff, if_true, if_false, Nat.one_ne_zero, Nat.zero_ne_one]
    rfl
/-- Whatever is done at the fourth place: the three others stay. -/
theorem ap_there (P0 P1 P2 L : List Lt) : thereQ [P0, P1, P2, L] 2 = true := rfl
theorem ap_with (P0 P1 P2 L M : List Lt) : withQ [P0, P1, P2, L] 2 M = [P0, P1, P2, M] := rfl
theorem ap_s (P0 P1 P2 L : List Lt) (l : Lt) (h1 : l.1 = -1) (h2 : l.2.1 = 2) : ∃ M r, sendQ [P0, P1, P2, L] l = ([P0, P1, P2, M], r) := by
  unfold sendQ
  split
  · exact ⟨L, _, rfl⟩
  · split
    · exact ⟨L, _, rfl⟩
    · rw [h2]; exact ⟨_, _, rfl⟩
theorem ap_n (P0 P1 P2 L : List Lt) : ∃ M l r, nextQ [P0, P1, P2, L] 2 = ([P0, P1, P2, M], l, r) := by
  cases L with
  | nil => exact ⟨_, _, _, rfl⟩
  | cons x y => exact ⟨_, _, _, rfl⟩
theorem ap_d (P0 P1 P2 L : List Lt) (a : Int) : ∃ M r, dropQ [P0, P1, P2, L] 2 a = ([P0, P1, P2, M], r) := by
  unfold dropQ
  rw [ap_there, if_neg (by simp), ap_with]
  split
  · exact ⟨_, _, rfl⟩
  · exact ⟨_, _, rfl⟩
theorem ap_t (P0 P1 P2 L : List Lt) (a : Int) : ∃ M r, twiceQ [P0, P1, P2, L] 2 a = ([P0, P1, P2, M], r) := by
  unfold twiceQ
  rw [ap_there, if_neg (by simp), ap_with]
  split
  · exact ⟨_, _, rfl⟩
  · split
    · exact ⟨_, _, rfl⟩
    · exact ⟨_, _, rfl⟩
theorem ap_w (P0 P1 P2 L : List Lt) (a : Int) : ∃ M r, swapQ [P0, P1, P2, L] 2 a = ([P0, P1, P2, M], r) := by
  unfold swapQ
  rw [ap_there, if_neg (by simp), ap_with]
  split
  · exact ⟨_, _, rfl⟩
  · exact ⟨_, _, rfl⟩
theorem ap_c (P0 P1 P2 L : List Lt) : ∃ M r, clearQ [P0, P1, P2, L] 2 = ([P0, P1, P2, M], r) := ⟨_, _, rfl⟩
theorem i64_and8 (n : Int) : bits .and .i64 n 255 = n % 256 := i64_mask n 8 (by omega)
set_option maxHeartbeats 8000000 in
theorem apart_walk (C : Code) {w : World} {B n0 c0 : Nat} {A0 : Option Addr} (y : Int) (hO : OpsAt w B A0 n0) (hB : B ≤ w.heap.size) (hn63 : n0 ≤ 9223372036854775807) :
    Calls Try.prog 8 #[.slice A0 n0 c0, .int .i64 y] w (Gives (.bool true) w) := by
  have H0 := Lib.hid (C.new 3 w (by omega) (by omega))
  have HO := Lib.hid hO
  have ey := i64_and8 y
  have hy0 := Int.emod_nonneg y (show (256 : Int) ≠ 0 by decide)
  obtain ⟨z, hz⟩ : ∃ z : Nat, y % 256 = (z : Int) := ⟨(y % 256).toNat, by omega⟩
  rw [hz] at ey
  obtain ⟨n, hn⟩ : ∃ n, z % 30 = n := ⟨_, rfl⟩
  have hmod : (z : Int) % 30 = (n : Int) := by rw [← hn]; rfl
  have hn2 : n < 30 := by omega
  clear hO hy0 hz hn
  go_enter Try.func8, Try.ntmps8
  go_wp2_with fail
  refine H0.out.mono ?_
  rintro e w1 ⟨p, F1, rfl, h1, hF, hBe⟩
  have HO1 := Lib.hid (show OS C w w1 p F1 (apQ 0 0 []) from ⟨h1, hF, hBe⟩)
  clear h1 hF hBe
  go_wp2_with fail
  rw [hmod]
  go_loopw [8] (fun s wr => ∃ (i : Nat) (F : Nat → Prop), s = .int .i64 (i : Int) ∧ i ≤ n ∧ Hid (OS C w wr p F (apQ 0 i []))) (fun s _ => ((n : Int) - intOf s).toNat)
  case atStart => exact ⟨0, F1, rfl, by omega, HO1⟩
  case round =>
    obtain ⟨i, F, rfl, hi, HP⟩ := hrel
    by_cases hlt : i < n
    · have hltz : (i : Int) < (n : Int) := by omega
      have hi3 : (i : Int) % 3 = ((i % 3 : Nat) : Int) := by omega
      have h3 : i % 3 < 3 := Nat.mod_lt _ (by omega)
      have HSX := Lib.hid (ap_send (n := i) (by omega) [])
      generalize i % 3 = t at *
      have wt : IntKind.i64.wrap ((t : Int) - 1) = (t : Int) - 1 := by rw [IntKind.wrap_i64]; omega
      have wi : IntKind.i64.wrap (97 + (i : Int)) = 97 + (i : Int) := by rw [IntKind.wrap_i64]; omega
      have wu : IntKind.u8.wrap (97 + (i : Int)) = 97 + (i : Int) := by rw [IntKind.wrap_u8]; omega
      have hcv := chr_conv wr (i := i) (by omega)
      have hb : Below wr.heap.size wr (wr.alloc (.cells #[.int .u8 (97 + (i : Int))] 5)) := (Below.refl _ wr).alloc (Nat.le_refl _) _
      have HO2 := Lib.hid (HP.out.on hb)
      have HS := Lib.hid (C.send_is HO2.out.road 0 ((t : Int) - 1) ⟨#[chr i]⟩ (in64 (by decide)) (in64 (by omega)) (by show 1 ≤ maxLen; decide) HSX.out)
      clear hb
      go_wp2_with fail
      refine HS.out.mono ?_
      rintro e w2 ⟨rfl, F', h2, T2⟩
      have HO3 := Lib.hid (HO2.out.code h2 T2)
      clear h2 T2
      go_wp2_with fail
      exact ⟨⟨i + 1, F', by go_num, by omega, HO3⟩, by simp [intOf]; omega⟩
    · obtain rfl : i = n := by omega
      have hnl : ¬ (i : Int) < (i : Int) := by omega
      go_wp2_with fail
      go_loopw [9] (fun s wr => ∃ (k : Nat) (F : Nat → Prop) (L : List Lt), s = .int .i64 (k : Int) ∧ k ≤ n0 ∧ k ≤ 60 ∧ Hid (OS C w wr p F (apQ 0 i L))) (fun s _ => (60 - intOf s).toNat)
      case atStart => exact ⟨0, F, [], rfl, by omega, by omega, HP⟩
      case round =>
        obtain ⟨k, F, L, rfl, hk, hk60, HK⟩ := hrel
        by_cases hkn : k < n0 ∧ k < 60
        · have hkz : (k : Int) < (n0 : Int) := by omega
          have hk6 : (k : Int) < 60 := by omega
          obtain ⟨ad, kd, x, t, l, rfl, hop, _, htw, _⟩ := HO.out k hkn.1
          have hop1 := hop.below (HK.out.below.mono hB)
          have o0 := hop1.c0
          have o2 := hop1.c2
          have ol : (ad.add (k * 6)).block < wr.heap.size := by have := hop1.lt; have := HK.out.below.size; omega
          have ht := in64_wf htw
          have HT := Lib.hid ht
          clear hop hop1 htw ht
          rcases (show kd = 1 ∨ kd = 2 ∨ kd = 3 ∨ kd = 4 ∨ kd = 5 ∨ (kd ≠ 1 ∧ kd ≠ 2 ∧ kd ≠ 3 ∧ kd ≠ 4 ∧ kd ≠ 5) by omega) with rfl | rfl | rfl | rfl | rfl | ⟨k1, k2, k3, k4, k5⟩
          · obtain ⟨M, r, hx⟩ := ap_s (pl 0 0 i) (pl 1 0 i) (pl 2 0 i) L (-1, 2, ⟨#[120]⟩) rfl rfl
            have HD := Lib.hid (C.send_is HK.out.road (-1) 2 ⟨#[120]⟩ (in64 (by decide)) (in64 (by decide)) (by decide) hx)
            clear hx
            go_wp2_with fail
            refine HD.out.mono ?_
            rintro e w6 ⟨rfl, F6, h6, T6⟩
            have HK6 := Lib.hid (HK.out.code h6 T6)
            clear h6 T6
            go_wp2_with fail
            exact ⟨⟨k + 1, F6, M, by go_num, by omega, by omega, HK6⟩, by simp [intOf]; omega⟩
          · obtain ⟨M, ⟨lf, lt, tx⟩, r, hx⟩ := ap_n (pl 0 0 i) (pl 1 0 i) (pl 2 0 i) L
            have HD := Lib.hid (C.next_is HK.out.road 2 (in64 (by decide)) hx)
            clear hx
            go_wp2_with fail
            refine HD.out.mono ?_
            rintro e w6 ⟨rfl, F6, h6, T6⟩
            have HK6 := Lib.hid (HK.out.code h6 T6)
            clear h6 T6
            go_wp2_with fail
            exact ⟨⟨k + 1, F6, M, by go_num, by omega, by omega, HK6⟩, by simp [intOf]; omega⟩
          · obtain ⟨M, r, hx⟩ := ap_d (pl 0 0 i) (pl 1 0 i) (pl 2 0 i) L t
            have HD := Lib.hid (C.drop_is HK.out.road 2 t (in64 (by decide)) HT.out hx)
            clear hx
            go_wp2_with fail
            refine HD.out.mono ?_
            rintro e w6 ⟨rfl, F6, h6, T6⟩
            have HK6 := Lib.hid (HK.out.code h6 T6)
            clear h6 T6
            go_wp2_with fail
            exact ⟨⟨k + 1, F6, M, by go_num, by omega, by omega, HK6⟩, by simp [intOf]; omega⟩
          · obtain ⟨M, r, hx⟩ := ap_t (pl 0 0 i) (pl 1 0 i) (pl 2 0 i) L t
            have HD := Lib.hid (C.twice_is HK.out.road 2 t (in64 (by decide)) HT.out hx)
            clear hx
            go_wp2_with fail
            refine HD.out.mono ?_
            rintro e w6 ⟨rfl, F6, h6, T6⟩
            have HK6 := Lib.hid (HK.out.code h6 T6)
            clear h6 T6
            go_wp2_with fail
            exact ⟨⟨k + 1, F6, M, by go_num, by omega, by omega, HK6⟩, by simp [intOf]; omega⟩
          · obtain ⟨M, r, hx⟩ := ap_w (pl 0 0 i) (pl 1 0 i) (pl 2 0 i) L t
            have HD := Lib.hid (C.swap_is HK.out.road 2 t (in64 (by decide)) HT.out hx)
            clear hx
            go_wp2_with fail
            refine HD.out.mono ?_
            rintro e w6 ⟨rfl, F6, h6, T6⟩
            have HK6 := Lib.hid (HK.out.code h6 T6)
            clear h6 T6
            go_wp2_with fail
            exact ⟨⟨k + 1, F6, M, by go_num, by omega, by omega, HK6⟩, by simp [intOf]; omega⟩
          · obtain ⟨M, r, hx⟩ := ap_c (pl 0 0 i) (pl 1 0 i) (pl 2 0 i) L
            have HD := Lib.hid (C.clear_is HK.out.road 2 (in64 (by decide)) hx)
            clear hx
            go_wp2_with fail
            refine HD.out.mono ?_
            rintro e w6 ⟨rfl, F6, h6, T6⟩
            have HK6 := Lib.hid (HK.out.code h6 T6)
            clear h6 T6
            go_wp2_with fail
            exact ⟨⟨k + 1, F6, M, by go_num, by omega, by omega, HK6⟩, by simp [intOf]; omega⟩
        · have HP2 := HK
          have hex : ¬ (k : Int) < (n0 : Int) ∨ (k : Int) < (n0 : Int) ∧ ¬ (k : Int) < 60 := by omega
          rcases hex with hx | ⟨hx, hx2⟩
          all_goals
            go_wp2_with fail
            go_loopw [10] (fun s wr => ∃ (j : Nat) (F : Nat → Prop), s = .int .i64 (j : Int) ∧ j ≤ i ∧ Hid (OS C w wr p F (apQ j (i - j) L))) (fun s _ => ((i : Int) - intOf s).toNat)
            case atStart => exact ⟨0, F, rfl, by omega, HP2⟩
            case round =>
              obtain ⟨j, F3, rfl, hj, HJ⟩ := hrel
              by_cases hji : j < i
              · have hjz : (j : Int) < (i : Int) := by omega
                have HJ1 := HJ.out
                rw [show i - j = (i - (j + 1)) + 1 by omega] at HJ1
                have hj3 : (j : Int) % 3 = ((j % 3 : Nat) : Int) := by omega
                have h3 : j % 3 < 3 := Nat.mod_lt _ (by omega)
                have HNX := Lib.hid (ap_next j (i - (j + 1)) L)
                generalize j % 3 = t at *
                have wt : IntKind.i64.wrap ((t : Int) - 1) = (t : Int) - 1 := by rw [IntKind.wrap_i64]; omega
                have HN := Lib.hid (C.next_is HJ1.road ((t : Int) - 1) (in64 (by omega)) HNX.out)
                have HJ1 := Lib.hid HJ1
                have wi : IntKind.i64.wrap (97 + (j : Int)) = 97 + (j : Int) := by rw [IntKind.wrap_i64]; omega
                have wu : IntKind.u8.wrap (97 + (j : Int)) = 97 + (j : Int) := by rw [IntKind.wrap_u8]; omega
                go_wp2_with fail
                refine HN.out.mono ?_
                rintro e w6 ⟨rfl, F6, h6, T6⟩
                have HO6 := Lib.hid (HJ1.out.code h6 T6)
                clear h6 T6
                have rL : Row (w6.alloc (.cells #[.int .i64 0, .int .i64 ((t : Int) - 1), .string ⟨#[chr j]⟩] 34)) w6.heap.size 34 [.int .i64 0, .int .i64 ((t : Int) - 1), .string ⟨#[chr j]⟩] := Row.new w6 _ _
                have l2 := rL.cell (j := 2) rfl
                have ll := rL.lt
                have hcv := chr_conv (w6.alloc (.cells #[.int .i64 0, .int .i64 ((t : Int) - 1), .string ⟨#[chr j]⟩] 34)) (i := j) (by omega)
                rw [World.size_alloc] at hcv
                have hb7 : Below w6.heap.size w6 ((w6.alloc (.cells #[.int .i64 0, .int .i64 ((t : Int) - 1), .string ⟨#[chr j]⟩] 34)).alloc (.cells #[.int .u8 (97 + (j : Int))] 5)) := ((Below.refl _ w6).alloc (Nat.le_refl _) _).alloc (by simp) _
                have HO7 := Lib.hid (HO6.out.on hb7)
                clear hb7 rL
                go_wp2_with fail
                exact ⟨⟨j + 1, F6, by go_num, by omega, HO7⟩, by simp [intOf]; omega⟩
              · obtain rfl : j = i := by omega
                have hjl : ¬ (j : Int) < (j : Int) := by omega
                have HA := Lib.hid (awake_any C wr)
                have HB6 := Lib.hid HJ.out.below
                go_wp2_with fail
                refine HA.out.mono ?_
                rintro e w7 ⟨rfl, h7⟩
                have hfin := HB6.out.trans (h7.mono HB6.out.size)
                go_wp2
                go_ret
                exact ⟨rfl, hfin⟩
end Go.Proofs.Ytikbgaomiliefaa.Ro
