/- To double one and lose the other, and to swap two twice. Conditions: the program's road. -/
import Derived.Test.YtikbgaomiliefaaRoLawF
set_option linter.unusedVariables false
set_option linter.unusedSimpArgs false
set_option maxRecDepth 100000
namespace Go.Proofs.Ytikbgaomiliefaa.Ro
open Go Go.RowKit
def chr (i : Nat) : UInt8 := UInt8.ofNat (97 + i)
theorem chr_nat {i : Nat} (h : i < 100) : (chr i).toNat = 97 + i := by
  unfold chr
  rw [UInt8.toNat_ofNat']
  omega
abbrev tL (fr to : Int) (i : Nat) : Lt := (fr, to, ⟨#[chr i]⟩)
def bkL (n : Nat) : List Lt := (List.range n).map (tL 0 0)
def bkQ (L : List Lt) : Rd := [[], L]
theorem bkL_len (n : Nat) : (bkL n).length = n := by simp [bkL]
theorem bkL_succ (n : Nat) : bkL (n + 1) = bkL n ++ [tL 0 0 n] := by unfold bkL; rw [List.range_succ, List.map_append]; rfl
theorem bk_send {n : Nat} (h : n < 1024) : sendQ (bkQ (bkL n)) (0, 0, ⟨#[chr n]⟩) = (bkQ (bkL (n + 1)), 0) := by
  have h1 : haveQ (bkQ (bkL n)) 0 = bkL n := rfl
  have h2 : thereQ (bkQ (bkL n)) 0 = true := rfl
  have h3 : ¬ 1048576 < (⟨#[chr n]⟩ : ByteArray).size := by show ¬ 1048576 < 1; omega
  unfold sendQ
  rw [if_neg (by simp only [h2, h3]; decide)]
  simp only [h1, bkL_len]
  rw [if_neg (by omega), bkL_succ]
  rfl
theorem cutT_at (A B : List Lt) (m : List Lt) (x : List Lt) {k : Nat} (h : A.length = k) : cutT (A ++ m ++ B) k m.length x = A ++ x ++ B := by
  unfold cutT
  subst h
  have e1 : (A ++ m ++ B).take A.length = A := by rw [List.append_assoc]; exact List.take_left
  have e2 : (A ++ m ++ B).drop (A.length + m.length) = B := by rw [show A.length + m.length = (A ++ m).length by simp]; exact List.drop_left
  rw [e1, e2]
theorem getD_at (A B : List Lt) (a d : Lt) {k : Nat} (h : A.length = k) : (A ++ a :: B).getD k d = a := by
  subst h
  simp
theorem bk_split {L : List Lt} {k : Nat} (h : k + 1 < L.length) : ∃ A a b B, L = A ++ [a, b] ++ B ∧ A.length = k := by
  refine ⟨L.take k, L[k], L[k + 1], L.drop (k + 2), ?_, by simp; omega⟩
  have h1 : L.drop k = L[k] :: L.drop (k + 1) := List.drop_eq_getElem_cons (by omega)
  have h2 : L.drop (k + 1) = L[k + 1] :: L.drop (k + 2) := List.drop_eq_getElem_cons (by omega)
  have h3 := List.take_append_drop k L
  rw [h1, h2] at h3
  rw [List.append_assoc]
  exact h3.symm
theorem bk_there (L : List Lt) : thereQ (bkQ L) 0 = true := rfl
theorem bk_have (L : List Lt) : haveQ (bkQ L) 0 = L := rfl
theorem bk_with (L M : List Lt) : withQ (bkQ L) 0 M = bkQ M := rfl
theorem bk_twice {A B : List Lt} {a b : Lt} {k : Nat} (hA : A.length = k) (hl : (A ++ [a, b] ++ B).length < 1024) : twiceQ (bkQ (A ++ [a, b] ++ B)) 0 (k : Int) = (bkQ (A ++ [a, a, b] ++ B), 0) := by
  have e : A ++ [a, b] ++ B = A ++ a :: (b :: B) := by simp
  have h1 := cutT_at A (a :: b :: B) [] [a] hA
  have hlen : (A ++ [a, b] ++ B).length = k + 2 + B.length := by simp; omega
  unfold twiceQ
  rw [bk_there, bk_have, if_neg (by simp), if_neg (by omega), if_neg (by omega), Int.toNat_natCast, bk_with, e, getD_at A (b :: B) a noL hA]
  simp only [List.append_nil, List.length_nil] at h1
  rw [h1]
  simp
theorem bk_drop {A B : List Lt} {a b : Lt} {k : Nat} (hA : A.length = k) : dropQ (bkQ (A ++ [a, a, b] ++ B)) 0 (k : Int) = (bkQ (A ++ [a, b] ++ B), 0) := by
  have e : A ++ [a, a, b] ++ B = A ++ [a] ++ (a :: b :: B) := by simp
  have h1 := cutT_at A (a :: b :: B) [a] [] hA
  have hlen : (A ++ [a, a, b] ++ B).length = k + 3 + B.length := by simp; omega
  unfold dropQ
  rw [bk_there, bk_have, if_neg (by simp), if_neg (by omega), Int.toNat_natCast, bk_with, e]
  simp only [List.length_singleton] at h1
  rw [h1]
  simp
theorem bk_swap {A B : List Lt} {a b : Lt} {k : Nat} (hA : A.length = k) : swapQ (bkQ (A ++ [a, b] ++ B)) 0 (k : Int) = (bkQ (A ++ [b, a] ++ B), 0) := by
  have h1 := cutT_at A B [a, b] [b, a] hA
  have hlen : (A ++ [a, b] ++ B).length = k + 2 + B.length := by simp; omega
  have g1 : (A ++ [a, b] ++ B).getD k noL = a := by rw [show A ++ [a, b] ++ B = A ++ a :: (b :: B) by simp]; exact getD_at A (b :: B) a noL hA
  have g2 : (A ++ [a, b] ++ B).getD (k + 1) noL = b := by rw [show A ++ [a, b] ++ B = (A ++ [a]) ++ b :: B by simp]; exact getD_at (A ++ [a]) B b noL (by simp [hA])
  unfold swapQ
  rw [bk_there, bk_have, if_neg (by simp), if_neg (by omega), Int.toNat_natCast, g1, g2, bk_with]
  simp only [List.length_cons, List.length_nil] at h1
  rw [h1]
theorem bk_next {L : List Lt} {l : Lt} : nextQ (bkQ (l :: L)) 0 = (bkQ L, l, 0) := rfl
theorem bkL_drop {n i : Nat} (h : i < n) : (bkL n).drop i = tL 0 0 i :: (bkL n).drop (i + 1) := by
  rw [List.drop_eq_getElem_cons (by rw [bkL_len]; exact h)]
  congr 1
  simp [bkL]
theorem i64_and31 (n : Int) : bits .and .i64 n 31 = n % 32 := i64_mask n 5 (by omega)
theorem i64_and16 (n : Int) : bits .and .i64 n 65535 = n % 65536 := i64_mask n 16 (by omega)
theorem chr_conv (w : World) {i : Nat} (hi : i < 100) : (convert 53 9 (.slice (some ⟨w.heap.size, 0, none⟩) 1 1)).run Try.prog (w.alloc (.cells #[.int .u8 (97 + (i : Int))] 5)) = .ok (.string ⟨#[chr i]⟩) (w.alloc (.cells #[.int .u8 (97 + (i : Int))] 5)) := by
  have h := run_convert_bytes_back (P := Try.prog) (w.alloc (.cells #[.int .u8 (97 + (i : Int))] 5)) 53 9 5 ⟨w.heap.size, 0, none⟩ 1 [chr i] Try.underlying53 Try.underlying5 Try.underlying9 (fun j hj => by
    have hj : j = 0 := by simpa using hj
    subst hj
    have hr := Row.new w 5 [.int .u8 (97 + (i : Int))]
    refine (hr.cell (j := 0) rfl).trans ?_
    have := chr_nat hi
    simp only [List.getElem_cons_zero]
    rw [this]
    rfl)
  exact h
set_option maxHeartbeats 8000000 in
theorem back_walk (C : Code) (x y : Int) (w : World) : Calls Try.prog 6 #[.int .i64 x, .int .i64 y] w (Gives (.bool true) w) := by
  have H0 := Lib.hid (C.new 1 w (by omega) (by omega))
  have hx0 := Int.emod_nonneg x (show (32 : Int) ≠ 0 by decide)
  have hx1 := Int.emod_lt_of_pos x (show (0 : Int) < 32 by decide)
  have ex := i64_and31 x
  have ey := i64_and16 y
  obtain ⟨n, hn⟩ : ∃ n : Nat, 2 + x % 32 = (n : Int) := ⟨(2 + x % 32).toNat, by omega⟩
  have hy0 := Int.emod_nonneg y (show (65536 : Int) ≠ 0 by decide)
  obtain ⟨z, hz⟩ : ∃ z : Nat, y % 65536 = (z : Int) := ⟨(y % 65536).toNat, by omega⟩
  rw [hz] at ey
  generalize x % 32 = a at *
  have wa : IntKind.i64.wrap (2 + a) = (n : Int) := by rw [IntKind.wrap_i64]; omega
  have hn1 : 2 ≤ n := by omega
  have hn2 : n ≤ 33 := by omega
  have wn : IntKind.i64.wrap ((n : Int) - 1) = ((n - 1 : Nat) : Int) := by rw [IntKind.wrap_i64]; omega
  have hk : z % (n - 1) < n - 1 := Nat.mod_lt _ (by omega)
  obtain ⟨k, hkk⟩ : ∃ k, z % (n - 1) = k := ⟨_, rfl⟩
  have hmod : (z : Int) % ((n - 1 : Nat) : Int) = (k : Int) := by rw [← hkk]; rfl
  rw [hkk] at hk
  clear hkk
  have hn10 : ¬ ((n - 1 : Nat) : Int) = 0 := by omega
  clear hn hx0 hx1 hy0 hz
  go_enter Try.func6, Try.ntmps6
  go_wp2_with fail
  refine H0.out.mono ?_
  rintro e w1 ⟨p, F1, rfl, h1, hF, hB⟩
  have HO1 := Lib.hid (show OS C w w1 p F1 (bkQ (bkL 0)) from ⟨h1, hF, hB⟩)
  clear h1 hF hB
  go_wp2_with fail
  go_loopw [9] (fun s wr => ∃ (i : Nat) (F : Nat → Prop), s = .int .i64 (i : Int) ∧ i ≤ n ∧ Hid (OS C w wr p F (bkQ (bkL i)))) (fun s _ => ((n : Int) - intOf s).toNat)
  case atStart => exact ⟨0, F1, rfl, by omega, HO1⟩
  case round =>
    obtain ⟨i, F, rfl, hi, HO⟩ := hrel
    by_cases hlt : i < n
    · have hltz : (i : Int) < (n : Int) := by omega
      have wi : IntKind.i64.wrap (97 + (i : Int)) = 97 + (i : Int) := by rw [IntKind.wrap_i64]; omega
      have wu : IntKind.u8.wrap (97 + (i : Int)) = 97 + (i : Int) := by rw [IntKind.wrap_u8]; omega
      have hcv := chr_conv wr (i := i) (by omega)
      have hb : Below wr.heap.size wr (wr.alloc (.cells #[.int .u8 (97 + (i : Int))] 5)) := (Below.refl _ wr).alloc (Nat.le_refl _) _
      have HO2 := Lib.hid (HO.out.on hb)
      have HS := Lib.hid (C.send_is HO2.out.road 0 0 ⟨#[chr i]⟩ (in64 (by decide)) (in64 (by decide)) (by show 1 ≤ maxLen; decide) (bk_send (by omega)))
      clear hb
      go_wp2_with fail
      refine HS.out.mono ?_
      rintro e w2 ⟨rfl, F', h2, T2⟩
      have HO3 := Lib.hid (HO2.out.code h2 T2)
      clear h2 T2
      go_wp2_with fail
      exact ⟨⟨i + 1, F', by go_num, by omega, HO3⟩, by simp [intOf]; omega⟩
    · obtain rfl : i = n := by omega
      have hnl : ¬ (i : Int) < (i : Int) := by omega
      obtain ⟨A, a1, b1, B, hL, hA⟩ := bk_split (L := bkL i) (k := k) (by rw [bkL_len]; omega)
      have hlen : (A ++ [a1, b1] ++ B).length < 1024 := by rw [← hL, bkL_len]; omega
      have hk64 : In64 (k : Int) := in64 (by omega)
      have HH := Lib.hid (fun w p F (h : C.Is w p F (bkQ (A ++ [a1, b1] ++ B))) => C.twice_is h 0 (k : Int) (in64 (by decide)) hk64 (bk_twice hA hlen))
      have HH2 := Lib.hid (fun w p F (h : C.Is w p F (bkQ (A ++ [a1, a1, b1] ++ B))) => C.drop_is h 0 (k : Int) (in64 (by decide)) hk64 (bk_drop hA))
      have HH3 := Lib.hid (fun w p F (h : C.Is w p F (bkQ (A ++ [a1, b1] ++ B))) => C.swap_is h 0 (k : Int) (in64 (by decide)) hk64 (bk_swap hA))
      have HH4 := Lib.hid (fun w p F (h : C.Is w p F (bkQ (A ++ [b1, a1] ++ B))) => C.swap_is h 0 (k : Int) (in64 (by decide)) hk64 (bk_swap hA))
      have HOA := HO.out
      rw [hL] at HOA
      have HL := Lib.hid hL
      have HT := Lib.hid (HH.out _ _ _ HOA.road)
      have HOA := Lib.hid HOA
      clear hL hA hlen hk64 HH
      go_wp2_with fail
      refine HT.out.mono ?_
      rintro e w2 ⟨rfl, F2, h2, T2⟩
      have HO2 := Lib.hid (HOA.out.code h2 T2)
      have HD := Lib.hid (HH2.out _ _ _ h2)
      clear h2 T2 HOA HT
      go_wp2_with fail
      refine HD.out.mono ?_
      rintro e w3 ⟨rfl, F3, h3, T3⟩
      have HO3 := Lib.hid (HO2.out.code h3 T3)
      have HS3 := Lib.hid (HH3.out _ _ _ h3)
      clear h3 T3 HO2 HD
      go_wp2_with fail
      refine HS3.out.mono ?_
      rintro e w4 ⟨rfl, F4, h4, T4⟩
      have HO4 := Lib.hid (HO3.out.code h4 T4)
      have HS4 := Lib.hid (HH4.out _ _ _ h4)
      clear h4 T4 HO3 HS3
      go_wp2_with fail
      refine HS4.out.mono ?_
      rintro e w5 ⟨rfl, F5, h5, T5⟩
      have HO5 := HO4.out.code h5 T5
      rw [← HL.out] at HO5
      have HO5 := Lib.hid HO5
      clear h5 T5 HO4 HS4
      go_wp2_with fail
      go_loopw [10] (fun s wr => ∃ (j : Nat) (F : Nat → Prop), s = .int .i64 (j : Int) ∧ j ≤ i ∧ Hid (OS C w wr p F (bkQ ((bkL i).drop j)))) (fun s _ => ((i : Int) - intOf s).toNat)
      case atStart => exact ⟨0, F5, rfl, by omega, HO5⟩
      case round =>
        obtain ⟨j, F, rfl, hj, HJ⟩ := hrel
        by_cases hji : j < i
        · have hjz : (j : Int) < (i : Int) := by omega
          have HJ1 := HJ.out
          rw [bkL_drop hji] at HJ1
          have HN := Lib.hid (C.next_is HJ1.road 0 (in64 (by decide)) bk_next)
          have HJ1 := Lib.hid HJ1
          have wi : IntKind.i64.wrap (97 + (j : Int)) = 97 + (j : Int) := by rw [IntKind.wrap_i64]; omega
          have wu : IntKind.u8.wrap (97 + (j : Int)) = 97 + (j : Int) := by rw [IntKind.wrap_u8]; omega
          go_wp2_with fail
          refine HN.out.mono ?_
          rintro e w6 ⟨rfl, F6, h6, T6⟩
          have HO6 := Lib.hid (HJ1.out.code h6 T6)
          clear h6 T6
          have rL : Row (w6.alloc (.cells #[.int .i64 0, .int .i64 0, .string ⟨#[chr j]⟩] 34)) w6.heap.size 34 [.int .i64 0, .int .i64 0, .string ⟨#[chr j]⟩] := Row.new w6 _ _
          have l2 := rL.cell (j := 2) rfl
          have ll := rL.lt
          have hcv := chr_conv (w6.alloc (.cells #[.int .i64 0, .int .i64 0, .string ⟨#[chr j]⟩] 34)) (i := j) (by omega)
          rw [World.size_alloc] at hcv
          have hb7 : Below w6.heap.size w6 ((w6.alloc (.cells #[.int .i64 0, .int .i64 0, .string ⟨#[chr j]⟩] 34)).alloc (.cells #[.int .u8 (97 + (j : Int))] 5)) := ((Below.refl _ w6).alloc (Nat.le_refl _) _).alloc (by simp) _
          have HO7 := Lib.hid (HO6.out.on hb7)
          clear hb7 rL
          go_wp2_with fail
          exact ⟨⟨j + 1, F6, by go_num, by omega, HO7⟩, by simp [intOf]; omega⟩
        · obtain rfl : j = i := by omega
          have hjl : ¬ (j : Int) < (j : Int) := by omega
          have HJ1 := HJ.out
          rw [List.drop_eq_nil_of_le (by rw [bkL_len]; omega)] at HJ1
          have HWt := Lib.hid (C.waits_is HJ1.road 0 (in64 (by decide)) (show waitsQ (bkQ []) 0 = 0 from rfl))
          have HJ1 := Lib.hid HJ1
          have HA := Lib.hid (awake_any C)
          go_wp2_with fail
          refine HWt.out.mono ?_
          rintro e w6 ⟨rfl, hb6⟩
          have HB6 := Lib.hid (HJ1.out.on hb6).below
          clear hb6
          go_wp2_with fail
          refine (HA.out w6).mono ?_
          rintro e w7 ⟨rfl, h7⟩
          have hfin := HB6.out.trans (h7.mono HB6.out.size)
          go_wp2
          go_ret
          exact ⟨rfl, hfin⟩
end Go.Proofs.Ytikbgaomiliefaa.Ro
