/- What Check and Dist of package vec, and those of the document's answers, return. Conditions: the slices read as lists of numbers. -/
import Derived.Test.YtkgapieikgniiaaVKit
import Derived.Test.YtkgapieikgniiaaVMath
set_option linter.unusedVariables false
set_option linter.unusedSimpArgs false
namespace Go.Proofs.Ytkgapieikgniiaa
open Go Go.RowKit

/-- It returns v; only draws of the tape may lie between. -/
def Says (v : Value) (w : World) (e : Ending) (w' : World) : Prop := e = .returned v ∧ ∃ q, w' = w.drewN q
theorem ck_no {l : List Int} {dim : Int} (h : ¬ (okV l = true ∧ (l.length : Int) = dim)) : ck l dim = 50 := by unfold ck; rw [if_neg h]
theorem ck_yes {l : List Int} {dim : Int} (h : okV l = true ∧ (l.length : Int) = dim) : ck l dim = 0 := by unfold ck; rw [if_pos h]
theorem ret_int {a b : Int} (h : a = b) : (Ending.returned (.int .i64 a)) = .returned (.int .i64 b) := by rw [h]
set_option maxHeartbeats 2000000 in
theorem check_any (A : Option Addr) (n c B : Nat) (l : List Int) (dim : Int) (w : World) (hx : Reads w B 1 A n (ints l)) (hm : n ≤ maxLen) : Calls Try.prog 34 #[.slice A n c, .int .i64 dim] w (Says (.int .i64 (ck l dim)) w) := by
  have lx := hx.len
  have lx1 : n ≤ l.length := by omega
  have lx2 : l.length ≤ n := by omega
  unfold maxLen at hm
  have LX := Lib.hid lx
  clear lx
  by_cases h1 : n < 1
  · have hz : (n : Int) < 1 := by omega
    have e := ck_no (l := l) (dim := dim) (by rw [okV_iff]; omega)
    have HE := Lib.hid e
    clear e
    go_enter Try.func34, Try.ntmps34
    go_wp2
    go_ret
    exact ⟨ret_int HE.out.symm, 0, rfl⟩
  · by_cases h2 : 16 < n
    · have hz : (16 : Int) < n := by omega
      have e := ck_no (l := l) (dim := dim) (by rw [okV_iff]; omega)
      have HE := Lib.hid e
      clear e
      have hz1 : ¬ (n : Int) < 1 := by omega
      go_enter Try.func34, Try.ntmps34
      go_wp2
      go_ret
      exact ⟨ret_int HE.out.symm, 0, rfl⟩
    · have hz1 : ¬ (n : Int) < 1 := by omega
      have hz2 : ¬ (16 : Int) < n := by omega
      by_cases h3 : (n : Int) = dim
      · subst h3
        have hb : ((n : Int) != (n : Int)) = false := by simp
        go_enter Try.func34, Try.ntmps34
        go_wp2
        go_loopw [23] (fun i wr => ∃ k q : Nat, k ≤ n ∧ i = .int .i64 k ∧ wr = w.drewN q ∧ Hid (goodTo l k)) (fun i _ => n - (intOf i).toNat)
        case atStart => exact ⟨0, 0, Nat.zero_le _, rfl, rfl, Lib.hid (goodTo_zero l)⟩
        case round =>
          obtain ⟨k, q, hk, rfl, rfl, HT⟩ := hrel
          by_cases hlt : k < n
          · obtain ⟨ad, rfl, _, hc⟩ := hx.int_at hlt
            have hltz : (k : Int) < (n : Int) := by omega
            have hbad := okV_no (l := l) (k := k) (by omega)
            have hgood := goodTo_succ (l := l) (k := k) (by omega) HT.out
            have HB := Lib.hid hbad
            have HG := Lib.hid hgood
            clear hbad hgood
            generalize l.getD k 0 = X at *
            by_cases hx1 : X < -2147483648
            · have e := ck_no (l := l) (dim := (n : Int)) (fun h => by have := HB.out (.inl hx1); rw [this] at h; cases h.1)
              have HE := Lib.hid e
              clear e
              go_wp2
              go_ret
              exact ⟨ret_int HE.out.symm, _, rfl⟩
            · by_cases hx2 : 2147483647 < X
              · have e := ck_no (l := l) (dim := (n : Int)) (fun h => by have := HB.out (.inr hx2); rw [this] at h; cases h.1)
                have HE := Lib.hid e
                clear e
                go_wp2
                go_ret
                exact ⟨ret_int HE.out.symm, _, rfl⟩
              · go_wp2
                go_roundw
                case rel => exact ⟨k + 1, _, by omega, by go_num, rfl, Lib.hid (HG.out hx1 hx2)⟩
                case measure => simp [intOf]; omega
          · have e := ck_yes (l := l) (dim := (n : Int)) ⟨goodTo_all (by rw [← LX.out, show n = k by omega]; exact HT.out) (by omega) (by omega), by rw [← LX.out]⟩
            have HE := Lib.hid e
            clear e
            go_wp2
            go_ret
            exact ⟨ret_int HE.out.symm, _, rfl⟩
      · have e := ck_no (l := l) (dim := dim) (fun h => h3 (by rw [← h.2, ← LX.out]))
        have hb : ((n : Int) != dim) = true := by rw [bne_iff_ne]; exact h3
        have HE := Lib.hid e
        clear e
        go_enter Try.func34, Try.ntmps34
        go_wp2
        go_ret
        exact ⟨ret_int HE.out.symm, 0, rfl⟩

theorem drewN_two (w : World) (p q : Nat) : (w.drewN p).drewN q = w.drewN (p + q) := World.drewN_drewN ..
set_option maxHeartbeats 2000000 in
theorem is_any (A : Option Addr) (n c B : Nat) (l : List Int) (w : World) (hx : Reads w B 1 A n (ints l)) (hm : n ≤ maxLen) : Calls Try.prog 49 #[.slice A n c] w (Says (.bool (okV l)) w) := by
  have lx := hx.len
  have lx1 : n ≤ l.length := by omega
  have lx2 : l.length ≤ n := by omega
  unfold maxLen at hm
  have LX := Lib.hid lx
  clear lx
  go_enter Try.func49, Try.ntmps49
  go_wp2
  go_loopw [3] (fun i wr => ∃ k q : Nat, k ≤ n ∧ i = .int .i64 k ∧ wr = w.drewN q ∧ Hid (goodTo l k)) (fun i _ => n - (intOf i).toNat)
  case atStart => exact ⟨0, 0, Nat.zero_le _, rfl, rfl, Lib.hid (goodTo_zero l)⟩
  case round =>
    obtain ⟨k, q, hk, rfl, rfl, HT⟩ := hrel
    by_cases hlt : k < n
    · obtain ⟨ad, rfl, _, hc⟩ := hx.int_at hlt
      have hltz : (k : Int) < (n : Int) := by omega
      have hbad := okV_no (l := l) (k := k) (by omega)
      have hgood := goodTo_succ (l := l) (k := k) (by omega) HT.out
      have HB := Lib.hid hbad
      have HG := Lib.hid hgood
      clear hbad hgood
      generalize l.getD k 0 = X at *
      by_cases hx1 : X < -2147483648
      · have HE := Lib.hid (HB.out (.inl hx1))
        go_wp2
        go_ret
        exact ⟨ret_bool HE.out.symm, _, rfl⟩
      · by_cases hx2 : 2147483647 < X
        · have HE := Lib.hid (HB.out (.inr hx2))
          go_wp2
          go_ret
          exact ⟨ret_bool HE.out.symm, _, rfl⟩
        · go_wp2
          go_roundw
          case rel => exact ⟨k + 1, _, by omega, by go_num, rfl, Lib.hid (HG.out hx1 hx2)⟩
          case measure => simp [intOf]; omega
    · have hkn : k = n := by omega
      have HTT := Lib.hid (show goodTo l l.length by rw [← LX.out, ← hkn]; exact HT.out)
      by_cases h1 : n < 1
      · have e : okV l = false := by rw [Bool.eq_false_iff, Ne, okV_iff]; omega
        have HE := Lib.hid e
        clear e HT
        have hz : ¬ (1 : Int) ≤ n := by omega
        go_wp2
        go_ret
        exact ⟨ret_bool HE.out.symm, _, rfl⟩
      · have hz : (1 : Int) ≤ n := by omega
        by_cases h2 : n ≤ 16
        · have HE := Lib.hid (goodTo_all HTT.out (by omega) (by omega))
          have hz2 : (n : Int) ≤ 16 := by omega
          clear HT
          go_wp2
          go_ret
          exact ⟨ret_bool (by simpa using HE.out.symm), _, rfl⟩
        · have e : okV l = false := by rw [Bool.eq_false_iff, Ne, okV_iff]; omega
          have HE := Lib.hid e
          clear e HT
          have hz2 : ¬ (n : Int) ≤ 16 := by omega
          go_wp2
          go_ret
          exact ⟨ret_bool (by simpa using HE.out.symm), _, rfl⟩
set_option maxHeartbeats 2000000 in
theorem rcheck_any (A : Option Addr) (n c B : Nat) (l : List Int) (dim : Int) (w : World) (hx : Reads w B 1 A n (ints l)) (hm : n ≤ maxLen) : Calls Try.prog 32 #[.slice A n c, .int .i64 dim] w (Says (.int .i64 (ck l dim)) w) := by
  have hL := hx.len
  have LX := Lib.hid hL
  have HC := Lib.hid (is_any A n c B l w hx hm)
  clear hL
  cases hO : okV l with
  | false =>
    have HE := Lib.hid (ck_no (l := l) (dim := dim) (by rw [hO]; simp))
    rw [hO] at HC
    clear hO
    go_enter Try.func32, Try.ntmps32
    go_wp2_with fail
    refine HC.out.mono ?_
    rintro e w1 ⟨rfl, q, rfl⟩
    go_wp2_with fail
    go_ret
    exact ⟨ret_int HE.out.symm, _, rfl⟩
  | true =>
    rw [hO] at HC
    by_cases h3 : (n : Int) = dim
    · have HE := Lib.hid (ck_yes (l := l) (dim := dim) ⟨hO, by rw [← LX.out]; exact h3⟩)
      have hb : ((n : Int) != dim) = false := by rw [bne_eq_false_iff_eq]; exact h3
      clear hO h3
      go_enter Try.func32, Try.ntmps32
      go_wp2_with fail
      refine HC.out.mono ?_
      rintro e w1 ⟨rfl, q, rfl⟩
      go_wp2_with fail
      go_ret
      exact ⟨ret_int HE.out.symm, _, rfl⟩
    · have HE := Lib.hid (ck_no (l := l) (dim := dim) (fun h => h3 (by rw [← h.2, ← LX.out])))
      have hb : ((n : Int) != dim) = true := by rw [bne_iff_ne]; exact h3
      clear hO h3
      go_enter Try.func32, Try.ntmps32
      go_wp2_with fail
      refine HC.out.mono ?_
      rintro e w1 ⟨rfl, q, rfl⟩
      go_wp2_with fail
      go_ret
      exact ⟨ret_int HE.out.symm, _, rfl⟩
/-- A number and an error, as a call returns them. -/
def two (r : Int × Int) : Value := .tuple #[.int .i64 r.1, .int .i64 r.2]
theorem ret_two {a b : Int} {r : Int × Int} (h : r = (a, b)) : (Ending.returned (.tuple #[.int .i64 a, .int .i64 b])) = .returned (two r) := by rw [h]; rfl
theorem gap_max (X Y : Int) : max X Y - min X Y = gap X Y := by unfold gap; split <;> omega
set_option maxHeartbeats 4000000 in
theorem dist_any (A A' : Option Addr) (n m c c' B B' : Nat) (a b : List Int) (w : World) (hx : Reads w B 1 A n (ints a)) (hy : Reads w B' 1 A' m (ints b)) (hm : n ≤ maxLen) (hm' : m ≤ maxLen) :
    Calls Try.prog 55 #[.slice A n c, .slice A' m c'] w (Says (two (dstR a b)) w) := by
  have lx := hx.len
  have ly := hy.len
  have hc1 := check_any A n c B a n w hx hm
  have hc2 := fun q => check_any A' m c' B' b n (w.drewN q) (hy.drewN q) hm'
  have HC1 := Lib.hid hc1
  have HC2 := Lib.hid hc2
  clear hc1 hc2
  by_cases h1 : okV a = true
  · by_cases h2 : okV b = true ∧ b.length = a.length
    · rw [ck_yes ⟨h1, by rw [lx]⟩] at HC1
      rw [ck_yes ⟨h2.1, by rw [lx, h2.2]⟩] at HC2
      have HE := Lib.hid (dstR_yes ⟨h1, h2.1, h2.2⟩)
      have lx1 : n ≤ a.length := by omega
      have lx2 : n ≤ b.length := by omega
      have h16 := ((okV_iff a).1 h1).2.1
      have lx3 : n ≤ 16 := by omega
      have hmn : m = n := by omega
      subst hmn
      have HF := Lib.hid (farTo_all (a := a) (b := b) lx.symm ly.symm)
      have HS := Lib.hid (fun k (h : k < m) => farTo_succ (a := a) (b := b) (k := k) (by omega) (by omega))
      have HL := Lib.hid (fun k (h : k ≤ m) => farTo_le h1 h2.1 (k := k) (by omega) (by omega))
      have HO1 := Lib.hid (fun k (h : k < m) => okV_at h1 (k := k) (by omega))
      have HO2 := Lib.hid (fun k (h : k < m) => okV_at h2.1 (k := k) (by omega))
      clear h1 h2 lx ly h16 hm hm'
      go_enter Try.func55, Try.ntmps55
      go_wp2_with fail
      refine HC1.out.mono ?_
      rintro e w1 ⟨rfl, q1, rfl⟩
      go_wp2_with fail
      refine (HC2.out q1).mono ?_
      rintro e w1 ⟨rfl, q2, rfl⟩
      rw [drewN_two]
      go_wp2_with fail
      go_loopw [6, 22] (fun s i wr => ∃ k q : Nat, k ≤ m ∧ i = .int .i64 k ∧ s = .int .i64 (farTo a b k) ∧ wr = w.drewN q) (fun _ i _ => m - (intOf i).toNat)
      case atStart => exact ⟨0, _, Nat.zero_le _, rfl, by rw [farTo_zero], rfl⟩
      case round =>
        obtain ⟨k, q, hk, rfl, rfl, rfl⟩ := hrel
        by_cases hlt : k < m
        · obtain ⟨ad, rfl, _, hc⟩ := hx.int_at hlt
          obtain ⟨ad', rfl, _, hc'⟩ := hy.int_at hlt
          have hltz : (k : Int) < (m : Int) := by omega
          have hS := HS.out k hlt
          have hl := HL.out k hk
          have ho1 := HO1.out k hlt
          have ho2 := HO2.out k hlt
          have HSS := Lib.hid hS
          clear hS
          generalize hX : a.getD k 0 = X at *
          generalize hY : b.getD k 0 = Y at *
          generalize hFk : farTo a b k = Z at *
          clear hX hY hFk
          have hg : gap X Y = if X < Y then Y - X else X - Y := rfl
          have HG := Lib.hid hg
          clear hg
          by_cases hXY : X < Y
          · rw [if_pos hXY] at HG
            go_wp2
            go_quiet (fail)
            go_wp2
            go_roundw
            case rel => exact ⟨k + 1, _, by omega, by go_num, by rw [HSS.out, HG.out] <;> go_num, rfl⟩
            case measure => simp [intOf]; omega
          · rw [if_neg hXY] at HG
            go_wp2
            go_quiet (fail)
            go_wp2
            go_roundw
            case rel => exact ⟨k + 1, _, by omega, by go_num, by rw [HSS.out, HG.out] <;> go_num, rfl⟩
            case measure => simp [intOf]; omega
        · have hkn : k = m := by omega
          subst hkn
          rw [HF.out]
          go_wp2
          go_ret2
          exact ⟨ret_two HE.out, _, rfl⟩
    · have HE := Lib.hid (dstR_no (a := a) (b := b) (fun h => h2 h.2))
      rw [ck_yes ⟨h1, by rw [lx]⟩] at HC1
      rw [ck_no (fun h => h2 ⟨h.1, by have := h.2; omega⟩)] at HC2
      clear h1 h2 lx ly
      go_enter Try.func55, Try.ntmps55
      go_wp2_with fail
      refine HC1.out.mono ?_
      rintro e w1 ⟨rfl, q1, rfl⟩
      go_wp2_with fail
      refine (HC2.out q1).mono ?_
      rintro e w1 ⟨rfl, q2, rfl⟩
      rw [drewN_two]
      go_wp2_with fail
      go_ret2
      exact ⟨ret_two HE.out, _, rfl⟩
  · have HE := Lib.hid (dstR_no (a := a) (b := b) (fun h => h1 h.1))
    rw [ck_no (fun h => h1 h.1)] at HC1
    clear h1 lx ly
    go_enter Try.func55, Try.ntmps55
    go_wp2_with fail
    refine HC1.out.mono ?_
    rintro e w1 ⟨rfl, q1, rfl⟩
    go_wp2_with fail
    go_ret2
    exact ⟨ret_two HE.out, _, rfl⟩

set_option maxHeartbeats 4000000 in
theorem rdist_any (A A' : Option Addr) (n m c c' B B' : Nat) (a b : List Int) (w : World) (hx : Reads w B 1 A n (ints a)) (hy : Reads w B' 1 A' m (ints b)) (hm : n ≤ maxLen) (hm' : m ≤ maxLen) :
    Calls Try.prog 35 #[.slice A n c, .slice A' m c'] w (Says (two (dstR a b)) w) := by
  have lx := hx.len
  have ly := hy.len
  have hc1 := is_any A n c B a w hx hm
  have hc2 := fun q => is_any A' m c' B' b (w.drewN q) (hy.drewN q) hm'
  have HC1 := Lib.hid hc1
  have HC2 := Lib.hid hc2
  clear hc1 hc2
  cases h1 : okV a with
  | true =>
    rw [h1] at HC1
    cases h2 : okV b with
    | true =>
      rw [h2] at HC2
      by_cases hmn : n = m
      · subst hmn
        have HE := Lib.hid (dstR_yes ⟨h1, h2, show b.length = a.length by omega⟩)
        have lx1 : n ≤ a.length := by omega
        have lx2 : n ≤ b.length := by omega
        have h16 := ((okV_iff a).1 h1).2.1
        have lx3 : n ≤ 16 := by omega
        have HF := Lib.hid (farTo_all (a := a) (b := b) lx.symm ly.symm)
        have HS := Lib.hid (fun k (h : k < n) => farTo_succ (a := a) (b := b) (k := k) (by omega) (by omega))
        have HL := Lib.hid (fun k (h : k ≤ n) => farTo_le h1 h2 (k := k) (by omega) (by omega))
        have HO1 := Lib.hid (fun k (h : k < n) => okV_at h1 (k := k) (by omega))
        have HO2 := Lib.hid (fun k (h : k < n) => okV_at h2 (k := k) (by omega))
        clear h1 h2 lx ly h16 hm hm'
        go_enter Try.func35, Try.ntmps35
        go_wp2_with fail
        refine HC1.out.mono ?_
        rintro e w1 ⟨rfl, q1, rfl⟩
        go_wp2_with fail
        refine (HC2.out q1).mono ?_
        rintro e w1 ⟨rfl, q2, rfl⟩
        rw [drewN_two]
        go_wp2_with fail
        go_loopw [6, 7] (fun s i wr => ∃ k q : Nat, k ≤ n ∧ i = .int .i64 k ∧ s = .int .i64 (farTo a b k) ∧ wr = w.drewN q) (fun _ i _ => n - (intOf i).toNat)
        case atStart => exact ⟨0, _, Nat.zero_le _, rfl, by rw [farTo_zero], rfl⟩
        case round =>
          obtain ⟨k, q, hk, rfl, rfl, rfl⟩ := hrel
          by_cases hlt : k < n
          · obtain ⟨ad, rfl, _, hc⟩ := hx.int_at hlt
            obtain ⟨ad', rfl, _, hc'⟩ := hy.int_at hlt
            have hltz : (k : Int) < (n : Int) := by omega
            have hS := HS.out k hlt
            have hl := HL.out k hk
            have ho1 := HO1.out k hlt
            have ho2 := HO2.out k hlt
            have HSS := Lib.hid hS
            clear hS
            generalize hX : a.getD k 0 = X at *
            generalize hY : b.getD k 0 = Y at *
            generalize hFk : farTo a b k = Z at *
            clear hX hY hFk
            have hg : gap X Y = if X < Y then Y - X else X - Y := rfl
            have HG := Lib.hid hg
            clear hg
            by_cases hXY : Y < X
            · rw [if_neg (by omega)] at HG
              go_wp2
              go_quiet (fail)
              go_wp2
              go_quiet (fail)
              go_wp2
              go_roundw
              case rel => exact ⟨k + 1, _, by omega, by go_num, by rw [HSS.out, HG.out] <;> go_num, rfl⟩
              case measure => simp [intOf]; omega
            · have HG2 : Hid (gap X Y = Y - X) := Lib.hid (by rw [HG.out]; split <;> omega)
              go_wp2
              go_quiet (fail)
              go_wp2
              go_quiet (fail)
              go_wp2
              go_roundw
              case rel => exact ⟨k + 1, _, by omega, by go_num, by rw [HSS.out, HG2.out] <;> go_num, rfl⟩
              case measure => simp [intOf]; omega
          · have hkn : k = n := by omega
            subst hkn
            rw [HF.out]
            go_wp2
            go_ret2
            exact ⟨ret_two HE.out, _, rfl⟩
      · have HE := Lib.hid (dstR_no (a := a) (b := b) (fun h => hmn (by omega)))
        have hb : ((n : Int) != (m : Int)) = true := by rw [bne_iff_ne]; omega
        clear h1 h2 lx ly hmn
        go_enter Try.func35, Try.ntmps35
        go_wp2_with fail
        refine HC1.out.mono ?_
        rintro e w1 ⟨rfl, q1, rfl⟩
        go_wp2_with fail
        refine (HC2.out q1).mono ?_
        rintro e w1 ⟨rfl, q2, rfl⟩
        rw [drewN_two]
        go_wp2_with fail
        go_ret2
        exact ⟨ret_two HE.out, _, rfl⟩
    | false =>
      have HE := Lib.hid (dstR_no (a := a) (b := b) (fun h => by rw [h2] at h; cases h.2.1))
      rw [h2] at HC2
      clear h1 h2 lx ly
      go_enter Try.func35, Try.ntmps35
      go_wp2_with fail
      refine HC1.out.mono ?_
      rintro e w1 ⟨rfl, q1, rfl⟩
      go_wp2_with fail
      refine (HC2.out q1).mono ?_
      rintro e w1 ⟨rfl, q2, rfl⟩
      rw [drewN_two]
      go_wp2_with fail
      go_ret2
      exact ⟨ret_two HE.out, _, rfl⟩
  | false =>
    have HE := Lib.hid (dstR_no (a := a) (b := b) (fun h => by rw [h1] at h; cases h.1))
    rw [h1] at HC1
    clear h1 lx ly
    go_enter Try.func35, Try.ntmps35
    go_wp2_with fail
    refine HC1.out.mono ?_
    rintro e w1 ⟨rfl, q1, rfl⟩
    go_wp2_with fail
    go_ret2
    exact ⟨ret_two HE.out, _, rfl⟩
theorem take_next {x y : List Int} {k : Nat} (h : x.take k = y.take k) (hx : k < x.length) (hy : k < y.length) (e : x.getD k 0 = y.getD k 0) : x.take (k + 1) = y.take (k + 1) := by
  rw [take_snoc x k hx, take_snoc y k hy, h, e]
set_option maxHeartbeats 1000000 in
theorem sameInts_any (A A' : Option Addr) (n m c c' B B' : Nat) (x y : List Int) (w : World) (hx : Reads w B 1 A n (ints x)) (hy : Reads w B' 1 A' m (ints y)) (hm : n ≤ maxLen) (hm' : m ≤ maxLen) :
    Calls Try.prog 28 #[.slice A n c, .slice A' m c'] w (Says (.bool (decide (x = y))) w) := by
  have lx := hx.len
  have ly := hy.len
  unfold maxLen at hm hm'
  by_cases hnm : n = m
  · subst hnm
    have LX := Lib.hid lx
    have LY := Lib.hid ly
    have lx' : x.length ≤ n := by omega
    have ly' : y.length ≤ n := by omega
    have lx2 : n ≤ x.length := by omega
    have ly2 : n ≤ y.length := by omega
    clear lx ly
    go_enter Try.func28, Try.ntmps28
    go_wp2
    go_loopw [5] (fun i wr => ∃ k q : Nat, k ≤ n ∧ i = .int .i64 k ∧ wr = w.drewN q ∧ Hid (x.take k = y.take k)) (fun i _ => n - (intOf i).toNat)
    case atStart => exact ⟨0, 0, Nat.zero_le _, rfl, rfl, Lib.hid rfl⟩
    case round =>
      obtain ⟨k, q, hk, rfl, rfl, HT⟩ := hrel
      by_cases hlt : k < n
      · obtain ⟨ad, rfl, _, hc⟩ := hx.int_at hlt
        obtain ⟨ad', rfl, _, hc'⟩ := hy.int_at hlt
        have hltz : (k : Int) < (n : Int) := by omega
        generalize hX : x.getD k 0 = X at hc
        generalize hY : y.getD k 0 = Y at hc'
        have HX := Lib.hid hX
        have HY := Lib.hid hY
        clear hX hY
        by_cases hXY : X = Y
        · subst hXY
          go_wp2
          go_quiet (fail)
          go_wp2
          go_roundw
          case rel => exact ⟨k + 1, _, by omega, by go_num, rfl, Lib.hid (take_next HT.out (by omega) (by omega) (HX.out.trans HY.out.symm))⟩
          case measure => simp [intOf]; omega
        · have hb : (X != Y) = true := by rw [bne_iff_ne]; exact hXY
          have hne : decide (x = y) = false := decide_eq_false (by rintro rfl; exact hXY (HX.out.symm.trans HY.out))
          go_wp2
          go_quiet (fail)
          go_wp2
          go_ret
          exact ⟨ret_bool hne.symm, _, World.drewN_drewN ..⟩
      · go_wp2
        go_ret
        have e : x = y := by
          have := HT.out
          rwa [List.take_of_length_le (by omega), List.take_of_length_le (by omega)] at this
        exact ⟨ret_bool (decide_eq_true e).symm, _, rfl⟩
  · have hne : decide (x = y) = false := decide_eq_false (by rintro rfl; omega)
    have hb : ((n : Int) != (m : Int)) = true := by rw [bne_iff_ne]; omega
    rw [hne]
    clear lx ly
    go_enter Try.func28, Try.ntmps28
    go_wp2
    go_ret
    exact ⟨rfl, 0, rfl⟩
/-- A slice that the text itself writes. -/
theorem news_int (W : World) (l : List Int) (hl : l ≠ []) : Reads (W.alloc (.cells (ints l).toArray 3)) (W.heap.size + 1) 1 (some ⟨W.heap.size, 0, none⟩) l.length (ints l) := by
  refine ⟨by rw [ints_len]; omega, fun _ => ⟨_, rfl, by simp, fun j u hj => ?_⟩⟩
  have := news_cells W (ints l).toArray 3 j u (by simpa using hj)
  exact this
theorem dstR_known : dstR [1, 2] [-1, 5] = (5, 0) := by decide +kernel
theorem ck_known : ck [1] 2 = 50 := by decide +kernel
end Go.Proofs.Ytkgapieikgniiaa
