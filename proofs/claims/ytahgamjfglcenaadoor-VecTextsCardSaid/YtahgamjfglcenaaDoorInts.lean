/- What Check and Dist of package vec, and those of the document's answers, return. Conditions: the slices read as lists of numbers. -/
import Derived.Test.YtahgamjfglcenaaDoorKit
import Derived.Test.YtahgamjfglcenaaDoorMath
set_option linter.unusedVariables false
set_option linter.unusedSimpArgs false
namespace Go.Proofs.YtahgamjfglcenaaDoor
open Go Go.RowKit

/-- It returns v; only draws of the tape may lie between. -/
def Says (v : Value) (w : World) (e : Ending) (w' : World) : Prop := e = .returned v ∧ ∃ q, w' = w.drewN q
theorem ck_no {l : List Int} {dim : Int} (h : ¬ (okV l = true ∧ (l.length : Int) = dim)) : ck l dim = 50 := by unfold ck; rw [if_neg h]
theorem ck_yes {l : List Int} {dim : Int} (h : okV l = true ∧ (l.length : Int) = dim) : ck l dim = 0 := by unfold ck; rw [if_pos h]
theorem ret_int {a b : Int} (h : a = b) : (Ending.returned (.int .i64 a)) = .returned (.int .i64 b) := by rw [h]
set_option maxHeartbeats 2000000 in
theorem check_any (A : Option Addr) (n c B : Nat) (l : List Int) (dim : Int) (w : World) (hx : Reads w B 1 A n (ints l)) (hm : n ≤ maxLen) : Calls Tryd.prog 10 #[.slice A n c, .int .i64 dim] w (Says (.int .i64 (ck l dim)) w) := by
  have lx := hx.len
  have lx1 : n ≤ l.length := by omega
  have lx2 : l.length ≤ n := by omega
  unfold maxLen at hm
  have LX := Lib.hid lx
  clear lx
  by_cases h1 : n < 1
  · have hz : (n : Int) < 1 := by omega
    have e := ck_no (l := l) (dim := dim) (by rw [okV_iff]; omega)
    have HE := Lib.hid e
    clear e
    go_enter Tryd.func10, Tryd.ntmps10
    go_wp2
    go_ret
    exact ⟨ret_int HE.out.symm, 0, rfl⟩
  · by_cases h2 : 16 < n
    · have hz : (16 : Int) < n := by omega
      have e := ck_no (l := l) (dim := dim) (by rw [okV_iff]; omega)
      have HE := Lib.hid e
      clear e
      have hz1 : ¬ (n : Int) < 1 := by omega
      go_enter Tryd.func10, Tryd.ntmps10
      go_wp2
      go_ret
      exact ⟨ret_int HE.out.symm, 0, rfl⟩
    · have hz1 : ¬ (n : Int) < 1 := by omega
      have hz2 : ¬ (16 : Int) < n := by omega
      by_cases h3 : (n : Int) = dim
      · subst h3
        have hb : ((n : Int) != (n : Int)) = false := by simp
        go_enter Tryd.func10, Tryd.ntmps10
        go_wp2
        go_loopw [23] (fun i wr => ∃ k q : Nat, k ≤ n ∧ i = .int .i64 k ∧ wr = w.drewN q ∧ Hid (goodTo l k)) (fun i _ => n - (intOf i).toNat)
        case atStart => exact ⟨0, 0, Nat.zero_le _, rfl, rfl, Lib.hid (goodTo_zero l)⟩
        case round =>
          obtain ⟨k, q, hk, rfl, rfl, HT⟩ := hrel
          by_cases hlt : k < n
          · obtain ⟨ad, rfl, _, hc⟩ := hx.int_at hlt
            have hltz : (k : Int) < (n : Int) := by omega
            have hbad := okV_no (l := l) (k := k) (by omega)
            have hgood := goodTo_succ (l := l) (k := k) (by omega) HT.out
            have HB := Lib.hid hbad
            have HG := Lib.hid hgood
            clear hbad hgood
            generalize l.getD k 0 = X at *
            by_cases hx1 : X < -2147483648
            · have e := ck_no (l := l) (dim := (n : Int)) (fun h => by have := HB.out (.inl hx1); rw [this] at h; cases h.1)
              have HE := Lib.hid e
              clear e
              go_wp2
              go_ret
              exact ⟨ret_int HE.out.symm, _, rfl⟩
            · by_cases hx2 : 2147483647 < X
              · have e := ck_no (l := l) (dim := (n : Int)) (fun h => by have := HB.out (.inr hx2); rw [this] at h; cases h.1)
                have HE := Lib.hid e
                clear e
                go_wp2
                go_ret
                exact ⟨ret_int HE.out.symm, _, rfl⟩
              · go_wp2
                go_roundw
                case rel => exact ⟨k + 1, _, by omega, by go_num, rfl, Lib.hid (HG.out hx1 hx2)⟩
                case measure => simp [intOf]; omega
          · have e := ck_yes (l := l) (dim := (n : Int)) ⟨goodTo_all (by rw [← LX.out, show n = k by omega]; exact HT.out) (by omega) (by omega), by rw [← LX.out]⟩
            have HE := Lib.hid e
            clear e
            go_wp2
            go_ret
            exact ⟨ret_int HE.out.symm, _, rfl⟩
      · have e := ck_no (l := l) (dim := dim) (fun h => h3 (by rw [← h.2, ← LX.out]))
        have hb : ((n : Int) != dim) = true := by rw [bne_iff_ne]; exact h3
        have HE := Lib.hid e
        clear e
        go_enter Tryd.func10, Tryd.ntmps10
        go_wp2
        go_ret
        exact ⟨ret_int HE.out.symm, 0, rfl⟩

theorem drewN_two (w : World) (p q : Nat) : (w.drewN p).drewN q = w.drewN (p + q) := World.drewN_drewN ..
set_option maxHeartbeats 2000000 in
theorem is_any (A : Option Addr) (n c B : Nat) (l : List Int) (w : World) (hx : Reads w B 1 A n (ints l)) (hm : n ≤ maxLen) : Calls Tryd.prog 13 #[.slice A n c] w (Says (.bool (okV l)) w) := by
  have lx := hx.len
  have lx1 : n ≤ l.length := by omega
  have lx2 : l.length ≤ n := by omega
  unfold maxLen at hm
  have LX := Lib.hid lx
  clear lx
  go_enter Tryd.func13, Tryd.ntmps13
  go_wp2
  go_loopw [3] (fun i wr => ∃ k q : Nat, k ≤ n ∧ i = .int .i64 k ∧ wr = w.drewN q ∧ Hid (goodTo l k)) (fun i _ => n - (intOf i).toNat)
  case atStart => exact ⟨0, 0, Nat.zero_le _, rfl, rfl, Lib.hid (goodTo_zero l)⟩
  case round =>
    obtain ⟨k, q, hk, rfl, rfl, HT⟩ := hrel
    by_cases hlt : k < n
    · obtain ⟨ad, rfl, _, hc⟩ := hx.int_at hlt
      have hltz : (k : Int) < (n : Int) := by omega
      have hbad := okV_no (l := l) (k := k) (by omega)
      have hgood := goodTo_succ (l := l) (k := k) (by omega) HT.out
      have HB := Lib.hid hbad
      have HG := Lib.hid hgood
      clear hbad hgood
      generalize l.getD k 0 = X at *
      by_cases hx1 : X < -2147483648
      · have HE := Lib.hid (HB.out (.inl hx1))
        go_wp2
        go_ret
        exact ⟨ret_bool HE.out.symm, _, rfl⟩
      · by_cases hx2 : 2147483647 < X
        · have HE := Lib.hid (HB.out (.inr hx2))
          go_wp2
          go_ret
          exact ⟨ret_bool HE.out.symm, _, rfl⟩
        · go_wp2
          go_roundw
          case rel => exact ⟨k + 1, _, by omega, by go_num, rfl, Lib.hid (HG.out hx1 hx2)⟩
          case measure => simp [intOf]; omega
    · have hkn : k = n := by omega
      have HTT := Lib.hid (show goodTo l l.length by rw [← LX.out, ← hkn]; exact HT.out)
      by_cases h1 : n < 1
      · have e : okV l = false := by rw [Bool.eq_false_iff, Ne, okV_iff]; omega
        have HE := Lib.hid e
        clear e HT
        have hz : ¬ (1 : Int) ≤ n := by omega
        go_wp2
        go_ret
        exact ⟨ret_bool HE.out.symm, _, rfl⟩
      · have hz : (1 : Int) ≤ n := by omega
        by_cases h2 : n ≤ 16
        · have HE := Lib.hid (goodTo_all HTT.out (by omega) (by omega))
          have hz2 : (n : Int) ≤ 16 := by omega
          clear HT
          go_wp2
          go_ret
          exact ⟨ret_bool (by simpa using HE.out.symm), _, rfl⟩
        · have e : okV l = false := by rw [Bool.eq_false_iff, Ne, okV_iff]; omega
          have HE := Lib.hid e
          clear e HT
          have hz2 : ¬ (n : Int) ≤ 16 := by omega
          go_wp2
          go_ret
          exact ⟨ret_bool (by simpa using HE.out.symm), _, rfl⟩
set_option maxHeartbeats 2000000 in
theorem take_next {x y : List Int} {k : Nat} (h : x.take k = y.take k) (hx : k < x.length) (hy : k < y.length) (e : x.getD k 0 = y.getD k 0) : x.take (k + 1) = y.take (k + 1) := by
  rw [take_snoc x k hx, take_snoc y k hy, h, e]
set_option maxHeartbeats 1000000 in
theorem sameInts_any (A A' : Option Addr) (n m c c' B B' : Nat) (x y : List Int) (w : World) (hx : Reads w B 1 A n (ints x)) (hy : Reads w B' 1 A' m (ints y)) (hm : n ≤ maxLen) (hm' : m ≤ maxLen) :
    Calls Tryd.prog 8 #[.slice A n c, .slice A' m c'] w (Says (.bool (decide (x = y))) w) := by
  have lx := hx.len
  have ly := hy.len
  unfold maxLen at hm hm'
  by_cases hnm : n = m
  · subst hnm
    have LX := Lib.hid lx
    have LY := Lib.hid ly
    have lx' : x.length ≤ n := by omega
    have ly' : y.length ≤ n := by omega
    have lx2 : n ≤ x.length := by omega
    have ly2 : n ≤ y.length := by omega
    clear lx ly
    go_enter Tryd.func8, Tryd.ntmps8
    go_wp2
    go_loopw [5] (fun i wr => ∃ k q : Nat, k ≤ n ∧ i = .int .i64 k ∧ wr = w.drewN q ∧ Hid (x.take k = y.take k)) (fun i _ => n - (intOf i).toNat)
    case atStart => exact ⟨0, 0, Nat.zero_le _, rfl, rfl, Lib.hid rfl⟩
    case round =>
      obtain ⟨k, q, hk, rfl, rfl, HT⟩ := hrel
      by_cases hlt : k < n
      · obtain ⟨ad, rfl, _, hc⟩ := hx.int_at hlt
        obtain ⟨ad', rfl, _, hc'⟩ := hy.int_at hlt
        have hltz : (k : Int) < (n : Int) := by omega
        generalize hX : x.getD k 0 = X at hc
        generalize hY : y.getD k 0 = Y at hc'
        have HX := Lib.hid hX
        have HY := Lib.hid hY
        clear hX hY
        by_cases hXY : X = Y
        · subst hXY
          go_wp2
          go_quiet (fail)
          go_wp2
          go_roundw
          case rel => exact ⟨k + 1, _, by omega, by go_num, rfl, Lib.hid (take_next HT.out (by omega) (by omega) (HX.out.trans HY.out.symm))⟩
          case measure => simp [intOf]; omega
        · have hb : (X != Y) = true := by rw [bne_iff_ne]; exact hXY
          have hne : decide (x = y) = false := decide_eq_false (by rintro rfl; exact hXY (HX.out.symm.trans HY.out))
          go_wp2
          go_quiet (fail)
          go_wp2
          go_ret
          exact ⟨ret_bool hne.symm, _, World.drewN_drewN ..⟩
      · go_wp2
        go_ret
        have e : x = y := by
          have := HT.out
          rwa [List.take_of_length_le (by omega), List.take_of_length_le (by omega)] at this
        exact ⟨ret_bool (decide_eq_true e).symm, _, rfl⟩
  · have hne : decide (x = y) = false := decide_eq_false (by rintro rfl; omega)
    have hb : ((n : Int) != (m : Int)) = true := by rw [bne_iff_ne]; omega
    rw [hne]
    clear lx ly
    go_enter Tryd.func8, Tryd.ntmps8
    go_wp2
    go_ret
    exact ⟨rfl, 0, rfl⟩
/-- A slice that the text itself writes. -/
theorem news_int (W : World) (l : List Int) (hl : l ≠ []) : Reads (W.alloc (.cells (ints l).toArray 3)) (W.heap.size + 1) 1 (some ⟨W.heap.size, 0, none⟩) l.length (ints l) := by
  refine ⟨by rw [ints_len]; omega, fun _ => ⟨_, rfl, by simp, fun j u hj => ?_⟩⟩
  have := news_cells W (ints l).toArray 3 j u (by simpa using hj)
  exact this
end Go.Proofs.YtahgamjfglcenaaDoor
