/- Whether two lists of numbers are the same, as the document tells; a slice that the text writes. Conditions: both read as lists. -/
import Derived.Test.YtbjjgjifaomdlaaVKit
set_option linter.unusedVariables false
set_option linter.unusedSimpArgs false
namespace Go.Proofs.Ytbjjgjifaomdlaa
open Go Go.RowKit
/-- It returns v, and nothing has turned but the count of draws. -/
def Says (v : Value) (w : World) (e : Ending) (w' : World) : Prop := e = .returned v ∧ ∃ q, w' = w.drewN q
theorem take_snoc (l : List Int) (k : Nat) (hk : k < l.length) : l.take (k + 1) = l.take k ++ [l.getD k 0] := by
  rw [List.take_succ_eq_append_getElem hk, List.getD_eq_getElem?_getD, List.getElem?_eq_getElem hk]
  rfl
theorem take_next {x y : List Int} {k : Nat} (h : x.take k = y.take k) (hx : k < x.length) (hy : k < y.length) (e : x.getD k 0 = y.getD k 0) : x.take (k + 1) = y.take (k + 1) := by
  rw [take_snoc x k hx, take_snoc y k hy, h, e]
set_option maxHeartbeats 1000000 in
theorem sameInts_any (A A' : Option Addr) (n m c c' B B' : Nat) (x y : List Int) (w : World) (hx : Reads w B 1 A n (ints x)) (hy : Reads w B' 1 A' m (ints y)) (hm : n ≤ maxLen) (hm' : m ≤ maxLen) :
    Calls Try.prog 33 #[.slice A n c, .slice A' m c'] w (Says (.bool (decide (x = y))) w) := by
  have lx := hx.len
  have ly := hy.len
  unfold maxLen at hm hm'
  by_cases hnm : n = m
  · subst hnm
    have LX := Lib.hid lx
    have LY := Lib.hid ly
    have lx' : x.length ≤ n := by omega
    have ly' : y.length ≤ n := by omega
    have lx2 : n ≤ x.length := by omega
    have ly2 : n ≤ y.length := by omega
    clear lx ly
    go_enter Try.func33, Try.ntmps33
    go_wp2
    go_loopw [5] (fun i wr => ∃ k q : Nat, k ≤ n ∧ i = .int .i64 k ∧ wr = w.drewN q ∧ Hid (x.take k = y.take k)) (fun i _ => n - (intOf i).toNat)
    case atStart => exact ⟨0, 0, Nat.zero_le _, rfl, rfl, Lib.hid rfl⟩
    case round =>
      obtain ⟨k, q, hk, rfl, rfl, HT⟩ := hrel
      by_cases hlt : k < n
      · obtain ⟨ad, rfl, _, hc⟩ := hx.int_at hlt
        obtain ⟨ad', rfl, _, hc'⟩ := hy.int_at hlt
        have hltz : (k : Int) < (n : Int) := by omega
        generalize hX : x.getD k 0 = X at hc
        generalize hY : y.getD k 0 = Y at hc'
        have HX := Lib.hid hX
        have HY := Lib.hid hY
        clear hX hY
        by_cases hXY : X = Y
        · subst hXY
          go_wp2
          go_quiet (fail)
          go_wp2
          go_roundw
          case rel => exact ⟨k + 1, _, by omega, by go_num, rfl, Lib.hid (take_next HT.out (by omega) (by omega) (HX.out.trans HY.out.symm))⟩
          case measure => simp [intOf]; omega
        · have hb : (X != Y) = true := by rw [bne_iff_ne]; exact hXY
          have hne : decide (x = y) = false := decide_eq_false (by rintro rfl; exact hXY (HX.out.symm.trans HY.out))
          go_wp2
          go_quiet (fail)
          go_wp2
          go_ret
          exact ⟨ret_bool hne.symm, _, World.drewN_drewN ..⟩
      · go_wp2
        go_ret
        have e : x = y := by
          have := HT.out
          rwa [List.take_of_length_le (by omega), List.take_of_length_le (by omega)] at this
        exact ⟨ret_bool (decide_eq_true e).symm, _, rfl⟩
  · have hne : decide (x = y) = false := decide_eq_false (by rintro rfl; omega)
    have hb : ((n : Int) != (m : Int)) = true := by rw [bne_iff_ne]; omega
    rw [hne]
    clear lx ly
    go_enter Try.func33, Try.ntmps33
    go_wp2
    go_ret
    exact ⟨rfl, 0, rfl⟩
/-- A slice that the text itself writes. -/
theorem news_int (W : World) (l : List Int) (hl : l ≠ []) : Reads (W.alloc (.cells (ints l).toArray 3)) (W.heap.size + 1) 1 (some ⟨W.heap.size, 0, none⟩) l.length (ints l) := by
  refine ⟨by rw [ints_len]; omega, fun _ => ⟨_, rfl, by simp, fun j u hj => ?_⟩⟩
  have := news_cells W (ints l).toArray 3 j u (by simpa using hj)
  exact this
end Go.Proofs.Ytbjjgjifaomdlaa
