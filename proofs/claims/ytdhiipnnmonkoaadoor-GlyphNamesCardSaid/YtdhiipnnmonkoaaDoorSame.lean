/- What SameInts of the document's answers returns: whether two lists of numbers are the same. Conditions: both slices read as lists. -/
import Derived.Test.YtdhiipnnmonkoaaDoorSmallB
import Derived.Test.YtdhiipnnmonkoaaDoorMem
import Derived.BigQuiet
import Derived.Deep.QuietTactic
import Derived.LoopTactic
import Derived.Lib.Hide
set_option linter.unusedVariables false
namespace Go.Proofs.YtdhiipnnmonkoaaDoor
open Go Go.RowKit

theorem take_next {x y : List Int} {k : Nat} (h : x.take k = y.take k) (hx : k < x.length) (hy : k < y.length) (e : x.getD k 0 = y.getD k 0) : x.take (k + 1) = y.take (k + 1) := by
  rw [List.take_succ_eq_append_getElem hx, List.take_succ_eq_append_getElem hy, h]
  rw [List.getD_eq_getElem?_getD, List.getD_eq_getElem?_getD, List.getElem?_eq_getElem hx, List.getElem?_eq_getElem hy] at e
  simp only [Option.getD_some] at e
  rw [e]
def SamePost (b : Bool) (w : World) (e : Ending) (w' : World) : Prop := e = .returned (.bool b) ∧ ∃ q, w' = w.drewN q
set_option maxHeartbeats 1000000 in
theorem sameInts_any (A A' : Option Addr) (n m c c' B B' : Nat) (x y : List Int) (w : World) (hx : Reads w B 1 A n (ints x)) (hy : Reads w B' 1 A' m (ints y)) (hn : n ≤ 1000000) (hm : m ≤ 1000000) :
    Calls Tryd.prog 15 #[.slice A n c, .slice A' m c'] w (SamePost (decide (x = y)) w) := by
  have lx := hx.len
  have ly := hy.len
  by_cases hnm : n = m
  · subst hnm
    have LX := Lib.hid lx
    have LY := Lib.hid ly
    have lx' : x.length ≤ n := by omega
    have ly' : y.length ≤ n := by omega
    have lx2 : n ≤ x.length := by omega
    have ly2 : n ≤ y.length := by omega
    clear lx ly
    go_enter Tryd.func15, Tryd.ntmps15
    go_wp2
    go_loopw [5] (fun i wr => ∃ k q : Nat, k ≤ n ∧ i = .int .i64 k ∧ wr = w.drewN q ∧ Hid (x.take k = y.take k)) (fun i _ => n - (intOf i).toNat)
    case atStart => exact ⟨0, 0, Nat.zero_le _, rfl, rfl, Lib.hid rfl⟩
    case round =>
      obtain ⟨k, q, hk, rfl, rfl, HT⟩ := hrel
      by_cases hlt : k < n
      · obtain ⟨ad, rfl, _, hc⟩ := hx.int_at hlt
        obtain ⟨ad', rfl, _, hc'⟩ := hy.int_at hlt
        have hltz : (k : Int) < (n : Int) := by omega
        generalize hX : x.getD k 0 = X at hc
        generalize hY : y.getD k 0 = Y at hc'
        have HX := Lib.hid hX
        have HY := Lib.hid hY
        clear hX hY
        by_cases hXY : X = Y
        · subst hXY
          go_wp2
          go_quiet (fail)
          go_wp2
          go_roundw
          case rel => exact ⟨k + 1, _, by omega, by go_num, rfl, Lib.hid (take_next HT.out (by omega) (by omega) (HX.out.trans HY.out.symm))⟩
          case measure => simp [intOf]; omega
        · have hb : (X != Y) = true := by rw [bne_iff_ne]; exact hXY
          have hne : decide (x = y) = false := decide_eq_false (by rintro rfl; exact hXY (HX.out.symm.trans HY.out))
          go_wp2
          go_quiet (fail)
          go_wp2
          go_ret
          exact ⟨ret_bool hne.symm, _, World.drewN_drewN ..⟩
      · go_wp2
        go_ret
        have e : x = y := by
          have := HT.out
          rwa [List.take_of_length_le (by omega), List.take_of_length_le (by omega)] at this
        exact ⟨ret_bool (decide_eq_true e).symm, _, rfl⟩
  · have hne : decide (x = y) = false := decide_eq_false (by rintro rfl; omega)
    have hb : ((n : Int) != (m : Int)) = true := by rw [bne_iff_ne]; omega
    rw [hne]
    clear lx ly
    go_enter Tryd.func15, Tryd.ntmps15
    go_wp2
    go_ret
    exact ⟨rfl, 0, rfl⟩
end Go.Proofs.YtdhiipnnmonkoaaDoor
