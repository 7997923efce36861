/- Are hits the same, as the document tells. Conditions: the slices read as lists. -/
import Derived.Test.YtbjjgjifaomdlaaGSame
import Derived.Test.YtbjjgjifaomdlaaVHits
import Derived.Laws.StructEq
set_option linter.unusedVariables false
set_option linter.unusedSimpArgs false
namespace Go.Proofs.Ytbjjgjifaomdlaa
open Go Go.RowKit
theorem neq_hit (x y : Hit) (w : World) : (binOp .neq 80 (.agg #[.int .i64 x.1, .int .i64 x.2]) (.agg #[.int .i64 y.1, .int .i64 y.2])).run Try.prog w = .ok (.bool (decide (x ≠ y))) w := by
  have u3 := Try.underlying3
  have a3 := Try.isAgg3
  have z3 := Try.sizeOf3
  have hS : Try.prog.underlying 80 = some (.struct (Try.prog.fieldsOf 80)) := by kernel_rfl
  have hp : Try.prog.stoodInHeld 80 = false := by kernel_rfl
  rw [run_neq_struct, show (10000 : Nat) = 9999 + 1 from rfl, run_equalIn_agg w 9999 80 _ _ hS hp]
  simp only [Program.fieldsOf, Try.underlying80]
  go_simp
  by_cases h1 : x.fst = y.fst <;> by_cases h2 : x.snd = y.snd <;> simp [h1, h2, Prod.ext_iff]
theorem guard37 : Try.prog.eqGuardType Try.prog.depth 80 = false := by kernel_rfl
theorem take_hit (l : List Hit) (k : Nat) (hk : k < l.length) : l.take (k + 1) = l.take k ++ [l.getD k (0, 0)] := by
  rw [List.take_succ_eq_append_getElem hk, List.getD_eq_getElem?_getD, List.getElem?_eq_getElem hk]
  rfl
theorem take_next_hit {x y : List Hit} {k : Nat} (h : x.take k = y.take k) (hx : k < x.length) (hy : k < y.length) (e : x.getD k (0, 0) = y.getD k (0, 0)) : x.take (k + 1) = y.take (k + 1) := by
  rw [take_hit x k hx, take_hit y k hy, h, e]
def SaysH (v : Value) (w : World) (e : Ending) (w' : World) : Prop := e = .returned v ∧ ∃ q, w' = w.drewN q
set_option maxHeartbeats 2000000 in
theorem same_any (A A' : Option Addr) (n m c c' B B' : Nat) (x y : List Hit) (w : World) (hx : Reads w B 2 A n (hits x)) (hy : Reads w B' 2 A' m (hits y)) (hm : n ≤ maxLen) (hm' : m ≤ maxLen) :
    Calls Try.prog 31 #[.slice A n c, .slice A' m c'] w (SaysH (.bool (decide (x = y))) w) := by
  have lx := hx.hits_len
  have ly := hy.hits_len
  unfold maxLen at hm hm'
  have hg := guard37
  by_cases hnm : n = m
  · subst hnm
    have LX := Lib.hid lx
    have LY := Lib.hid ly
    have lx' : x.length ≤ n := by omega
    have ly' : y.length ≤ n := by omega
    clear lx ly
    go_enter Try.func31, Try.ntmps31
    go_wp2_with fail
    go_loopw [5] (fun i wr => ∃ k q : Nat, k ≤ n ∧ i = .int .i64 k ∧ wr = w.drewN q ∧ Hid (x.take k = y.take k)) (fun i _ => n - (intOf i).toNat)
    case atStart => exact ⟨0, 0, Nat.zero_le _, rfl, rfl, Lib.hid rfl⟩
    case round =>
      obtain ⟨k, q, hk, rfl, rfl, HT⟩ := hrel
      by_cases hlt' : k < n
      · obtain ⟨ad, rfl, _, hkx, c0, c1⟩ := hx.hit_at hlt'
        obtain ⟨ad', rfl, _, hky, d0, d1⟩ := hy.hit_at hlt'
        have hltz : (k : Int) < (n : Int) := by omega
        have HN := Lib.hid (take_next_hit HT.out hkx hky)
        have HX := Lib.hid (show x.getD k (0, 0) ≠ y.getD k (0, 0) → x ≠ y from fun h e => h (by rw [e]))
        have hneq := neq_hit (x.getD k (0, 0)) (y.getD k (0, 0))
        generalize x.getD k (0, 0) = X at *
        generalize y.getD k (0, 0) = Y at *
        by_cases hXY : X = Y
        · have HN2 := Lib.hid (HN.out hXY)
          have e : decide (X ≠ Y) = false := decide_eq_false (by simp [hXY])
          simp only [e] at hneq
          clear hXY e
          go_wp2_with fail
          go_quiet (fail)
          go_wp2_with fail
          go_roundw
          case rel => exact ⟨k + 1, _, by omega, by go_num, rfl, HN2⟩
          case measure => simp [intOf]; omega
        · have hne : decide (x = y) = false := decide_eq_false (HX.out hXY)
          have HNE := Lib.hid hne
          have e : decide (X ≠ Y) = true := decide_eq_true hXY
          simp only [e] at hneq
          clear hXY e hne
          go_wp2_with fail
          go_quiet (fail)
          go_wp2_with fail
          go_ret
          exact ⟨ret_bool HNE.out.symm, _, World.drewN_drewN ..⟩
      · have e : x = y := by
          have := HT.out
          rwa [List.take_of_length_le (by omega), List.take_of_length_le (by omega)] at this
        have HE := Lib.hid (decide_eq_true e)
        clear e
        go_wp2_with fail
        go_ret
        exact ⟨ret_bool HE.out.symm, _, rfl⟩
  · have hne : decide (x = y) = false := decide_eq_false (by rintro rfl; omega)
    have hb : ((n : Int) != (m : Int)) = true := by rw [bne_iff_ne]; omega
    rw [hne]
    clear lx ly
    go_enter Try.func31, Try.ntmps31
    go_wp2_with fail
    go_ret
    exact ⟨rfl, 0, rfl⟩
end Go.Proofs.Ytbjjgjifaomdlaa
