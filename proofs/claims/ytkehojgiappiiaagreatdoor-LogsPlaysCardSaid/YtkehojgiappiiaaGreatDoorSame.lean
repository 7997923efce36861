/- What Same of the document's answers returns: whether two lists of texts are the same. Conditions: the lists read as texts. -/
import Derived.Test.YtkehojgiappiiaaGreatDoorAnewOk
set_option linter.unusedVariables false
set_option linter.unusedSimpArgs false
namespace Go.Proofs.YtkehojgiappiiaaGreatDoor
open Go Go.RowKit
theorem list_same {a b : List (List UInt8)} (hl : a.length = b.length) (h : ∀ j, j < a.length → a.getD j [] = b.getD j []) : a = b := by
  refine List.ext_getElem hl fun i h1 h2 => ?_
  have := h i h1
  rwa [List.getD_eq_getElem?_getD, List.getD_eq_getElem?_getD, List.getElem?_eq_getElem h1, List.getElem?_eq_getElem h2] at this
theorem str_ne {x y : List UInt8} (h : ¬ x = y) : ¬ (⟨x.toArray⟩ : ByteArray) = ⟨y.toArray⟩ := fun e => h (by
  have := congrArg (fun s : ByteArray => s.data.toList) e
  simpa using this)
set_option maxHeartbeats 4000000 in
set_option maxRecDepth 100000 in
theorem same_any (a b : List (List UInt8)) (A0 : Option Addr) (n0 c0 : Nat) (A1 : Option Addr) (n1 c1 B : Nat) (w : World) (h0 : Reads w B 1 A0 n0 (strL a)) (h1 : Reads w B 1 A1 n1 (strL b)) (hB : B ≤ w.heap.size) (m0 : n0 ≤ maxLen) (m1 : n1 ≤ maxLen) :
    Calls Tryz.prog 18 #[.slice A0 n0 c0, .slice A1 n1 c1] w fun e w' => e = .returned (.bool (decide (a = b))) ∧ ∃ q, w' = w.drewN q := by
  have l0 := reads_len h0
  have l1 := reads_len h1
  have hm0 : (n0 : Int) ≤ 9223372036854775807 := by unfold maxLen at m0; omega
  have H := Lib.hid (And.intro h0 (And.intro h1 (And.intro l0 l1)))
  have hBs := hB
  by_cases hne : n0 = n1
  · subst hne
    clear h0 h1 l0 l1 m0 m1
    go_enter Tryz.func18, Tryz.ntmps18
    go_wp2_with fail
    go_loopw [5] (fun i wr => ∃ (k q : Nat), i = .int .i64 (k : Int) ∧ k ≤ n0 ∧ Hid (∀ j, j < k → a.getD j [] = b.getD j []) ∧ wr = w.drewN q) (fun i _ => n0 - (intOf i).toNat)
    case atStart => exact ⟨0, 0, rfl, Nat.zero_le _, Lib.hid (fun j hj => by omega), rfl⟩
    case round =>
      obtain ⟨k, q, rfl, hk, HJ, rfl⟩ := hrel
      by_cases hlt : k < n0
      · have hltz : (k : Int) < (n0 : Int) := by omega
        obtain ⟨x, rfl, hbx, hcx⟩ := reads_str H.out.1 hlt
        obtain ⟨y, rfl, hby, hcy⟩ := reads_str H.out.2.1 hlt
        have hx1 : (x.add k).block < w.heap.size := by rw [block_of_add]; omega
        have hy1 : (y.add k).block < w.heap.size := by rw [block_of_add]; omega
        by_cases he : a.getD k [] = b.getD k []
        · have HN : Hid (∀ j, j < k + 1 → a.getD j [] = b.getD j []) := Lib.hid fun j hj => by
            rcases Nat.lt_or_ge j k with h | h
            · exact HJ.out j h
            · rw [show j = k by omega]; exact he
          rw [he] at hcx
          generalize (⟨(b.getD k []).toArray⟩ : ByteArray) = s at *
          clear he HJ
          go_wp2_with fail
          go_quiet (fail)
          go_wp2_with fail
          go_roundw
          case rel => exact ⟨k + 1, _, by go_num, by omega, HN, rfl⟩
          case measure => simp [intOf]; omega
        · have hss := bytes_ne (str_ne he)
          have HF : Hid (decide (a = b) = false) := Lib.hid (decide_eq_false fun e => he (by rw [e]))
          generalize (⟨(b.getD k []).toArray⟩ : ByteArray) = s at *
          generalize (⟨(a.getD k []).toArray⟩ : ByteArray) = s' at *
          clear he HJ
          go_wp2_with fail
          go_quiet (fail)
          go_wp2_with fail
          go_ret
          rw [HF.out]
          exact ⟨rfl, q + nq, by simp [World.drewN, Nat.add_assoc]⟩
      · obtain rfl : k = n0 := by omega
        have hnl : ¬ (k : Int) < (k : Int) := by omega
        have HT : Hid (decide (a = b) = true) := Lib.hid (decide_eq_true (list_same (by rw [← H.out.2.2.1, ← H.out.2.2.2]) fun j hj => HJ.out j (by rw [H.out.2.2.1]; exact hj)))
        clear HJ
        go_wp2_with fail
        go_ret
        rw [HT.out]
        exact ⟨rfl, _, rfl⟩
  · have hnz : ¬ (n0 : Int) = (n1 : Int) := by omega
    have HF : Hid (decide (a = b) = false) := Lib.hid (decide_eq_false fun e => hne (by rw [l0, l1, e]))
    clear h0 h1 l0 l1 m0 m1 hne
    go_enter Tryz.func18, Tryz.ntmps18
    go_wp2_with fail
    go_ret
    rw [HF.out]
    exact ⟨rfl, 0, rfl⟩
theorem same_yes (a b : List (List UInt8)) (hab : a = b) (A0 : Option Addr) (n0 c0 : Nat) (A1 : Option Addr) (n1 c1 B : Nat) (w : World) (h0 : Reads w B 1 A0 n0 (strL a)) (h1 : Reads w B 1 A1 n1 (strL b)) (hB : B ≤ w.heap.size) (m0 : n0 ≤ maxLen) (m1 : n1 ≤ maxLen) :
    Calls Tryz.prog 18 #[.slice A0 n0 c0, .slice A1 n1 c1] w fun e w' => e = .returned (.bool true) ∧ ∃ q, w' = w.drewN q := by
  have := same_any a b A0 n0 c0 A1 n1 c1 B w h0 h1 hB m0 m1
  rwa [decide_eq_true hab] at this
end Go.Proofs.YtkehojgiappiiaaGreatDoor
