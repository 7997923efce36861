/- What Check, isNode, and the document's Check and May return. Conditions: the chart's nodes read as a list. -/
import Derived.Test.YtmepahlmbopacaaDoorVKit
import Derived.Test.YtmepahlmbopacaaDoorGSame
import Derived.Test.YtmepahlmbopacaaDoorChMath
set_option linter.unusedVariables false
set_option linter.unusedSimpArgs false
set_option maxRecDepth 100000
namespace Go.Proofs.YtmepahlmbopacaaDoor.Ct
open Go Go.RowKit
/-- A chart, as a value. -/
def chV (e : Int) (A : Option Addr) (n c : Nat) : Value := .agg #[.int .i64 e, .slice A n c]
def okV (b : Bool) : Value := .int .i64 (if b then 0 else 1)
theorem okV_t : okV true = .int .i64 0 := rfl
theorem okV_f : okV false = .int .i64 1 := rfl
theorem isNode_any (n : Int) (w : World) : Calls Tryd.prog 27 #[.int .i64 n] w fun e w' => e = .returned (.bool (nodeC n)) ∧ w = w' := by
  go_enter Tryd.func27, Tryd.ntmps27
  go_wp2
  all_goals go_ret
  all_goals exact ⟨ret_bool (by unfold nodeC; rw [Bool.eq_iff_iff]; simp; try omega), rfl⟩
theorem mayC_far {e : Int} {l : List Int} {n : Nat} (hl : n = l.length) (h : ¬ (1 ≤ e ∧ e ≤ 1099511627776 ∧ 1 ≤ n ∧ n ≤ 16)) : mayC e l = false := by
  cases hm : mayC e l with
  | false => rfl
  | true =>
    rw [mayC_iff] at hm
    exact absurd ⟨hm.1.1, hm.1.2, by omega, by omega⟩ h
theorem mayC_one {e : Int} {l : List Int} {k : Nat} (hk : k < l.length) (h : nodeC (l.getD k 0) = false) : mayC e l = false := by
  cases hm : mayC e l with
  | false => rfl
  | true =>
    rw [mayC_iff] at hm
    have := nodeC_iff.2 (hm.2.2 _ (mem_getD hk))
    rw [h] at this
    cases this
theorem mayC_all {e : Int} {l : List Int} (h : 1 ≤ e ∧ e ≤ 1099511627776 ∧ 1 ≤ l.length ∧ l.length ≤ 16) (ha : ∀ j, j < l.length → nodeC (l.getD j 0) = true) : mayC e l = true := by
  rw [mayC_iff]
  refine ⟨⟨h.1, h.2.1⟩, h.2.2, fun x hx => ?_⟩
  obtain ⟨j, hj, rfl⟩ := List.getElem_of_mem hx
  have := ha j hj
  rw [List.getD_eq_getElem?_getD, List.getElem?_eq_getElem hj] at this
  exact nodeC_iff.1 this
set_option maxHeartbeats 2000000 in
theorem check_any {w : World} {B : Nat} {A : Option Addr} {n : Nat} {c : Nat} {l : List Int} (e : Int) (hR : Reads w B 1 A n (ints l)) (hB : B ≤ w.heap.size) :
    Calls Tryd.prog 22 #[.agg #[.int .i64 e, .slice A n c]] w (Gives (okV (mayC e l)) w) := by
  have hln := hR.len
  have hb0 : Below w.heap.size w (w.alloc (.cells #[.int .i64 e, .slice A n c] 24)) := (Below.refl _ w).alloc (Nat.le_refl _) _
  by_cases hq : 1 ≤ e ∧ e ≤ 1099511627776 ∧ 1 ≤ n ∧ n ≤ 16
  · have HQ := Lib.hid (And.intro hln hq)
    obtain ⟨q1, q2, q3, q4⟩ := hq
    have p1 : ¬ e < 1 := by omega
    have p2 : ¬ (1099511627776 : Int) < e := by omega
    have p3 : ¬ (n : Int) < 1 := by omega
    have p4 : ¬ (16 : Int) < (n : Int) := by omega
    have HR := Lib.hid ((hR.more hB).alloc (Nat.le_refl _) (.cells #[.int .i64 e, .slice A n c] 24))
    have HB0 := Lib.hid hb0
    clear hln q1 q2 q3 q4 hR hB hb0
    go_enter Tryd.func22, Tryd.ntmps22
    go_wp2_with fail
    go_loopw [28] (fun i wr => ∃ k : Nat, k ≤ n ∧ i = .int .i64 (k : Int) ∧ wr = w.alloc (.cells #[.int .i64 e, .slice A n c] 24) ∧ Hid (∀ j, j < k → nodeC (l.getD j 0) = true)) (fun i _ => n - (intOf i).toNat)
    case atStart => exact ⟨0, Nat.zero_le _, rfl, rfl, Lib.hid (fun j hj => absurd hj (by omega))⟩
    case round =>
      obtain ⟨k, hk, rfl, rfl, HK⟩ := hrel
      by_cases hlt : k < n
      · obtain ⟨ad, rfl, hab, hc⟩ := HR.out.int_at hlt
        have hadl : (ad.add k).block < (w.alloc (.cells #[.int .i64 e, .slice (some ad) n c] 24)).heap.size := by rw [block_of_add, World.size_alloc]; omega
        have hltz : (k : Int) < (n : Int) := by omega
        have HN := Lib.hid (fun W => isNode_any (l.getD k 0) W)
        have HF := Lib.hid (show nodeC (l.getD k 0) = false → mayC e l = false from mayC_one (by have := HQ.out.1; omega))
        have HS := Lib.hid (show nodeC (l.getD k 0) = true → ∀ j, j < k + 1 → nodeC (l.getD j 0) = true from fun h j hj => by
          rcases Nat.lt_or_ge j k with h1 | h1
          · exact HK.out j h1
          · obtain rfl : j = k := by omega
            exact h)
        generalize l.getD k 0 = x at *
        generalize hX : nodeC x = X at *
        clear hX
        rcases X with _ | _
        · rw [HF.out rfl]
          clear HF HS
          go_wp2_with fail
          refine (HN.out _).mono ?_
          rintro en w1 ⟨rfl, rfl⟩
          go_wp2_with fail
          go_ret
          exact ⟨rfl, HB0.out⟩
        · have hs := Lib.hid (HS.out rfl)
          clear HF HS
          go_wp2_with fail
          refine (HN.out _).mono ?_
          rintro en w1 ⟨rfl, rfl⟩
          go_wp2_with fail
          exact ⟨⟨k + 1, hlt, by go_num, by trivial, hs⟩, by simp [intOf]; omega⟩
      · obtain rfl : k = n := by omega
        have hnl : ¬ (k : Int) < (k : Int) := by omega
        have hm : mayC e l = true := mayC_all (by have := HQ.out; omega) (by rw [← HQ.out.1]; exact HK.out)
        rw [hm]
        go_wp2_with fail
        go_ret
        exact ⟨rfl, HB0.out⟩
  · rw [mayC_far hln hq]
    have HB0 := Lib.hid hb0
    clear hln hR hB hb0
    by_cases p1 : e < 1
    · go_enter Tryd.func22, Tryd.ntmps22
      go_wp2_with fail
      go_ret
      exact ⟨rfl, HB0.out⟩
    · by_cases p2 : (1099511627776 : Int) < e
      · go_enter Tryd.func22, Tryd.ntmps22
        go_wp2_with fail
        go_ret
        exact ⟨rfl, HB0.out⟩
      · by_cases p3 : (n : Int) < 1
        · go_enter Tryd.func22, Tryd.ntmps22
          go_wp2_with fail
          go_ret
          exact ⟨rfl, HB0.out⟩
        · have p4 : (16 : Int) < (n : Int) := by omega
          clear hq
          go_enter Tryd.func22, Tryd.ntmps22
          go_wp2_with fail
          go_ret
          exact ⟨rfl, HB0.out⟩
set_option maxHeartbeats 2000000 in
theorem may_any {w : World} {B : Nat} {A : Option Addr} {n : Nat} {c : Nat} {l : List Int} (e : Int) (hR : Reads w B 1 A n (ints l)) (hB : B ≤ w.heap.size) (hm : n ≤ maxLen) :
    Calls Tryd.prog 24 #[.agg #[.int .i64 e, .slice A n c]] w (Gives (.bool (mayC e l)) w) := by
  have hln := hR.len
  unfold maxLen at hm
  have hb0 : Below w.heap.size w (w.alloc (.cells #[.int .i64 e, .slice A n c] 24)) := (Below.refl _ w).alloc (Nat.le_refl _) _
  obtain ⟨W, hW⟩ : ∃ W, W = w.alloc (.cells #[.int .i64 e, .slice A n c] 24) := ⟨_, rfl⟩
  have hRw := Row.new w 24 [.int .i64 e, .slice A n c]
  change Row (w.alloc (.cells #[.int .i64 e, .slice A n c] 24)) _ _ _ at hRw
  have hR1 := (hR.more hB).alloc (Nat.le_refl _) (.cells #[.int .i64 e, .slice A n c] 24)
  rw [← hW] at hRw hR1 hb0
  have c0 := hRw.cell (j := 0) rfl
  have c1 := hRw.cell (j := 1) rfl
  have lw := hRw.lt
  have HR := Lib.hid hR1
  have HB0 := Lib.hid hb0
  have HW := Lib.hid hW
  have HL := Lib.hid hln
  clear hRw hR1 hb0 hR hB hln hW
  go_enter Tryd.func24, Tryd.ntmps24
  go_wp2_with fail
  rw [← HW.out]
  go_loopw [3] (fun i wr => ∃ k : Nat, k ≤ n ∧ i = .int .i64 (k : Int) ∧ W = wr ∧ Hid (∀ j, j < k → nodeC (l.getD j 0) = true)) (fun i _ => n - (intOf i).toNat)
  case atStart => exact ⟨0, Nat.zero_le _, rfl, rfl, Lib.hid (fun j hj => absurd hj (by omega))⟩
  case round =>
    obtain ⟨k, hk, rfl, rfl, HK⟩ := hrel
    by_cases hlt : k < n
    · obtain ⟨ad, rfl, hab, hc⟩ := HR.out.int_at hlt
      have hadl : (ad.add k).block < W.heap.size := by rw [block_of_add]; omega
      have hltz : (k : Int) < (n : Int) := by omega
      have HF := Lib.hid (show nodeC (l.getD k 0) = false → mayC e l = false from mayC_one (by have := HL.out; omega))
      have HS := Lib.hid (show nodeC (l.getD k 0) = true → ∀ j, j < k + 1 → nodeC (l.getD j 0) = true from fun h j hj => by
        rcases Nat.lt_or_ge j k with h1 | h1
        · exact HK.out j h1
        · obtain rfl : j = k := by omega
          exact h)
      generalize l.getD k 0 = x at *
      by_cases x0 : x < 0
      · have hm := HF.out (by unfold nodeC; simp; omega)
        rw [hm]
        go_wp2_with fail
        go_ret
        exact ⟨rfl, HB0.out⟩
      · by_cases x1 : 7 < x
        · have hm := HF.out (by unfold nodeC; simp; omega)
          rw [hm]
          go_wp2_with fail
          go_ret
          exact ⟨rfl, HB0.out⟩
        · have hs := Lib.hid (HS.out (by unfold nodeC; simp; omega))
          go_wp2_with fail
          exact ⟨⟨k + 1, hlt, by go_num, by trivial, hs⟩, by simp [intOf]; omega⟩
    · obtain rfl : k = n := by omega
      have hnl : ¬ (k : Int) < (k : Int) := by omega
      by_cases hq : 1 ≤ e ∧ e ≤ 1099511627776 ∧ 1 ≤ k ∧ k ≤ 16
      · have hm : mayC e l = true := mayC_all (by have := HL.out; omega) (by rw [← HL.out]; exact HK.out)
        rw [hm]
        obtain ⟨q1, q2, q3, q4⟩ := hq
        have q3 : (1 : Int) ≤ (k : Int) := by omega
        have q4 : (k : Int) ≤ 16 := by omega
        go_wp2_with fail
        go_ret
        exact ⟨rfl, HB0.out⟩
      · have hm : mayC e l = false := mayC_far HL.out hq
        rw [hm]
        have HQN := Lib.hid hq
        clear hq
        by_cases p1 : e < 1
        · have : ¬ 1 ≤ e := by omega
          go_wp2_with fail
          go_ret
          exact ⟨rfl, HB0.out⟩
        · have r1 : 1 ≤ e := by omega
          by_cases p2 : (1099511627776 : Int) < e
          · have : ¬ e ≤ 1099511627776 := by omega
            go_wp2_with fail
            go_ret
            exact ⟨rfl, HB0.out⟩
          · have r2 : e ≤ 1099511627776 := by omega
            by_cases p3 : (k : Int) < 1
            · have : ¬ (1 : Int) ≤ (k : Int) := by omega
              go_wp2_with fail
              go_ret
              exact ⟨rfl, HB0.out⟩
            · have r3 : (1 : Int) ≤ (k : Int) := by omega
              have p4 : ¬ (k : Int) ≤ 16 := by have := HQN.out; omega
              go_wp2_with fail
              go_ret
              exact ⟨rfl, HB0.out⟩
end Go.Proofs.YtmepahlmbopacaaDoor.Ct
