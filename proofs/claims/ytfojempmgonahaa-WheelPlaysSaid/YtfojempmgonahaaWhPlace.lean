/- Where a number stands in the document's wheel. Conditions: its numbers read as a list. -/
import Derived.Test.YtfojempmgonahaaVKit
import Derived.Test.YtfojempmgonahaaWhMath
set_option linter.unusedVariables false
set_option linter.unusedSimpArgs false
set_option maxRecDepth 100000
namespace Go.Proofs.Ytfojempmgonahaa.Wh
open Go Go.RowKit
set_option maxHeartbeats 8000000 in
theorem place_any (l : List Int) (id : Int) {w : World} {B : Nat} {A A2 : Option Addr} {n c n2 c2 : Nat} (hR : Reads w B 1 A n (ints l)) (hB : B ≤ w.heap.size) (hn : n ≤ 1000000) :
    Calls Try.prog 22 #[.agg #[.slice A n c, .slice A2 n2 c2], .int .i64 id] w (Gives (.tuple #[.int .i64 (placeN l id : Int), .bool (isAt l id)]) w) := by
  have hln := hR.len
  obtain ⟨W, hW⟩ : ∃ W, W = w.alloc (.cells #[.slice A n c, .slice A2 n2 c2] 27) := ⟨_, rfl⟩
  have hb0 : Below w.heap.size w W := by rw [hW]; exact (Below.refl _ w).alloc (Nat.le_refl _) _
  have r1 : Row W w.heap.size 27 [.slice A n c, .slice A2 n2 c2] := by rw [hW]; exact Row.new w _ _
  have v0 := r1.cell (j := 0) rfl
  have vl := r1.lt
  have HRD := Lib.hid (hR.below (hb0.mono hB))
  have HBW := Lib.hid (And.intro hb0 (Nat.le_trans hB hb0.size))
  have HW := Lib.hid hW
  have HL := Lib.hid hln
  clear hW hb0 r1 hR hB hln
  go_enter Try.func22, Try.ntmps22
  go_wp2_with fail
  rw [← HW.out]
  have hpl := place_le l id
  go_loopw [6] (fun s wr => ∃ k : Nat, wr = W ∧ s = .int .i64 (k : Int) ∧ k ≤ placeN l id) (fun s _ => n - (intOf s).toNat)
  case atStart => exact ⟨0, rfl, rfl, Nat.zero_le _⟩
  case round =>
    obtain ⟨k, hwr, rfl, hk⟩ := hrel
    subst hwr
    have hLo := HL.out
    by_cases hlt : k < n
    · have hltz : (k : Int) < (n : Int) := by omega
      obtain ⟨ad, rfl, hab, hc⟩ := HRD.out.int_at hlt
      have hal : (ad.add k).block < wr.heap.size := by rw [block_of_add]; have := HBW.out.2; omega
      have hst := place_step l id k hk (by omega)
      by_cases hx : l.getD k 0 < id
      · have HN := Lib.hid (hst.1 hx)
        clear hst hpl hLo
        generalize l.getD k 0 = x at *
        have hkb : k ≤ 1000000 := by omega
        go_wp2_with fail
        exact ⟨⟨k + 1, trivial, by go_num, HN.out⟩, by simp [intOf]; omega⟩
      · have hkp : placeN l id = k := by have := hst.2; omega
        have hia : isAt l id = decide (l.getD k 0 = id) := by
          unfold isAt
          rw [hkp]
          exact decide_eq_decide.2 ⟨fun h => h.2, fun h => ⟨by omega, h⟩⟩
        have HKP := Lib.hid hkp
        have HB := Lib.hid HBW.out.1
        by_cases he : l.getD k 0 = id
        · rw [decide_eq_true he] at hia
          have HIA := Lib.hid hia
          clear hst hpl hLo hia hkp hk
          rw [he] at hc
          clear hx he
          have hnx : ¬ id < id := by omega
          go_wp2_with fail
          go_quiet (fail)
          go_wp2_with fail
          refine bodyPost_ret (results_tmp2 rfl _ _ _) rfl ?_
          exact ⟨by rw [HKP.out, HIA.out]; rfl, below_drewN HB.out _⟩
        · rw [decide_eq_false he] at hia
          have HIA := Lib.hid hia
          clear hst hpl hLo hia hkp hk
          generalize l.getD k 0 = x at *
          have hxe : (x == id) = false := by simpa using he
          go_wp2_with fail
          go_quiet (fail)
          go_wp2_with fail
          refine bodyPost_ret (results_tmp2 rfl _ _ _) rfl ?_
          exact ⟨by rw [HKP.out, HIA.out]; rfl, below_drewN HB.out _⟩
    · have hkp : placeN l id = k := by omega
      have hia : isAt l id = false := by
        unfold isAt
        rw [hkp]
        exact decide_eq_false (fun h => by omega)
      have HKP := Lib.hid hkp
      have HIA := Lib.hid hia
      have hnl : ¬ (k : Int) < (n : Int) := by omega
      have HB := Lib.hid HBW.out.1
      clear hpl hLo hia hkp hk
      go_wp2_with fail
      go_quiet (fail)
      go_wp2_with fail
      refine bodyPost_ret (results_tmp2 rfl _ _ _) rfl ?_
      exact ⟨by rw [HKP.out, HIA.out]; rfl, below_drewN HB.out _⟩
end Go.Proofs.Ytfojempmgonahaa.Wh
