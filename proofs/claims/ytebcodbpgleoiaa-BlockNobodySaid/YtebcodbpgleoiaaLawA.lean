/- The walk of BlockNobody. Conditions: none. -/
import Derived.Test.YtebcodbpgleoiaaNob
set_option linter.unusedVariables false
set_option linter.unusedSimpArgs false
namespace Go.Proofs.Ytebcodbpgleoiaa
open Go Go.RowKit
/-- The two disks of the law. -/
def nobP (N k : Nat) : Value := if k = 0 then .pointer none else .pointer (some ⟨N, 0, none⟩)
set_option maxHeartbeats 2000000 in
theorem blockNobody_walk (n : Int) (s : ByteArray) (W : World) : Calls Try.prog 6 #[.int .i64 n, .string s] W (Gives (.bool true) W) := by
  obtain ⟨W2, hW2⟩ : ∃ W2, W2 = (W.alloc (.cells #[.pointer none, .slice none 0 0, .slice none 0 0, .slice none 0 0] 54)).alloc (.cells #[.pointer none, .pointer (some ⟨W.heap.size, 0, none⟩)] 24) := ⟨_, rfl⟩
  have hB2 : Below W.heap.size W W2 := by rw [hW2]; exact ((Below.refl _ W).alloc (Nat.le_refl _) _).alloc (by simp) _
  have hs2 : W2.heap.size = W.heap.size + 2 := by rw [hW2]; simp
  have hr : Row W2 (W.heap.size + 1) 24 [.pointer none, .pointer (some ⟨W.heap.size, 0, none⟩)] := by
    rw [hW2]
    have := Row.new (W.alloc (.cells #[.pointer none, .slice none 0 0, .slice none 0 0, .slice none 0 0] 54)) 24 [.pointer none, .pointer (some ⟨W.heap.size, 0, none⟩)]
    simpa using this
  have hz : W2.cell? ⟨W.heap.size, 0, none⟩ = some (.pointer none) := by
    have : W2.heap[W.heap.size]? = some (.cells #[.pointer none, .slice none 0 0, .slice none 0 0, .slice none 0 0] 54 (0, 0)) := by
      rw [hW2]
      exact (heap_alloc_lt _ _ (by simp)).trans (by show (W.heap.push _)[W.heap.size]? = _; simp)
    simp [World.cell?, this]
  have hno : ∀ k, k < 2 → NoDk W2 (nobP W.heap.size k) ∧ W2.cell? ⟨W.heap.size + 1, k, none⟩ = some (nobP W.heap.size k) := by
    intro k hk
    have : k = 0 ∨ k = 1 := by omega
    rcases this with rfl | rfl
    · exact ⟨.inl rfl, hr.cell rfl⟩
    · exact ⟨.inr ⟨_, rfl, by omega, hz⟩, hr.cell rfl⟩
  have H := Lib.hid (And.intro hB2 (And.intro hs2 hno))
  clear hB2 hr hz hno
  go_enter Try.func6, Try.ntmps6
  go_wp2_with fail
  rw [← hW2]
  clear hW2
  go_loopw [6] (fun i wr => ∃ k : Nat, i = .int .i64 (k : Int) ∧ k ≤ 2 ∧ Below W2.heap.size W2 wr) (fun i _ => 2 - (intOf i).toNat)
  case atStart => exact ⟨0, rfl, by omega, Below.refl _ _⟩
  case round =>
    obtain ⟨k, rfl, hk, hB⟩ := hrel
    by_cases hlt : k < 2
    · have hltz : (k : Int) < 2 := by omega
      have hNo := H.out.2.2 k hlt
      have hc : wr.cell? ⟨W.heap.size + 1, k, none⟩ = some (nobP W.heap.size k) := (hB.cell (p := ⟨W.heap.size + 1, k, none⟩) (by show W.heap.size + 1 < W2.heap.size; omega)).trans hNo.2
      have hl : W.heap.size + 1 < wr.heap.size := by have := hB.size; omega
      have hD := hNo.1.below hB
      generalize nobP W.heap.size k = P at *
      have HB := Lib.hid hB
      have HD := Lib.hid hD
      clear hNo hD hB
      go_wp2_with fail
      refine (get_nob HD.out n).mono ?_
      rintro e w1 ⟨rfl, q1, rfl⟩
      go_wp2_with fail
      refine (put_nob (HD.out.drewN q1) n s).mono ?_
      rintro e w2 ⟨rfl, hb2⟩
      have hc2 : w2.cell? ⟨W.heap.size + 1, k, none⟩ = some P := (hb2.cell (p := ⟨W.heap.size + 1, k, none⟩) hl).trans hc
      have hl2 : W.heap.size + 1 < w2.heap.size := Nat.lt_of_lt_of_le hl hb2.size
      have HE := Lib.hid (And.intro ((HD.out.drewN q1).below hb2) (below_then (below_drewN HB.out q1) hb2))
      clear hb2 hc hl HD HB
      go_wp2_with fail
      refine (sync_nob HE.out.1).mono ?_
      rintro e w3 ⟨rfl, q3, rfl⟩
      go_wp2_with fail
      refine (loose_nob (HE.out.1.drewN _)).mono ?_
      rintro e w4 ⟨rfl, q4, rfl⟩
      go_wp2_with fail
      refine (blocks_nob (HE.out.1.drewN _)).mono ?_
      rintro e w5 ⟨rfl, q5, rfl⟩
      go_wp2_with fail
      refine (fail_nob (HE.out.1.drewN _) n n).mono ?_
      rintro e w6 ⟨rfl, hb6⟩
      go_wp2_with fail
      go_roundw
      case rel => exact ⟨k + 1, by go_num, by omega, below_then (below_drewN HE.out.2 _) hb6⟩
      case measure => simp [intOf]; omega
    · obtain rfl : k = 2 := by omega
      go_wp2_with fail
      refine (awake_any wr).mono ?_
      rintro e w7 ⟨rfl, hb7⟩
      go_wp2_with fail
      go_ret
      exact ⟨rfl, below_then H.out.1 (below_then hB hb7)⟩
end Go.Proofs.Ytebcodbpgleoiaa
