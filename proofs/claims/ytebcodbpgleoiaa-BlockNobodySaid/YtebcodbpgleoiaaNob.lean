/- What the functions of package block return for a disk that New did not give: no pointer, or a disk of zeros. Conditions: none else. -/
import Derived.Test.YtebcodbpgleoiaaAwake
set_option linter.unusedVariables false
set_option linter.unusedSimpArgs false
namespace Go.Proofs.Ytebcodbpgleoiaa
open Go Go.RowKit
/-- A disk that nobody made. -/
def NoDk (w : World) (p : Value) : Prop := p = .pointer none ∨ ∃ b, p = .pointer (some ⟨b, 0, none⟩) ∧ b < w.heap.size ∧ w.cell? ⟨b, 0, none⟩ = some (.pointer none)
theorem eql_nil_ptr (d : Nat) (w : World) : (binOp .eql 24 (.pointer none) (.pointer (some ⟨d, 0, none⟩))).run Try.prog w = .ok (.bool false) w := by
  have h : ∀ n : Nat, (Op.equalIn (n + 1) 24 (.pointer none) (.pointer (some ⟨d, 0, none⟩))).run Try.prog w = .ok false w := fun n => by
    simp [Op.equalIn, run_underlying Try.underlying24]
  simp only [binOp]
  simp [Op.equal, Op.maxDepth, h 9999]
section
variable {w w' : World} {p : Value}
theorem NoDk.below (h : NoDk w p) (hb : Below w.heap.size w w') : NoDk w' p := by
  rcases h with h | ⟨b, h, hl, hc⟩
  · exact .inl h
  · exact .inr ⟨b, h, Nat.lt_of_lt_of_le hl hb.size, (hb.cell (p := ⟨b, 0, none⟩) hl).trans hc⟩
theorem NoDk.drewN (h : NoDk w p) (q : Nat) : NoDk (w.drewN q) p := h
theorem NoDk.alloc (h : NoDk w p) (o : Obj) : NoDk (w.alloc o) p := h.below ((Below.refl _ w).alloc (Nat.le_refl _) o)
theorem given_nob (h : NoDk w p) : Calls Try.prog 26 #[p] w fun e w' => e = .returned (.bool false) ∧ ∃ q, w' = w.drewN q := by
  rcases h with rfl | ⟨b, rfl, hl, hc⟩
  · go_enter Try.func26, Try.ntmps26
    go_wp2
    go_ret
    exact ⟨rfl, 0, rfl⟩
  · have he := eql_nil_ptr b w
    go_enter Try.func26, Try.ntmps26
    go_wp2
    go_ret
    exact ⟨rfl, 0, rfl⟩
theorem blocks_nob (h : NoDk w p) : Calls Try.prog 20 #[p] w fun e w' => e = .returned (.int .i64 0) ∧ ∃ q, w' = w.drewN q := by
  have hg := given_nob h
  go_enter Try.func20, Try.ntmps20
  go_wp2_with fail
  refine hg.mono ?_
  rintro e w1 ⟨rfl, q, rfl⟩
  go_wp2
  go_ret
  exact ⟨rfl, _, rfl⟩
theorem loose_nob (h : NoDk w p) : Calls Try.prog 19 #[p] w fun e w' => e = .returned (.int .i64 0) ∧ ∃ q, w' = w.drewN q := by
  have hg := given_nob h
  go_enter Try.func19, Try.ntmps19
  go_wp2_with fail
  refine hg.mono ?_
  rintro e w1 ⟨rfl, q, rfl⟩
  go_wp2
  go_ret
  exact ⟨rfl, _, rfl⟩
theorem sync_nob (h : NoDk w p) : Calls Try.prog 16 #[p] w fun e w' => e = .returned (.int .i64 1) ∧ ∃ q, w' = w.drewN q := by
  have hg := given_nob h
  go_enter Try.func16, Try.ntmps16
  go_wp2_with fail
  go_at_call 26
  refine hg.mono ?_
  rintro e w1 ⟨rfl, q, rfl⟩
  go_wp2
  go_ret
  exact ⟨rfl, _, rfl⟩
theorem has_nob (h : NoDk w p) (z : Int) : Calls Try.prog 22 #[p, .int .i64 z] w fun e w' => e = .returned (.bool false) ∧ ∃ q, w' = w.drewN q := by
  have hg := blocks_nob h
  by_cases h0 : z < 0
  · have hn : ¬ (0 ≤ z) := by omega
    go_enter Try.func22, Try.ntmps22
    go_wp2
    go_ret
    exact ⟨rfl, 0, rfl⟩
  · have hn : 0 ≤ z := by omega
    have hn2 : decide (z < (0 : Int)) = false := decide_eq_false (by omega)
    clear h0
    go_enter Try.func22, Try.ntmps22
    go_wp2_with fail
    refine hg.mono ?_
    rintro e w1 ⟨rfl, q, rfl⟩
    clear h hg
    go_wp2
    go_ret
    exact ⟨rfl, _, rfl⟩
theorem get_nob (h : NoDk w p) (z : Int) : Calls Try.prog 13 #[p, .int .i64 z] w fun e w' => e = .returned (.tuple #[.string ⟨#[]⟩, .int .i64 1]) ∧ ∃ q, w' = w.drewN q := by
  have hh := has_nob h z
  go_enter Try.func13, Try.ntmps13
  go_wp2_with fail
  refine hh.mono ?_
  rintro e w1 ⟨rfl, q, rfl⟩
  clear h hh
  go_wp2
  go_ret2
  exact ⟨rfl, _, rfl⟩
theorem put_nob (h : NoDk w p) (z : Int) (s : ByteArray) : Calls Try.prog 12 #[p, .int .i64 z, .string s] w fun e w' => e = .returned (.int .i64 1) ∧ Below w.heap.size w w' := by
  obtain ⟨W2, hW2⟩ : ∃ W2, W2 = (w.alloc (.cells #[.int .i64 z] 3)).alloc (.cells #[.string s] 9) := ⟨_, rfl⟩
  have h2 : NoDk W2 p := by rw [hW2]; exact (h.alloc _).alloc _
  have hb1 : Box W2 w.heap.size 3 (.int .i64 z) := by rw [hW2]; exact (Box.new w 3 _).keep (heap_alloc_lt _ _ (by simp))
  have hb0 : Below w.heap.size w W2 := by rw [hW2]; exact ((Below.refl _ w).alloc (Nat.le_refl _) _).alloc (by simp) _
  have hl1 := hb1.cell
  have hlt1 := hb1.lt
  have hh := has_nob h2 z
  have HH := Lib.hid hh
  clear hh h h2 hb1
  go_enter Try.func12, Try.ntmps12
  go_wp2_with fail
  rw [← hW2]
  clear hW2
  go_at_call 22
  refine HH.out.mono ?_
  rintro e w1 ⟨rfl, q, rfl⟩
  go_wp2
  go_ret
  exact ⟨rfl, below_drewN hb0 q⟩
theorem fail_nob (h : NoDk w p) (x y : Int) : Calls Try.prog 18 #[p, .int .i64 x, .int .i64 y] w fun e w' => e = .returned (.int .i64 1) ∧ Below w.heap.size w w' := by
  obtain ⟨W2, hW2⟩ : ∃ W2, W2 = (w.alloc (.cells #[p] 24)).alloc (.cells #[.int .i64 y] 3) := ⟨_, rfl⟩
  have h2 : NoDk W2 p := by rw [hW2]; exact (h.alloc _).alloc _
  have hb1 : Box W2 w.heap.size 24 p := by rw [hW2]; exact (Box.new w 24 _).keep (heap_alloc_lt _ _ (by simp))
  have hb0 : Below w.heap.size w W2 := by rw [hW2]; exact ((Below.refl _ w).alloc (Nat.le_refl _) _).alloc (by simp) _
  have hl1 := hb1.cell
  have hlt1 := hb1.lt
  have hg := given_nob h2
  have HH := Lib.hid hg
  clear hg h2 hb1
  rcases h with rfl | ⟨b, rfl, hl, hc⟩
  all_goals
    go_enter Try.func18, Try.ntmps18
    go_wp2_with fail
    rw [← hW2]
    clear hW2
    go_at_call 26
    refine HH.out.mono ?_
    rintro e w1 ⟨rfl, q, rfl⟩
    go_wp2
    go_ret
    exact ⟨rfl, below_drewN hb0 q⟩
end
end Go.Proofs.Ytebcodbpgleoiaa
