/- VptreeNobody: a tree that nobody made answers nothing. Conditions: the point reads as a point. -/
import Derived.Test.YtkgapieikgniiaaVAwk
import Derived.LaidEqlPtr
set_option linter.unusedVariables false
set_option linter.unusedSimpArgs false
namespace Go.Proofs.Ytkgapieikgniiaa
open Go Go.RowKit Go.Maps
/-- A tree that New did not give: none, or one of which no word was written. -/
def NoT (w : World) (r : Value) : Prop := r = .pointer none ∨ ∃ g, r = .pointer (some ⟨g, 0, none⟩) ∧ Row w g 66 [.pointer none, .int .i64 0, .pointer none, .map none, .map none]
theorem NoT.below {w w' : World} {r : Value} (h : NoT w r) (hb : Below w.heap.size w w') : NoT w' r := by
  rcases h with h | ⟨g, h1, h2⟩
  · exact .inl h
  · exact .inr ⟨g, h1, h2.keep (hb.block g h2.lt)⟩
theorem eql_nil_some (g : Nat) (w : World) : (binOp .eql 23 (.pointer none) (.pointer (some ⟨g, 0, none⟩))).run Try.prog w = .ok (.bool false) w := by
  obtain ⟨j, hj, _⟩ := Option.map_eq_some_iff.1 (show (Try.prog.info? 66).map (fun i => i.size) = some 5 by kernel_rfl)
  have h : ∀ d : Nat, (Op.equalIn (d + 1) 23 (.pointer none) (.pointer (some ⟨g, 0, none⟩))).run Try.prog w = .ok false w := fun d => by
    simp [Op.equalIn, run_underlying Try.underlying23, sizeOf, typeInfo, hj]
  simp only [binOp]
  simp [Op.equal, Op.maxDepth, h 9999]
set_option maxRecDepth 100000 in
theorem no_given {w : World} {r : Value} (h : NoT w r) : Calls Try.prog 29 #[r] w (Says (.bool false) w) := by
  rcases h with rfl | ⟨g, rfl, hr⟩
  · go_enter Try.func29, Try.ntmps29
    go_wp2
    go_ret
    exact ⟨rfl, 0, rfl⟩
  · have hc := hr.cell (j := 0) rfl
    have hl := hr.lt
    have he := eql_nil_some g
    clear hr
    go_enter Try.func29, Try.ntmps29
    go_wp2
    go_ret
    exact ⟨rfl, 0, rfl⟩
theorem noT_len {w : World} {r : Value} (h : NoT w r) : Calls Try.prog 15 #[r] w (Says (.int .i64 0) w) := by
  have hg := no_given h
  clear h
  go_enter Try.func15, Try.ntmps15
  go_wp2_with fail
  refine hg.mono ?_
  rintro e w1 ⟨rfl, q, rfl⟩
  go_wp2_with fail
  go_ret
  exact ⟨rfl, q, rfl⟩
theorem no_get {w : World} {r : Value} (h : NoT w r) (x : Int) : Calls Try.prog 24 #[r, .int .i64 x] w (Says (.tuple #[.slice none 0 0, .int .i64 1]) w) := by
  have hg := no_given h
  clear h
  go_enter Try.func24, Try.ntmps24
  go_wp2_with fail
  refine hg.mono ?_
  rintro e w1 ⟨rfl, q, rfl⟩
  go_wp2_with fail
  go_ret2
  exact ⟨rfl, q, rfl⟩
theorem no_vec {w : World} {r : Value} (h : NoT w r) (x : Int) : Calls Try.prog 45 #[r, .int .i64 x] w (Says (.tuple #[.slice none 0 0, .bool false]) w) := by
  have hg := no_given h
  clear h
  go_enter Try.func45, Try.ntmps45
  go_wp2_with fail
  refine hg.mono ?_
  rintro e w1 ⟨rfl, q, rfl⟩
  go_wp2_with fail
  go_ret2
  exact ⟨rfl, q, rfl⟩
theorem no_drop {w : World} {r : Value} (h : NoT w r) (x : Int) : Calls Try.prog 25 #[r, .int .i64 x] w (Says (.bool false) w) := by
  have hg := no_vec h x
  clear h
  go_enter Try.func25, Try.ntmps25
  go_wp2_with fail
  refine hg.mono ?_
  rintro e w1 ⟨rfl, q, rfl⟩
  go_wp2_with fail
  go_ret
  exact ⟨rfl, q, rfl⟩
theorem no_pts {w : World} {r : Value} (h : NoT w r) : Calls Try.prog 17 #[r] w (Says (.slice none 0 0) w) := by
  have hg := no_given h
  clear h
  go_enter Try.func17, Try.ntmps17
  go_wp2_with fail
  refine hg.mono ?_
  rintro e w1 ⟨rfl, q, rfl⟩
  go_wp2_with fail
  go_ret
  exact ⟨rfl, q, rfl⟩
theorem no_build {w : World} {r : Value} (h : NoT w r) : Calls Try.prog 22 #[r] w (Says (.int .i64 1) w) := by
  have hg := no_given h
  clear h
  go_enter Try.func22, Try.ntmps22
  go_wp2_with fail
  refine hg.mono ?_
  rintro e w1 ⟨rfl, q, rfl⟩
  go_wp2_with fail
  go_ret
  exact ⟨rfl, q, rfl⟩
theorem no_put {w : World} {r : Value} (h : NoT w r) (x : Int) (A : Option Addr) (n c : Nat) : Calls Try.prog 19 #[r, .agg #[.int .i64 x, .slice A n c]] w (Gives (.tuple #[.bool false, .int .i64 1]) w) := by
  have hb : Below w.heap.size w (w.alloc (.cells #[.int .i64 x, .slice A n c] 37)) := (Below.refl _ w).alloc (Nat.le_refl _) _
  have hg := no_given (h.below hb)
  have HB := Lib.hid hb
  clear h hb
  go_enter Try.func19, Try.ntmps19
  go_wp2_with fail
  refine hg.mono ?_
  rintro e w1 ⟨rfl, q, rfl⟩
  go_wp2_with fail
  go_ret2
  exact ⟨rfl, below_drewN HB.out q⟩
theorem no_top {w : World} {r : Value} (h : NoT w r) (A : Option Addr) (n c : Nat) (k lim : Int) (hr1 : r.oneCell' = true) : Calls Try.prog 21 #[r, .slice A n c, .int .i64 k, .int .i64 lim] w (Gives (.tuple #[.slice none 0 0, .int .i64 1]) w) := by
  have hb : Below w.heap.size w (w.alloc (.cells #[r] 23)) := (Below.refl _ w).alloc (Nat.le_refl _) _
  have hg := no_given (h.below hb)
  have hr := Row.new w 23 [r]
  have z0 := hr.cell (j := 0) rfl
  have zl := hr.lt
  have HB := Lib.hid hb
  rcases h with rfl | ⟨g, rfl, _⟩
  all_goals
    clear hb hr
    go_enter Try.func21, Try.ntmps21
    go_wp2_with fail
    refine hg.mono ?_
    rintro e w1 ⟨rfl, q, rfl⟩
    go_wp2_with fail
    go_ret2
    exact ⟨rfl, below_drewN HB.out q⟩
end Go.Proofs.Ytkgapieikgniiaa
