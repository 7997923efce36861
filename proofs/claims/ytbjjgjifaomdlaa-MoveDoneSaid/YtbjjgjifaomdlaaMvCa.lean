/- The program's move in memory: given, step, Phase, goBack, Abort. Conditions: a move that New gave. -/
import Derived.Test.YtbjjgjifaomdlaaMvRef
import Derived.Deep.QuietTactic
import Derived.BigQuiet
set_option linter.unusedVariables false
set_option linter.unusedSimpArgs false
set_option maxRecDepth 100000
namespace Go.Proofs.Ytbjjgjifaomdlaa.Mv
open Go Go.RowKit
open Po (M msgV)
abbrev ptr (p : Nat) : Value := .pointer (some ⟨p, 0, none⟩)
/-- The nine cells of a move that New gave. -/
def mvC (p : Nat) (m : Mv) (v : Int) (t : ByteArray) : List Value := [ptr p, .int .i64 m.nm, .int .i64 m.ep, .int .i64 m.sh, .int .i64 m.fr, .int .i64 m.to, .int .i64 m.ph, .int .i64 v, .string t]
/-- The program's move is the document's: what it will not say any more it need not have. -/
structure IsM (w : World) (p : Nat) (m : Mv) : Prop where
  fit : FitV m
  row : ∃ v t, Row w p 62 (mvC p m v t) ∧ (m.ph = 2 ∨ m.ph = 3 → v = m.vr) ∧ (m.ph = 2 ∨ m.ph = 4 → t = m.tx)
/-- What a call leaves: its answer, and the move. -/
def Does (p : Nat) (v : Value) (m : Mv) (w : World) (e : Ending) (w' : World) : Prop := e = .returned v ∧ IsM w' p m ∧ Turn (fun b => b = p) w (fun b => b = p) w'
section
variable {w : World} {p : Nat} {m : Mv} {v : Int} {t : ByteArray}
theorem IsM.lt (h : IsM w p m) : p < w.heap.size := by
  obtain ⟨v, t, hr, _⟩ := h.row
  exact hr.lt
theorem IsM.keep {w2 : World} (h : IsM w p m) (e : w2.heap[p]? = w.heap[p]?) : IsM w2 p m := by
  obtain ⟨v, t, hr, h1, h2⟩ := h.row
  exact ⟨h.fit, v, t, hr.keep e, h1, h2⟩
theorem mv_row : (Try.prog.info? 62).map (fun i => i.size) = some 9 := by kernel_rfl
theorem eql_self (p : Nat) (w : World) : (binOp .eql 26 (ptr p) (ptr p)).run Try.prog w = .ok (.bool true) w := by
  obtain ⟨j, hj, _⟩ := Option.map_eq_some_iff.1 mv_row
  have h : ∀ d : Nat, (Op.equalIn (d + 1) 26 (ptr p) (ptr p)).run Try.prog w = .ok true w := fun d => by
    simp [Op.equalIn, run_underlying Try.underlying26, sizeOf, typeInfo, hj, run_sameAddr_same]
  simp only [binOp]
  simp [Op.equal, Op.maxDepth, h 9999]
theorem eql_nil (p : Nat) (w : World) : (binOp .eql 26 (.pointer none) (ptr p)).run Try.prog w = .ok (.bool false) w := by
  obtain ⟨j, hj, _⟩ := Option.map_eq_some_iff.1 mv_row
  have h : ∀ d : Nat, (Op.equalIn (d + 1) 26 (.pointer none) (ptr p)).run Try.prog w = .ok false w := fun d => by
    simp [Op.equalIn, run_underlying Try.underlying26, sizeOf, typeInfo, hj]
  simp only [binOp]
  simp [Op.equal, Op.maxDepth, h 9999]
theorem given_yes {L : List Value} (hr : Row w p 62 (ptr p :: L)) : Calls Try.prog 26 #[ptr p] w (fun e w2 => e = .returned (.bool true) ∧ w2 = w) := by
  have c0 := hr.cell (j := 0) rfl
  have hp := hr.lt
  go_enter Try.func26, Try.ntmps26
  have he := eql_self p w
  go_wp2
  go_ret
  exact ⟨rfl, rfl⟩
theorem given_no {L : List Value} (hr : Row w p 62 (.pointer none :: L)) : Calls Try.prog 26 #[ptr p] w (fun e w2 => e = .returned (.bool false) ∧ w2 = w) := by
  have c0 := hr.cell (j := 0) rfl
  have hp := hr.lt
  go_enter Try.func26, Try.ntmps26
  have he := eql_nil p w
  go_wp2
  go_ret
  exact ⟨rfl, rfl⟩
theorem given_nil (w : World) : Calls Try.prog 26 #[.pointer none] w (fun e w2 => e = .returned (.bool false) ∧ w2 = w) := by
  go_enter Try.func26, Try.ntmps26
  go_wp2
  go_ret
  exact ⟨rfl, rfl⟩
/-- What is loaded of a move. -/
structure Cells (w : World) (p : Nat) (m : Mv) (v : Int) (t : ByteArray) : Prop where
  c1 : w.cell? ⟨p, 1, none⟩ = some (.int .i64 m.nm)
  c2 : w.cell? ⟨p, 2, none⟩ = some (.int .i64 m.ep)
  c3 : w.cell? ⟨p, 3, none⟩ = some (.int .i64 m.sh)
  c4 : w.cell? ⟨p, 4, none⟩ = some (.int .i64 m.fr)
  c5 : w.cell? ⟨p, 5, none⟩ = some (.int .i64 m.to)
  c6 : w.cell? ⟨p, 6, none⟩ = some (.int .i64 m.ph)
  c7 : w.cell? ⟨p, 7, none⟩ = some (.int .i64 v)
  c8 : w.cell? ⟨p, 8, none⟩ = some (.string t)
  lt : p < w.heap.size
theorem cells_of (hr : Row w p 62 (mvC p m v t)) : Cells w p m v t :=
  ⟨hr.cell rfl, hr.cell rfl, hr.cell rfl, hr.cell rfl, hr.cell rfl, hr.cell rfl, hr.cell rfl, hr.cell rfl, hr.lt⟩
theorem st3 : (Try.prog.info? 71).map (·.size) = some 3 := by kernel_rfl
theorem res_st {fn : Func} {p u : Tmp} (hf : fn.results = #[.cell p 71, .tmp u]) (tmps : Array Value) {w : World} {b : Nat} {x y z : Value} (h : Row w b 71 [x, y, z]) (hp : tmps.getD p undef = .pointer (some ⟨b, 0, none⟩)) {q : Value} (hz : tmps.getD u undef = q) :
    (results fn tmps).run Try.prog w = .ok (.tuple #[.agg #[x, y, z], q]) w := by
  have a1 := run_loadVar_mid w b 0 71 [x, y, z] _ (fun j v hv => by rw [Nat.zero_add]; exact h.cell hv) Try.underlying71 rfl st3
  have hp' : tmps[p]?.getD undef = .pointer (some ⟨b, 0, none⟩) := by simpa using hp
  have hz' : tmps[u]?.getD undef = q := by simpa using hz
  simp only [results, hf]
  simp [Sem.run_bind, Result.andThen, hp', hz', asAddr, a1]
theorem row3 {T : TypeId} {W : World} {b : Nat} {x y z x' y' z' : Value} {nq : Nat} (h : Row W b T [x, y, z]) : Row ((((W.drewN nq).setCell ⟨b, 0, none⟩ x').setCell ⟨b, 1, none⟩ y').setCell ⟨b, 2, none⟩ z') b T [x', y', z'] := by
  have h1 : Row (W.drewN nq) b T [x, y, z] := h
  exact ((h1.set 0 x').set 1 y').set 2 z'
theorem below3 {w1 : World} {x y z : Value} (h : Below w.heap.size w w1) : Below w.heap.size w (((w1.setCell ⟨w.heap.size, 0, none⟩ x).setCell ⟨w.heap.size, 1, none⟩ y).setCell ⟨w.heap.size, 2, none⟩ z) :=
  below_setCell (below_setCell (below_setCell h (Nat.le_refl _) x) (Nat.le_refl _) y) (Nat.le_refl _) z
def stepV (m : Mv) : Value := .agg #[.int .i64 (if open_ m = true then asks m.ph else 0), .int .i64 (if open_ m = true then nodeM m else 0), .int .i64 (if open_ m = true then asks m.ph + 1 else 0)]
set_option maxHeartbeats 1000000 in
theorem step_any (hf : FitV m) (hr : Row w p 62 (mvC p m v t)) : Calls Try.prog 28 #[ptr p] w (fun e w' => e = .returned (.tuple #[stepV m, .bool (open_ m)]) ∧ Below w.heap.size w w') := by
  have HG := Lib.hid (given_yes (hr.keep (heap_alloc_lt w (.cells #[.int .i64 0, .int .i64 0, .int .i64 0] 71) hr.lt)))
  obtain ⟨c1, c2, c3, c4, c5, c6, c7, c8, hp⟩ := cells_of hr
  have h1 := phases hf
  have hb : ∀ o, Below w.heap.size w (w.alloc o) := fun o => (Below.refl _ w).alloc (Nat.le_refl _) _
  unfold stepV nodeM open_
  obtain ⟨nm, ep, ph, vr, sh, fr, to, tx⟩ := m
  simp only at h1 c1 c2 c3 c4 c5 c6 HG ⊢
  clear hf hr
  rcases h1 with rfl | rfl | rfl | rfl | rfl | rfl | rfl | rfl | rfl
  all_goals
    simp (config := { decide := true }) only [asks, decide_true, decide_false, Bool.or_false, Bool.or_true, Bool.false_or, Bool.not_true, Bool.not_false, if_true, if_false, or_true, true_or, or_false, false_or, Bool.false_eq_true, Int.reduceAdd]
    go_enter Try.func28, Try.ntmps28
    go_wp2_with (with_reducible refine (HG.out).mono ?_; rintro e w1 ⟨rfl, rfl⟩)
    first
      | exact bodyPost_ret (res_st Try.results28 _ (b := w.heap.size) (Row.new w _ [_, _, _]) rfl rfl) rfl ⟨rfl, hb _⟩
      | (go_quiet (fail)
         go_wp2_with fail
         exact bodyPost_ret (res_st Try.results28 _ (b := w.heap.size) (row3 (Row.new w _ [_, _, _])) rfl rfl) rfl ⟨rfl, below3 (below_drewN (hb _) _)⟩)
/-- A call that leaves the move as it is. -/
theorem does_same {w' : World} {val : Value} (h : IsM w p m) (hb : Below w.heap.size w w') {e : Ending} (he : e = .returned val) : Does p val m w e w' :=
  ⟨he, h.keep (hb.block _ h.lt), Turn.below _ hb⟩
theorem phase_is (h : IsM w p m) : Calls Try.prog 18 #[ptr p] w (fun e w' => e = .returned (.int .i64 m.ph) ∧ w' = w) := by
  obtain ⟨v, t, hr, _⟩ := h.row
  have HG := Lib.hid (given_yes hr)
  obtain ⟨c1, c2, c3, c4, c5, c6, c7, c8, hp⟩ := cells_of hr
  clear hr h
  go_enter Try.func18, Try.ntmps18
  go_wp2_with (with_reducible refine (HG.out).mono ?_; rintro e w1 ⟨rfl, rfl⟩)
  go_ret
  exact ⟨rfl, rfl⟩
/-- What goBack leaves. -/
theorem back_does (hf : FitV m) (hr : Row w p 62 (mvC p m v t)) : IsM ((w.setCell ⟨p, 8, none⟩ (.string { data := #[] })).setCell ⟨p, 6, none⟩ (.int .i64 7)) p { m with ph := 7 } ∧ Turn (fun b => b = p) w (fun b => b = p) ((w.setCell ⟨p, 8, none⟩ (.string { data := #[] })).setCell ⟨p, 6, none⟩ (.int .i64 7)) :=
  ⟨⟨⟨by simp, hf.ok⟩, v, { data := #[] }, (hr.set 8 _).set 6 _, by simp, by simp⟩, (Turn.set (fun b => b = p) w (a := ⟨p, 8, none⟩) rfl _).trans (Turn.set (fun b => b = p) _ (a := ⟨p, 6, none⟩) rfl _)⟩
theorem back_any (hf : FitV m) (hr : Row w p 62 (mvC p m v t)) : Calls Try.prog 27 #[ptr p] w (Does p (.tuple #[]) { m with ph := 7 } w) := by
  have HE := Lib.hid (back_does hf hr)
  have f8 := hr.frozen 8
  have f6 := hr.frozen 6
  obtain ⟨c1, c2, c3, c4, c5, c6, c7, c8, hp⟩ := cells_of hr
  clear hr hf
  go_enter Try.func27, Try.ntmps27
  go_wp2
  go_end0
  exact ⟨rfl, HE.out⟩
theorem abort_is (h : IsM w p m) : Calls Try.prog 13 #[ptr p] w (Does p (.int .i64 (abortM m).2) (abortM m).1 w) := by
  have hs := fun (e' : Int) => does_same (val := .int .i64 e') h (Below.refl w.heap.size w) rfl
  have hf := h.fit
  obtain ⟨v, t, hr, _⟩ := h.row
  have HG := Lib.hid (given_yes hr)
  have HB := Lib.hid (back_any hf hr)
  have h1 := phases hf
  obtain ⟨c1, c2, c3, c4, c5, c6, c7, c8, hp⟩ := cells_of hr
  clear hr h hf
  unfold abortM
  obtain ⟨nm, ep, ph, vr, sh, fr, to, tx⟩ := m
  simp only at h1 c1 c2 c3 c4 c5 c6 HG hs HB ⊢
  rcases h1 with rfl | rfl | rfl | rfl | rfl | rfl | rfl | rfl | rfl
  all_goals
    simp (config := { decide := true }) only [if_true, if_false, or_true, true_or, or_false, false_or, Bool.false_eq_true]
    have hs := Lib.hid hs
    go_enter Try.func13, Try.ntmps13
    go_wp2_with (first
      | (with_reducible refine (HG.out).mono ?_; rintro e w1 ⟨rfl, rfl⟩)
      | ((with_reducible refine (HB.out).mono ?_); rintro e w2 ⟨rfl, hd⟩; have hd := Lib.hid hd))
    go_ret
    first
      | exact hs.out _
      | exact ⟨rfl, hd.out⟩
end
end Go.Proofs.Ytbjjgjifaomdlaa.Mv
