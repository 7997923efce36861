/- What Find and Put of the document's answers do. Conditions: a table by value. -/
import Derived.Test.YtbijaipoifpngaaDoorDPutT
import Derived.Laws.ResultCell
set_option linter.unusedVariables false
set_option linter.unusedSimpArgs false
set_option maxRecDepth 100000
namespace Go.Proofs.YtbijaipoifpngaaDoor.Be
open Go Go.RowKit
theorem may_any (c n : Int) (w : World) : Calls Tryd.prog 20 #[.int .i64 c, .int .i64 n] w fun e w' => e = .returned (.bool (mayB c n)) ∧ w = w' := by
  go_enter Tryd.func20, Tryd.ntmps20
  go_wp2
  all_goals go_ret
  all_goals exact ⟨ret_b (by unfold mayB cliB seqB; rw [Bool.eq_iff_iff]; simp; try omega), rfl⟩
abbrev tabV (q : List E) : Value := .agg (qc q).toArray
/-- A table by value in a variable. -/
def TabV (w : World) (b : Nat) (q : List E) : Prop := Row w b 29 (qc q) ∧ q.length = 8
theorem TabV.keep {w w' : World} {b : Nat} {q : List E} (h : TabV w b q) (e : w'.heap[b]? = w.heap[b]?) : TabV w' b q := ⟨h.1.keep e, h.2⟩
theorem TabV.on {w w' : World} {b : Nat} {q : List E} (h : TabV w b q) (hb : Below w.heap.size w w') : TabV w' b q := ⟨h.1.on hb, h.2⟩
theorem TabV.al {w : World} {b : Nat} {q : List E} (h : TabV w b q) (o : Obj) : TabV (w.alloc o) b q := ⟨h.1.al o, h.2⟩
theorem TabV.lt {w : World} {b : Nat} {q : List E} (h : TabV w b q) : b < w.heap.size := h.1.lt
theorem TabV.cell {w : World} {b : Nat} {q : List E} (h : TabV w b q) {k : Nat} (hk : k < 8) : w.cell? ⟨b, k * 3, none⟩ = some (.int .i64 q[k]!.s) ∧ w.cell? ⟨b, k * 3 + 1, none⟩ = some (.int .i64 q[k]!.e) ∧ w.cell? ⟨b, k * 3 + 2, none⟩ = some (.bool q[k]!.b) := by
  have hl := h.2
  have g : ∀ j u, j < 3 → (ecell q[k]!)[j]? = some u → w.cell? ⟨b, k * 3 + j, none⟩ = some u := fun j u hj hu => by
    apply h.1.cell
    rw [qc_at q k (by omega) j hj, hu]
  exact ⟨g 0 _ (by omega) rfl, g 1 _ (by omega) rfl, g 2 _ (by omega) rfl⟩
theorem TabV.new (w : World) (q : List E) (hq : q.length = 8) : TabV (w.alloc (.cells (qc q).toArray 29)) w.heap.size q := ⟨Row.new w _ _, hq⟩
theorem TabV.zero {w : World} {b : Nat} (hb : w.heap.size = b) : TabV (w.alloc (.cells #[.int .i64 0, .int .i64 0, .bool false, .int .i64 0, .int .i64 0, .bool false, .int .i64 0, .int .i64 0, .bool false, .int .i64 0, .int .i64 0, .bool false, .int .i64 0, .int .i64 0, .bool false, .int .i64 0, .int .i64 0, .bool false, .int .i64 0, .int .i64 0, .bool false, .int .i64 0, .int .i64 0, .bool false] 29)) b q0 := by
  subst hb
  exact ⟨Row.new w _ (qc q0), rfl⟩
theorem load_var {w : World} {b : Nat} {q : List E} (h : TabV w b q) : (loadVar 29 ⟨b, 0, none⟩).run Tryd.prog w = .ok (tabV q) w := by
  have hl : (qc q).length = 24 := by rw [qc_len, h.2]
  exact run_loadVar_mid w b 0 29 (qc q) _ (fun j v hv => by rw [Nat.zero_add]; exact h.1.cell hv) Tryd.underlying29 rfl (by rw [hl]; kernel_rfl)
section
variable {ops : Array Oper} {rest : List Oper} {o : Oper} {a : Act} {Q : Exit → Act → World → Prop} {W : World}
theorem ld_tab {b : Nat} {q : List E} (hR : TabV W b q) (hgd : o.guard = none) (x : Operand) (ho : o.op = .load 29 x) (hx : a.eval x = .pointer (some ⟨b, 0, none⟩))
    (h : wpList Tryd.prog ops Q rest (a.put o.dst (tabV q)) W) : wpList Tryd.prog ops Q (o :: rest) a W := by
  have hl : (qc q).length = 24 := by rw [qc_len, hR.2]
  exact wpList_load_mid hgd 29 x ho b 0 hx (qc q) _ (fun j v hv => by rw [Nat.zero_add]; exact hR.1.cell hv) Tryd.underlying29 rfl (by rw [hl]; kernel_rfl) h
theorem setRow_facts {W : World} {b : Nat} {T : TypeId} {xs : List Value} (hR : Row W b T xs) (ys : List Value) : Row (W.setRow b ys.toArray) b T ys ∧ (W.setRow b ys.toArray).heap.size = W.heap.size ∧ W.grownBy (W.setRow b ys.toArray) (some b) := by
  unfold Row at *
  refine ⟨?_, ?_, rfl, rfl, rfl, ?_, fun i hi hne => ?_⟩
  · simp only [World.setRow, Array.getElem?_modify, if_true, hR]
    rfl
  · simp [World.setRow]
  · simp [World.setRow]
  · simp only [World.setRow, Array.getElem?_modify]
    have : b ≠ i := fun e => hne (by rw [e])
    rw [if_neg this]
theorem st_tab {b : Nat} {q q' : List E} (hR : TabV W b q) (hq' : q'.length = 8) (hgd : o.guard = none) (x y : Operand) (ho : o.op = .store 29 x y) (hx : a.eval x = .pointer (some ⟨b, 0, none⟩)) (hy : a.eval y = tabV q')
    (h : ∀ W', TabV W' b q' → W'.heap.size = W.heap.size → W.grownBy W' (some b) → wpList Tryd.prog ops Q rest (a.put o.dst undef) W') : wpList Tryd.prog ops Q (o :: rest) a W := by
  have hl : (qc q).length = 24 := by rw [qc_len, hR.2]
  have hl' : (qc q').length = 24 := by rw [qc_len, hq']
  refine wpList_plain hgd fun K hK => ?_
  have hst := run_storeVar_row (P := Tryd.prog) W b 29 29 (qc q).toArray (qc q').toArray hR.1 (by simp only [List.size_toArray, hl']; kernel_rfl) (by simp [hl, hl']) (all_oneCell_toArray (qc_one q'))
  obtain ⟨f1, f2, f3⟩ := setRow_facts hR.1 (qc q')
  unfold Oper.wp execOp
  simp only [ho, hx, hy, Instr.storeAt, Instr.sureAddr, Sem.run_bind, Sem.run_pure, Result.andThen_ok, hst]
  exact hK _ _ (h _ ⟨f1, hq'⟩ f2 f3)
theorem st_ent {b k : Nat} {q : List E} (x : E) (hR : TabV W b q) (hk : k < 8) (hgd : o.guard = none) (X Y : Operand) (ho : o.op = .store 27 X Y) (hx : a.eval X = .pointer (some ⟨b, k * 3, none⟩)) (hy : a.eval Y = .agg #[.int .i64 x.s, .int .i64 x.e, .bool x.b])
    (h : ∀ W', TabV W' b (q.set k x) → W'.heap.size = W.heap.size → W.grownBy W' (some b) → wpList Tryd.prog ops Q rest (a.put o.dst undef) W') : wpList Tryd.prog ops Q (o :: rest) a W := by
  obtain ⟨c1, c2, c3⟩ := hR.cell hk
  have hth : W.there b (k * 3) 3 := fun j hj => by
    refine ⟨?_, hR.1.frozen _⟩
    rcases j with _ | _ | _ | j
    · rw [show k * 3 + 0 = k * 3 from rfl, c1]; rfl
    · rw [show k * 3 + (0 + 1) = k * 3 + 1 from rfl, c2]; rfl
    · rw [show k * 3 + (0 + 1 + 1) = k * 3 + 2 from rfl, c3]; rfl
    · omega
  refine wpList_store_mid hgd 27 X Y ho b (k * 3) #[.int .i64 x.s, .int .i64 x.e, .bool x.b] hx hy hth (by kernel_rfl) (by kernel_rfl) (h _ ?_ ?_ ?_)
  · have h3 := ((hR.1.set (k * 3) (.int .i64 x.s)).set (k * 3 + 1) (.int .i64 x.e)).set (k * 3 + 2) (.bool x.b)
    rw [← qc_set q k (by rw [hR.2]; exact hk) x] at h3
    exact ⟨h3, by rw [List.length_set]; exact hR.2⟩
  · show (((W.setCell _ _).setCell _ _).setCell _ _).heap.size = _
    simp
  · exact grown_setCell (grown_setCell (grown_setCell (grown_refl W _) ⟨b, k * 3, none⟩ rfl (.int .i64 x.s)) ⟨b, k * 3 + 1, none⟩ rfl (.int .i64 x.e)) ⟨b, k * 3 + 1 + 1, none⟩ rfl (.bool x.b)
end
theorem res_tab {fn : Func} {p u : Tmp} (hf : fn.results = #[.cell p 29, .tmp u]) (tmps : Array Value) {w : World} {b : Nat} {q : List E} (h : TabV w b q) (hp : tmps.getD p undef = .pointer (some ⟨b, 0, none⟩)) {z : Value} (hz : tmps.getD u undef = z) :
    (results fn tmps).run Tryd.prog w = .ok (.tuple #[tabV q, z]) w := by
  rw [results_cell_tmp hf, hp, hz]
  simp [asAddr, Result.andThen, load_var h]
theorem rput_bad {w : World} {q : List E} (c n e : Int) (b : Bool) (H : Value) (hq : q.length = 8) (h : (mayB c n && errB e) = false) : Calls Tryd.prog 10 #[tabV q, .int .i64 c, .int .i64 n, .agg #[.int .i64 e, .bool b, H]] w fun en w' => en = .returned (.tuple #[tabV q, .int .i64 1]) ∧ Below w.heap.size w w' := by
  have hm := Lib.hid (fun w1 => may_any c n w1)
  have HB : ∀ (A B C : Obj), Below w.heap.size w (((w.alloc A).alloc B).alloc C) := fun A B C => (((Below.refl _ _).alloc (Nat.le_refl _) _).alloc (by simp) _).alloc (by simp; omega) _
  have R1 := Lib.hid ((TabV.new w q hq).al (.cells #[.int .i64 e, .bool b, H] 32))
  unfold tabV
  unfold errB at h
  generalize mayB c n = bc at *
  rcases bc with _ | _
  · clear h
    go_enter Tryd.func10, Tryd.ntmps10
    go_wp2_with (first | (refine (hm.out _).mono ?_; rintro e w1 ⟨rfl, rfl⟩) | (refine ld_tab (R1.out.al _) rfl _ rfl rfl ?_) | (refine st_tab (TabV.zero (b := w.heap.size + 1 + 1) (by simp)) hq rfl _ _ rfl rfl rfl ?_; intro W' f1 f2 f3))
    exact bodyPost_ret (res_tab Tryd.results10 _ f1 rfl rfl) rfl ⟨rfl, below_grown_new (HB _ _ _) f3 (by omega)⟩
  · by_cases he : e < 0
    · clear h
      go_enter Tryd.func10, Tryd.ntmps10
      go_wp2_with (first | (refine (hm.out _).mono ?_; rintro e w1 ⟨rfl, rfl⟩) | (refine ld_tab (R1.out.al _) rfl _ rfl rfl ?_) | (refine st_tab (TabV.zero (b := w.heap.size + 1 + 1) (by simp)) hq rfl _ _ rfl rfl rfl ?_; intro W' f1 f2 f3))
      exact bodyPost_ret (res_tab Tryd.results10 _ f1 rfl rfl) rfl ⟨rfl, below_grown_new (HB _ _ _) f3 (by omega)⟩
    · have he2 : 255 < e := by simp at h; omega
      clear h
      go_enter Tryd.func10, Tryd.ntmps10
      go_wp2_with (first | (refine (hm.out _).mono ?_; rintro e w1 ⟨rfl, rfl⟩) | (refine ld_tab (R1.out.al _) rfl _ rfl rfl ?_) | (refine st_tab (TabV.zero (b := w.heap.size + 1 + 1) (by simp)) hq rfl _ _ rfl rfl rfl ?_; intro W' f1 f2 f3))
      exact bodyPost_ret (res_tab Tryd.results10 _ f1 rfl rfl) rfl ⟨rfl, below_grown_new (HB _ _ _) f3 (by omega)⟩
theorem rput_any {w : World} {q : List E} (hq : q.length = 8) (c n e : Int) (b : Bool) (H : Value) : Calls Tryd.prog 10 #[tabV q, .int .i64 c, .int .i64 n, .agg #[.int .i64 e, .bool b, H]] w fun en w' => en = .returned (.tuple #[tabV (putM q c n e b).1, .int .i64 (putM q c n e b).2]) ∧ Below w.heap.size w w' := by
  unfold putM
  by_cases hm0 : (mayB c n && errB e) = true
  · rw [if_pos hm0]
    simp only [Bool.and_eq_true] at hm0
    obtain ⟨hmy, hme⟩ := hm0
    have hm := Lib.hid (fun w1 => may_any c n w1)
    rw [hmy] at hm
    have HB : ∀ (A B C : Obj), Below w.heap.size w (((w.alloc A).alloc B).alloc C) := fun A B C => (((Below.refl _ _).alloc (Nat.le_refl _) _).alloc (by simp) _).alloc (by simp; omega) _
    obtain ⟨k, rfl, hk⟩ := cli_nat (by unfold mayB at hmy; simp only [Bool.and_eq_true] at hmy; exact hmy.1 : cliB c = true)
    rw [show ((k : Int)).toNat = k from rfl]
    have he1 : 0 ≤ e := by unfold errB at hme; simp at hme; omega
    have he2 : e ≤ 255 := by unfold errB at hme; simp at hme; omega
    have R1 := (TabV.new w q hq).al (.cells #[.int .i64 e, .bool b, H] 32)
    have R2 : TabV (((w.alloc (.cells (qc q).toArray 29)).alloc (.cells #[.int .i64 e, .bool b, H] 32)).alloc (.cells #[.int .i64 0, .int .i64 0, .bool false, .int .i64 0, .int .i64 0, .bool false, .int .i64 0, .int .i64 0, .bool false, .int .i64 0, .int .i64 0, .bool false, .int .i64 0, .int .i64 0, .bool false, .int .i64 0, .int .i64 0, .bool false, .int .i64 0, .int .i64 0, .bool false, .int .i64 0, .int .i64 0, .bool false] 29)) w.heap.size q := R1.al _
    obtain ⟨c1, c2, c3⟩ := R2.cell hk
    have hfz := fun j => R2.1.frozen j
    have HR := Lib.hid R1
    have HR2 := Lib.hid R2
    have hk2 : (k : Int) < 8 := by omega
    clear hmy hme R1 R2
    by_cases h1 : n ≤ q[k]!.s
    · rw [if_pos h1]
      generalize q[k]! = x at *
      obtain ⟨xs, xe, xb⟩ := x
      simp only at c1 c2 c3 h1
      unfold tabV
      go_enter Tryd.func10, Tryd.ntmps10
      go_wp2_with (first | (refine (hm.out _).mono ?_; rintro e w1 ⟨rfl, rfl⟩) | (refine ld_tab (HR.out.al _) rfl _ rfl rfl ?_) | (refine st_tab (TabV.zero (b := w.heap.size + 1 + 1) (by simp)) hq rfl _ _ rfl rfl rfl ?_; intro W' f1 f2 f3))
      exact bodyPost_ret (res_tab Tryd.results10 _ f1 rfl rfl) rfl ⟨rfl, below_grown_new (HB _ _ _) f3 (by omega)⟩
    · rw [if_neg h1]
      generalize hx : q[k]! = x at *
      obtain ⟨xs, xe, xb⟩ := x
      simp only at c1 c2 c3 h1
      have hx := Lib.hid hx
      have HZ : ∀ W' : World, (((w.alloc (.cells (qc q).toArray 29)).alloc (.cells #[.int .i64 e, .bool b, H] 32)).alloc (.cells #[.int .i64 0, .int .i64 0, .bool false, .int .i64 0, .int .i64 0, .bool false, .int .i64 0, .int .i64 0, .bool false, .int .i64 0, .int .i64 0, .bool false, .int .i64 0, .int .i64 0, .bool false, .int .i64 0, .int .i64 0, .bool false, .int .i64 0, .int .i64 0, .bool false, .int .i64 0, .int .i64 0, .bool false] 29)).grownBy W' (some w.heap.size) → TabV W' (w.heap.size + 1 + 1) q0 := fun W' g =>
        (TabV.zero (w := (w.alloc (.cells (qc q).toArray 29)).alloc (.cells #[.int .i64 e, .bool b, H] 32)) (b := w.heap.size + 1 + 1) (by simp)).keep (grown_keep g (by simp) (by omega))
      unfold tabV
      go_enter Tryd.func10, Tryd.ntmps10
      go_wp2_with (first | (refine (hm.out _).mono ?_; rintro e w1 ⟨rfl, rfl⟩) | (refine st_ent ⟨n, e, b⟩ HR2.out hk rfl _ _ rfl rfl rfl ?_; intro W1 g1 g2 g3) | (refine ld_tab g1 rfl _ rfl rfl ?_) | (refine st_tab (HZ _ g3) g1.2 rfl _ _ rfl rfl rfl ?_; intro W' f1 f2 f3))
      exact bodyPost_ret (res_tab Tryd.results10 _ f1 rfl rfl) rfl ⟨rfl, below_grown_new (below_grown_new (HB _ _ _) g3 (by omega)) f3 (by omega)⟩
  · have hm0 : (mayB c n && errB e) = false := by simpa using hm0
    rw [hm0]
    exact rput_bad c n e b H hq hm0
end Go.Proofs.YtbijaipoifpngaaDoor.Be
