/- What Set of a wheel does. Conditions: a wheel in memory. -/
import Derived.Test.YtfojempmgonahaaWhCancel
set_option linter.unusedVariables false
set_option linter.unusedSimpArgs false
set_option maxRecDepth 100000
namespace Go.Proofs.Ytfojempmgonahaa.Wh
open Go Go.RowKit Go.Maps
theorem ends_ins (x e : Int) (L : List Tm) : ((x, .int .i64 e) :: endsE L).Perm (endsE (ins x e L)) := ((ins_perm x e L).map (fun p : Tm => ((p.1, .int .i64 p.2) : Ent))).symm
theorem set_ins (x e : Int) (L : List Tm) : ((x, .agg #[]) :: setE e L).Perm (setE e (ins x e L)) := by
  have h := ((ins_perm x e L).filter (fun p => decide (p.2 = e))).map (fun p : Tm => ((p.1, .agg #[]) : Ent))
  simp only [List.filter_cons, decide_true, if_true, List.map_cons] at h
  exact h.symm
theorem set_ins_ne {x e t : Int} (ht : t ≠ e) (L : List Tm) : (setE t L).Perm (setE t (ins x e L)) := by
  have h := ((ins_perm x e L).filter (fun p => decide (p.2 = t))).map (fun p : Tm => ((p.1, .agg #[]) : Ent))
  have h1 : ¬ e = t := fun h => ht h.symm
  simp only [List.filter_cons, h1, decide_false] at h
  exact h.symm
theorem off_len {x : Int} {L : List Tm} (h : has x L = true) : (off x L).length + 1 ≤ L.length := by
  obtain ⟨p, hp, e⟩ := (has_iff x L).1 h
  rcases Nat.lt_or_ge (off x L).length L.length with hl | hl
  · omega
  · have he := List.length_filter_eq_length_iff.1 (Nat.le_antisymm (List.length_filter_le _ L) hl) p hp
    simp [e] at he
theorem ins_len (x e : Int) (L : List Tm) : (ins x e L).length = L.length + 1 := by rw [(ins_perm x e L).length_eq]; rfl
theorem isId_set {x t : Int} {L : List Tm} (h : has x L = false) : isId x (setE t L) = false := by
  rw [Bool.eq_false_iff, Ne, isId_iff]
  rintro ⟨p, hp, e⟩
  obtain ⟨q, hq, rfl⟩ := List.mem_map.1 hp
  exact has_no h q (mem_at.1 hq).1 e
section
variable {w w1 w2 w3 w4 : World} {p bm dm : Nat} {now : Int} {L : List Tm} {G : List (Int × Nat)}
theorem set_old (h : WheelW w p bm dm now L G) {x e : Int} {s : Nat} (hx : has x L = false) (hs : (e, s) ∈ G) (hw : (Lit.int .i64 x).wf = true) (h1 : now < e) (h2 : e ≤ now + 1048576) (hl : L.length + 1 ≤ 4096)
    (m1 : MapAt w1 bm ((x, .int .i64 e) :: endsE L)) (g1 : w.grownBy w1 (some bm)) (m2 : MapAt w2 s ((x, .agg #[]) :: setE e L)) (g2 : w1.grownBy w2 (some s)) :
    WheelW w2 p bm dm now (ins x e L) G := by
  obtain ⟨o1, o2, o3⟩ := h.out _ hs
  have keep : ∀ b, Foot p bm dm G b → b ≠ bm → b ≠ s → w2.heap[b]? = w.heap[b]? := fun b hb h1 h2 =>
    (g2.block b (Nat.lt_of_lt_of_le (h.lt b hb) g1.size) (fun e => h2 (by injection e))).trans (g1.block b (h.lt b hb) (fun e => h1 (by injection e)))
  refine ⟨⟨h.row.keep (keep p (.inl rfl) h.e1 (Ne.symm o1)), (m1.keep (g2.block bm m1.lt (fun e => o2 (by injection e with e; exact e.symm)))).perm (ends_ins x e L), h.due.keep (keep dm (.inr (.inr (.inl rfl))) (Ne.symm h.e3) (Ne.symm o3)), fun q hq => ?_, fun y hy => ?_, h.gap, h.out, h.e1, h.e2, h.e3, ins_rise h.rise hx, fun y hy => ?_, h.now0, by rw [ins_len]; exact hl⟩, fun q hq => ?_⟩
  · by_cases hq2 : q = (e, s)
    · subst hq2
      exact m2.perm (set_ins x e L)
    · have hne : q.2 ≠ s := fun e => hq2 (h.gap q hq _ hs e)
      have hne1 : q.1 ≠ e := fun e => hq2 (h.tick1 hq hs e)
      exact ((h.sets q hq).keep (keep _ (.inr (.inr (.inr ⟨q, hq, rfl⟩))) (h.out q hq).2.1 hne)).perm (set_ins_ne hne1 L)
  · rcases mem_ins.1 hy with rfl | hy
    · exact ⟨_, hs, rfl⟩
    · exact h.all y hy
  · rcases mem_ins.1 hy with rfl | hy
    · exact ⟨hw, h1, h2⟩
    · exact h.wf y hy
  · obtain ⟨y, hy⟩ := List.exists_mem_of_ne_nil _ (h.ne q hq)
    obtain ⟨a, b⟩ := mem_at.1 hy
    exact List.ne_nil_of_mem (mem_at.2 ⟨mem_ins.2 (.inr a), b⟩)
theorem set_new (h : WheelW w p bm dm now L G) {x e : Int} {s : Nat} (hx : has x L = false) (hs : ∀ q ∈ G, q.1 ≠ e) (hw : (Lit.int .i64 x).wf = true) (h1 : now < e) (h2 : e ≤ now + 1048576) (hl : L.length + 1 ≤ 4096)
    (m1 : MapAt w1 bm ((x, .int .i64 e) :: endsE L)) (g1 : w.grownBy w1 (some bm)) (hs1 : w1.heap.size = s) (gA : w1.grownBy w2 none)
    (m3 : MapAt w3 dm ((e, .map (some s)) :: dueE G)) (g3 : w2.grownBy w3 (some dm)) (hs3 : s < w3.heap.size) (m4 : MapAt w4 s [(x, .agg #[])]) (g4 : w3.grownBy w4 (some s)) :
    WheelW w4 p bm dm now (ins x e L) ((e, s) :: G) := by
  have hsz : ∀ b, Foot p bm dm G b → b < s := fun b hb => by have := h.lt b hb; have := g1.size; omega
  have keep1 : ∀ b, b < s → b ≠ dm → w4.heap[b]? = w1.heap[b]? := fun b hb h2 =>
    ((g4.block b (by have := g3.size; have := gA.size; omega) (fun e => by injection e with e; omega)).trans (g3.block b (by have := gA.size; omega) (fun e => h2 (by injection e)))).trans (gA.block b (by omega) (fun e => by cases e))
  have keep : ∀ b, Foot p bm dm G b → b ≠ bm → b ≠ dm → w4.heap[b]? = w.heap[b]? := fun b hb h1 h2 => (keep1 b (hsz b hb) h2).trans (g1.block b (h.lt b hb) (fun e => h1 (by injection e)))
  have hempty : setE e L = [] := by
    have : at_ e L = [] := by
      rw [List.eq_nil_iff_forall_not_mem]
      intro y hy
      obtain ⟨a, b⟩ := mem_at.1 hy
      obtain ⟨q, hq, hqe⟩ := h.all y a
      exact hs q hq (hqe.trans b)
    unfold setE
    rw [this]
    rfl
  have FB : Foot p bm dm G bm := .inr (.inl rfl)
  have FD : Foot p bm dm G dm := .inr (.inr (.inl rfl))
  refine ⟨⟨h.row.keep (keep p (.inl rfl) h.e1 h.e2), (m1.keep (keep1 bm (hsz bm FB) h.e3)).perm (ends_ins x e L), m3.keep (g4.block dm m3.lt (fun e => by injection e with e; have := hsz dm FD; omega)), fun q hq => ?_, fun y hy => ?_, fun q hq r hr he => ?_, fun q hq => ?_, h.e1, h.e2, h.e3, ins_rise h.rise hx, fun y hy => ?_, h.now0, by rw [ins_len]; exact hl⟩, fun q hq => ?_⟩
  · rcases List.mem_cons.1 hq with rfl | hq
    · have hp := set_ins x e L
      rw [hempty] at hp
      exact m4.perm hp
    · exact ((h.sets q hq).keep (keep _ (.inr (.inr (.inr ⟨q, hq, rfl⟩))) (h.out q hq).2.1 (h.out q hq).2.2)).perm (set_ins_ne (hs q hq) L)
  · rcases mem_ins.1 hy with rfl | hy
    · exact ⟨_, List.mem_cons_self .., rfl⟩
    · obtain ⟨q, hq, e⟩ := h.all y hy
      exact ⟨q, List.mem_cons_of_mem _ hq, e⟩
  · have lt : ∀ u ∈ G, u.2 < s := fun u hu => hsz _ (.inr (.inr (.inr ⟨u, hu, rfl⟩)))
    rcases List.mem_cons.1 hq with eq | hq1
    · rcases List.mem_cons.1 hr with er | hr1
      · rw [eq, er]
      · rw [eq] at he
        have := lt r hr1
        simp only at he
        omega
    · rcases List.mem_cons.1 hr with er | hr1
      · rw [er] at he
        have := lt q hq1
        simp only at he
        omega
      · exact h.gap q hq1 r hr1 he
  · rcases List.mem_cons.1 hq with rfl | hq
    · have a := hsz p (.inl rfl)
      have b := hsz bm FB
      have c := hsz dm FD
      exact ⟨by simp only; omega, by simp only; omega, by simp only; omega⟩
    · exact h.out q hq
  · rcases mem_ins.1 hy with rfl | hy
    · exact ⟨hw, h1, h2⟩
    · exact h.wf y hy
  · rcases List.mem_cons.1 hq with rfl | hq
    · exact List.ne_nil_of_mem (mem_at.2 ⟨mem_ins.2 (.inl rfl), rfl⟩)
    · obtain ⟨y, hy⟩ := List.exists_mem_of_ne_nil _ (h.ne q hq)
      obtain ⟨a, b⟩ := mem_at.1 hy
      exact List.ne_nil_of_mem (mem_at.2 ⟨mem_ins.2 (.inr a), b⟩)
theorem meql_nil (w : World) : (binOp .eql 64 (.map none) (.map none)).run Try.prog w = .ok (.bool true) w := by kernel_rfl
theorem meql_some (b : Nat) (w : World) : (binOp .eql 64 (.map (some b)) (.map none)).run Try.prog w = .ok (.bool false) w := by kernel_rfl
/-- A wheel's Set: what it answers, and what stands behind it. -/
def setR (x n now : Int) (L : List Tm) : Int × List Tm :=
  if n < 1 ∨ 1048576 < n then (1, L) else if has x L = false ∧ 4096 ≤ L.length then (2, L) else (0, ins x (now + n) (off x L))
set_option maxHeartbeats 2000000 in
theorem set_do (h : WheelW w p bm dm now L G) (hn : now ≤ 1000000) {x n : Int} (hx : (Lit.int .i64 x).wf = true) (hn1 : 1 ≤ n) (hn2 : n ≤ 1048576) (hf : ¬ (has x L = false ∧ 4096 ≤ L.length)) :
    Calls Try.prog 11 #[.pointer (some ⟨p, 0, none⟩), .int .i64 x, .int .i64 n] w (Ends (.int .i64 0) p bm dm now (ins x (now + n) (off x L)) G w) := by
  have HG := Lib.hid (show Calls _ _ _ _ _ from given_any h.row)
  have c2 := h.c2
  have hl := h.row.lt
  have hlook := h.ends.look2 uE (zeroI w) hx
  have hlen := h.ends.len uE 3
  rw [show (endsE L).length = L.length by simp [endsE]] at hlen
  rw [val_ends, isId_ends] at hlook
  have HC := Lib.hid (cancel_any h hn hx)
  have hl1 : (off x L).length + 1 ≤ 4096 := by
    have := h.len
    cases hh : has x L with
    | false =>
      rw [off_self hh]
      have : ¬ 4096 ≤ L.length := fun e => hf ⟨hh, e⟩
      omega
    | true =>
      have := off_len hh
      omega
  obtain ⟨L1, hL1⟩ : ∃ L1, off x L = L1 := ⟨_, rfl⟩
  have hx1 : has x L1 = false := by rw [← hL1]; exact has_off x L
  have h0 := h.now0
  have hflen : has x L = false → (L.length : Int) < 4096 := fun e => by
    have : ¬ 4096 ≤ L.length := fun e2 => hf ⟨e, e2⟩
    omega
  rw [hL1] at HC hl1 ⊢
  have en1 : ¬ n < 1 := by omega
  have en2 : ¬ 1048576 < n := by omega
  obtain ⟨e, he⟩ : ∃ e, now + n = e := ⟨_, rfl⟩
  have hwr : IntKind.i64.wrap (now + n) = now + n := by rw [IntKind.wrap_i64]; omega
  rw [he] at hwr ⊢
  have e1 : now < e := by omega
  have e2 : e ≤ now + 1048576 := by omega
  have hew : (Lit.int .i64 e).wf = true := wf_tick (by omega) (by omega)
  -- behind Cancel, and the store in ends
  have B2 := Lib.hid (fun (w1 : World) (G1 : List (Int × Nat)) (h1 : WheelW w1 p bm dm now L1 G1) => show w1.cell? ⟨p, 1, none⟩ = some (.int .i64 now) ∧ w1.cell? ⟨p, 2, none⟩ = some (.map (some bm)) ∧ p < w1.heap.size ∧ (endsE L1).length ≤ 1000000 ∧ isId x (endsE L1) = false ∧ MapAt w1 bm (endsE L1) from
    ⟨h1.c1, h1.c2, h1.row.lt, by simp [endsE]; omega, by rw [isId_ends]; exact hx1, h1.ends⟩)
  -- behind the store in ends: the set is there
  have B3 := Lib.hid (fun (w1 w2 : World) (G1 : List (Int × Nat)) (h1 : WheelW w1 p bm dm now L1 G1) (s : Nat) (hs : (e, s) ∈ G1) (m2 : MapAt w2 bm ((x, .int .i64 e) :: endsE L1)) (g2 : w1.grownBy w2 (some bm)) => show w2.cell? ⟨p, 3, none⟩ = some (.map (some dm)) ∧ p < w2.heap.size ∧ (Instr.lookup 51 (.map (some dm)) (.int .i64 e) false).run Try.prog w2 = .ok (.map (some s)) w2 ∧ MapAt w2 s (setE e L1) ∧ (setE e L1).length ≤ 1000000 ∧ isId x (setE e L1) = false from by
      have k : ∀ b, Foot p bm dm G1 b → b ≠ bm → w2.heap[b]? = w1.heap[b]? := fun b hb h2 => g2.block b (h1.lt b hb) (fun e => h2 (by injection e))
      have kd := (h1.due.keep (k dm (.inr (.inr (.inl rfl))) (Ne.symm h1.e3))).look1 uD (zeroM w2) hew
      rw [h1.val_due hs] at kd
      refine ⟨(h1.row.keep (k p (.inl rfl) h1.e1)).cell rfl, Nat.lt_of_lt_of_le h1.row.lt g2.size, kd, (h1.sets _ hs).keep (k s (.inr (.inr (.inr ⟨_, hs, rfl⟩))) (h1.out _ hs).2.1), ?_, isId_set hx1⟩
      have := List.length_filter_le (fun p : Tm => decide (p.2 = e)) L1
      simp only [setE, at_, List.length_map]
      omega)
  have B4 := Lib.hid (fun (w1 w2 w3 : World) (G1 : List (Int × Nat)) (h1 : WheelW w1 p bm dm now L1 G1) (T : Turn (Foot p bm dm G) w (Foot p bm dm G1) w1) (s : Nat) (hs : (e, s) ∈ G1) (m2 : MapAt w2 bm ((x, .int .i64 e) :: endsE L1)) (g2 : w1.grownBy w2 (some bm)) (m3 : MapAt w3 s ((x, .agg #[]) :: setE e L1)) (g3 : w2.grownBy w3 (some s)) =>
    show Ends (.int .i64 0) p bm dm now (ins x e L1) G w (.returned (.int .i64 0)) w3 from
      ⟨rfl, G1, set_old h1 hx1 hs hx e1 e2 hl1 m2 g2 m3 g3, (T.trans (grown_turn g2 (.inr (.inl rfl)))).trans (grown_turn g3 (.inr (.inr (.inr ⟨_, hs, rfl⟩))))⟩)
  -- .. the set is not there
  have C3 := Lib.hid (fun (w1 w2 : World) (G1 : List (Int × Nat)) (h1 : WheelW w1 p bm dm now L1 G1) (hs : ∀ q ∈ G1, q.1 ≠ e) (m2 : MapAt w2 bm ((x, .int .i64 e) :: endsE L1)) (g2 : w1.grownBy w2 (some bm)) => show w2.cell? ⟨p, 3, none⟩ = some (.map (some dm)) ∧ p < w2.heap.size ∧ (Instr.lookup 51 (.map (some dm)) (.int .i64 e) false).run Try.prog w2 = .ok (.map none) w2 ∧ MapAt (w2.alloc (.map #[] 0)) dm (dueE G1) ∧ (dueE G1).length ≤ 1000000 ∧ isId e (dueE G1) = false from by
      have k : ∀ b, Foot p bm dm G1 b → b ≠ bm → w2.heap[b]? = w1.heap[b]? := fun b hb h2 => g2.block b (h1.lt b hb) (fun e => h2 (by injection e))
      have hno : isId e (dueE G1) = false := by
        rw [Bool.eq_false_iff, Ne, isId_iff]
        rintro ⟨q, hq, he⟩
        obtain ⟨r, hr, rfl⟩ := List.mem_map.1 hq
        exact hs r hr he
      have hd := h1.due.keep (k dm (.inr (.inr (.inl rfl))) (Ne.symm h1.e3))
      have kd := hd.look1 uD (zeroM w2) hew
      rw [valOf_no hno] at kd
      exact ⟨(h1.row.keep (k p (.inl rfl) h1.e1)).cell rfl, Nat.lt_of_lt_of_le h1.row.lt g2.size, kd, hd.keep (heap_alloc_lt _ _ hd.lt), by have := h1.glen; simp [dueE]; omega, hno⟩)
  have C4 := Lib.hid (fun (w1 w2 w3 : World) (G1 : List (Int × Nat)) (h1 : WheelW w1 p bm dm now L1 G1) (hs : ∀ q ∈ G1, q.1 ≠ e) (m2 : MapAt w2 bm ((x, .int .i64 e) :: endsE L1)) (g2 : w1.grownBy w2 (some bm)) (m3 : MapAt w3 dm ((e, .map (some w2.heap.size)) :: dueE G1)) (g3 : (w2.alloc (.map #[] 0)).grownBy w3 (some dm)) => show w3.cell? ⟨p, 3, none⟩ = some (.map (some dm)) ∧ p < w3.heap.size ∧ (Instr.lookup 51 (.map (some dm)) (.int .i64 e) false).run Try.prog w3 = .ok (.map (some w2.heap.size)) w3 ∧ MapAt w3 w2.heap.size [] ∧ w2.heap.size < w3.heap.size from by
      have k : ∀ b, Foot p bm dm G1 b → b ≠ bm → b ≠ dm → w3.heap[b]? = w1.heap[b]? := fun b hb h2 h3 => ((g3.block b (by have := h1.lt b hb; have := g2.size; simp; omega) (fun e => h3 (by injection e))).trans (heap_alloc_lt _ _ (Nat.lt_of_lt_of_le (h1.lt b hb) g2.size))).trans (g2.block b (h1.lt b hb) (fun e => h2 (by injection e)))
      have kd := m3.look1 uD (zeroM w3) hew
      rw [valOf_mem m3.apart (List.mem_cons_self ..) rfl] at kd
      have hds : dm < w2.heap.size := Nat.lt_of_lt_of_le (h1.lt dm (.inr (.inr (.inl rfl)))) g2.size
      have hz := g3.size
      rw [World.size_alloc] at hz
      exact ⟨(h1.row.keep (k p (.inl rfl) h1.e1 h1.e2)).cell rfl, by have := h1.row.lt; have := g2.size; omega, kd, (MapAt.made w2).keep (g3.block _ (by simp) (fun e => by injection e with e; omega)), by omega⟩)
  have C5 := Lib.hid (fun (w1 w2 w3 w4 : World) (G1 : List (Int × Nat)) (h1 : WheelW w1 p bm dm now L1 G1) (T : Turn (Foot p bm dm G) w (Foot p bm dm G1) w1) (hs : ∀ q ∈ G1, q.1 ≠ e) (m2 : MapAt w2 bm ((x, .int .i64 e) :: endsE L1)) (g2 : w1.grownBy w2 (some bm)) (m3 : MapAt w3 dm ((e, .map (some w2.heap.size)) :: dueE G1)) (g3 : (w2.alloc (.map #[] 0)).grownBy w3 (some dm)) (m4 : MapAt w4 w2.heap.size [(x, .agg #[])]) (g4 : w3.grownBy w4 (some w2.heap.size)) =>
    show Ends (.int .i64 0) p bm dm now (ins x e L1) G w (.returned (.int .i64 0)) w4 from by
      have hz := g3.size
      rw [World.size_alloc] at hz
      have T3 := (T.trans (grown_turn g2 (.inr (.inl rfl)))).trans ((Turn.alloc (Foot p bm dm G1) w2 (.map #[] 0)).trans (grown_turn g3 (.inr (.inr (.inl rfl)))))
      have g4' : Below w2.heap.size w3 w4 := ⟨g4.os, g4.tape, g4.output, by have := g4.size; omega, fun b hb => g4.block b (by omega) (fun e => by injection e with e; omega)⟩
      have T4 : Turn (Foot p bm dm G1) w2 (Foot p bm dm ((e, w2.heap.size) :: G1)) w4 := by
        have TA := (Turn.alloc (Foot p bm dm G1) w2 (.map #[] 0)).trans (grown_turn g3 (.inr (.inr (.inl rfl))))
        refine ⟨g4.os.trans TA.os, g4.tape.trans TA.tape, g4.output.trans TA.output, Nat.le_trans TA.size g4.size, fun b hb hf => (g4'.block b hb).trans (TA.block b hb hf), ?_⟩
        rintro b (h | h | h | ⟨q, hq, h⟩)
        · exact .inl (.inl h)
        · exact .inl (.inr (.inl h))
        · exact .inl (.inr (.inr (.inl h)))
        · rcases List.mem_cons.1 hq with rfl | hq
          · exact .inr (by rw [← h]; exact Nat.le_refl _)
          · exact .inl (.inr (.inr (.inr ⟨q, hq, h⟩)))
      exact ⟨rfl, _, set_new h1 hx1 hs hx e1 e2 hl1 m2 g2 rfl (World.grownBy_alloc w2 _ none) m3 g3 (by omega) m4 g4, (T.trans (grown_turn g2 (.inr (.inl rfl)))).trans T4⟩)
  have N1 := meql_nil
  have N2 := meql_some
  have hmm := @run_makeMap Try.prog
  obtain ⟨hb, hhb⟩ : ∃ hb, has x L = hb := ⟨_, rfl⟩
  obtain ⟨ln, hln⟩ : ∃ ln : Int, (L.length : Int) = ln := ⟨_, rfl⟩
  rw [hhb] at hlook hflen HC
  rw [hln] at hlen hflen
  generalize endOf x L = en at hlook
  clear h hhb hln hf hL1
  have hgo : hb = true ∨ (hb = false ∧ ¬ 4096 ≤ ln) := by
    cases hb
    · exact .inr ⟨rfl, by have := hflen rfl; omega⟩
    · exact .inl rfl
  clear hflen
  rcases hgo with rfl | ⟨rfl, hlt⟩
  all_goals
    go_enter Try.func11, Try.ntmps11
    go_wp2_with fail
    refine HG.out.mono ?_
    rintro e' w' ⟨rfl, rfl⟩
    go_wp2_with fail
    refine HC.out.mono ?_
    rintro e' w1 ⟨rfl, G1, h1, T1⟩
    obtain ⟨c1, c2, hl, hle, hid, hm⟩ := B2.out w1 G1 h1
    have HM := Lib.hid hm
    have H1 := Lib.hid h1
    have HT := Lib.hid T1
    have hid1 := Lib.hid hid
    have hle1 := Lib.hid hle
    clear hm h1 T1 hlook hlen hid hle
    by_cases hs : ∃ s, (e, s) ∈ G1
    · obtain ⟨s, hs⟩ := hs
      have HS := Lib.hid hs
      clear hs
      go_wp2_with (first
        | (at_mapUpdate; refine wpList_ins 50 uE rfl _ _ _ rfl bm (endsE L1) x (.int .i64 e) rfl HM.out hle1.out rfl rfl hx hid1.out ?_; intro w2 m2 g2; obtain ⟨d3, dl, dk, ds, dz, dn⟩ := B3.out w1 w2 G1 H1.out s HS.out m2 g2; have M2 := Lib.hid (And.intro m2 (And.intro g2 (And.intro ds (And.intro dz dn)))); clear m2 g2 ds dz dn c1 c2 hl)
        | (at_mapUpdate; refine wpList_ins 64 uS rfl _ _ _ rfl s (setE e L1) x (.agg #[]) rfl M2.out.2.2.1 M2.out.2.2.2.1 rfl rfl hx M2.out.2.2.2.2 ?_; intro w3 m3 g3; have M3 := Lib.hid (B4.out w1 w2 w3 G1 H1.out HT.out s HS.out M2.out.1 M2.out.2.1 m3 g3); clear m3 g3 d3 dl dk))
      go_ret
      exact M3.out
    · have HS := Lib.hid (show ∀ q ∈ G1, q.1 ≠ e from fun q hq he => hs ⟨q.2, by rw [← he]; exact hq⟩)
      clear hs
      go_wp2_with (first
        | (at_mapUpdate; refine wpList_ins 50 uE rfl _ _ _ rfl bm (endsE L1) x (.int .i64 e) rfl HM.out hle1.out rfl rfl hx hid1.out ?_; intro w2 m2 g2; obtain ⟨d3, dl, dk, ds, dz, dn⟩ := C3.out w1 w2 G1 H1.out HS.out m2 g2; have M2 := Lib.hid (And.intro m2 (And.intro g2 (And.intro ds (And.intro dz dn)))); clear m2 g2 ds dz dn c1 c2 hl)
        | (at_mapUpdate; refine wpList_ins 51 uD rfl _ _ _ rfl dm (dueE G1) e (.map (some w2.heap.size)) rfl M2.out.2.2.1 M2.out.2.2.2.1 rfl rfl hew M2.out.2.2.2.2 ?_; intro w3 m3 g3; obtain ⟨f3, fl, fk, fm, fz⟩ := C4.out w1 w2 w3 G1 H1.out HS.out M2.out.1 M2.out.2.1 m3 g3; have M3 := Lib.hid (And.intro m3 (And.intro g3 fm)); clear m3 g3 fm d3 dl dk)
        | (at_mapUpdate; refine wpList_ins 64 uS rfl _ _ _ rfl w2.heap.size [] x (.agg #[]) rfl M3.out.2.2 (by simp) rfl rfl hx rfl ?_; intro w4 m4 g4; have M4 := Lib.hid (C5.out w1 w2 w3 w4 G1 H1.out HT.out HS.out M2.out.1 M2.out.2.1 M3.out.1 M3.out.2.1 m4 g4); clear m4 g4 f3 fl fk))
      go_ret
      exact M4.out
end
end Go.Proofs.Ytfojempmgonahaa.Wh
