/- What four of package dedup returns: the numbers of a row. Conditions: the row reads as a tree. -/
import Derived.Test.YtbijaipoifpngaaDoorDMath
set_option linter.unusedVariables false
set_option linter.unusedSimpArgs false
set_option maxRecDepth 100000
namespace Go.Proofs.YtbijaipoifpngaaDoor.Be
open Go Go.RowKit
instance : Inhabited T := ⟨.mk 0 0 .empty []⟩
def arrC (l : List T) (k : Nat) : List Value := (l.take k).map (fun t => .int .i64 t.n) ++ List.replicate (4 - k) (.int .i64 0)
theorem arrC_len {l : List T} (hl : l.length = 4) {k : Nat} (hk : k ≤ 4) : (arrC l k).length = 4 := by
  unfold arrC
  rw [List.length_append, List.length_map, List.length_take, List.length_replicate]
  omega
theorem arrC_one (l : List T) (k : Nat) : ∀ v ∈ arrC l k, v.oneCell' = true := by
  intro v hv
  unfold arrC at hv
  rcases List.mem_append.1 hv with hv | hv
  · obtain ⟨x, _, rfl⟩ := List.mem_map.1 hv
    rfl
  · rw [List.eq_of_mem_replicate hv]
    rfl
theorem arrC_at {l : List T} (hl : l.length = 4) {k : Nat} (hk : k < 4) : (arrC l k)[k]? = some (.int .i64 0) := by
  unfold arrC
  rw [List.getElem?_append_right (by simp; omega), List.length_map, List.length_take, Nat.min_eq_left (by omega), Nat.sub_self, List.getElem?_replicate, if_pos (by omega)]
theorem arrC_set {l : List T} (hl : l.length = 4) {k : Nat} (hk : k < 4) {n : Int} (hn : l[k]!.n = n) : (arrC l k).set k (.int .i64 n) = arrC l (k + 1) := by
  unfold arrC
  have h1 : ((l.take k).map (fun t : T => Value.int .i64 t.n)).length = k := by rw [List.length_map, List.length_take]; omega
  rw [List.set_append_right _ _ (by omega), h1, Nat.sub_self, show 4 - k = (4 - (k + 1)) + 1 by omega, List.replicate_succ, List.set_cons_zero]
  rw [List.take_succ_eq_append_getElem (by omega), List.map_append, List.append_assoc]
  have : l[k]! = l[k] := by
    rw [List.getElem!_eq_getElem?_getD, List.getElem?_eq_getElem (by omega)]
    rfl
  rw [this] at hn
  simp [hn]
section
variable {ops : Array Oper} {rest : List Oper} {o : Oper} {a : Act} {Q : Exit → Act → World → Prop} {W : World}
theorem ld_arr {b : Nat} {xs : List Value} (hR : Row W b 88 xs) (hl : xs.length = 4) (hgd : o.guard = none) (x : Operand) (ho : o.op = .load 88 x) (hx : a.eval x = .pointer (some ⟨b, 0, none⟩))
    (h : wpList Tryd.prog ops Q rest (a.put o.dst (.agg xs.toArray)) W) : wpList Tryd.prog ops Q (o :: rest) a W :=
  wpList_load_mid hgd 88 x ho b 0 hx xs _ (fun j v hv => by rw [Nat.zero_add]; exact hR.cell hv) Tryd.underlying88 rfl (by rw [hl]; kernel_rfl) h
theorem st_arr {b : Nat} {xs ys : List Value} (hR : Row W b 88 xs) (hl : xs.length = 4) (hl' : ys.length = 4) (h1 : ∀ v ∈ ys, v.oneCell' = true) (hgd : o.guard = none) (x y : Operand) (ho : o.op = .store 88 x y) (hx : a.eval x = .pointer (some ⟨b, 0, none⟩)) (hy : a.eval y = .agg ys.toArray)
    (h : ∀ W', Row W' b 88 ys → W'.heap.size = W.heap.size → W.grownBy W' (some b) → wpList Tryd.prog ops Q rest (a.put o.dst undef) W') : wpList Tryd.prog ops Q (o :: rest) a W := by
  refine wpList_plain hgd fun K hK => ?_
  have hst := run_storeVar_row (P := Tryd.prog) W b 88 88 xs.toArray ys.toArray hR (by simp only [List.size_toArray, hl']; kernel_rfl) (by simp [hl, hl']) (all_oneCell_toArray h1)
  obtain ⟨f1, f2, f3⟩ := setRow_facts hR ys
  unfold Oper.wp execOp
  simp only [ho, hx, hy, Instr.storeAt, Instr.sureAddr, Sem.run_bind, Sem.run_pure, Result.andThen_ok, hst]
  exact hK _ _ (h _ f1 f2 f3)
end
theorem res_arr {fn : Func} {p u : Tmp} (hf : fn.results = #[.cell p 88, .tmp u]) (tmps : Array Value) {w : World} {b : Nat} {xs : List Value} (h : Row w b 88 xs) (hl : xs.length = 4) (hp : tmps.getD p undef = .pointer (some ⟨b, 0, none⟩)) {z : Value} (hz : tmps.getD u undef = z) :
    (results fn tmps).run Tryd.prog w = .ok (.tuple #[.agg xs.toArray, z]) w := by
  have := run_loadVar_mid w b 0 88 xs _ (fun j v hv => by rw [Nat.zero_add]; exact h.cell hv) Tryd.underlying88 rfl (by rw [hl]; kernel_rfl)
  rw [results_cell_tmp hf, hp, hz]
  simp [asAddr, Result.andThen, this]
/-- What four returns: the numbers, or that there are none. -/
def FourPost (t : T) (w : World) (e : Ending) (w' : World) : Prop := ∃ c s er b ok, e = .returned (.tuple #[.agg #[.int .i64 c, .int .i64 s, .int .i64 er, .int .i64 b], .bool ok]) ∧ (four? t = if ok then some (c, s, er, b) else none) ∧ Below w.heap.size w w'
structure FRel (l : List T) (w wr : World) (k : Nat) : Prop where
  bel : Below w.heap.size w wr
  res : Row wr (w.heap.size + 1) 88 (arrC l k)
  kinds : ∀ j, j < k → l[j]!.k = 1
theorem arr_four {xs : List Value} (h : xs.length = 4) (hi : ∀ v ∈ xs, ∃ n, v = .int .i64 n) : ∃ c s e b, xs = [.int .i64 c, .int .i64 s, .int .i64 e, .int .i64 b] := by
  match xs, h with
  | [x0, x1, x2, x3], _ =>
    obtain ⟨c, rfl⟩ := hi x0 (by simp)
    obtain ⟨s, rfl⟩ := hi x1 (by simp)
    obtain ⟨e, rfl⟩ := hi x2 (by simp)
    obtain ⟨b, rfl⟩ := hi x3 (by simp)
    exact ⟨c, s, e, b, rfl⟩
theorem arrC_ints (l : List T) (k : Nat) : ∀ v ∈ arrC l k, ∃ n, v = .int .i64 n := by
  intro v hv
  unfold arrC at hv
  rcases List.mem_append.1 hv with hv | hv
  · obtain ⟨x, _, rfl⟩ := List.mem_map.1 hv
    exact ⟨_, rfl⟩
  · exact ⟨0, List.eq_of_mem_replicate hv⟩
theorem four_no {t : T} {j : Nat} (hl : t.l.length = 4) (hj : j < 4) (h : t.l[j]!.k ≠ 1) : four? t = none := by
  obtain ⟨k, n, s, l⟩ := t
  simp only [T.l] at hl h
  match l, hl with
  | [a, b, c, d], _ =>
    simp only [four?, T.l]
    rw [if_neg]
    rintro ⟨h1, h2, h3, h4⟩
    obtain rfl | rfl | rfl | rfl : j = 0 ∨ j = 1 ∨ j = 2 ∨ j = 3 := by omega
    · exact h h1
    · exact h h2
    · exact h h3
    · exact h h4
theorem four_len {t : T} (h : t.l.length ≠ 4) : four? t = none := by
  obtain ⟨k, n, s, l⟩ := t
  simp only [T.l] at h
  unfold four?
  simp only [T.l]
  split
  · simp at h
  · rfl
theorem four_yes {t : T} (hl : t.l.length = 4) (h : ∀ j, j < 4 → t.l[j]!.k = 1) : ∃ c s e b, four? t = some (c, s, e, b) ∧ arrC t.l 4 = [.int .i64 c, .int .i64 s, .int .i64 e, .int .i64 b] := by
  obtain ⟨k, n, s, l⟩ := t
  simp only [T.l] at hl h
  match l, hl with
  | [a, b, c, d], _ =>
    refine ⟨a.n, b.n, c.n, d.n, ?_, rfl⟩
    simp only [four?, T.l]
    rw [if_pos ⟨h 0 (by omega), h 1 (by omega), h 2 (by omega), h 3 (by omega)⟩]
set_option maxHeartbeats 8000000 in
theorem four_any (t : T) (v : Value) (ok : Nat → Prop) (w : World) (hRA : RdA ok w t v) : Calls Tryd.prog 40 #[v] w (FourPost t w) := by
  obtain ⟨A, c, xs, rfl, hsz, hlc, hcm, hr, hrl⟩ := hRA
  have hB : ∀ (A B : Obj), Below w.heap.size w ((w.alloc A).alloc B) := fun A B => ((Below.refl _ _).alloc (Nat.le_refl _) _).alloc (by simp) _
  have R0 : Row ((w.alloc (.cells #[.int .i64 t.k, .int .i64 t.n, .string t.s, .slice A t.l.length c] 68)).alloc (.cells #[.int .i64 0, .int .i64 0, .int .i64 0, .int .i64 0] 88)) (w.heap.size + 1) 88 (arrC t.l 0) := by
    have := Row.new (w.alloc (.cells #[.int .i64 t.k, .int .i64 t.n, .string t.s, .slice A t.l.length c] 68)) 88 (arrC t.l 0)
    rw [show (w.alloc (.cells #[.int .i64 t.k, .int .i64 t.n, .string t.s, .slice A t.l.length c] 68)).heap.size = w.heap.size + 1 by simp] at this
    exact this
  by_cases h4 : t.l.length = 4
  · have hne : ¬ ((t.l.length : Int) ≠ 4) := by omega
    have HR := Lib.hid hr
    have HRL := Lib.hid hrl
    have H4 := Lib.hid h4
    have hF0 := Lib.hid (show FRel t.l w _ 0 from ⟨hB _ _, R0, fun j hj => absurd hj (by omega)⟩)
    clear hr hrl hlc hcm R0
    rw [h4]
    rw [h4] at hF0
    clear h4 hne
    go_enter Tryd.func40, Tryd.ntmps40
    go_wp2_with fail
    go_loopw [14] (fun vi wr => ∃ k : Nat, vi = .int .i64 (k : Int) ∧ k ≤ 4 ∧ FRel t.l w wr k) (fun vi _ => 4 - (intOf vi).toNat)
    case atStart => exact ⟨0, rfl, by omega, hF0.out⟩
    case round =>
      obtain ⟨k, rfl, hk, hF⟩ := hrel
      by_cases hk4 : k < 4
      · have hkz : (k : Int) < 4 := by omega
        have h4 := H4.out
        obtain ⟨b, o, A', c', rfl, _, hb, hfz, hRA', e0, e1, e2, e3⟩ := elem_at HR.out HRL.out (show k < t.l.length by omega)
        have hel : t.l[k]! = t.l[k]'(by omega) := by
          rw [List.getElem!_eq_getElem?_getD, List.getElem?_eq_getElem (by omega)]
          rfl
        generalize t.l[k]'(by omega) = el at *
        obtain ⟨ek, en, es, ell⟩ := el
        simp only [T.k, T.n, T.s, T.l] at e0 e1 e2 e3 hRA'
        have d0 : wr.cell? ⟨b, o + k * 4, none⟩ = some (.int .i64 ek) := (hF.bel.cell (p := ⟨b, o + k * 4, none⟩) hb).trans e0
        have d1 : wr.cell? ⟨b, o + k * 4 + 1, none⟩ = some (.int .i64 en) := (hF.bel.cell (p := ⟨b, o + k * 4 + 1, none⟩) hb).trans e1
        have d2 : wr.cell? ⟨b, o + k * 4 + 2, none⟩ = some (.string es) := (hF.bel.cell (p := ⟨b, o + k * 4 + 2, none⟩) hb).trans e2
        have d3 : wr.cell? ⟨b, o + k * 4 + 3, none⟩ = some (.slice A' ell.length c') := (hF.bel.cell (p := ⟨b, o + k * 4 + 3, none⟩) hb).trans e3
        have hzr : wr.cell? ⟨w.heap.size + 1, k, none⟩ = some (.int .i64 0) := hF.res.cell (arrC_at h4 hk4)
        have hfr : wr.frozen? ⟨w.heap.size + 1, k, none⟩ = false := hF.res.frozen k
        have hrl2 : w.heap.size + 1 < wr.heap.size := hF.res.lt
        have HF := Lib.hid hF
        have HEL := Lib.hid hel
        clear hF hel e0 e1 e2 e3 hRA' h4
        by_cases hk1 : ek = 1
        · subst hk1
          go_wp2_with fail
          have hset := arrC_set (l := t.l) H4.out hk4 (n := en) (by rw [HEL.out]; rfl)
          refine ⟨⟨k + 1, by go_num, by omega, ?_⟩, by simp [intOf]; omega⟩
          refine ⟨?_, ?_, fun j hj => ?_⟩
          · exact (HF.out.bel.setCell (by simp) _).alloc (by simp; exact HF.out.bel.size) _
          · have h3 := HF.out.res.set k (.int .i64 en)
            rw [hset] at h3
            exact h3.al _
          · by_cases hj2 : j < k
            · exact HF.out.kinds j hj2
            · obtain rfl : j = k := by omega
              rw [HEL.out]
              rfl
        · have hR1 := HF.out.res.al (.cells #[.int .i64 ek, .int .i64 en, .string es, .slice A' ell.length c'] 68)
          have hal := arrC_len (l := t.l) H4.out hk
          have hone := arrC_one t.l k
          obtain ⟨n0, n1, n2, n3, hxs⟩ := arr_four hal (arrC_ints t.l k)
          have HX := Lib.hid hxs
          have HB1 := Lib.hid (HF.out.bel.alloc HF.out.bel.size (.cells #[.int .i64 ek, .int .i64 en, .string es, .slice A' ell.length c'] 68))
          generalize arrC t.l k = xs0 at *
          have HR1 := Lib.hid hR1
          have HONE := Lib.hid hone
          have HAL := Lib.hid hal
          clear hxs hzr hfr hR1 hone hal
          go_wp2_with (first | (refine ld_arr HR1.out HAL.out rfl _ rfl rfl ?_) | (refine st_arr HR1.out HAL.out HAL.out HONE.out rfl _ _ rfl rfl rfl ?_; intro W' f1 f2 f3))
          refine bodyPost_ret (res_arr Tryd.results40 _ f1 HAL.out rfl rfl) rfl ?_
          rw [HX.out]
          exact ⟨n0, n1, n2, n3, false, rfl, four_no H4.out hk4 (by rw [HEL.out]; exact hk1), HB1.out.grown f3 HB1.out.size (fun g hg => by injection hg with hg; omega)⟩
      · obtain rfl : k = 4 := by omega
        obtain ⟨c0, s0, e0, b0, hfo, hxs⟩ := four_yes H4.out hF.kinds
        have hal := arrC_len (l := t.l) H4.out hk
        have hone := arrC_one t.l 4
        have hR1 := hF.res
        have hbel := hF.bel
        rw [hxs] at hal hone hR1
        have HR1 := Lib.hid hR1
        have HONE := Lib.hid hone
        have HFO := Lib.hid hfo
        clear hxs hfo hR1 hone hF
        go_wp2_with (first | (refine ld_arr HR1.out rfl rfl _ rfl rfl ?_) | (refine st_arr HR1.out rfl rfl HONE.out rfl _ _ rfl rfl rfl ?_; intro W' f1 f2 f3))
        refine bodyPost_ret (res_arr Tryd.results40 _ f1 rfl rfl rfl) rfl ?_
        exact ⟨c0, s0, e0, b0, true, rfl, HFO.out, hbel.grown f3 hbel.size (fun g hg => by injection hg with hg; omega)⟩
  · have hne : ¬ (t.l.length : Int) = 4 := by omega
    have HF := Lib.hid (four_len h4)
    have HB := Lib.hid hB
    have R1 := Lib.hid (show Row _ _ _ [.int .i64 0, .int .i64 0, .int .i64 0, .int .i64 0] from R0)
    clear hr hrl R0 h4 hB
    generalize t.l.length = ln at *
    go_enter Tryd.func40, Tryd.ntmps40
    go_wp2_with fail
    exact bodyPost_ret (res_arr Tryd.results40 _ R1.out rfl rfl rfl) rfl ⟨0, 0, 0, 0, false, rfl, HF.out, HB.out _ _⟩
end Go.Proofs.YtbijaipoifpngaaDoor.Be
