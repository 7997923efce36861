/- The document's move hears. Conditions: a move that may be. -/
import Derived.Test.YtbjjgjifaomdlaaMvRs
set_option linter.unusedVariables false
set_option linter.unusedSimpArgs false
set_option maxRecDepth 100000
namespace Go.Proofs.Ytbjjgjifaomdlaa.Mv
open Go Go.RowKit
open Po (M msgV)
section
variable {ops : Array Oper} {rest : List Oper} {o : Oper} {a : Act} {Q : Exit → Act → World → Prop} {W : World} {m : Mv}
theorem ld_mv {b : Nat} (hR : Row W b 31 (mvV m)) (hgd : o.guard = none) (x : Operand) (ho : o.op = .load 31 x) (hx : a.eval x = .pointer (some ⟨b, 0, none⟩))
    (h : wpList Try.prog ops Q rest (a.put o.dst (.agg (mvV m).toArray)) W) : wpList Try.prog ops Q (o :: rest) a W :=
  wpList_load_mid hgd 31 x ho b 0 hx (mvV m) _ (fun j v hv => by rw [Nat.zero_add]; exact hR.cell hv) Try.underlying31 rfl mv8 h
theorem st_mv {b : Nat} {m' : Mv} (hR : Row W b 31 (mvV m')) (hgd : o.guard = none) (x y : Operand) (ho : o.op = .store 31 x y) (hx : a.eval x = .pointer (some ⟨b, 0, none⟩)) (hy : a.eval y = .agg (mvV m).toArray)
    (h : ∀ W', Row W' b 31 (mvV m) → W'.heap.size = W.heap.size → W.grownBy W' (some b) → wpList Try.prog ops Q rest (a.put o.dst undef) W') : wpList Try.prog ops Q (o :: rest) a W := by
  refine wpList_plain hgd fun K hK => ?_
  have hst := run_storeVar_row (P := Try.prog) W b 31 31 (mvV m').toArray (mvV m).toArray hR (by simpa [mvV] using mv8) (by simp [mvV]) (all_oneCell_toArray (mv_one m))
  obtain ⟨f1, f2, f3⟩ := Po.setRow_facts hR (mvV m)
  unfold Oper.wp execOp
  simp only [ho, hx, hy, Instr.storeAt, Instr.sureAddr, Sem.run_bind, Sem.run_pure, Result.andThen_ok, hst]
  exact hK _ _ (h _ f1 f2 f3)
end
def noMv' : Mv := ⟨0, 0, 0, 0, 0, 0, 0, ⟨#[]⟩⟩
/-- The three rows of Hears' variables. -/
structure R3 (w U : World) (m : Mv) (x : List Value) : Prop where
  rm : Row U w.heap.size 31 (mvV m)
  rx : Row U (w.heap.size + 1) 42 x
  rr : Row U (w.heap.size + 1 + 1) 31 (mvV noMv')
  bel : Below w.heap.size w U
section
variable {w U U2 : World} {m : Mv} {xs : List Value}
theorem R3.on (h : R3 w U m xs) (hb : Below U.heap.size U U2) : R3 w U2 m xs := ⟨h.rm.keep (hb.block _ h.rm.lt), h.rx.keep (hb.block _ h.rx.lt), h.rr.keep (hb.block _ h.rr.lt), h.bel.trans (hb.mono h.bel.size)⟩
theorem R3.drew (h : R3 w U m xs) : R3 w U.drew m xs := ⟨h.rm, h.rx, h.rr, h.bel.drew⟩
theorem R3.drewN (h : R3 w U m xs) (q : Nat) : R3 w (U.drewN q) m xs := ⟨h.rm, h.rx, h.rr, below_drewN h.bel q⟩
theorem R3.sets {m' : Mv} (h : R3 w U m xs) (j : Nat) (u : Value) (e : (mvV m).set j u = mvV m') : R3 w (U.setCell ⟨w.heap.size, j, none⟩ u) m' xs :=
  ⟨e ▸ h.rm.set j u, h.rx.keep (heap_set_ne _ ⟨w.heap.size, j, none⟩ _ (by simp)), h.rr.keep (heap_set_ne _ ⟨w.heap.size, j, none⟩ _ (by simp; omega)), below_setCell h.bel (p := ⟨w.heap.size, j, none⟩) (Nat.le_refl _) u⟩
theorem R3.ph (h : R3 w U m xs) (i : Int) : R3 w (U.setCell ⟨w.heap.size, 2, none⟩ (.int .i64 i)) { m with ph := i } xs := h.sets 2 _ rfl
theorem R3.vr (h : R3 w U m xs) (i : Int) : R3 w (U.setCell ⟨w.heap.size, 3, none⟩ (.int .i64 i)) { m with vr := i } xs := h.sets 3 _ rfl
theorem R3.tx (h : R3 w U m xs) (i : ByteArray) : R3 w (U.setCell ⟨w.heap.size, 7, none⟩ (.string i)) { m with tx := i } xs := h.sets 7 _ rfl
theorem r3_new (w : World) (m : Mv) (xs : List Value) : R3 w (((w.alloc (.cells (mvV m).toArray 31)).alloc (.cells xs.toArray 42)).alloc (.cells (mvV noMv').toArray 31)) m xs := by
  have a0 := Row.new w 31 (mvV m)
  have b0 : Below w.heap.size w (w.alloc (.cells (mvV m).toArray 31)) := (Below.refl _ w).alloc (Nat.le_refl _) _
  have a1 := a0.keep (heap_alloc_lt _ (.cells xs.toArray 42) a0.lt)
  have x1 := row_new1 w (.cells (mvV m).toArray 31) 42 xs
  have b1 := b0.alloc b0.size (.cells xs.toArray 42)
  have r2 := Row.new ((w.alloc (.cells (mvV m).toArray 31)).alloc (.cells xs.toArray 42)) 31 (mvV noMv')
  rw [World.size_alloc, World.size_alloc] at r2
  exact ⟨a1.keep (heap_alloc_lt _ _ a1.lt), x1.keep (heap_alloc_lt _ _ x1.lt), r2, b1.alloc b1.size _⟩
theorem R3.mc (h : R3 w U m xs) : U.cell? ⟨w.heap.size, 0, none⟩ = some (.int .i64 m.nm) ∧ U.cell? ⟨w.heap.size, 1, none⟩ = some (.int .i64 m.ep) ∧ U.cell? ⟨w.heap.size, 2, none⟩ = some (.int .i64 m.ph) ∧ U.cell? ⟨w.heap.size, 3, none⟩ = some (.int .i64 m.vr) ∧ U.cell? ⟨w.heap.size, 4, none⟩ = some (.int .i64 m.sh) ∧ U.cell? ⟨w.heap.size, 5, none⟩ = some (.int .i64 m.fr) ∧ U.cell? ⟨w.heap.size, 6, none⟩ = some (.int .i64 m.to) ∧ U.cell? ⟨w.heap.size, 7, none⟩ = some (.string m.tx) ∧ w.heap.size < U.heap.size :=
  ⟨h.rm.cell rfl, h.rm.cell rfl, h.rm.cell rfl, h.rm.cell rfl, h.rm.cell rfl, h.rm.cell rfl, h.rm.cell rfl, h.rm.cell rfl, h.rm.lt⟩
theorem R3.xc {x : M} {A : Option Addr} {n c : Nat} {A' : Option Addr} {n' c' : Nat} (h : R3 w U m (msgV x A n c A' n' c')) : U.cell? ⟨w.heap.size + 1, 0, none⟩ = some (.int .i64 x.kd) ∧ U.cell? ⟨w.heap.size + 1, 1, none⟩ = some (.int .i64 x.sh) ∧ U.cell? ⟨w.heap.size + 1, 5, none⟩ = some (.int .i64 x.nn) ∧ U.cell? ⟨w.heap.size + 1, 6, none⟩ = some (.int .i64 x.vr) ∧ U.cell? ⟨w.heap.size + 1, 15, none⟩ = some (.string x.tx) ∧ w.heap.size + 1 < U.heap.size :=
  ⟨h.rx.cell rfl, h.rx.cell rfl, h.rx.cell rfl, h.rx.cell rfl, h.rx.cell rfl, h.rx.lt⟩
theorem R3.cast {m' : Mv} (h : R3 w U m xs) (e : m = m') : R3 w U m' xs := e ▸ h
/-- How the walk ends: what stands in the third row, and below. -/
theorem r3_fin {W' : World} {m m' : Mv} (h : R3 w U m xs) (hg : U.grownBy W' (some (w.heap.size + 1 + 1))) (hs : W'.heap.size = U.heap.size) : Below w.heap.size w W' := below_grown h.bel hg (by omega) hs h.bel.size
end
def HPost (m : Mv) (f : Int) (x : M) (w : World) (e : Ending) (w' : World) : Prop := e = .returned (.tuple #[.agg (mvV (hearsM m f x).1).toArray, .bool (hearsM m f x).2]) ∧ Below w.heap.size w w'
theorem asks_lt (p : Int) : 0 ≤ asks p ∧ asks p ≤ 17 := by
  unfold asks
  repeat' split
  all_goals omega
set_option maxHeartbeats 4000000 in
theorem rhears_any (m : Mv) (hf : FitV m) (f : Int) (x : M) (A : Option Addr) (n c : Nat) (A' : Option Addr) (n' c' : Nat) (w : World) :
    Calls Try.prog 14 #[.agg (mvV m).toArray, .int .i64 f, .agg (msgV x A n c A' n' c').toArray] w (HPost m f x w) := by
  have hno := node_open hf
  have HND := Lib.hid (fun w => node_any m hf w)
  have HAS := Lib.hid (fun w => asks_any m.ph hf.ph w)
  have HU := Lib.hid (r3_new w m (msgV x A n c A' n' c'))
  have hk := asks_lt m.ph
  have hp9 := hf.ph
  unfold HPost
  obtain ⟨⟨m', r⟩, hm⟩ : ∃ y, hearsM m f x = y := ⟨_, rfl⟩
  rw [hm]
  generalize hND : nodeM m = ND at *
  generalize hKK : asks m.ph = K at *
  have HM := Lib.hid (And.intro hm (And.intro hND (And.intro hKK hf)))
  clear hm hND hKK hf
  obtain ⟨nm, ep, ph, vr, sh, fr, tw, tx⟩ := m
  simp only at hp9
  have wK : IntKind.i64.wrap (K + 1) = K + 1 := by rw [IntKind.wrap_i64]; omega
  have wP : IntKind.i64.wrap (ph + 1) = ph + 1 := by rw [IntKind.wrap_i64]; omega
  have HW := Lib.hid (And.intro wK (And.intro wP (And.intro hk hp9)))
  clear wK wP hk hp9
  simp only [mvV, msgV]
  cases ho : open_ ⟨nm, ep, ph, vr, sh, fr, tw, tx⟩ with
  | false =>
    have hlt : ND < 0 := hno.2 ho
    have hres := hears_over ho f x
    obtain ⟨rfl, rfl⟩ := Prod.mk.inj (HM.out.1.symm.trans hres)
    have h2 : decide (ND < 0) = true := decide_eq_true hlt
    clear hno hlt ho hres
    go_enter Try.func14, Try.ntmps14
    go_wp2_with (first | (refine ld_mv (by exact HU.out.rm) rfl _ rfl rfl ?_) | fail)
    refine (HND.out _).mono ?_
    rintro e w1 ⟨rfl, hb1⟩
    have HU1 := Lib.hid (HU.out.on hb1)
    clear hb1
    go_wp2_with (first
      | (refine ld_mv HU1.out.rm rfl _ rfl rfl ?_)
      | (refine st_mv (m := ⟨nm, ep, ph, vr, sh, fr, tw, tx⟩) HU1.out.rr rfl _ _ rfl rfl rfl ?_; intro W' hr' hs' hg'))
    exact bodyPost_ret (res_mv (m := ⟨nm, ep, ph, vr, sh, fr, tw, tx⟩) Try.results14 _ hr' rfl rfl) rfl ⟨rfl, r3_fin (m' := ⟨nm, ep, ph, vr, sh, fr, tw, tx⟩) HU1.out hg' hs'⟩
  | true =>
    have hlt : ¬ ND < 0 := fun h => by have := hno.1 h; rw [ho] at this; cases this
    have h2 : decide (ND < 0) = false := decide_eq_false hlt
    have HO := Lib.hid ho
    clear hno hlt ho
    go_enter Try.func14, Try.ntmps14
    go_wp2_with (first | (refine ld_mv (by exact HU.out.rm) rfl _ rfl rfl ?_) | fail)
    refine (HND.out _).mono ?_
    rintro e w1 ⟨rfl, hb1⟩
    have HU1 := Lib.hid (HU.out.on hb1)
    obtain ⟨k0, k1, k2, k3, k4, k5, k6, k7, kl⟩ := HU1.out.mc
    clear hb1 HU
    go_wp2_with fail
    refine (HND.out _).mono ?_
    rintro e w2 ⟨rfl, hb2⟩
    have HU2 := Lib.hid (HU1.out.on hb2)
    clear hb2 HU1 k0 k1 k2 k3 k4 k5 k6 k7 kl
    obtain ⟨k0, k1, k2, k3, k4, k5, k6, k7, kl⟩ := HU2.out.mc
    obtain ⟨x0, x1, x5, x6, x15, xl⟩ := HU2.out.xc
    simp only at k0 k1 k2 k3 k4 k5 k6 k7
    by_cases e1 : f = ND
    rotate_left
    · have n1 : (f != ND) = true := by simp [e1]
      have hres := hears_other (m := ⟨nm, ep, ph, vr, sh, fr, tw, tx⟩) (f := f) (x := x) (.inl (by rw [HM.out.2.1]; exact e1))
      obtain ⟨rfl, rfl⟩ := Prod.mk.inj (HM.out.1.symm.trans hres)
      clear hres
      as_aux_lemma =>
      go_wp2_with (first
        | (refine ld_mv HU2.out.rm rfl _ rfl rfl ?_)
        | (refine st_mv (m := ⟨nm, ep, ph, vr, sh, fr, tw, tx⟩) HU2.out.rr rfl _ _ rfl rfl rfl ?_; intro W' hr' hs' hg'))
      exact bodyPost_ret (res_mv (m := ⟨nm, ep, ph, vr, sh, fr, tw, tx⟩) Try.results14 _ hr' rfl rfl) rfl ⟨rfl, r3_fin (m' := ⟨nm, ep, ph, vr, sh, fr, tw, tx⟩) HU2.out hg' hs'⟩
    by_cases e2 : x.sh = sh
    rotate_left
    · have n1 : (f != ND) = false := by simp [e1]
      have n3 : (x.sh != sh) = true := by simp [e2]
      have hres := hears_other (m := ⟨nm, ep, ph, vr, sh, fr, tw, tx⟩) (f := f) (x := x) (.inr (.inl e2))
      obtain ⟨rfl, rfl⟩ := Prod.mk.inj (HM.out.1.symm.trans hres)
      have e1 := Lib.hid e1
      clear hres
      as_aux_lemma =>
      go_wp2_with (first
        | (refine ld_mv HU2.out.rm rfl _ rfl rfl ?_)
        | (refine st_mv (m := ⟨nm, ep, ph, vr, sh, fr, tw, tx⟩) HU2.out.rr rfl _ _ rfl rfl rfl ?_; intro W' hr' hs' hg'))
      exact bodyPost_ret (res_mv (m := ⟨nm, ep, ph, vr, sh, fr, tw, tx⟩) Try.results14 _ hr' rfl rfl) rfl ⟨rfl, r3_fin (m' := ⟨nm, ep, ph, vr, sh, fr, tw, tx⟩) HU2.out hg' hs'⟩
    by_cases e3 : x.nn = nm
    rotate_left
    · have n1 : (f != ND) = false := by simp [e1]
      have n3 : (x.sh != sh) = false := by simp [e2]
      have n5 : (x.nn != nm) = true := by simp [e3]
      have hres := hears_other (m := ⟨nm, ep, ph, vr, sh, fr, tw, tx⟩) (f := f) (x := x) (.inr (.inr e3))
      obtain ⟨rfl, rfl⟩ := Prod.mk.inj (HM.out.1.symm.trans hres)
      have e1 := Lib.hid e1
      have e2 := Lib.hid e2
      clear hres
      as_aux_lemma =>
      go_wp2_with (first
        | (refine ld_mv HU2.out.rm rfl _ rfl rfl ?_)
        | (refine st_mv (m := ⟨nm, ep, ph, vr, sh, fr, tw, tx⟩) HU2.out.rr rfl _ _ rfl rfl rfl ?_; intro W' hr' hs' hg'))
      exact bodyPost_ret (res_mv (m := ⟨nm, ep, ph, vr, sh, fr, tw, tx⟩) Try.results14 _ hr' rfl rfl) rfl ⟨rfl, r3_fin (m' := ⟨nm, ep, ph, vr, sh, fr, tw, tx⟩) HU2.out hg' hs'⟩
    have n1 : (f != ND) = false := by simp [e1]
    have n3 : (x.sh != sh) = false := by simp [e2]
    have n5 : (x.nn != nm) = false := by simp [e3]
    have e1 := Lib.hid e1
    have e2 := Lib.hid e2
    have e3 := Lib.hid e3
    go_upto_region 3 with fail
    clear n1 n3 n5
    go_cut [48] from 33 to 49 (fun s wc => ∃ b : Bool, s = .bool b ∧ Hid (b = decide (x.kd = 19 ∧ ph ≤ 4 ∧ x.vr = K) ∧ R3 w wc ⟨nm, ep, ph, vr, sh, fr, tw, tx⟩ (msgV x A n c A' n' c')))
    case first =>
      by_cases g1 : x.kd = 19
      rotate_left
      · have n1 : (x.kd == 19) = false := by simp [g1]
        have n2 : decide (x.kd = 19) = false := decide_eq_false g1
        as_aux_lemma =>
        go_quiet (fail)
        go_wp2_with fail
        go_meet
        exact ⟨false, rfl, Lib.hid ⟨(decide_eq_false (fun h => g1 h.1)).symm, HU2.out.drewN _⟩⟩
      by_cases g2 : ph ≤ 4
      rotate_left
      · rw [g1] at x0
        have G1 := Lib.hid g1
        have n3 : decide (ph ≤ 4) = false := decide_eq_false g2
        have n4 : 4 < ph := by omega
        have G2 := Lib.hid g2
        clear g2 g1
        as_aux_lemma =>
        go_quiet (fail)
        go_wp2_with fail
        go_meet
        exact ⟨false, rfl, Lib.hid ⟨(decide_eq_false (fun h => by have h1 := G2.out; have h2 := h.2.1; omega)).symm, HU2.out.drewN _⟩⟩
      · have g19 := Lib.hid g1
        have n3 : decide (ph ≤ 4) = true := decide_eq_true g2
        clear k0 k1 k2 k3 k4 k5 k6 k7 kl x0 x1 x5 x6 x15 xl g1
        as_aux_lemma =>
          refine wp_region_held_drew (S := fun W => R3 w W ⟨nm, ep, ph, vr, sh, fr, tw, tx⟩ (msgV x A n c A' n' c')) (by kernel_rfl) HU2.out.drew (fun hHeld => ?_)
          refine tk 0 (oi := ⟨_, _, _, _, _, _⟩) rfl (fun w' hSw => by (have k2 := hSw.rm.cell (j := 2) rfl; have y0 := hSw.rx.cell (j := 0) rfl; have y6 := hSw.rx.cell (j := 6) rfl; rw [g19.out] at y0; simp only at k2 y0 y6; go_simp <;> with_reducible rfl)) ?_
          try simp only [Act.put, List.setIfInBounds_toArray, List.set_cons_zero, List.set_cons_succ]
          refine tk 1 (oi := ⟨_, _, _, _, _, _⟩) rfl (fun w' hSw => by (have k2 := hSw.rm.cell (j := 2) rfl; have y0 := hSw.rx.cell (j := 0) rfl; have y6 := hSw.rx.cell (j := 6) rfl; rw [g19.out] at y0; simp only at k2 y0 y6; go_simp <;> with_reducible rfl)) ?_
          try simp only [Act.put, List.setIfInBounds_toArray, List.set_cons_zero, List.set_cons_succ]
          refine tk 2 (oi := ⟨_, _, _, _, _, _⟩) (v := .bool true) rfl (fun w' hSw => by (have k2 := hSw.rm.cell (j := 2) rfl; have y0 := hSw.rx.cell (j := 0) rfl; have y6 := hSw.rx.cell (j := 6) rfl; rw [g19.out] at y0; simp only at k2 y0 y6; go_simp <;> with_reducible rfl)) ?_
          try simp only [Act.put, List.setIfInBounds_toArray, List.set_cons_zero, List.set_cons_succ]
          refine tk 3 (oi := ⟨_, _, _, _, _, _⟩) rfl (fun w' hSw => by (have k2 := hSw.rm.cell (j := 2) rfl; have y0 := hSw.rx.cell (j := 0) rfl; have y6 := hSw.rx.cell (j := 6) rfl; rw [g19.out] at y0; simp only at k2 y0 y6; go_simp <;> with_reducible rfl)) ?_
          try simp only [Act.put, List.setIfInBounds_toArray, List.set_cons_zero, List.set_cons_succ]
          refine tk 4 (oi := ⟨_, _, _, _, _, _⟩) rfl (fun w' hSw => by (have k2 := hSw.rm.cell (j := 2) rfl; have y0 := hSw.rx.cell (j := 0) rfl; have y6 := hSw.rx.cell (j := 6) rfl; rw [g19.out] at y0; simp only at k2 y0 y6; go_simp <;> with_reducible rfl)) ?_
          try simp only [Act.put, List.setIfInBounds_toArray, List.set_cons_zero, List.set_cons_succ]
          refine tk 5 (oi := ⟨_, _, _, _, _, _⟩) rfl (fun w' hSw => by (have k2 := hSw.rm.cell (j := 2) rfl; have y0 := hSw.rx.cell (j := 0) rfl; have y6 := hSw.rx.cell (j := 6) rfl; rw [g19.out] at y0; simp only at k2 y0 y6; go_simp <;> with_reducible rfl)) ?_
          try simp only [Act.put, List.setIfInBounds_toArray, List.set_cons_zero, List.set_cons_succ]
          refine tk 6 (oi := ⟨_, _, _, _, _, _⟩) (v := .bool true) rfl (fun w' hSw => by (have k2 := hSw.rm.cell (j := 2) rfl; have y0 := hSw.rx.cell (j := 0) rfl; have y6 := hSw.rx.cell (j := 6) rfl; rw [g19.out] at y0; simp only at k2 y0 y6; go_simp <;> with_reducible rfl)) ?_
          try simp only [Act.put, List.setIfInBounds_toArray, List.set_cons_zero, List.set_cons_succ]
          refine tk 7 (oi := ⟨_, _, _, _, _, _⟩) rfl (fun w' hSw => by (have k2 := hSw.rm.cell (j := 2) rfl; have y0 := hSw.rx.cell (j := 0) rfl; have y6 := hSw.rx.cell (j := 6) rfl; rw [g19.out] at y0; simp only at k2 y0 y6; go_simp <;> with_reducible rfl)) ?_
          try simp only [Act.put, List.setIfInBounds_toArray, List.set_cons_zero, List.set_cons_succ]
          refine tk 8 (oi := ⟨_, _, _, _, _, _⟩) rfl (fun w' hSw => by (have k2 := hSw.rm.cell (j := 2) rfl; have y0 := hSw.rx.cell (j := 0) rfl; have y6 := hSw.rx.cell (j := 6) rfl; rw [g19.out] at y0; simp only at k2 y0 y6; go_simp <;> with_reducible rfl)) ?_
          try simp only [Act.put, List.setIfInBounds_toArray, List.set_cons_zero, List.set_cons_succ]
          refine tk 9 (oi := ⟨_, _, _, _, _, _⟩) rfl (fun w' hSw => by (have k2 := hSw.rm.cell (j := 2) rfl; have y0 := hSw.rx.cell (j := 0) rfl; have y6 := hSw.rx.cell (j := 6) rfl; rw [g19.out] at y0; simp only at k2 y0 y6; go_simp <;> with_reducible rfl)) ?_
          try simp only [Act.put, List.setIfInBounds_toArray, List.set_cons_zero, List.set_cons_succ]
          refine tk 10 (oi := ⟨_, _, _, _, _, _⟩) rfl (fun w' hSw => by (have k2 := hSw.rm.cell (j := 2) rfl; have y0 := hSw.rx.cell (j := 0) rfl; have y6 := hSw.rx.cell (j := 6) rfl; rw [g19.out] at y0; simp only at k2 y0 y6; go_simp <;> with_reducible rfl)) ?_
          try simp only [Act.put, List.setIfInBounds_toArray, List.set_cons_zero, List.set_cons_succ]
          refine tk 11 (oi := ⟨_, _, _, _, _, _⟩) rfl (fun w' hSw => by (have k2 := hSw.rm.cell (j := 2) rfl; have y0 := hSw.rx.cell (j := 0) rfl; have y6 := hSw.rx.cell (j := 6) rfl; rw [g19.out] at y0; simp only at k2 y0 y6; go_simp <;> with_reducible rfl)) ?_
          try simp only [Act.put, List.setIfInBounds_toArray, List.set_cons_zero, List.set_cons_succ]
          refine tk 12 (oi := ⟨_, _, _, _, _, _⟩) rfl (fun w' hSw => by (have k2 := hSw.rm.cell (j := 2) rfl; have y0 := hSw.rx.cell (j := 0) rfl; have y6 := hSw.rx.cell (j := 6) rfl; rw [g19.out] at y0; simp only at k2 y0 y6; go_simp <;> with_reducible rfl)) ?_
          try simp only [Act.put, List.setIfInBounds_toArray, List.set_cons_zero, List.set_cons_succ]
          refine rd1 13 (o := ⟨_, _, _, _, _, _⟩) rfl (fun K' hK => ?_)
          go_simp
          go_at_call 25
          refine (HAS.out _).mono ?_
          rintro en w3 ⟨rfl, hb3⟩
          have h3 : R3 w w3 ⟨nm, ep, ph, vr, sh, fr, tw, tx⟩ (msgV x A n c A' n' c') := HU2.out.drew.on hb3
          refine hK.out _ _ h3 (fun hHeld => ?_)
          clear hK K'
          try simp only [Act.put, List.setIfInBounds_toArray, List.set_cons_zero, List.set_cons_succ]
          refine tk 14 (oi := ⟨_, _, _, _, _, _⟩) rfl (fun w' hSw => by (try dsimp only at hSw); go_simp <;> with_reducible rfl) ?_
          try simp only [Act.put, List.setIfInBounds_toArray, List.set_cons_zero, List.set_cons_succ]
          refine tk 15 (oi := ⟨_, _, _, _, _, _⟩) rfl (fun w' hSw => by (try dsimp only at hSw); go_simp <;> with_reducible rfl) ?_
          try simp only [Act.put, List.setIfInBounds_toArray, List.set_cons_zero, List.set_cons_succ]
          refine wpAnyH_done (by kernel_rfl) ?_ _
          go_wp2_with fail
          go_meet
          exact ⟨_, rfl, Lib.hid ⟨by by_cases hv : x.vr = K <;> simp [hv, g19.out, g2], h3⟩⟩
    case rest =>
      obtain ⟨b, rfl, H⟩ := hcut
      clear k0 k1 k2 k3 k4 k5 k6 k7 kl x0 x1 x5 x6 x15 xl HU2
      cases b with
      | true =>
        have hc := of_decide_eq_true H.out.1.symm
        have hres : hearsM ⟨nm, ep, ph, vr, sh, fr, tw, tx⟩ f x = (⟨nm, ep, 7, vr, sh, fr, tw, tx⟩, true) := by
          rw [e1.out, ← HM.out.2.1]
          exact hears_moved HM.out.2.2.2 hc.2.1 x hc.1 e2.out e3.out (by rw [hc.2.2]; exact HM.out.2.2.1.symm)
        obtain ⟨rfl, rfl⟩ := Prod.mk.inj (HM.out.1.symm.trans hres)
        have hR := Lib.hid H.out.2
        clear hc hres H
        as_aux_lemma =>
        have k2 := hR.out.rm.cell (j := 2) rfl
        have kf := hR.out.rm.frozen 2
        have kl := hR.out.rm.lt
        go_upto_region 5 with fail
        refine wp_world (fun W => R3 w W ⟨nm, ep, 7, vr, sh, fr, tw, tx⟩ (msgV x A n c A' n' c')) (hR.out.ph 7) ?_
        intro Wf hF
        clear k2 kf kl
        go_wp2_with (first
          | (refine ld_mv hF.rm rfl _ rfl rfl ?_)
          | (refine st_mv (m := ⟨nm, ep, 7, vr, sh, fr, tw, tx⟩) hF.rr rfl _ _ rfl rfl rfl ?_; intro W' hr' hs' hg'))
        exact bodyPost_ret (res_mv (m := ⟨nm, ep, 7, vr, sh, fr, tw, tx⟩) Try.results14 _ hr' rfl rfl) rfl ⟨rfl, r3_fin (m' := ⟨nm, ep, 7, vr, sh, fr, tw, tx⟩) hF hg' hs'⟩
      | false =>
        have hc := of_decide_eq_false H.out.1.symm
        have HC := Lib.hid hc
        have hR := Lib.hid H.out.2
        clear hc H
        go_upto_region 6 with fail
        go_cut [57] from 49 to 58 (fun s wc => ∃ b : Bool, s = .bool b ∧ Hid (b = decide (x.kd ≠ K + 1) ∧ R3 w wc ⟨nm, ep, ph, vr, sh, fr, tw, tx⟩ (msgV x A n c A' n' c')))
        case first =>
          as_aux_lemma =>
          refine wp_region_held_drew (S := fun W => R3 w W ⟨nm, ep, ph, vr, sh, fr, tw, tx⟩ (msgV x A n c A' n' c')) (by kernel_rfl) hR.out.drew (fun hHeld => ?_)
          refine tk 0 (oi := ⟨_, _, _, _, _, _⟩) rfl (fun w' hSw => by (have k2 := hSw.rm.cell (j := 2) rfl; have y0 := hSw.rx.cell (j := 0) rfl; simp only at k2 y0; go_simp <;> with_reducible rfl)) ?_
          try simp only [Act.put, List.setIfInBounds_toArray, List.set_cons_zero, List.set_cons_succ]
          refine tk 1 (oi := ⟨_, _, _, _, _, _⟩) rfl (fun w' hSw => by (have k2 := hSw.rm.cell (j := 2) rfl; have y0 := hSw.rx.cell (j := 0) rfl; simp only at k2 y0; go_simp <;> with_reducible rfl)) ?_
          try simp only [Act.put, List.setIfInBounds_toArray, List.set_cons_zero, List.set_cons_succ]
          refine tk 2 (oi := ⟨_, _, _, _, _, _⟩) rfl (fun w' hSw => by (have k2 := hSw.rm.cell (j := 2) rfl; have y0 := hSw.rx.cell (j := 0) rfl; simp only at k2 y0; go_simp <;> with_reducible rfl)) ?_
          try simp only [Act.put, List.setIfInBounds_toArray, List.set_cons_zero, List.set_cons_succ]
          refine tk 3 (oi := ⟨_, _, _, _, _, _⟩) rfl (fun w' hSw => by (have k2 := hSw.rm.cell (j := 2) rfl; have y0 := hSw.rx.cell (j := 0) rfl; simp only at k2 y0; go_simp <;> with_reducible rfl)) ?_
          try simp only [Act.put, List.setIfInBounds_toArray, List.set_cons_zero, List.set_cons_succ]
          refine rd1 4 (o := ⟨_, _, _, _, _, _⟩) rfl (fun K' hK => ?_)
          go_simp
          go_at_call 25
          refine (HAS.out _).mono ?_
          rintro en w3 ⟨rfl, hb3⟩
          have h3 : R3 w w3 ⟨nm, ep, ph, vr, sh, fr, tw, tx⟩ (msgV x A n c A' n' c') := hR.out.drew.on hb3
          refine hK.out _ _ h3 (fun hHeld => ?_)
          clear hK K'
          have wK := HW.out.1
          try simp only [Act.put, List.setIfInBounds_toArray, List.set_cons_zero, List.set_cons_succ]
          refine tk 5 (oi := ⟨_, _, _, _, _, _⟩) (v := .int .i64 (K + 1)) rfl (fun w' hSw => by (clear hSw; go_simp)) ?_
          try simp only [Act.put, List.setIfInBounds_toArray, List.set_cons_zero, List.set_cons_succ]
          refine tk 6 (oi := ⟨_, _, _, _, _, _⟩) rfl (fun w' hSw => by (try dsimp only at hSw); go_simp <;> with_reducible rfl) ?_
          try simp only [Act.put, List.setIfInBounds_toArray, List.set_cons_zero, List.set_cons_succ]
          refine wpAnyH_done (by kernel_rfl) ?_ _
          go_wp2_with fail
          go_meet
          exact ⟨_, rfl, Lib.hid ⟨by by_cases hv : x.kd = K + 1 <;> simp [hv], h3⟩⟩
        case rest =>
          obtain ⟨b, rfl, H⟩ := hcut
          clear hR
          cases b with
          | true =>
            have hc := of_decide_eq_true H.out.1.symm
            have hres := hears_kind (m := ⟨nm, ep, ph, vr, sh, fr, tw, tx⟩) x f (by rw [HM.out.2.2.1]; exact hc) (by rw [HM.out.2.2.1]; exact HC.out)
            obtain ⟨rfl, rfl⟩ := Prod.mk.inj (HM.out.1.symm.trans hres)
            have hR := Lib.hid H.out.2
            clear hc hres H
            as_aux_lemma =>
            go_wp2_with (first
              | (refine ld_mv hR.out.rm rfl _ rfl rfl ?_)
              | (refine st_mv (m := ⟨nm, ep, ph, vr, sh, fr, tw, tx⟩) hR.out.rr rfl _ _ rfl rfl rfl ?_; intro W' hr' hs' hg'))
            exact bodyPost_ret (res_mv (m := ⟨nm, ep, ph, vr, sh, fr, tw, tx⟩) Try.results14 _ hr' rfl rfl) rfl ⟨rfl, r3_fin (m' := ⟨nm, ep, ph, vr, sh, fr, tw, tx⟩) hR.out hg' hs'⟩
          | false =>
            have hc := of_decide_eq_false H.out.1.symm
            have hres : hearsM ⟨nm, ep, ph, vr, sh, fr, tw, tx⟩ f x = (stepM ⟨nm, ep, ph, vr, sh, fr, tw, tx⟩ x, true) := by
              rw [e1.out, ← HM.out.2.1]
              exact hears_answer HM.out.2.2.2 HO.out x (by rw [HM.out.2.2.1]; exact Decidable.not_not.1 hc) e2.out e3.out
            obtain ⟨rfl, rfl⟩ := Prod.mk.inj (HM.out.1.symm.trans hres)
            have hR := Lib.hid H.out.2
            have wP := HW.out.2.1
            clear hc hres H
            as_aux_lemma =>
            have k2 := hR.out.rm.cell (j := 2) rfl
            have k3 := hR.out.rm.cell (j := 3) rfl
            have k7 := hR.out.rm.cell (j := 7) rfl
            have kf2 := hR.out.rm.frozen 2
            have kf3 := hR.out.rm.frozen 3
            have kf7 := hR.out.rm.frozen 7
            have kl := hR.out.rm.lt
            obtain ⟨x0, x1, x5, x6, x15, xl⟩ := hR.out.xc
            simp only at k2 k3 k7
            by_cases p1 : ph = 1
            · have HP1 := Lib.hid p1
              rw [p1] at k2
              clear p1 wP
              go_upto_region 15 with fail
              refine wp_world (fun W => R3 w W (stepM ⟨nm, ep, ph, vr, sh, fr, tw, tx⟩ x) (msgV x A n c A' n' c')) (by first | exact (((hR.out.vr _).tx _).ph _).cast (by simp [stepM, HP1.out])) ?_
              intro Wf hF
              clear k2 k3 k7 kf2 kf3 kf7 kl x0 x1 x5 x6 x15 xl hR
              go_wp2_with (first
                | (refine ld_mv hF.rm rfl _ rfl rfl ?_)
                | (refine st_mv (m := stepM ⟨nm, ep, ph, vr, sh, fr, tw, tx⟩ x) hF.rr rfl _ _ rfl rfl rfl ?_; intro W' hr' hs' hg'))
              exact bodyPost_ret (res_mv (m := stepM ⟨nm, ep, ph, vr, sh, fr, tw, tx⟩ x) Try.results14 _ hr' rfl rfl) rfl ⟨rfl, r3_fin (m' := noMv') hF hg' hs'⟩
            by_cases p3 : ph = 3
            · have HP1 := Lib.hid p3
              rw [p3] at k2
              clear p1 p3 wP
              go_upto_region 15 with fail
              refine wp_world (fun W => R3 w W (stepM ⟨nm, ep, ph, vr, sh, fr, tw, tx⟩ x) (msgV x A n c A' n' c')) (by first | exact ((hR.out.tx _).ph _).cast (by simp [stepM, HP1.out])) ?_
              intro Wf hF
              clear k2 k3 k7 kf2 kf3 kf7 kl x0 x1 x5 x6 x15 xl hR
              go_wp2_with (first
                | (refine ld_mv hF.rm rfl _ rfl rfl ?_)
                | (refine st_mv (m := stepM ⟨nm, ep, ph, vr, sh, fr, tw, tx⟩ x) hF.rr rfl _ _ rfl rfl rfl ?_; intro W' hr' hs' hg'))
              exact bodyPost_ret (res_mv (m := stepM ⟨nm, ep, ph, vr, sh, fr, tw, tx⟩ x) Try.results14 _ hr' rfl rfl) rfl ⟨rfl, r3_fin (m' := noMv') hF hg' hs'⟩
            have q1 : decide (ph = 1) = false := decide_eq_false p1
            have q3 : decide (ph = 3) = false := decide_eq_false p3
            have q1' : (ph == 1) = false := by simp [p1]
            have q3' : (ph == 3) = false := by simp [p3]
            have HP1 := Lib.hid (And.intro p1 p3)
            clear p1 p3
            go_upto_region 15 with fail
            refine wp_world (fun W => R3 w W (stepM ⟨nm, ep, ph, vr, sh, fr, tw, tx⟩ x) (msgV x A n c A' n' c')) (by first | exact (hR.out.ph _).cast (by simp [stepM, HP1.out.1, HP1.out.2])) ?_
            intro Wf hF
            clear k2 k3 k7 kf2 kf3 kf7 kl x0 x1 x5 x6 x15 xl hR
            go_wp2_with (first
              | (refine ld_mv hF.rm rfl _ rfl rfl ?_)
              | (refine st_mv (m := stepM ⟨nm, ep, ph, vr, sh, fr, tw, tx⟩ x) hF.rr rfl _ _ rfl rfl rfl ?_; intro W' hr' hs' hg'))
            exact bodyPost_ret (res_mv (m := stepM ⟨nm, ep, ph, vr, sh, fr, tw, tx⟩ x) Try.results14 _ hr' rfl rfl) rfl ⟨rfl, r3_fin (m' := noMv') hF hg' hs'⟩
end Go.Proofs.Ytbjjgjifaomdlaa.Mv
