/- What Done of package chart returns. Conditions: the chart's nodes read as a list. -/
import Derived.Test.YtmepahlmbopacaaDoorChDone
set_option linter.unusedVariables false
set_option linter.unusedSimpArgs false
set_option maxRecDepth 100000
namespace Go.Proofs.YtmepahlmbopacaaDoor.Ct
open Go Go.RowKit
def doneN (e : Int) (l : List Int) (m : Mv) : Int := if doneE e l m = 0 then e + 1 else 0
def doneL (e : Int) (l : List Int) (m : Mv) : List Int := if doneE e l m = 0 then l.set m.s.toNat m.t else []
def DonePost (e : Int) (l : List Int) (m : Mv) (w : World) (en : Ending) (w' : World) : Prop := ∃ A1 n1 c1, en = .returned (.tuple #[.agg #[.int .i64 (doneN e l m), .slice A1 n1 c1], .int .i64 (doneE e l m)]) ∧ w'.ownsRow w.heap.size 3 1 (.slice A1 n1 c1) n1 (ints (doneL e l m)) ∧ Below w.heap.size w w'
theorem DonePost.bad {e : Int} {l : List Int} {m : Mv} {w w' : World} {k : Int} (h : doneE e l m = k) (hk : k ≠ 0) (hb : Below w.heap.size w w') : DonePost e l m w (.returned (.tuple #[.agg #[.int .i64 0, .slice none 0 0], .int .i64 k])) w' := by
  have h0 : doneE e l m ≠ 0 := by omega
  refine ⟨none, 0, 0, ?_, ?_, hb⟩
  · rw [doneN, if_neg h0, h]
  · rw [doneL, if_neg h0]
    exact World.ownsRow_nil ..
theorem DonePost.good {e : Int} {l : List Int} {m : Mv} {w w' : World} {A1 : Option Addr} {n1 c1 : Nat} (h : doneE e l m = 0) (ho : w'.ownsRow w.heap.size 3 1 (.slice A1 n1 c1) n1 (ints (l.set m.s.toNat m.t))) (hb : Below w.heap.size w w') : DonePost e l m w (.returned (.tuple #[.agg #[.int .i64 (e + 1), .slice A1 n1 c1], .int .i64 0])) w' := by
  refine ⟨A1, n1, c1, ?_, ?_, hb⟩
  · rw [doneN, if_pos h, h]
  · rw [doneL, if_pos h]
    exact ho
/-- The boxes of Done: the chart, the move, the answer. -/
structure DBox (w W : World) (e : Int) (A : Option Addr) (n c : Nat) (m : Mv) : Prop where
  b0 : Row W w.heap.size 24 [.int .i64 e, .slice A n c]
  b1 : Row W (w.heap.size + 1) 39 [.int .i64 m.s, .int .i64 m.f, .int .i64 m.t]
  b2 : Row W (w.heap.size + 1 + 1) 24 [.int .i64 0, .slice none 0 0]
  below : Below w.heap.size w W
  le : w.heap.size + 3 ≤ W.heap.size
theorem DBox.new (w : World) (e : Int) (A : Option Addr) (n c : Nat) (m : Mv) : DBox w (((w.alloc (.cells #[.int .i64 e, .slice A n c] 24)).alloc (.cells #[.int .i64 m.s, .int .i64 m.f, .int .i64 m.t] 39)).alloc (.cells #[.int .i64 0, .slice none 0 0] 24)) e A n c m := by
  have e1 : (w.alloc (.cells #[.int .i64 e, .slice A n c] 24)).heap.size = w.heap.size + 1 := by simp
  have e2 : ((w.alloc (.cells #[.int .i64 e, .slice A n c] 24)).alloc (.cells #[.int .i64 m.s, .int .i64 m.f, .int .i64 m.t] 39)).heap.size = w.heap.size + 1 + 1 := by simp
  refine ⟨?_, ?_, ?_, (((Below.refl _ w).alloc (Nat.le_refl _) _).alloc (by omega) _).alloc (by omega) _, by simp⟩
  · exact ((Row.new w 24 [.int .i64 e, .slice A n c]).keep (heap_alloc_lt _ _ (by omega))).keep (heap_alloc_lt _ _ (by omega))
  · have := Row.new (w.alloc (.cells #[.int .i64 e, .slice A n c] 24)) 39 [.int .i64 m.s, .int .i64 m.f, .int .i64 m.t]
    rw [e1] at this
    exact this.keep (heap_alloc_lt _ _ (by omega))
  · have := Row.new ((w.alloc (.cells #[.int .i64 e, .slice A n c] 24)).alloc (.cells #[.int .i64 m.s, .int .i64 m.f, .int .i64 m.t] 39)) 24 [.int .i64 0, .slice none 0 0]
    rw [e2] at this
    exact this
theorem DBox.under {w W W' : World} {e : Int} {A : Option Addr} {n c : Nat} {m : Mv} (h : DBox w W e A n c m) {B : Nat} (hb : Below B W W') (hB : w.heap.size + 3 ≤ B) : DBox w W' e A n c m :=
  ⟨h.b0.keep (hb.block _ (by omega)), h.b1.keep (hb.block _ (by omega)), h.b2.keep (hb.block _ (by omega)), h.below.trans (hb.mono (by omega)), Nat.le_trans h.le hb.size⟩
theorem doneE_bad {e : Int} {l : List Int} {m : Mv} (h : mayC e l = false ∨ m.s < 0 ∨ (l.length : Int) ≤ m.s ∨ nodeC m.t = false ∨ m.t = m.f) : doneE e l m = 1 := by unfold doneE; rw [if_pos h]
theorem doneE_none {e : Int} {l : List Int} {m : Mv} (h : ¬ (mayC e l = false ∨ m.s < 0 ∨ (l.length : Int) ≤ m.s ∨ nodeC m.t = false ∨ m.t = m.f)) (h2 : l.getD m.s.toNat 0 ≠ m.f) : doneE e l m = 3 := by unfold doneE; rw [if_neg h, if_pos h2]
theorem doneE_epoch {e : Int} {l : List Int} {m : Mv} (h : ¬ (mayC e l = false ∨ m.s < 0 ∨ (l.length : Int) ≤ m.s ∨ nodeC m.t = false ∨ m.t = m.f)) (h2 : l.getD m.s.toNat 0 = m.f) (h3 : e = 1099511627776) : doneE e l m = 101 := by unfold doneE; rw [if_neg h, if_neg (by simpa using h2), if_pos h3]
theorem doneE_fine {e : Int} {l : List Int} {m : Mv} (h : ¬ (mayC e l = false ∨ m.s < 0 ∨ (l.length : Int) ≤ m.s ∨ nodeC m.t = false ∨ m.t = m.f)) (h2 : l.getD m.s.toNat 0 = m.f) (h3 : ¬ e = 1099511627776) : doneE e l m = 0 := by unfold doneE; rw [if_neg h, if_neg (by simpa using h2), if_neg h3]
set_option maxHeartbeats 8000000 in
theorem done_any {w : World} {B : Nat} {A : Option Addr} {n c : Nat} {l : List Int} (e : Int) (hR : Reads w B 1 A n (ints l)) (hB : B ≤ w.heap.size) (m : Mv) (hnc : n ≤ c) (hc : c ≤ maxLen) :
    Calls Tryd.prog 13 #[.agg #[.int .i64 e, .slice A n c], .agg #[.int .i64 m.s, .int .i64 m.f, .int .i64 m.t]] w (DonePost e l m w) := by
  have hln := hR.len
  have hB0 := DBox.new w e A n c m
  generalize hW : ((w.alloc (.cells #[.int .i64 e, .slice A n c] 24)).alloc (.cells #[.int .i64 m.s, .int .i64 m.f, .int .i64 m.t] 39)).alloc (.cells #[.int .i64 0, .slice none 0 0] 24) = W at *
  have HW := Lib.hid hW
  have hRW := (hR.more hB).below hB0.below
  have HC := Lib.hid (check_any (c := c) e hRW hB0.below.size)
  have KD := Lib.hid (fun w1 (hb : Below W.heap.size W w1) => And.intro (hB0.under hb hB0.le) (hRW.below (hb.mono hB0.below.size)))
  have HL := Lib.hid hln
  obtain ⟨ms, mf, mt⟩ := m
  simp only at hW hB0 HW KD ⊢
  have hsml : mayC e l = true → 1 ≤ n ∧ n ≤ 16 ∧ 1 ≤ e ∧ e ≤ 1099511627776 := fun h => by rw [mayC_iff] at h; omega
  clear hW hB0 hRW hR hB hln
  by_cases hmay : mayC e l = false
  · have HE := Lib.hid (doneE_bad (e := e) (l := l) (m := ⟨ms, mf, mt⟩) (.inl hmay))
    rw [hmay] at HC
    rw [okV_f] at HC
    clear hmay hsml
    go_enter Tryd.func13, Tryd.ntmps13
    go_wp2_with fail
    rw [HW.out]
    refine HC.out.mono ?_
    rintro en w1 ⟨rfl, hb1⟩
    obtain ⟨hd1, hr1⟩ := KD.out w1 hb1
    have HD := Lib.hid hd1
    have x0 := HD.out.b0.cell (j := 0) rfl
    have x1 := HD.out.b0.cell (j := 1) rfl
    have y0 := HD.out.b1.cell (j := 0) rfl
    have y1 := HD.out.b1.cell (j := 1) rfl
    have y2 := HD.out.b1.cell (j := 2) rfl
    have r0 := HD.out.b2.cell (j := 0) rfl
    have r1 := HD.out.b2.cell (j := 1) rfl
    have f0 := HD.out.b2.frozen 0
    have f1 := HD.out.b2.frozen 1
    have xl := HD.out.b0.lt
    have yl := HD.out.b1.lt
    have rl := HD.out.b2.lt
    clear hb1 hd1 hr1
    go_wp2_with fail
    have rs := (HD.out.b2.set 0 (.int .i64 0)).set 1 (.slice none 0 0)
    have g0 := rs.cell (j := 0) rfl
    have g1 := rs.cell (j := 1) rfl
    refine bodyPost_ret (v := .tuple #[.agg #[.int .i64 0, .slice none 0 0], .int .i64 1]) (by simp [results, Tryd.results13, go_sem, g0, g1]) rfl (DonePost.bad HE.out (by decide) ?_)
    exact below_setCell (below_setCell HD.out.below (by show w.heap.size ≤ w.heap.size + 1 + 1; omega) _) (by show w.heap.size ≤ w.heap.size + 1 + 1; omega) _
  · rw [Bool.not_eq_false] at hmay
    obtain ⟨n1, n16, e1, e2⟩ := hsml hmay
    have HM := Lib.hid hmay
    rw [hmay] at HC
    rw [okV_t] at HC
    clear hmay hsml
    by_cases hz : ms < 0
    · have HE := Lib.hid (doneE_bad (e := e) (l := l) (m := ⟨ms, mf, mt⟩) (.inr (.inl hz)))
      go_enter Tryd.func13, Tryd.ntmps13
      go_wp2_with fail
      rw [HW.out]
      refine HC.out.mono ?_
      rintro en w1 ⟨rfl, hb1⟩
      obtain ⟨hd1, hr1⟩ := KD.out w1 hb1
      have HD := Lib.hid hd1
      have x0 := HD.out.b0.cell (j := 0) rfl
      have x1 := HD.out.b0.cell (j := 1) rfl
      have y0 := HD.out.b1.cell (j := 0) rfl
      have y1 := HD.out.b1.cell (j := 1) rfl
      have y2 := HD.out.b1.cell (j := 2) rfl
      have r0 := HD.out.b2.cell (j := 0) rfl
      have r1 := HD.out.b2.cell (j := 1) rfl
      have f0 := HD.out.b2.frozen 0
      have f1 := HD.out.b2.frozen 1
      have xl := HD.out.b0.lt
      have yl := HD.out.b1.lt
      have rl := HD.out.b2.lt
      clear hb1 hd1 hr1
      go_wp2_with fail
      have rs := (HD.out.b2.set 0 (.int .i64 0)).set 1 (.slice none 0 0)
      have g0 := rs.cell (j := 0) rfl
      have g1 := rs.cell (j := 1) rfl
      refine bodyPost_ret (v := .tuple #[.agg #[.int .i64 0, .slice none 0 0], .int .i64 1]) (by simp [results, Tryd.results13, go_sem, g0, g1]) rfl (DonePost.bad HE.out (by decide) ?_)
      exact below_setCell (below_setCell HD.out.below (by show w.heap.size ≤ w.heap.size + 1 + 1; omega) _) (by show w.heap.size ≤ w.heap.size + 1 + 1; omega) _
    · have s0 : 0 ≤ ms := by omega
      by_cases hz : (n : Int) ≤ ms
      · have HE := Lib.hid (doneE_bad (e := e) (l := l) (m := ⟨ms, mf, mt⟩) (.inr (.inr (.inl (by have := HL.out; simp only; omega)))))
        go_enter Tryd.func13, Tryd.ntmps13
        go_wp2_with fail
        rw [HW.out]
        refine HC.out.mono ?_
        rintro en w1 ⟨rfl, hb1⟩
        obtain ⟨hd1, hr1⟩ := KD.out w1 hb1
        have HD := Lib.hid hd1
        have x0 := HD.out.b0.cell (j := 0) rfl
        have x1 := HD.out.b0.cell (j := 1) rfl
        have y0 := HD.out.b1.cell (j := 0) rfl
        have y1 := HD.out.b1.cell (j := 1) rfl
        have y2 := HD.out.b1.cell (j := 2) rfl
        have r0 := HD.out.b2.cell (j := 0) rfl
        have r1 := HD.out.b2.cell (j := 1) rfl
        have f0 := HD.out.b2.frozen 0
        have f1 := HD.out.b2.frozen 1
        have xl := HD.out.b0.lt
        have yl := HD.out.b1.lt
        have rl := HD.out.b2.lt
        clear hb1 hd1 hr1
        go_wp2_with fail
        have rs := (HD.out.b2.set 0 (.int .i64 0)).set 1 (.slice none 0 0)
        have g0 := rs.cell (j := 0) rfl
        have g1 := rs.cell (j := 1) rfl
        refine bodyPost_ret (v := .tuple #[.agg #[.int .i64 0, .slice none 0 0], .int .i64 1]) (by simp [results, Tryd.results13, go_sem, g0, g1]) rfl (DonePost.bad HE.out (by decide) ?_)
        exact below_setCell (below_setCell HD.out.below (by show w.heap.size ≤ w.heap.size + 1 + 1; omega) _) (by show w.heap.size ≤ w.heap.size + 1 + 1; omega) _
      · have s1 : ms < (n : Int) := by omega
        have HN := Lib.hid (fun W => isNode_any mt W)
        by_cases hz : nodeC mt = false
        · have HE := Lib.hid (doneE_bad (e := e) (l := l) (m := ⟨ms, mf, mt⟩) (.inr (.inr (.inr (.inl hz)))))
          rw [hz] at HN
          clear hz
          go_enter Tryd.func13, Tryd.ntmps13
          go_wp2_with fail
          rw [HW.out]
          refine HC.out.mono ?_
          rintro en w1 ⟨rfl, hb1⟩
          obtain ⟨hd1, hr1⟩ := KD.out w1 hb1
          have HD := Lib.hid hd1
          have x0 := HD.out.b0.cell (j := 0) rfl
          have x1 := HD.out.b0.cell (j := 1) rfl
          have y0 := HD.out.b1.cell (j := 0) rfl
          have y1 := HD.out.b1.cell (j := 1) rfl
          have y2 := HD.out.b1.cell (j := 2) rfl
          have r0 := HD.out.b2.cell (j := 0) rfl
          have r1 := HD.out.b2.cell (j := 1) rfl
          have f0 := HD.out.b2.frozen 0
          have f1 := HD.out.b2.frozen 1
          have xl := HD.out.b0.lt
          have yl := HD.out.b1.lt
          have rl := HD.out.b2.lt
          clear hb1 hd1 hr1
          go_wp2_with fail
          refine (HN.out _).mono ?_
          rintro en w2 ⟨rfl, rfl⟩
          go_wp2_with fail
          have rs := (HD.out.b2.set 0 (.int .i64 0)).set 1 (.slice none 0 0)
          have g0 := rs.cell (j := 0) rfl
          have g1 := rs.cell (j := 1) rfl
          refine bodyPost_ret (v := .tuple #[.agg #[.int .i64 0, .slice none 0 0], .int .i64 1]) (by simp [results, Tryd.results13, go_sem, g0, g1]) rfl (DonePost.bad HE.out (by decide) ?_)
          exact below_setCell (below_setCell HD.out.below (by show w.heap.size ≤ w.heap.size + 1 + 1; omega) _) (by show w.heap.size ≤ w.heap.size + 1 + 1; omega) _
        · have hno : nodeC mt = true := by simpa using hz
          rw [hno] at HN
          clear hz
          by_cases hz : mt = mf
          · have HE := Lib.hid (doneE_bad (e := e) (l := l) (m := ⟨ms, mf, mt⟩) (.inr (.inr (.inr (.inr hz)))))
            have HNO := Lib.hid hno
            clear hno
            subst hz
            go_enter Tryd.func13, Tryd.ntmps13
            go_wp2_with fail
            rw [HW.out]
            refine HC.out.mono ?_
            rintro en w1 ⟨rfl, hb1⟩
            obtain ⟨hd1, hr1⟩ := KD.out w1 hb1
            have HD := Lib.hid hd1
            have x0 := HD.out.b0.cell (j := 0) rfl
            have x1 := HD.out.b0.cell (j := 1) rfl
            have y0 := HD.out.b1.cell (j := 0) rfl
            have y1 := HD.out.b1.cell (j := 1) rfl
            have y2 := HD.out.b1.cell (j := 2) rfl
            have r0 := HD.out.b2.cell (j := 0) rfl
            have r1 := HD.out.b2.cell (j := 1) rfl
            have f0 := HD.out.b2.frozen 0
            have f1 := HD.out.b2.frozen 1
            have xl := HD.out.b0.lt
            have yl := HD.out.b1.lt
            have rl := HD.out.b2.lt
            clear hb1 hd1 hr1
            go_wp2_with fail
            refine (HN.out _).mono ?_
            rintro en w2 ⟨rfl, rfl⟩
            go_wp2_with fail
            have rs := (HD.out.b2.set 0 (.int .i64 0)).set 1 (.slice none 0 0)
            have g0 := rs.cell (j := 0) rfl
            have g1 := rs.cell (j := 1) rfl
            refine bodyPost_ret (v := .tuple #[.agg #[.int .i64 0, .slice none 0 0], .int .i64 1]) (by simp [results, Tryd.results13, go_sem, g0, g1]) rfl (DonePost.bad HE.out (by decide) ?_)
            exact below_setCell (below_setCell HD.out.below (by show w.heap.size ≤ w.heap.size + 1 + 1; omega) _) (by show w.heap.size ≤ w.heap.size + 1 + 1; omega) _
          · have HBAD := Lib.hid (show ¬ (mayC e l = false ∨ (⟨ms, mf, mt⟩ : Mv).s < 0 ∨ (l.length : Int) ≤ (⟨ms, mf, mt⟩ : Mv).s ∨ nodeC (⟨ms, mf, mt⟩ : Mv).t = false ∨ (⟨ms, mf, mt⟩ : Mv).t = (⟨ms, mf, mt⟩ : Mv).f) from by rw [HM.out]; have := HL.out; simp [hno, hz]; omega)
            have HNO := Lib.hid hno
            clear hno
            have q2 : (mt == mf) = false := by rw [beq_eq_false_iff_ne]; exact hz
            obtain ⟨s, rfl⟩ : ∃ s : Nat, ms = (s : Int) := ⟨ms.toNat, by omega⟩
            have hsn : s < n := by omega
            have q0 : ¬ (s : Int) < 0 := by omega
            have q1 : ¬ n ≤ s := by omega
            have q3 : ¬ (n : Int) ≤ (s : Int) := by omega
            by_cases hf : l.getD s 0 = mf
            · by_cases he : e = 1099511627776
              · have HE := Lib.hid (doneE_epoch (e := e) (l := l) (m := ⟨(s : Int), mf, mt⟩) HBAD.out hf he)
                subst he
                go_enter Tryd.func13, Tryd.ntmps13
                go_wp2_with fail
                rw [HW.out]
                refine HC.out.mono ?_
                rintro en w1 ⟨rfl, hb1⟩
                obtain ⟨hd1, hr1⟩ := KD.out w1 hb1
                have HD := Lib.hid hd1
                have x0 := HD.out.b0.cell (j := 0) rfl
                have x1 := HD.out.b0.cell (j := 1) rfl
                have y0 := HD.out.b1.cell (j := 0) rfl
                have y1 := HD.out.b1.cell (j := 1) rfl
                have y2 := HD.out.b1.cell (j := 2) rfl
                have r0 := HD.out.b2.cell (j := 0) rfl
                have r1 := HD.out.b2.cell (j := 1) rfl
                have f0 := HD.out.b2.frozen 0
                have f1 := HD.out.b2.frozen 1
                have xl := HD.out.b0.lt
                have yl := HD.out.b1.lt
                have rl := HD.out.b2.lt
                clear hb1 hd1
                obtain ⟨ad, rfl, hab, hcx⟩ := hr1.int_at hsn
                have hadl : (ad.add s).block < w1.heap.size := by rw [block_of_add]; have := HD.out.below.size; omega
                have HR1 := Lib.hid hr1
                rw [hf] at hcx
                clear hr1
                go_wp2_with fail
                refine (HN.out _).mono ?_
                rintro en w2 ⟨rfl, rfl⟩
                go_wp2_with fail
                go_quiet (fail)
                go_wp2_with fail
                have rs := fun q => ((show Row (w1.drewN q) (w.heap.size + 1 + 1) 24 [.int .i64 0, .slice none 0 0] from HD.out.b2).set 0 (.int .i64 0)).set 1 (.slice none 0 0)
                have g0 := fun q => (rs q).cell (j := 0) rfl
                have g1 := fun q => (rs q).cell (j := 1) rfl
                refine bodyPost_ret (v := .tuple #[.agg #[.int .i64 0, .slice none 0 0], .int .i64 101]) (by simp [results, Tryd.results13, go_sem, g0, g1]) rfl (DonePost.bad HE.out (by decide) ?_)
                exact below_setCell (below_setCell (below_drewN HD.out.below _) (p := ⟨w.heap.size + 1 + 1, 0, none⟩) (by show w.heap.size ≤ w.heap.size + 1 + 1; omega) _) (p := ⟨w.heap.size + 1 + 1, 1, none⟩) (by show w.heap.size ≤ w.heap.size + 1 + 1; omega) _
              · have HE := Lib.hid (doneE_fine (e := e) (l := l) (m := ⟨(s : Int), mf, mt⟩) HBAD.out hf he)
                go_enter Tryd.func13, Tryd.ntmps13
                go_wp2_with fail
                rw [HW.out]
                refine HC.out.mono ?_
                rintro en w1 ⟨rfl, hb1⟩
                obtain ⟨hd1, hr1⟩ := KD.out w1 hb1
                have HD := Lib.hid hd1
                have x0 := HD.out.b0.cell (j := 0) rfl
                have x1 := HD.out.b0.cell (j := 1) rfl
                have y0 := HD.out.b1.cell (j := 0) rfl
                have y1 := HD.out.b1.cell (j := 1) rfl
                have y2 := HD.out.b1.cell (j := 2) rfl
                have r0 := HD.out.b2.cell (j := 0) rfl
                have r1 := HD.out.b2.cell (j := 1) rfl
                have f0 := HD.out.b2.frozen 0
                have f1 := HD.out.b2.frozen 1
                have xl := HD.out.b0.lt
                have yl := HD.out.b1.lt
                have rl := HD.out.b2.lt
                clear hb1 hd1
                obtain ⟨ad, rfl, hab, hcx⟩ := hr1.int_at hsn
                have hadl : (ad.add s).block < w1.heap.size := by rw [block_of_add]; have := HD.out.below.size; omega
                have HR1 := Lib.hid hr1
                have HCP := Lib.hid (fun q => copied_any (w := w1.drewN q) (c := c) e (hr1.drewN q) (Nat.le_trans HD.out.below.size (Nat.le_refl _)) n1 n16 hnc hc)
                rw [hf] at hcx
                clear hr1
                go_wp2_with fail
                refine (HN.out _).mono ?_
                rintro en w2 ⟨rfl, rfl⟩
                go_wp2_with fail
                go_quiet (fail)
                go_wp2_with fail
                refine (HCP.out _).mono ?_
                rintro en w3 ⟨A1, c1, rfl, hown, hb3⟩
                obtain ⟨g, cap, hgf, hg1, hg2⟩ := hown.form (by omega)
                injection hgf with hA1 _ hc1
                subst hA1 hc1
                have hd3 : DBox w w3 e (some ad) n c ⟨(s : Int), mf, mt⟩ := (show DBox w (w1.drewN _) e (some ad) n c ⟨(s : Int), mf, mt⟩ from ⟨HD.out.b0, HD.out.b1, HD.out.b2, below_drewN HD.out.below _, HD.out.le⟩).under hb3 HD.out.le
                have hw1 := HD.out.le
                have hg1' : w1.heap.size ≤ g := hg1
                obtain ⟨W6, hW6⟩ : ∃ W6, W6 = w3.alloc (.cells #[.int .i64 (e + 1), .slice (some ⟨g, 0, none⟩) n c1] 24) := ⟨_, rfl⟩
                have hbl : ∀ b, b < w3.heap.size → W6.heap[b]? = w3.heap[b]? := fun b hb => by rw [hW6, heap_alloc_lt _ _ hb]
                have hr6 : Row W6 w3.heap.size 24 [.int .i64 (e + 1), .slice (some ⟨g, 0, none⟩) n c1] := by
                  rw [hW6]
                  exact Row.new w3 24 [.int .i64 (e + 1), .slice (some ⟨g, 0, none⟩) n c1]
                have hs6 : W6.heap.size = w3.heap.size + 1 := by rw [hW6]; simp
                have ho6 := own_keep hown (fun g' hg' => hbl g' (by have := (hown.lt g' hg').2; omega))
                have hb36 : Below w3.heap.size w3 W6 := by rw [hW6]; exact (Below.refl _ w3).alloc (Nat.le_refl _) _
                have hd6 := hd3.under hb36 hd3.le
                obtain ⟨ho7, hg7⟩ := ho6.stored s (.int .i64 mt)
                have hd7 : DBox w (W6.setCell ⟨g, s, none⟩ (.int .i64 mt)) e (some ad) n c ⟨(s : Int), mf, mt⟩ := hd6.under (below_setCell (Below.refl w1.heap.size W6) (p := ⟨g, s, none⟩) hg1' _) hw1
                have hr7 : Row (W6.setCell ⟨g, s, none⟩ (.int .i64 mt)) w3.heap.size 24 [.int .i64 (e + 1), .slice (some ⟨g, 0, none⟩) n c1] := hr6.keep (heap_set_ne _ _ _ (show w3.heap.size ≠ g by omega))
                have c60 := hr6.cell (j := 0) rfl
                have c61 := hr6.cell (j := 1) rfl
                have l6 := hr6.lt
                have y60 := hd6.b1.cell (j := 0) rfl
                have y62 := hd6.b1.cell (j := 2) rfl
                have yl6 := hd6.b1.lt
                have cg : W6.cell? ⟨g, s, none⟩ = some (.int .i64 (l.getD s 0)) := by
                  rw [ho6.cellAt s (by omega)]
                  have hsl : s < l.length := by have := HL.out; omega
                  unfold ints
                  rw [List.getElem?_map, List.getD_eq_getElem?_getD, List.getElem?_eq_getElem hsl]
                  rfl
                have fg := ho6.frozenAt s
                have lg : g < W6.heap.size := by omega
                have c70 := hr7.cell (j := 0) rfl
                have c71 := hr7.cell (j := 1) rfl
                have l7 := hr7.lt
                have r70 := hd7.b2.cell (j := 0) rfl
                have r71 := hd7.b2.cell (j := 1) rfl
                have f70 := hd7.b2.frozen 0
                have f71 := hd7.b2.frozen 1
                have rl7 := hd7.b2.lt
                have HX := Lib.hid (And.intro ho7 hd7)
                have HW6 := Lib.hid hW6
                have hez : IntKind.i64.wrap (e + 1) = e + 1 := by rw [IntKind.wrap_i64]; omega
                have hez2 : wrap64 (e + 1) = e + 1 := by unfold wrap64; omega
                clear hW6 hbl hr6 ho6 hb36 hd6 ho7 hd7 hr7 hd3 hown hb3 hg7 x0 x1 y0 y1 y2 r0 r1 f0 f1 xl yl rl
                go_upto_region 9 with fail
                rw [← HW6.out]
                go_wp2_with fail
                have rs := (HX.out.2.b2.set 0 (.int .i64 (e + 1))).set 1 (.slice (some ⟨g, 0, none⟩) n c1)
                have g0 := rs.cell (j := 0) rfl
                have g1 := rs.cell (j := 1) rfl
                refine bodyPost_ret (v := .tuple #[.agg #[.int .i64 (e + 1), .slice (some ⟨g, 0, none⟩) n c1], .int .i64 0]) (by simp [results, Tryd.results13, go_sem, g0, g1]) rfl (DonePost.good HE.out ?_ ?_)
                · have ho := HX.out.1
                  have e9 : (ints l).set s (.int .i64 mt) = ints (l.set (⟨(s : Int), mf, mt⟩ : Mv).s.toNat mt) := by simp [ints, List.map_set]
                  rw [e9] at ho
                  exact own_base (ownsRow_setCell_below (ownsRow_setCell_below ho (by show w.heap.size + 1 + 1 < w1.heap.size; omega) _) (by show w.heap.size + 1 + 1 < w1.heap.size; omega) _) (by show w.heap.size ≤ w1.heap.size; omega)
                · exact below_setCell (below_setCell HX.out.2.below (p := ⟨w.heap.size + 1 + 1, 0, none⟩) (by show w.heap.size ≤ w.heap.size + 1 + 1; omega) _) (p := ⟨w.heap.size + 1 + 1, 1, none⟩) (by show w.heap.size ≤ w.heap.size + 1 + 1; omega) _
            · have HE := Lib.hid (doneE_none (e := e) (l := l) (m := ⟨(s : Int), mf, mt⟩) HBAD.out hf)
              have hfb : (l.getD s 0 != mf) = true := by rw [bne_iff_ne]; exact hf
              go_enter Tryd.func13, Tryd.ntmps13
              go_wp2_with fail
              rw [HW.out]
              refine HC.out.mono ?_
              rintro en w1 ⟨rfl, hb1⟩
              obtain ⟨hd1, hr1⟩ := KD.out w1 hb1
              have HD := Lib.hid hd1
              have x0 := HD.out.b0.cell (j := 0) rfl
              have x1 := HD.out.b0.cell (j := 1) rfl
              have y0 := HD.out.b1.cell (j := 0) rfl
              have y1 := HD.out.b1.cell (j := 1) rfl
              have y2 := HD.out.b1.cell (j := 2) rfl
              have r0 := HD.out.b2.cell (j := 0) rfl
              have r1 := HD.out.b2.cell (j := 1) rfl
              have f0 := HD.out.b2.frozen 0
              have f1 := HD.out.b2.frozen 1
              have xl := HD.out.b0.lt
              have yl := HD.out.b1.lt
              have rl := HD.out.b2.lt
              clear hb1 hd1
              obtain ⟨ad, rfl, hab, hcx⟩ := hr1.int_at hsn
              have hadl : (ad.add s).block < w1.heap.size := by rw [block_of_add]; have := HD.out.below.size; omega
              have HR1 := Lib.hid hr1
              clear hr1
              generalize l.getD s 0 = X at *
              go_wp2_with fail
              refine (HN.out _).mono ?_
              rintro en w2 ⟨rfl, rfl⟩
              go_wp2_with fail
              go_quiet (fail)
              go_wp2_with fail
              have rs := fun q => ((show Row (w1.drewN q) (w.heap.size + 1 + 1) 24 [.int .i64 0, .slice none 0 0] from HD.out.b2).set 0 (.int .i64 0)).set 1 (.slice none 0 0)
              have g0 := fun q => (rs q).cell (j := 0) rfl
              have g1 := fun q => (rs q).cell (j := 1) rfl
              refine bodyPost_ret (v := .tuple #[.agg #[.int .i64 0, .slice none 0 0], .int .i64 3]) (by simp [results, Tryd.results13, go_sem, g0, g1]) rfl (DonePost.bad HE.out (by decide) ?_)
              exact below_setCell (below_setCell (below_drewN HD.out.below _) (p := ⟨w.heap.size + 1 + 1, 0, none⟩) (by show w.heap.size ≤ w.heap.size + 1 + 1; omega) _) (p := ⟨w.heap.size + 1 + 1, 1, none⟩) (by show w.heap.size ≤ w.heap.size + 1 + 1; omega) _
end Go.Proofs.YtmepahlmbopacaaDoor.Ct
