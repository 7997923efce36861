/- What Done of the document's answers returns. Conditions: the chart's nodes read as a list. -/
import Derived.Test.YtmepahlmbopacaaChDoneB
import Derived.Test.YtmepahlmbopacaaChApp
import Derived.StillTailTactics
set_option linter.unusedVariables false
set_option linter.unusedSimpArgs false
set_option maxRecDepth 100000
namespace Go.Proofs.Ytmepahlmbopacaa.Ct
open Go Go.RowKit
/-- The document's chart is being laid: its box b, its nodes so far. -/
structure RD (w U : World) (b : Nat) (e : Int) (A : Option Addr) (n c : Nat) (l : List Int) (m : Mv) (v : Value) (k : Nat) (xs : List Int) : Prop where
  box : DBox w U e A n c m
  wb : w.heap.size + 3 ≤ b
  row : Row U b 24 [.int .i64 (e + 1), v]
  own : U.ownsRow (b + 1) 3 1 v k (ints xs)
  le : b + 1 ≤ U.heap.size
  rd : Reads U w.heap.size 1 A n (ints l)
structure RDn (w w3 : World) (b : Nat) (e : Int) (A : Option Addr) (n c : Nat) (l : List Int) (m : Mv) (v v' : Value) (k' : Nat) (xs' : List Int) : Prop where
  z1 : w3.frozen? ⟨b, 1, none⟩ = false
  y1 : w3.cell? ⟨b, 1, none⟩ = some v
  l3 : b < w3.heap.size
  next : RD w (w3.setCell ⟨b, 1, none⟩ v') b e A n c l m v' k' xs'
section
variable {w U w3 : World} {b : Nat} {e : Int} {A : Option Addr} {n c : Nat} {l : List Int} {m : Mv} {v v' : Value} {k k' : Nat} {xs xs' : List Int}
theorem RD.drewN (h : RD w U b e A n c l m v k xs) (q : Nat) : RD w (U.drewN q) b e A n c l m v k xs := ⟨⟨h.box.b0, h.box.b1, h.box.b2, below_drewN h.box.below q, h.box.le⟩, h.wb, h.row, h.own, h.le, h.rd⟩
theorem RD.step (h : RD w U b e A n c l m v k xs) (ho : w3.ownsRow (b + 1) 3 1 v' k' (ints xs')) (hg : U.grownBy w3 v.ownBlock) : RDn w w3 b e A n c l m v v' k' xs' := by
  have hb : Below (b + 1) U w3 := below_own h.own hg h.le
  have r3 := h.row.keep (hb.block b (by omega))
  have hb2 : Below b U (w3.setCell ⟨b, 1, none⟩ v') := below_setCell (hb.mono (Nat.le_succ b)) (p := ⟨b, 1, none⟩) (Nat.le_refl _) _
  have hwb := h.wb
  have hsz := hb.size
  have hle := h.le
  refine ⟨r3.frozen 1, r3.cell (j := 1) rfl, r3.lt, h.box.under hb2 h.wb, h.wb, r3.set 1 v', ownsRow_setCell_below ho (a := ⟨b, 1, none⟩) (by show b < b + 1; omega) v', by simp; omega, h.rd.below (hb2.mono (by omega))⟩
theorem grown_un {r : Option Nat} (h : U.drew.grownBy w3 r) : U.grownBy w3 r := ⟨h.os, h.tape, h.output, h.size, h.block⟩
end
theorem hpre {w : World} {B n k : Nat} {A : Option Addr} {l : List Int} (h : Reads w B 1 A n (ints l)) (hk : k ≤ n) : Reads w B 1 A k (ints (l.take k)) := by
  have hl := h.len
  refine ⟨by rw [ints_len, List.length_take]; omega, fun hk0 => ?_⟩
  obtain ⟨ad, e, hb, hc⟩ := h.2 (by omega)
  refine ⟨ad, e, hb, fun j u hu => hc j u ?_⟩
  unfold ints at *
  rw [List.map_take, List.getElem?_take] at hu
  split at hu
  · exact hu
  · cases hu
theorem ints_join {l : List Int} {s : Nat} {x : Int} (h : s < l.length) : ints (l.take s ++ [x]) ++ ints (l.drop (s + 1)) = ints (l.set s x) := by
  unfold ints
  rw [← List.map_append, List.set_eq_take_append_cons_drop, if_pos h, List.append_assoc]
  rfl
theorem wrap_nat {s : Nat} (h : s ≤ 1000000000000000000) : IntKind.i64.wrap ((s : Int) + 1) = (s : Int) + 1 := by rw [IntKind.wrap_i64]; omega
theorem wrap_nat2 {s : Nat} (h : s ≤ 1000000000000000000) : wrap64 ((s : Int) + 1) = (s : Int) + 1 := by unfold wrap64; omega
theorem ints_drop (l : List Int) (k : Nat) : (ints l).drop (k * 1) = ints (l.drop k) := by rw [Nat.mul_one]; simp [ints]
theorem RD.cut1 {w U : World} {b : Nat} {e : Int} {A : Option Addr} {n c : Nat} {l : List Int} {m : Mv} {v : Value} {k : Nat} {xs : List Int} (h : RD w U b e A n c l m v k xs) {s : Nat} (hs : s + 1 ≤ n) (hnc : n ≤ c) (hcs : c = s + 1) : Reads (U.drewN 1) w.heap.size 1 A (n - (s + 1)) (ints (l.drop (s + 1))) := by
  have := h.rd.cut (k := s + 1) hs hnc
  rw [ints_drop, if_pos hcs] at this
  exact this
theorem RD.cut2 {w U : World} {b : Nat} {e : Int} {ad : Addr} {n c : Nat} {l : List Int} {m : Mv} {v : Value} {k : Nat} {xs : List Int} (h : RD w U b e (some ad) n c l m v k xs) {s : Nat} (hs : s + 1 ≤ n) (hnc : n ≤ c) (hcs : ¬ c = s + 1) : Reads (U.drewN 1) w.heap.size 1 (some ⟨ad.block, ad.off + (s + 1), none⟩) (n - (s + 1)) (ints (l.drop (s + 1))) := by
  have := h.rd.cut (k := s + 1) hs hnc
  rw [ints_drop, if_neg hcs, Nat.mul_one] at this
  have e : ad.add (s + 1) = ⟨ad.block, ad.off + (s + 1), none⟩ := by unfold Addr.add; rw [if_neg (by omega)]
  rw [← e]
  exact this
set_option maxHeartbeats 8000000 in
theorem rdone_any {w : World} {B : Nat} {A : Option Addr} {n c : Nat} {l : List Int} (e : Int) (hR : Reads w B 1 A n (ints l)) (hB : B ≤ w.heap.size) (m : Mv) (hnc : n ≤ c) (hc : c ≤ maxLen) :
    Calls Try.prog 10 #[.agg #[.int .i64 e, .slice A n c], .agg #[.int .i64 m.s, .int .i64 m.f, .int .i64 m.t]] w (DonePost e l m w) := by
  have hln := hR.len
  have hB0 := DBox.new w e A n c m
  generalize hW : ((w.alloc (.cells #[.int .i64 e, .slice A n c] 24)).alloc (.cells #[.int .i64 m.s, .int .i64 m.f, .int .i64 m.t] 26)).alloc (.cells #[.int .i64 0, .slice none 0 0] 24) = W at *
  have HW := Lib.hid hW
  have hRW := (hR.more hB).below hB0.below
  have HC := Lib.hid (may_any (c := c) e hRW hB0.below.size (Nat.le_trans hnc hc))
  have KD := Lib.hid (fun w1 (hb : Below W.heap.size W w1) => And.intro (hB0.under hb hB0.le) (hRW.below (hb.mono hB0.below.size)))
  have HL := Lib.hid hln
  obtain ⟨ms, mf, mt⟩ := m
  simp only at hW hB0 HW KD ⊢
  have hsml : mayC e l = true → 1 ≤ n ∧ n ≤ 16 ∧ 1 ≤ e ∧ e ≤ 1099511627776 := fun h => by rw [mayC_iff] at h; omega
  clear hW hB0 hRW hR hB hln
  by_cases hmay : mayC e l = false
  · have HE := Lib.hid (doneE_bad (e := e) (l := l) (m := ⟨ms, mf, mt⟩) (.inl hmay))
    rw [hmay] at HC
    clear hmay hsml
    go_enter Try.func10, Try.ntmps10
    go_wp2_with fail
    rw [HW.out]
    refine HC.out.mono ?_
    rintro en w1 ⟨rfl, hb1⟩
    obtain ⟨hd1, hr1⟩ := KD.out w1 hb1
    have HD := Lib.hid hd1
    have x0 := HD.out.b0.cell (j := 0) rfl
    have x1 := HD.out.b0.cell (j := 1) rfl
    have y0 := HD.out.b1.cell (j := 0) rfl
    have y1 := HD.out.b1.cell (j := 1) rfl
    have y2 := HD.out.b1.cell (j := 2) rfl
    have r0 := HD.out.b2.cell (j := 0) rfl
    have r1 := HD.out.b2.cell (j := 1) rfl
    have f0 := HD.out.b2.frozen 0
    have f1 := HD.out.b2.frozen 1
    have xl := HD.out.b0.lt
    have yl := HD.out.b1.lt
    have rl := HD.out.b2.lt
    clear hb1 hd1 hr1
    go_wp2_with fail
    have rs := (HD.out.b2.set 0 (.int .i64 0)).set 1 (.slice none 0 0)
    have g0 := rs.cell (j := 0) rfl
    have g1 := rs.cell (j := 1) rfl
    refine bodyPost_ret (v := .tuple #[.agg #[.int .i64 0, .slice none 0 0], .int .i64 1]) (by simp [results, Try.results10, go_sem, g0, g1]) rfl (DonePost.bad HE.out (by decide) ?_)
    exact below_setCell (below_setCell HD.out.below (by show w.heap.size ≤ w.heap.size + 1 + 1; omega) _) (by show w.heap.size ≤ w.heap.size + 1 + 1; omega) _
  · rw [Bool.not_eq_false] at hmay
    obtain ⟨n1, n16, e1, e2⟩ := hsml hmay
    have HM := Lib.hid hmay
    rw [hmay] at HC
    clear hmay hsml
    by_cases hz : ms < 0
    · have HE := Lib.hid (doneE_bad (e := e) (l := l) (m := ⟨ms, mf, mt⟩) (.inr (.inl hz)))
      go_enter Try.func10, Try.ntmps10
      go_wp2_with fail
      rw [HW.out]
      refine HC.out.mono ?_
      rintro en w1 ⟨rfl, hb1⟩
      obtain ⟨hd1, hr1⟩ := KD.out w1 hb1
      have HD := Lib.hid hd1
      have x0 := HD.out.b0.cell (j := 0) rfl
      have x1 := HD.out.b0.cell (j := 1) rfl
      have y0 := HD.out.b1.cell (j := 0) rfl
      have y1 := HD.out.b1.cell (j := 1) rfl
      have y2 := HD.out.b1.cell (j := 2) rfl
      have r0 := HD.out.b2.cell (j := 0) rfl
      have r1 := HD.out.b2.cell (j := 1) rfl
      have f0 := HD.out.b2.frozen 0
      have f1 := HD.out.b2.frozen 1
      have xl := HD.out.b0.lt
      have yl := HD.out.b1.lt
      have rl := HD.out.b2.lt
      clear hb1 hd1 hr1
      go_wp2_with fail
      have rs := (HD.out.b2.set 0 (.int .i64 0)).set 1 (.slice none 0 0)
      have g0 := rs.cell (j := 0) rfl
      have g1 := rs.cell (j := 1) rfl
      refine bodyPost_ret (v := .tuple #[.agg #[.int .i64 0, .slice none 0 0], .int .i64 1]) (by simp [results, Try.results10, go_sem, g0, g1]) rfl (DonePost.bad HE.out (by decide) ?_)
      exact below_setCell (below_setCell HD.out.below (by show w.heap.size ≤ w.heap.size + 1 + 1; omega) _) (by show w.heap.size ≤ w.heap.size + 1 + 1; omega) _
    · have s0 : 0 ≤ ms := by omega
      by_cases hz : (n : Int) ≤ ms
      · have HE := Lib.hid (doneE_bad (e := e) (l := l) (m := ⟨ms, mf, mt⟩) (.inr (.inr (.inl (by have := HL.out; simp only; omega)))))
        go_enter Try.func10, Try.ntmps10
        go_wp2_with fail
        rw [HW.out]
        refine HC.out.mono ?_
        rintro en w1 ⟨rfl, hb1⟩
        obtain ⟨hd1, hr1⟩ := KD.out w1 hb1
        have HD := Lib.hid hd1
        have x0 := HD.out.b0.cell (j := 0) rfl
        have x1 := HD.out.b0.cell (j := 1) rfl
        have y0 := HD.out.b1.cell (j := 0) rfl
        have y1 := HD.out.b1.cell (j := 1) rfl
        have y2 := HD.out.b1.cell (j := 2) rfl
        have r0 := HD.out.b2.cell (j := 0) rfl
        have r1 := HD.out.b2.cell (j := 1) rfl
        have f0 := HD.out.b2.frozen 0
        have f1 := HD.out.b2.frozen 1
        have xl := HD.out.b0.lt
        have yl := HD.out.b1.lt
        have rl := HD.out.b2.lt
        clear hb1 hd1 hr1
        go_wp2_with fail
        have rs := (HD.out.b2.set 0 (.int .i64 0)).set 1 (.slice none 0 0)
        have g0 := rs.cell (j := 0) rfl
        have g1 := rs.cell (j := 1) rfl
        refine bodyPost_ret (v := .tuple #[.agg #[.int .i64 0, .slice none 0 0], .int .i64 1]) (by simp [results, Try.results10, go_sem, g0, g1]) rfl (DonePost.bad HE.out (by decide) ?_)
        exact below_setCell (below_setCell HD.out.below (by show w.heap.size ≤ w.heap.size + 1 + 1; omega) _) (by show w.heap.size ≤ w.heap.size + 1 + 1; omega) _
      · have s1 : ms < (n : Int) := by omega
        by_cases hz : mt < 0
        · have HE := Lib.hid (doneE_bad (e := e) (l := l) (m := ⟨ms, mf, mt⟩) (.inr (.inr (.inr (.inl (by unfold nodeC; simp; omega))))))
          go_enter Try.func10, Try.ntmps10
          go_wp2_with fail
          rw [HW.out]
          refine HC.out.mono ?_
          rintro en w1 ⟨rfl, hb1⟩
          obtain ⟨hd1, hr1⟩ := KD.out w1 hb1
          have HD := Lib.hid hd1
          have x0 := HD.out.b0.cell (j := 0) rfl
          have x1 := HD.out.b0.cell (j := 1) rfl
          have y0 := HD.out.b1.cell (j := 0) rfl
          have y1 := HD.out.b1.cell (j := 1) rfl
          have y2 := HD.out.b1.cell (j := 2) rfl
          have r0 := HD.out.b2.cell (j := 0) rfl
          have r1 := HD.out.b2.cell (j := 1) rfl
          have f0 := HD.out.b2.frozen 0
          have f1 := HD.out.b2.frozen 1
          have xl := HD.out.b0.lt
          have yl := HD.out.b1.lt
          have rl := HD.out.b2.lt
          clear hb1 hd1 hr1
          go_wp2_with fail
          have rs := (HD.out.b2.set 0 (.int .i64 0)).set 1 (.slice none 0 0)
          have g0 := rs.cell (j := 0) rfl
          have g1 := rs.cell (j := 1) rfl
          refine bodyPost_ret (v := .tuple #[.agg #[.int .i64 0, .slice none 0 0], .int .i64 1]) (by simp [results, Try.results10, go_sem, g0, g1]) rfl (DonePost.bad HE.out (by decide) ?_)
          exact below_setCell (below_setCell HD.out.below (by show w.heap.size ≤ w.heap.size + 1 + 1; omega) _) (by show w.heap.size ≤ w.heap.size + 1 + 1; omega) _
        · have HZ0 := Lib.hid hz
          by_cases hz : 7 < mt
          · have HE := Lib.hid (doneE_bad (e := e) (l := l) (m := ⟨ms, mf, mt⟩) (.inr (.inr (.inr (.inl (by unfold nodeC; simp; omega))))))
            go_enter Try.func10, Try.ntmps10
            go_wp2_with fail
            rw [HW.out]
            refine HC.out.mono ?_
            rintro en w1 ⟨rfl, hb1⟩
            obtain ⟨hd1, hr1⟩ := KD.out w1 hb1
            have HD := Lib.hid hd1
            have x0 := HD.out.b0.cell (j := 0) rfl
            have x1 := HD.out.b0.cell (j := 1) rfl
            have y0 := HD.out.b1.cell (j := 0) rfl
            have y1 := HD.out.b1.cell (j := 1) rfl
            have y2 := HD.out.b1.cell (j := 2) rfl
            have r0 := HD.out.b2.cell (j := 0) rfl
            have r1 := HD.out.b2.cell (j := 1) rfl
            have f0 := HD.out.b2.frozen 0
            have f1 := HD.out.b2.frozen 1
            have xl := HD.out.b0.lt
            have yl := HD.out.b1.lt
            have rl := HD.out.b2.lt
            clear hb1 hd1 hr1
            go_wp2_with fail
            have rs := (HD.out.b2.set 0 (.int .i64 0)).set 1 (.slice none 0 0)
            have g0 := rs.cell (j := 0) rfl
            have g1 := rs.cell (j := 1) rfl
            refine bodyPost_ret (v := .tuple #[.agg #[.int .i64 0, .slice none 0 0], .int .i64 1]) (by simp [results, Try.results10, go_sem, g0, g1]) rfl (DonePost.bad HE.out (by decide) ?_)
            exact below_setCell (below_setCell HD.out.below (by show w.heap.size ≤ w.heap.size + 1 + 1; omega) _) (by show w.heap.size ≤ w.heap.size + 1 + 1; omega) _
          · have HZ1 := Lib.hid hz
            have hno : nodeC mt = true := by unfold nodeC; simp; have := HZ0.out; have := HZ1.out; omega
            have hz0 := HZ0.out
            by_cases hz : mt = mf
            · have HE := Lib.hid (doneE_bad (e := e) (l := l) (m := ⟨ms, mf, mt⟩) (.inr (.inr (.inr (.inr hz)))))
              have HNO := Lib.hid hno
              clear hno
              subst hz
              go_enter Try.func10, Try.ntmps10
              go_wp2_with fail
              rw [HW.out]
              refine HC.out.mono ?_
              rintro en w1 ⟨rfl, hb1⟩
              obtain ⟨hd1, hr1⟩ := KD.out w1 hb1
              have HD := Lib.hid hd1
              have x0 := HD.out.b0.cell (j := 0) rfl
              have x1 := HD.out.b0.cell (j := 1) rfl
              have y0 := HD.out.b1.cell (j := 0) rfl
              have y1 := HD.out.b1.cell (j := 1) rfl
              have y2 := HD.out.b1.cell (j := 2) rfl
              have r0 := HD.out.b2.cell (j := 0) rfl
              have r1 := HD.out.b2.cell (j := 1) rfl
              have f0 := HD.out.b2.frozen 0
              have f1 := HD.out.b2.frozen 1
              have xl := HD.out.b0.lt
              have yl := HD.out.b1.lt
              have rl := HD.out.b2.lt
              clear hb1 hd1 hr1
              go_wp2_with fail
              have rs := (HD.out.b2.set 0 (.int .i64 0)).set 1 (.slice none 0 0)
              have g0 := rs.cell (j := 0) rfl
              have g1 := rs.cell (j := 1) rfl
              refine bodyPost_ret (v := .tuple #[.agg #[.int .i64 0, .slice none 0 0], .int .i64 1]) (by simp [results, Try.results10, go_sem, g0, g1]) rfl (DonePost.bad HE.out (by decide) ?_)
              exact below_setCell (below_setCell HD.out.below (by show w.heap.size ≤ w.heap.size + 1 + 1; omega) _) (by show w.heap.size ≤ w.heap.size + 1 + 1; omega) _
            · have HBAD := Lib.hid (show ¬ (mayC e l = false ∨ (⟨ms, mf, mt⟩ : Mv).s < 0 ∨ (l.length : Int) ≤ (⟨ms, mf, mt⟩ : Mv).s ∨ nodeC (⟨ms, mf, mt⟩ : Mv).t = false ∨ (⟨ms, mf, mt⟩ : Mv).t = (⟨ms, mf, mt⟩ : Mv).f) from by rw [HM.out]; have := HL.out; simp [hno, hz]; omega)
              have HNO := Lib.hid hno
              clear hno
              have q2 : (mt == mf) = false := by rw [beq_eq_false_iff_ne]; exact hz
              obtain ⟨s, rfl⟩ : ∃ s : Nat, ms = (s : Int) := ⟨ms.toNat, by omega⟩
              have hsn : s < n := by omega
              have q0 : ¬ (s : Int) < 0 := by omega
              have q1 : ¬ n ≤ s := by omega
              have q3 : ¬ (n : Int) ≤ (s : Int) := by omega
              by_cases hf : l.getD s 0 = mf
              · by_cases he : e = 1099511627776
                · have HE := Lib.hid (doneE_epoch (e := e) (l := l) (m := ⟨(s : Int), mf, mt⟩) HBAD.out hf he)
                  subst he
                  go_enter Try.func10, Try.ntmps10
                  go_wp2_with fail
                  rw [HW.out]
                  refine HC.out.mono ?_
                  rintro en w1 ⟨rfl, hb1⟩
                  obtain ⟨hd1, hr1⟩ := KD.out w1 hb1
                  have HD := Lib.hid hd1
                  have x0 := HD.out.b0.cell (j := 0) rfl
                  have x1 := HD.out.b0.cell (j := 1) rfl
                  have y0 := HD.out.b1.cell (j := 0) rfl
                  have y1 := HD.out.b1.cell (j := 1) rfl
                  have y2 := HD.out.b1.cell (j := 2) rfl
                  have r0 := HD.out.b2.cell (j := 0) rfl
                  have r1 := HD.out.b2.cell (j := 1) rfl
                  have f0 := HD.out.b2.frozen 0
                  have f1 := HD.out.b2.frozen 1
                  have xl := HD.out.b0.lt
                  have yl := HD.out.b1.lt
                  have rl := HD.out.b2.lt
                  clear hb1 hd1
                  obtain ⟨ad, rfl, hab, hcx⟩ := hr1.int_at hsn
                  have hadl : (ad.add s).block < w1.heap.size := by rw [block_of_add]; have := HD.out.below.size; omega
                  have HR1 := Lib.hid hr1
                  rw [hf] at hcx
                  clear hr1
                  go_wp2_with fail
                  go_quiet (fail)
                  go_wp2_with fail
                  have rs := fun q => ((show Row (w1.drewN q) (w.heap.size + 1 + 1) 24 [.int .i64 0, .slice none 0 0] from HD.out.b2).set 0 (.int .i64 0)).set 1 (.slice none 0 0)
                  have g0 := fun q => (rs q).cell (j := 0) rfl
                  have g1 := fun q => (rs q).cell (j := 1) rfl
                  refine bodyPost_ret (v := .tuple #[.agg #[.int .i64 0, .slice none 0 0], .int .i64 101]) (by simp [results, Try.results10, go_sem, g0, g1]) rfl (DonePost.bad HE.out (by decide) ?_)
                  exact below_setCell (below_setCell (below_drewN HD.out.below _) (p := ⟨w.heap.size + 1 + 1, 0, none⟩) (by show w.heap.size ≤ w.heap.size + 1 + 1; omega) _) (p := ⟨w.heap.size + 1 + 1, 1, none⟩) (by show w.heap.size ≤ w.heap.size + 1 + 1; omega) _
                · have HE := Lib.hid (doneE_fine (e := e) (l := l) (m := ⟨(s : Int), mf, mt⟩) HBAD.out hf he)
                  go_enter Try.func10, Try.ntmps10
                  go_wp2_with fail
                  rw [HW.out]
                  refine HC.out.mono ?_
                  rintro en w1 ⟨rfl, hb1⟩
                  obtain ⟨hd1, hr1⟩ := KD.out w1 hb1
                  have HD := Lib.hid hd1
                  have x0 := HD.out.b0.cell (j := 0) rfl
                  have x1 := HD.out.b0.cell (j := 1) rfl
                  have y0 := HD.out.b1.cell (j := 0) rfl
                  have y1 := HD.out.b1.cell (j := 1) rfl
                  have y2 := HD.out.b1.cell (j := 2) rfl
                  have r0 := HD.out.b2.cell (j := 0) rfl
                  have r1 := HD.out.b2.cell (j := 1) rfl
                  have f0 := HD.out.b2.frozen 0
                  have f1 := HD.out.b2.frozen 1
                  have xl := HD.out.b0.lt
                  have yl := HD.out.b1.lt
                  have rl := HD.out.b2.lt
                  clear hb1 hd1
                  obtain ⟨ad, rfl, hab, hcx⟩ := hr1.int_at hsn
                  have hadl : (ad.add s).block < w1.heap.size := by rw [block_of_add]; have := HD.out.below.size; omega
                  have HR1 := Lib.hid hr1
                  rw [hf] at hcx
                  clear hr1
                  go_wp2_with fail
                  go_still_tail 8, (by kernel_rfl)
                  change wpList _ _ _ _ _ w1.drew
                  have hd2 : DBox w w1.drew e (some ad) n c ⟨(s : Int), mf, mt⟩ := ⟨HD.out.b0, HD.out.b1, HD.out.b2, below_drewN HD.out.below 1, HD.out.le⟩
                  have hr2 : Reads w1.drew w.heap.size 1 (some ad) n (ints l) := HR1.out
                  clear x0 x1 y0 y1 y2 r0 r1 f0 f1 xl yl rl hab hcx hadl HR1 HD
                  generalize w1.drew = w2 at *
                  have hsz2 := hd2.le
                  obtain ⟨U0, hU0⟩ : ∃ U0, U0 = w2.alloc (.cells #[.int .i64 (e + 1), .slice none 0 0] 24) := ⟨_, rfl⟩
                  have hb2 : Below w2.heap.size w2 U0 := by rw [hU0]; exact (Below.refl _ w2).alloc (Nat.le_refl _) _
                  have hrow : Row U0 w2.heap.size 24 [.int .i64 (e + 1), .slice none 0 0] := by
                    rw [hU0]
                    exact Row.new w2 24 [.int .i64 (e + 1), .slice none 0 0]
                  have hRD : RD w U0 w2.heap.size e (some ad) n c l ⟨(s : Int), mf, mt⟩ (.slice none 0 0) 0 [] := ⟨hd2.under hb2 hd2.le, hd2.le, hrow, World.ownsRow_nil .., hrow.lt, hr2.below (hb2.mono (by omega))⟩
                  have x0 := hd2.b0.cell (j := 0) rfl
                  have xl := hd2.b0.lt
                  have u1 := hRD.row.cell (j := 1) rfl
                  have ux1 := hRD.box.b0.cell (j := 1) rfl
                  have uy0 := hRD.box.b1.cell (j := 0) rfl
                  have ul := hRD.row.lt
                  have uxl := hRD.box.b0.lt
                  have uyl := hRD.box.b1.lt
                  have ubs := hRD.le
                  have HU0 := Lib.hid hU0
                  have KU := Lib.hid hRD
                  have HP := Lib.hid (hpre (hRD.rd.drewN 1) (show s ≤ n by omega))
                  have hez2 : wrap64 (e + 1) = e + 1 := by unfold wrap64; omega
                  have qsc : s ≤ c := by omega
                  obtain ⟨i0, hi, hz0, hz1, hz2⟩ := info_parts int_row
                  have HSB := Lib.hid hsz2
                  clear hd2 hr2 hU0 hb2 hrow hRD hsz2
                  go_wp2_with fail
                  rw [← HU0.out]
                  go_still_tail 7, (by kernel_rfl)
                  change wpList _ _ _ _ _ U0.drew
                  go_wp2_with (first
                    | (at_builtin; refine wpList_append_any _ rfl (.tmp 60) (.tmp 65) 22 rfl (w2.heap.size + 1) 3 i0 (.int .i64 0) 1 8 Try.underlying22 hi hz0 hz1 hz2 rfl (by decide) (.slice none 0 0) 0 [] rfl (World.ownsRow_nil ..) w.heap.size (some ad) s c (ints (l.take s)) rfl HP.out (ints_one _) (by unfold maxLen; omega) (by omega) ubs ?_; intro v' w3 hown3 hgr3 _; rw [Nat.zero_add, List.nil_append] at hown3; obtain ⟨A1, c1, rfl, q11, q12⟩ := own_shape hown3; have HX := Lib.hid (KU.out.step hown3 (grown_un hgr3)); have xz1 := HX.out.z1; have xy1 := HX.out.y1; have xl3 := HX.out.l3; have xc1 := HX.out.next.row.cell (j := 1) rfl; have xt2 := HX.out.next.box.b1.cell (j := 2) rfl; have xrl := HX.out.next.row.lt; have xbl := HX.out.next.box.b1.lt; have xbs := HX.out.next.le; clear hown3 hgr3)
                    | (at_builtin; refine append_int rfl (.tmp 69) (.tmp 72) rfl (w2.heap.size + 1) (.slice A1 s c1) s (ints (l.take s)) mt rfl HX.out.next.own _ (by simp) rfl (by omega) xbs ?_; intro v2 w4 hown4 hgr4; obtain ⟨A2, c2, rfl, q21, q22⟩ := own_shape hown4; rw [ints_snoc] at hown4; have HX2 := Lib.hid (HX.out.next.step hown4 hgr4); have yz1 := HX2.out.z1; have yy1 := HX2.out.y1; have yl3 := HX2.out.l3; clear hown4 hgr4))
                  obtain ⟨U2, hU2⟩ : ∃ U2, U2 = w4.setCell ⟨w2.heap.size, 1, none⟩ (.slice A2 (s + 1) c2) := ⟨_, rfl⟩
                  have hn2 : RD w U2 w2.heap.size e (some ad) n c l ⟨(s : Int), mf, mt⟩ (.slice A2 (s + 1) c2) (s + 1) (l.take s ++ [mt]) := by
                    rw [hU2]
                    exact HX2.out.next
                  rw [← hU2]
                  have yc1 := hn2.row.cell (j := 1) rfl
                  have yt0 := hn2.box.b1.cell (j := 0) rfl
                  have yt1 := hn2.box.b0.cell (j := 1) rfl
                  have yrl := hn2.row.lt
                  have ybl := hn2.box.b1.lt
                  have ybl0 := hn2.box.b0.lt
                  have ybs := hn2.le
                  have HN2 := Lib.hid hn2
                  clear hU2 hn2 yz1 yy1 yl3 xz1 xy1 xl3 xc1 xt2 xrl xbl xbs u1 ux1 uy0 ul uxl uyl ubs x0 xl
                  have ys1 : s + 1 ≤ n := by omega
                  have ys2 : s + 1 ≤ c := by omega
                  have ysz2 : ((s : Int) + 1) ≤ (n : Int) := by omega
                  have yw2 := wrap_nat (s := s) (by unfold maxLen at hc; omega)
                  have yw3 : (0 : Int) ≤ (s : Int) + 1 := by omega
                  by_cases hcs : c = s + 1
                  · have HQ2 := Lib.hid (HN2.out.cut1 ys1 hnc hcs)
                    go_still_tail 8, (by kernel_rfl)
                    change wpList _ _ _ _ _ U2.drew
                    go_wp2_with (at_builtin; refine wpList_append_any _ rfl (.tmp 76) (.tmp 82) 22 rfl (w2.heap.size + 1) 3 i0 (.int .i64 0) 1 8 Try.underlying22 hi hz0 hz1 hz2 rfl (by decide) (.slice A2 (s + 1) c2) (s + 1) (ints (l.take s ++ [mt])) rfl HN2.out.own w.heap.size (some ad) (n - (s + 1)) _ (ints (l.drop (s + 1))) rfl HQ2.out (ints_one _) (by unfold maxLen; omega) (by omega) ybs ?_; intro v3 w5 hown5 hgr5 _; rw [show s + 1 + (n - (s + 1)) = n by omega] at hown5; obtain ⟨A3, c3, rfl, q31, q32⟩ := own_shape hown5; rw [ints_join (by have := HL.out; omega)] at hown5; have HX3 := Lib.hid (HN2.out.step hown5 (grown_un hgr5)); have vz1 := HX3.out.z1; have vy1 := HX3.out.y1; have vl3 := HX3.out.l3; have vc0 := HX3.out.next.row.cell (j := 0) rfl; have vc1 := HX3.out.next.row.cell (j := 1) rfl; have vrl := HX3.out.next.row.lt; have vf0 := HX3.out.next.box.b2.frozen 0; have vf1 := HX3.out.next.box.b2.frozen 1; have vb0 := HX3.out.next.box.b2.cell (j := 0) rfl; have vb1 := HX3.out.next.box.b2.cell (j := 1) rfl; have vbl := HX3.out.next.box.b2.lt; clear hown5 hgr5)
                    have rs := (HX3.out.next.box.b2.set 0 (.int .i64 (e + 1))).set 1 (.slice A3 n c3)
                    have g0 := rs.cell (j := 0) rfl
                    have g1 := rs.cell (j := 1) rfl
                    refine bodyPost_ret (v := .tuple #[.agg #[.int .i64 (e + 1), .slice A3 n c3], .int .i64 0]) (by simp [results, Try.results10, go_sem, g0, g1]) rfl (DonePost.good HE.out ?_ ?_)
                    · have ho := HX3.out.next.own
                      have hsb := HSB.out
                      exact own_base (ownsRow_setCell_below (ownsRow_setCell_below ho (by show w.heap.size + 1 + 1 < w2.heap.size + 1; omega) _) (by show w.heap.size + 1 + 1 < w2.heap.size + 1; omega) _) (by show w.heap.size ≤ w2.heap.size + 1; omega)
                    · exact below_setCell (below_setCell HX3.out.next.box.below (p := ⟨w.heap.size + 1 + 1, 0, none⟩) (by show w.heap.size ≤ w.heap.size + 1 + 1; omega) _) (p := ⟨w.heap.size + 1 + 1, 1, none⟩) (by show w.heap.size ≤ w.heap.size + 1 + 1; omega) _
                  · have HQ2 := Lib.hid (HN2.out.cut2 ys1 hnc hcs)
                    go_still_tail 8, (by kernel_rfl)
                    change wpList _ _ _ _ _ U2.drew
                    go_wp2_with (at_builtin; refine wpList_append_any _ rfl (.tmp 76) (.tmp 82) 22 rfl (w2.heap.size + 1) 3 i0 (.int .i64 0) 1 8 Try.underlying22 hi hz0 hz1 hz2 rfl (by decide) (.slice A2 (s + 1) c2) (s + 1) (ints (l.take s ++ [mt])) rfl HN2.out.own w.heap.size (some ⟨ad.block, ad.off + (s + 1), none⟩) (n - (s + 1)) _ (ints (l.drop (s + 1))) rfl HQ2.out (ints_one _) (by unfold maxLen; omega) (by omega) ybs ?_; intro v3 w5 hown5 hgr5 _; rw [show s + 1 + (n - (s + 1)) = n by omega] at hown5; obtain ⟨A3, c3, rfl, q31, q32⟩ := own_shape hown5; rw [ints_join (by have := HL.out; omega)] at hown5; have HX3 := Lib.hid (HN2.out.step hown5 (grown_un hgr5)); have vz1 := HX3.out.z1; have vy1 := HX3.out.y1; have vl3 := HX3.out.l3; have vc0 := HX3.out.next.row.cell (j := 0) rfl; have vc1 := HX3.out.next.row.cell (j := 1) rfl; have vrl := HX3.out.next.row.lt; have vf0 := HX3.out.next.box.b2.frozen 0; have vf1 := HX3.out.next.box.b2.frozen 1; have vb0 := HX3.out.next.box.b2.cell (j := 0) rfl; have vb1 := HX3.out.next.box.b2.cell (j := 1) rfl; have vbl := HX3.out.next.box.b2.lt; clear hown5 hgr5)
                    have rs := (HX3.out.next.box.b2.set 0 (.int .i64 (e + 1))).set 1 (.slice A3 n c3)
                    have g0 := rs.cell (j := 0) rfl
                    have g1 := rs.cell (j := 1) rfl
                    refine bodyPost_ret (v := .tuple #[.agg #[.int .i64 (e + 1), .slice A3 n c3], .int .i64 0]) (by simp [results, Try.results10, go_sem, g0, g1]) rfl (DonePost.good HE.out ?_ ?_)
                    · have ho := HX3.out.next.own
                      have hsb := HSB.out
                      exact own_base (ownsRow_setCell_below (ownsRow_setCell_below ho (by show w.heap.size + 1 + 1 < w2.heap.size + 1; omega) _) (by show w.heap.size + 1 + 1 < w2.heap.size + 1; omega) _) (by show w.heap.size ≤ w2.heap.size + 1; omega)
                    · exact below_setCell (below_setCell HX3.out.next.box.below (p := ⟨w.heap.size + 1 + 1, 0, none⟩) (by show w.heap.size ≤ w.heap.size + 1 + 1; omega) _) (p := ⟨w.heap.size + 1 + 1, 1, none⟩) (by show w.heap.size ≤ w.heap.size + 1 + 1; omega) _
              · have HE := Lib.hid (doneE_none (e := e) (l := l) (m := ⟨(s : Int), mf, mt⟩) HBAD.out hf)
                have hfb : (l.getD s 0 != mf) = true := by rw [bne_iff_ne]; exact hf
                go_enter Try.func10, Try.ntmps10
                go_wp2_with fail
                rw [HW.out]
                refine HC.out.mono ?_
                rintro en w1 ⟨rfl, hb1⟩
                obtain ⟨hd1, hr1⟩ := KD.out w1 hb1
                have HD := Lib.hid hd1
                have x0 := HD.out.b0.cell (j := 0) rfl
                have x1 := HD.out.b0.cell (j := 1) rfl
                have y0 := HD.out.b1.cell (j := 0) rfl
                have y1 := HD.out.b1.cell (j := 1) rfl
                have y2 := HD.out.b1.cell (j := 2) rfl
                have r0 := HD.out.b2.cell (j := 0) rfl
                have r1 := HD.out.b2.cell (j := 1) rfl
                have f0 := HD.out.b2.frozen 0
                have f1 := HD.out.b2.frozen 1
                have xl := HD.out.b0.lt
                have yl := HD.out.b1.lt
                have rl := HD.out.b2.lt
                clear hb1 hd1
                obtain ⟨ad, rfl, hab, hcx⟩ := hr1.int_at hsn
                have hadl : (ad.add s).block < w1.heap.size := by rw [block_of_add]; have := HD.out.below.size; omega
                have HR1 := Lib.hid hr1
                clear hr1
                generalize l.getD s 0 = X at *
                go_wp2_with fail
                go_quiet (fail)
                go_wp2_with fail
                have rs := fun q => ((show Row (w1.drewN q) (w.heap.size + 1 + 1) 24 [.int .i64 0, .slice none 0 0] from HD.out.b2).set 0 (.int .i64 0)).set 1 (.slice none 0 0)
                have g0 := fun q => (rs q).cell (j := 0) rfl
                have g1 := fun q => (rs q).cell (j := 1) rfl
                refine bodyPost_ret (v := .tuple #[.agg #[.int .i64 0, .slice none 0 0], .int .i64 3]) (by simp [results, Try.results10, go_sem, g0, g1]) rfl (DonePost.bad HE.out (by decide) ?_)
                exact below_setCell (below_setCell (below_drewN HD.out.below _) (p := ⟨w.heap.size + 1 + 1, 0, none⟩) (by show w.heap.size ≤ w.heap.size + 1 + 1; omega) _) (p := ⟨w.heap.size + 1 + 1, 1, none⟩) (by show w.heap.size ≤ w.heap.size + 1 + 1; omega) _
end Go.Proofs.Ytmepahlmbopacaa.Ct
