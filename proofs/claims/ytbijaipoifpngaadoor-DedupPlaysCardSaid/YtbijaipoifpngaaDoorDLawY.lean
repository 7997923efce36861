/- DedupPlays: its walk. Conditions: the calls read as they came; Go's table of powers of ten lies below. -/
import Derived.Test.YtbijaipoifpngaaDoorDLawB
import Derived.Test.YtbijaipoifpngaaDoorDOpenO
import Derived.Test.YtbijaipoifpngaaDoorDRText
import Derived.Test.YtbijaipoifpngaaDoorDRefF
set_option linter.unusedVariables false
set_option linter.unusedSimpArgs false
set_option maxRecDepth 100000
namespace Go.Proofs.YtbijaipoifpngaaDoor.Be
open Go Go.RowKit
/-- The table, and the document's, that is the same. -/
structure PY (w wr : World) (b p : Nat) (q : List E) : Prop where
  st : BSt w wr p q
  tv : TabV wr b q
  ne : p ≠ b
  bw : w.heap.size ≤ b
theorem PY.on {w w1 w2 : World} {b p : Nat} {q : List E} (h : PY w w1 b p q) (hb : Below w1.heap.size w1 w2) : PY w w2 b p q := ⟨h.st.on hb, h.tv.on hb, h.ne, h.bw⟩
/-- Both, and a call. -/
structure PZ (w W : World) (b p o : Nat) (q : List E) (k c s e : Int) (d : Bool) (A : Option Addr) (n m : Nat) : Prop where
  py : PY w W b p q
  op : Row W o 34 [.int .i64 k, .int .i64 c, .int .i64 s, .int .i64 e, .bool d, .slice A n m]
theorem PZ.on {w w1 w2 : World} {b p o : Nat} {q : List E} {k c s e : Int} {d : Bool} {A : Option Addr} {n m : Nat} (h : PZ w w1 b p o q k c s e d A n m) (hb : Below w1.heap.size w1 w2) : PZ w w2 b p o q k c s e d A n m := ⟨h.py.on hb, h.op.on hb⟩
def OCells (W : World) (o : Nat) (k c s e : Int) (d : Bool) (A : Option Addr) (n m : Nat) : Prop := W.cell? ⟨o, 0, none⟩ = some (.int .i64 k) ∧ W.cell? ⟨o, 1, none⟩ = some (.int .i64 c) ∧ W.cell? ⟨o, 2, none⟩ = some (.int .i64 s) ∧ W.cell? ⟨o, 3, none⟩ = some (.int .i64 e) ∧ W.cell? ⟨o, 4, none⟩ = some (.bool d) ∧ W.cell? ⟨o, 5, none⟩ = some (.slice A n m) ∧ o < W.heap.size
theorem PZ.cells {w W : World} {b p o : Nat} {q : List E} {k c s e : Int} {d : Bool} {A : Option Addr} {n m : Nat} (h : PZ w W b p o q k c s e d A n m) : OCells W o k c s e d A n m :=
  ⟨h.op.cell rfl, h.op.cell rfl, h.op.cell rfl, h.op.cell rfl, h.op.cell rfl, h.op.cell rfl, h.op.lt⟩
theorem PY.put {w w1 w2 w3 : World} {b p : Nat} {q q' : List E} (h : PY w w1 b p q) (ht : TabAt w2 p q') (hg : w1.grownBy w2 (some p)) (hv : TabV w3 b q') (hg3 : w2.grownBy w3 (some b)) : PY w w3 b p q' := by
  have h2 := h.st.to ht hg
  refine ⟨⟨ht.keep (grown_keep hg3 ht.row.lt h.ne), h2.bel.grown hg3 h2.bel.size (fun g e => by injection e with e; subst e; exact h.bw), h2.pw⟩, hv, h.ne, h.bw⟩
theorem yields_tab {o : Oper} {ρ : Operand → Value} {b : Nat} {q : List E} {w : World} (h : TabV w b q) (x : Operand) (ho : o.op = .load 29 x) (hx : ρ x = .pointer (some ⟨b, 0, none⟩)) : (execOp ρ o).run Tryd.prog w = .ok (.value (tabV q)) w := by
  have hl := load_var h
  unfold execOp
  simp only [ho, hx, Instr.loadAt, Instr.sureAddr, Sem.run_bind, Sem.run_pure, Result.andThen_ok, hl]
theorem last_is {q : List E} {k : Nat} (hk : k < 8) : lastM q (k : Int) = q[k]!.s := by
  unfold lastM cliB
  have h1 : (k : Int) < 8 := by omega
  simp [h1]
theorem last_not {q : List E} {c : Int} (h : ¬ (0 ≤ c ∧ c < 8)) : lastM q c = 0 := by
  unfold lastM
  rw [if_neg]
  intro h2
  obtain ⟨k, rfl, hk⟩ := cli_nat h2
  exact h ⟨by omega, by omega⟩
set_option maxHeartbeats 16000000 in
theorem dedupPlays_walk (A0 : Option Addr) (n0 c0 : Nat) (w : World) (hO : OpsAt w w.heap.size A0 n0) (hm0 : n0 ≤ maxLen) (hT : Tabs w w.heap.size) : Calls Tryd.prog 3 #[.slice A0 n0 c0] w (Gives (.bool true) w) := by
  have hnew := new_any w
  go_enter Tryd.func3, Tryd.ntmps3
  go_wp2_with fail
  refine hnew.mono ?_
  rintro e w1 ⟨p, rfl, ht1, hp1, hb1⟩
  clear hnew
  have hpl := ht1.row.lt
  have HB1 := Lib.hid (And.intro ht1 (And.intro hp1 (And.intro hb1 hpl)))
  clear ht1 hp1 hb1 hpl
  go_wp2_with (refine st_tab (q' := q0) (TabV.zero (b := w1.heap.size) rfl) rfl rfl _ _ rfl rfl rfl ?_; intro W1 f1 f2 f3)
  have h0 : PY w W1 w1.heap.size p q0 := by
    obtain ⟨ht1, hp1, hb1, hpl⟩ := HB1.out
    have hb := below_grown_new ((Below.refl _ w1).alloc (Nat.le_refl _) _) f3 (Nat.le_refl _)
    exact ⟨⟨ht1.on hb, hb1.trans (hb.mono hb1.size), hp1⟩, f1, by omega, hb1.size⟩
  have H0 := Lib.hid h0
  generalize w1.heap.size = b at *
  clear HB1 h0 f1 f2 f3
  go_loopw [3, 5] (fun vp vi wr => ∃ (i p : Nat) (q : List E), vp = .pointer (some ⟨p, 0, none⟩) ∧ vi = .int .i64 (i : Int) ∧ i ≤ n0 ∧ i ≤ 200 ∧ PY w wr b p q) (fun _ vi _ => n0 - (intOf vi).toNat)
  case atStart => exact ⟨0, p, q0, rfl, rfl, by omega, by omega, H0.out⟩
  case round =>
    clear H0
    obtain ⟨i, p, q, rfl, rfl, hi, hi2, hS⟩ := hrel
    by_cases hlt : i < n0
    · have h1z : (i : Int) < (n0 : Int) := by omega
      by_cases hl2 : i < 200
      · have h2z : (i : Int) < 200 := by omega
        obtain ⟨ad, k, c, s, e, d, A1, n1, m1, rfl, hop0⟩ := hO i hlt
        have hop := hop0.below hS.st.bel
        have hbs := hS.st.bel.size
        obtain ⟨W2, hW2⟩ : ∃ W2, W2 = wr.alloc (.cells #[.int .i64 k, .int .i64 c, .int .i64 s, .int .i64 e, .bool d, .slice A1 n1 m1] 34) := ⟨_, rfl⟩
        have hZ : PZ w W2 b p wr.heap.size q k c s e d A1 n1 m1 := by
          rw [hW2]
          exact ⟨hS.on ((Below.refl _ wr).alloc (Nat.le_refl _) _), Row.new wr _ [.int .i64 k, .int .i64 c, .int .i64 s, .int .i64 e, .bool d, .slice A1 n1 m1]⟩
        have y0 := hop.c0
        have y1 := hop.c1
        have y2 := hop.c2
        have y3 := hop.c3
        have y4 := hop.c4
        have y5 := hop.c5
        have yl : (ad.add (i * 6)).block < wr.heap.size := Nat.lt_of_lt_of_le hop.lt hbs
        obtain ⟨o0, o1, o2, o3, o4, o5, ol⟩ := hZ.cells
        have HW2 := Lib.hid hW2.symm
        have HZ := Lib.hid hZ
        have HQ := Lib.hid hS.st.tab.ok
        have HTV := Lib.hid hS.tv
        clear hop hop0 hS hbs hW2 hZ
        by_cases hk1 : k = 1
        · as_aux_lemma =>
          subst hk1
          obtain ⟨r, hr⟩ : ∃ r, putM q c s e d = r := ⟨_, rfl⟩
          have hrp := rput_any (w := W2) HQ.out.len c s e d (.slice A1 n1 m1)
          have hp := fun (W : World) (h : TabAt W p q) => put_any h c s e d (.slice A1 n1 m1)
          have hok := putM_ok HQ.out c s e d
          simp only [hr] at hrp hp hok
          obtain ⟨q', z⟩ := r
          simp only at hrp hok
          have hln := hok.len
          have HP := Lib.hid hp
          have HRP := Lib.hid hrp
          have hzz : (z != z) = false := by simp
          clear hr hrp hp hok
          go_wp2_with (with_reducible refine ld_tab (HTV.out.al _) rfl _ rfl rfl ?_)
          rw [HW2.out]
          refine HRP.out.mono ?_
          rintro en w3 ⟨rfl, hb3⟩
          have hZ3 := HZ.out.on hb3
          have HZ3 := Lib.hid hZ3
          clear hZ3 HRP
          go_wp2_with (refine st_tab (TabV.zero (b := w3.heap.size) rfl) hln rfl _ _ rfl rfl rfl ?_; intro W4 f1 f2 f3; have hb4 := below_grown_new ((Below.refl _ w3).alloc (Nat.le_refl _) _) f3 (Nat.le_refl _); have HZ4 := Lib.hid (HZ3.out.on hb4); have HF1 := Lib.hid f1; obtain ⟨u0, u1, u2, u3, u4, u5, ul⟩ := HZ4.out.cells; clear f1 f2 f3 hb4)
          refine (HP.out _ HZ4.out.py.st.tab).mono ?_
          rintro en w5 ⟨rfl, ht5, hg5⟩
          simp only at ht5
          have hne : w3.heap.size ≠ p := by have := HZ3.out.py.st.tab.row.lt; omega
          have f5 : TabV w5 w3.heap.size q' := HF1.out.keep (grown_keep hg5 HF1.out.1.lt hne)
          have t5 : TabV w5 b q := HZ4.out.py.tv.keep (grown_keep hg5 HZ4.out.py.tv.1.lt (Ne.symm HZ4.out.py.ne))
          clear u0 u1 u2 u3 u4 u5 ul
          go_wp2_with (first | (with_reducible refine ld_tab f5 rfl _ rfl rfl ?_) | (refine st_tab t5 hln rfl _ _ rfl rfl rfl ?_; intro W6 f6 g6 h6))
          exact ⟨⟨i + 1, p, q', rfl, by go_num, by omega, by omega, HZ4.out.py.put ht5 hg5 f6 h6⟩, by simp [intOf]; omega⟩
        · have hk1b : (k == 1) = false := by simpa using hk1
          by_cases hk2 : k = 2
          · as_aux_lemma =>
            subst hk2
            obtain ⟨r, hr⟩ : ∃ r, findM q c s = r := ⟨_, rfl⟩
            have hf := find_any (w := W2) HZ.out.py.st.tab c s
            have hf2 := fun (W : World) => rfind_any (w := W) HQ.out.len c s
            simp only [hr] at hf hf2
            obtain ⟨⟨re, rb⟩, rz⟩ := r
            simp only [repV] at hf hf2
            have HF := Lib.hid hf
            have HF2 := Lib.hid hf2
            have hz1 : (re != re) = false := by simp
            have hz2 : (rb != rb) = false := by simp
            have hz3 : (rz != rz) = false := by simp
            clear hf hf2 hr
            go_wp2_with fail
            rw [HW2.out]
            refine HF.out.mono ?_
            rintro en w3 ⟨rfl, hb3⟩
            have HZ3 := Lib.hid (HZ.out.on hb3)
            obtain ⟨u0, u1, u2, u3, u4, u5, ul⟩ := HZ3.out.cells
            clear HF
            go_wp2_with (with_reducible refine ld_tab (HZ3.out.py.tv.al _) rfl _ rfl rfl ?_)
            have hrow := Row.new w3 32 [.int .i64 re, .bool rb, .slice none 0 0]
            have hb3a : Below w3.heap.size w3 (w3.alloc (.cells #[.int .i64 re, .bool rb, .slice none 0 0] 32)) := (Below.refl _ w3).alloc (Nat.le_refl _) _
            generalize w3.alloc (.cells #[.int .i64 re, .bool rb, .slice none 0 0] 32) = W3 at *
            refine (HF2.out _).mono ?_
            rintro en w5 ⟨rfl, hb5⟩
            have hr5 := hrow.on hb5
            have x0 := hr5.cell (j := 0) rfl
            have x1 := hr5.cell (j := 1) rfl
            have x2 := hr5.cell (j := 2) rfl
            have xl := hr5.lt
            have HP5 := Lib.hid ((HZ3.out.py.on hb3a).on hb5)
            clear u0 u1 u2 u3 u4 u5 ul hrow hr5
            go_wp2_with fail
            exact ⟨⟨i + 1, p, q, rfl, by go_num, by omega, by omega, HP5.out.on ((Below.refl _ _).alloc (Nat.le_refl _) _)⟩, by simp [intOf]; omega⟩
          · have hk2b : (k == 2) = false := by simpa using hk2
            by_cases hk3 : k = 3
            · as_aux_lemma =>
              subst hk3
              have hla := last_any (w := W2) HZ.out.py.st.tab c
              by_cases hc : 0 ≤ c ∧ c < 8
              · obtain ⟨hc1, hc2⟩ := hc
                obtain ⟨j, rfl⟩ : ∃ j : Nat, c = (j : Int) := ⟨c.toNat, by omega⟩
                have hj : j < 8 := by omega
                rw [last_is hj] at hla
                obtain ⟨g1, g2, g3⟩ := HTV.out.cell hj
                have gl := HTV.out.1.lt
                clear g2 g3
                generalize q[j]!.s = x at *
                have hxx : (x != x) = false := by simp
                have HLA := Lib.hid hla
                clear hla
                go_wp2_with fail
                rw [HW2.out]
                refine HLA.out.mono ?_
                rintro en w3 ⟨rfl, rfl⟩
                clear g1 gl
                go_wp2_with fail
                exact ⟨⟨i + 1, p, q, rfl, by go_num, by omega, by omega, HZ.out.py⟩, by simp [intOf]; omega⟩
              · rw [last_not hc] at hla
                have HLA := Lib.hid hla
                clear hla
                by_cases hc1 : 0 ≤ c
                · have hc2 : ¬ c < 8 := fun h => hc ⟨hc1, h⟩
                  clear hc
                  go_wp2_with fail
                  rw [HW2.out]
                  refine HLA.out.mono ?_
                  rintro en w3 ⟨rfl, rfl⟩
                  go_wp2_with fail
                  exact ⟨⟨i + 1, p, q, rfl, by go_num, by omega, by omega, HZ.out.py⟩, by simp [intOf]; omega⟩
                · clear hc
                  go_wp2_with fail
                  rw [HW2.out]
                  refine HLA.out.mono ?_
                  rintro en w3 ⟨rfl, rfl⟩
                  go_wp2_with fail
                  exact ⟨⟨i + 1, p, q, rfl, by go_num, by omega, by omega, HZ.out.py⟩, by simp [intOf]; omega⟩
            · as_aux_lemma =>
              have hk3b : (k == 3) = false := by simpa using hk3
              have hx := ttext_any HZ.out.py.st.tab ((hT.on HZ.out.py.st.bel).up HZ.out.py.st.bel.size)
              have hx2 := fun (W : World) => rtext_any (w := W) HQ.out
              have hof := fun (W : World) => of_any (textB q) (textB_size HQ.out) W
              simp only [ofM_text HQ.out, OfPost] at hof
              have HX := Lib.hid hx
              have HX2 := Lib.hid hx2
              have HOF := Lib.hid hof
              clear hx hx2 hof
              generalize textB q = S at *
              go_wp2_with fail
              rw [HW2.out]
              refine HX.out.mono ?_
              rintro en w3 ⟨rfl, hb3⟩
              have HZ3 := Lib.hid (HZ.out.on hb3)
              go_wp2_with (with_reducible refine ld_tab HZ3.out.py.tv rfl _ rfl rfl ?_)
              refine (HX2.out _).mono ?_
              rintro en w4 ⟨rfl, hb4⟩
              have HZ4 := Lib.hid (HZ3.out.on hb4)
              go_wp2_with fail
              refine (HOF.out _).mono ?_
              rintro en w5 ⟨p', rfl, ht5, hp5, hb5⟩
              have hP5 : PY w w5 b p' q := by
                have h4 := HZ4.out.py
                have h5 := h4.on hb5
                have h6 := h4.tv.1.lt
                have h7 := h4.st.bel.size
                exact ⟨⟨ht5, h5.st.bel, by omega⟩, h5.tv, by omega, h5.bw⟩
              have HP5 := Lib.hid hP5
              clear hP5 ht5 hp5 hb5
              go_wp2_with fail
              exact ⟨⟨i + 1, p', q, rfl, by go_num, by omega, by omega, HP5.out⟩, by simp [intOf]; omega⟩
      · have h2z : ¬ (i : Int) < 200 := by omega
        as_aux_lemma =>
          have hx1 := fun (w' : World) (hb : Below wr.heap.size wr w') => ttext_any (hS.on hb).st.tab ((hT.on (hS.on hb).st.bel).up (hS.on hb).st.bel.size)
          have hx2 := fun (W : World) => rtext_any (w := W) hS.st.tab.ok
          have haw := fun (w' : World) (hb : Below wr.heap.size wr w') => awake_any w.heap.size w' (hT.on (hS.on hb).st.bel) (hS.on hb).st.bel.size
          have hbel := hS.st.bel
          have HS := Lib.hid hS
          have HX1 := Lib.hid hx1
          have HX2 := Lib.hid hx2
          have HAW := Lib.hid haw
          clear hS hx1 hx2 haw
          generalize textB q = tq1 at *
          go_wp2_with fail
          have hd : Below wr.heap.size wr wr.drew := (Below.refl _ wr).drew
          refine wp_region_held_drew (S := (fun w' => TabV w' b q)) (by kernel_rfl) ?_ (fun hHeld => ?_)
          · exact (HS.out.on hd).tv
          refine wpAnyH_take (i := 0) (oi := ⟨_, _, _, _, _, _⟩) (v := ?_) rfl (by kernel_rfl) (by kernel_rfl) (by kernel_rfl) (fun _ _ _ h => h) (Or.inl ⟨by rfl, ?_⟩) (by assumption) ?_
          rotate_left
          · intro w hSw; (try dsimp only at hSw); go_simp <;> with_reducible rfl
          try simp only [Act.put, List.setIfInBounds_toArray, List.set_cons_zero, List.set_cons_succ]
          refine wpAnyH_take (i := 2) (oi := ⟨_, _, _, _, _, _⟩) (v := ?_) rfl (by kernel_rfl) (by kernel_rfl) (by kernel_rfl) (fun _ _ _ h => h) (Or.inl ⟨by rfl, ?_⟩) (by assumption) ?_
          rotate_left
          · intro w' hSw; (refine yields_tab hSw (.tmp 4) ?_ ?_) <;> rfl
          try simp only [Act.put, List.setIfInBounds_toArray, List.set_cons_zero, List.set_cons_succ]
          refine wpAnyH_ready (rs := [1]) (by kernel_rfl) (by simp) ?_
          refine AllReadyH.cons (o := ⟨_, _, _, _, _, _⟩) rfl (fun K hK => ?_) AllReadyH.nil
          go_simp; go_at_call 15; (with_reducible refine (HX1.out _ hd).mono ?_); rintro en w2 ⟨rfl, hb2⟩; have hd2 := below_then hd hb2
          refine hK.out _ _ ?_ (fun hHeld => ?_)
          · exact (HS.out.on hd2).tv
          clear hK K
          try simp only [Act.put, List.setIfInBounds_toArray, List.set_cons_zero, List.set_cons_succ]
          refine wpAnyH_ready (rs := [3]) (by kernel_rfl) (by simp) ?_
          refine AllReadyH.cons (o := ⟨_, _, _, _, _, _⟩) rfl (fun K hK => ?_) AllReadyH.nil
          go_simp; go_at_call 16; (with_reducible refine (HX2.out _).mono ?_); rintro en w3 ⟨rfl, hb3⟩; have hd3 := below_then hd2 hb3
          refine hK.out _ _ ?_ (fun hHeld => ?_)
          · exact (HS.out.on hd3).tv
          clear hK K
          try simp only [Act.put, List.setIfInBounds_toArray, List.set_cons_zero, List.set_cons_succ]
          refine wpAnyH_take (i := 4) (oi := ⟨_, _, _, _, _, _⟩) (v := ?_) rfl (by kernel_rfl) (by kernel_rfl) (by kernel_rfl) (fun _ _ _ h => h) (Or.inl ⟨by rfl, ?_⟩) (by assumption) ?_
          rotate_left
          · intro w hSw; (try dsimp only at hSw); go_simp <;> with_reducible rfl
          try simp only [Act.put, List.setIfInBounds_toArray, List.set_cons_zero, List.set_cons_succ]
          refine wpAnyH_take (i := 5) (oi := ⟨_, _, _, _, _, _⟩) (v := ?_) rfl (by kernel_rfl) (by kernel_rfl) (by kernel_rfl) (fun _ _ _ h => h) (Or.inl ⟨by rfl, ?_⟩) (by assumption) ?_
          rotate_left
          · intro w hSw; (try dsimp only at hSw); go_simp <;> with_reducible rfl
          try simp only [Act.put, List.setIfInBounds_toArray, List.set_cons_zero, List.set_cons_succ]
          refine wpAnyH_ready (rs := [6]) (by kernel_rfl) (by simp) ?_
          refine AllReadyH.cons (o := ⟨_, _, _, _, _, _⟩) rfl (fun K hK => ?_) AllReadyH.nil
          go_simp; go_at_call 18; (with_reducible refine (HAW.out _ hd3).mono ?_); rintro en w4 ⟨rfl, hb4⟩; have hd4 := below_then hd3 hb4
          refine hK.out _ _ ?_ (fun hHeld => ?_)
          · exact (HS.out.on hd4).tv
          clear hK K
          try simp only [Act.put, List.setIfInBounds_toArray, List.set_cons_zero, List.set_cons_succ]
          refine wpAnyH_take (i := 7) (oi := ⟨_, _, _, _, _, _⟩) (v := ?_) rfl (by kernel_rfl) (by kernel_rfl) (by kernel_rfl) (fun _ _ _ h => h) (Or.inl ⟨by rfl, ?_⟩) (by assumption) ?_
          rotate_left
          · intro w hSw; (try dsimp only at hSw); go_simp <;> with_reducible rfl
          try simp only [Act.put, List.setIfInBounds_toArray, List.set_cons_zero, List.set_cons_succ]
          refine wpAnyH_ready (rs := [8]) (by kernel_rfl) (by simp) ?_
          refine AllReadyH.cons (o := ⟨_, _, _, _, _, _⟩) rfl (fun K hK => ?_) AllReadyH.nil
          go_simp
          refine hK.out _ _ ?_ (fun hHeld => ?_)
          · exact (HS.out.on hd4).tv
          clear hK K
          try simp only [Act.put, List.setIfInBounds_toArray, List.set_cons_zero, List.set_cons_succ]
          refine wpAnyH_done (by kernel_rfl) ?_ _
          go_wp2_with fail
          go_ret
          exact ⟨rfl, hbel.trans (hd4.mono hbel.size)⟩
    · have h1z : ¬ (i : Int) < (n0 : Int) := by omega
      as_aux_lemma =>
        have hx1 := fun (w' : World) (hb : Below wr.heap.size wr w') => ttext_any (hS.on hb).st.tab ((hT.on (hS.on hb).st.bel).up (hS.on hb).st.bel.size)
        have hx2 := fun (W : World) => rtext_any (w := W) hS.st.tab.ok
        have haw := fun (w' : World) (hb : Below wr.heap.size wr w') => awake_any w.heap.size w' (hT.on (hS.on hb).st.bel) (hS.on hb).st.bel.size
        have hbel := hS.st.bel
        have HS := Lib.hid hS
        have HX1 := Lib.hid hx1
        have HX2 := Lib.hid hx2
        have HAW := Lib.hid haw
        clear hS hx1 hx2 haw
        generalize textB q = tq1 at *
        go_wp2_with fail
        have hd : Below wr.heap.size wr wr.drew := (Below.refl _ wr).drew
        refine wp_region_held_drew (S := (fun w' => TabV w' b q)) (by kernel_rfl) ?_ (fun hHeld => ?_)
        · exact (HS.out.on hd).tv
        refine wpAnyH_take (i := 0) (oi := ⟨_, _, _, _, _, _⟩) (v := ?_) rfl (by kernel_rfl) (by kernel_rfl) (by kernel_rfl) (fun _ _ _ h => h) (Or.inl ⟨by rfl, ?_⟩) (by assumption) ?_
        rotate_left
        · intro w hSw; (try dsimp only at hSw); go_simp <;> with_reducible rfl
        try simp only [Act.put, List.setIfInBounds_toArray, List.set_cons_zero, List.set_cons_succ]
        refine wpAnyH_take (i := 2) (oi := ⟨_, _, _, _, _, _⟩) (v := ?_) rfl (by kernel_rfl) (by kernel_rfl) (by kernel_rfl) (fun _ _ _ h => h) (Or.inl ⟨by rfl, ?_⟩) (by assumption) ?_
        rotate_left
        · intro w' hSw; (refine yields_tab hSw (.tmp 4) ?_ ?_) <;> rfl
        try simp only [Act.put, List.setIfInBounds_toArray, List.set_cons_zero, List.set_cons_succ]
        refine wpAnyH_ready (rs := [1]) (by kernel_rfl) (by simp) ?_
        refine AllReadyH.cons (o := ⟨_, _, _, _, _, _⟩) rfl (fun K hK => ?_) AllReadyH.nil
        go_simp; go_at_call 15; (with_reducible refine (HX1.out _ hd).mono ?_); rintro en w2 ⟨rfl, hb2⟩; have hd2 := below_then hd hb2
        refine hK.out _ _ ?_ (fun hHeld => ?_)
        · exact (HS.out.on hd2).tv
        clear hK K
        try simp only [Act.put, List.setIfInBounds_toArray, List.set_cons_zero, List.set_cons_succ]
        refine wpAnyH_ready (rs := [3]) (by kernel_rfl) (by simp) ?_
        refine AllReadyH.cons (o := ⟨_, _, _, _, _, _⟩) rfl (fun K hK => ?_) AllReadyH.nil
        go_simp; go_at_call 16; (with_reducible refine (HX2.out _).mono ?_); rintro en w3 ⟨rfl, hb3⟩; have hd3 := below_then hd2 hb3
        refine hK.out _ _ ?_ (fun hHeld => ?_)
        · exact (HS.out.on hd3).tv
        clear hK K
        try simp only [Act.put, List.setIfInBounds_toArray, List.set_cons_zero, List.set_cons_succ]
        refine wpAnyH_take (i := 4) (oi := ⟨_, _, _, _, _, _⟩) (v := ?_) rfl (by kernel_rfl) (by kernel_rfl) (by kernel_rfl) (fun _ _ _ h => h) (Or.inl ⟨by rfl, ?_⟩) (by assumption) ?_
        rotate_left
        · intro w hSw; (try dsimp only at hSw); go_simp <;> with_reducible rfl
        try simp only [Act.put, List.setIfInBounds_toArray, List.set_cons_zero, List.set_cons_succ]
        refine wpAnyH_take (i := 5) (oi := ⟨_, _, _, _, _, _⟩) (v := ?_) rfl (by kernel_rfl) (by kernel_rfl) (by kernel_rfl) (fun _ _ _ h => h) (Or.inl ⟨by rfl, ?_⟩) (by assumption) ?_
        rotate_left
        · intro w hSw; (try dsimp only at hSw); go_simp <;> with_reducible rfl
        try simp only [Act.put, List.setIfInBounds_toArray, List.set_cons_zero, List.set_cons_succ]
        refine wpAnyH_ready (rs := [6]) (by kernel_rfl) (by simp) ?_
        refine AllReadyH.cons (o := ⟨_, _, _, _, _, _⟩) rfl (fun K hK => ?_) AllReadyH.nil
        go_simp; go_at_call 18; (with_reducible refine (HAW.out _ hd3).mono ?_); rintro en w4 ⟨rfl, hb4⟩; have hd4 := below_then hd3 hb4
        refine hK.out _ _ ?_ (fun hHeld => ?_)
        · exact (HS.out.on hd4).tv
        clear hK K
        try simp only [Act.put, List.setIfInBounds_toArray, List.set_cons_zero, List.set_cons_succ]
        refine wpAnyH_take (i := 7) (oi := ⟨_, _, _, _, _, _⟩) (v := ?_) rfl (by kernel_rfl) (by kernel_rfl) (by kernel_rfl) (fun _ _ _ h => h) (Or.inl ⟨by rfl, ?_⟩) (by assumption) ?_
        rotate_left
        · intro w hSw; (try dsimp only at hSw); go_simp <;> with_reducible rfl
        try simp only [Act.put, List.setIfInBounds_toArray, List.set_cons_zero, List.set_cons_succ]
        refine wpAnyH_ready (rs := [8]) (by kernel_rfl) (by simp) ?_
        refine AllReadyH.cons (o := ⟨_, _, _, _, _, _⟩) rfl (fun K hK => ?_) AllReadyH.nil
        go_simp
        refine hK.out _ _ ?_ (fun hHeld => ?_)
        · exact (HS.out.on hd4).tv
        clear hK K
        try simp only [Act.put, List.setIfInBounds_toArray, List.set_cons_zero, List.set_cons_succ]
        refine wpAnyH_done (by kernel_rfl) ?_ _
        go_wp2_with fail
        go_ret
        exact ⟨rfl, hbel.trans (hd4.mono hbel.size)⟩
end Go.Proofs.YtbijaipoifpngaaDoor.Be
