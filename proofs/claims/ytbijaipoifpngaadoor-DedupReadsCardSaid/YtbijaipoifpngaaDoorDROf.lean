/- What Of of the document's answers returns. Conditions: none. -/
import Derived.Test.YtbijaipoifpngaaDoorDROfM
import Derived.Test.YtbijaipoifpngaaDoorDRText
import Derived.BigQuiet
import Derived.BigRegion
import Derived.Deep.QuietTactic
set_option linter.unusedVariables false
set_option linter.unusedSimpArgs false
set_option maxRecDepth 100000
namespace Go.Proofs.YtbijaipoifpngaaDoor.Be
open Go Go.RowKit
def ROfPost (r : Option (List E)) (w : World) (e : Ending) (w' : World) : Prop := ∃ q, q.length = 8 ∧ e = .returned (.tuple #[tabV q, .int .i64 (if r.isSome then 0 else 20)]) ∧ Below w.heap.size w w'
/-- What is kept from round to round. -/
structure QRel (w3 wr : World) (b : Nat) (l : List T) (k : Nat) (q : List E) (R : Option (List E)) : Prop where
  tab : TabV wr b q
  grown : w3.grownBy wr (some b)
  rest : refRows q (l.drop k) = R
  ok : Okq q
set_option maxHeartbeats 8000000 in
theorem rof_any (s : ByteArray) (hs : s.size ≤ 1000000000) (w : World) : Calls Tryd.prog 19 #[.string s] w (ROfPost (refOf s) w) := by
  have hon := fun (W : World) => ronly_any s hs W
  have HZ : ∀ b : Nat, w.heap.size = b → TabV (w.alloc (.cells #[.int .i64 0, .int .i64 0, .bool false, .int .i64 0, .int .i64 0, .bool false, .int .i64 0, .int .i64 0, .bool false, .int .i64 0, .int .i64 0, .bool false, .int .i64 0, .int .i64 0, .bool false, .int .i64 0, .int .i64 0, .bool false, .int .i64 0, .int .i64 0, .bool false, .int .i64 0, .int .i64 0, .bool false] 29)) b q0 := fun b hb => TabV.zero hb
  unfold refOf
  cases ho : onlyRes s.data.toList with
  | error x =>
    simp only [ho, OnPost] at hon
    have hx := only_err ho
    have hxb : (x != 0) = true := by simpa using hx
    have HON := Lib.hid hon
    clear ho hon
    go_enter Tryd.func19, Tryd.ntmps19
    go_wp2_with (refine st_tab (q' := q0) (TabV.zero (b := w.heap.size + 1) (by simp)) rfl rfl _ _ rfl rfl rfl ?_; intro W1 f1 f2 f3)
    have hb1 : Below w.heap.size w W1 := below_grown_new (((Below.refl _ w).alloc (Nat.le_refl _) _).alloc (by simp) _) f3 (by omega)
    have hz1 : TabV W1 w.heap.size q0 := ((HZ _ rfl).al _).keep (grown_keep f3 (by simp; omega) (by omega))
    have hs1 : w.heap.size + 2 ≤ W1.heap.size := by rw [f2]; simp
    clear HZ f2 f3
    refine (HON.out W1).mono ?_
    rintro e w2 ⟨rfl, hb2⟩
    simp only [zeroA]
    have T1 := Lib.hid (f1.on hb2)
    have Z1 := Lib.hid (hz1.on hb2)
    have hb12 := hb1.trans (hb2.mono hb1.size)
    clear f1 hz1 HON hb1 hb2
    go_wp2_with (first | (with_reducible refine ld_tab (T1.out.al _) rfl _ rfl rfl ?_) | (refine st_tab (q' := q0) (Z1.out.al _) rfl rfl _ _ rfl rfl rfl ?_; intro W3 g1 g2 g3))
    exact bodyPost_ret (res_tab Tryd.results19 _ g1 rfl rfl) rfl ⟨q0, rfl, rfl, below_grown_new (hb12.alloc hb12.size _) g3 (Nat.le_refl _)⟩
  | ok t =>
    simp only [ho, OnPost] at hon
    obtain ⟨tk, tn, ts, tl⟩ := t
    simp only [T.l]
    obtain ⟨R, hR⟩ : ∃ R, refRows q0 tl = R := ⟨_, rfl⟩
    rw [hR]
    have HR := Lib.hid hR
    have HON := Lib.hid hon
    clear ho hon hR
    go_enter Tryd.func19, Tryd.ntmps19
    go_wp2_with (refine st_tab (q' := q0) (TabV.zero (b := w.heap.size + 1) (by simp)) rfl rfl _ _ rfl rfl rfl ?_; intro W1 f1 f2 f3)
    have hb1 : Below w.heap.size w W1 := below_grown_new (((Below.refl _ w).alloc (Nat.le_refl _) _).alloc (by simp) _) f3 (by omega)
    have hz1 : TabV W1 w.heap.size q0 := ((HZ _ rfl).al _).keep (grown_keep f3 (by simp; omega) (by omega))
    have hs1 : w.heap.size + 2 ≤ W1.heap.size := by rw [f2]; simp
    clear HZ f2 f3
    refine (HON.out W1).mono ?_
    rintro e w2 ⟨v, rfl, ⟨A, c, xs, rfl, h2, hlc, hcm, hr, hrl⟩, hb2⟩
    simp only [T.k, T.n, T.s, T.l] at h2 hlc hcm hr hrl ⊢
    have hKp : ∀ w' : World, Below w2.heap.size w2 w' → ReadsP (fun b => W1.heap.size ≤ b ∧ b < w2.heap.size) w' 4 A tl.length xs ∧ RdL (fun b => W1.heap.size ≤ b ∧ b < w2.heap.size) w' tl xs := fun w' hb => by
      have k0 : Keeps (fun b => W1.heap.size ≤ b ∧ b < w2.heap.size) w2 w' := Keeps.of_below hb (fun b hb _ => hb.2)
      exact ⟨(hr.mono (fun b hb hl => ⟨hb, hl⟩)).keep k0, RdL.keep k0 _ _ (RdL.mono (fun b hb hl => ⟨hb, hl⟩) _ _ hrl)⟩
    obtain ⟨w3, hw3⟩ : ∃ w3, w3 = w2.alloc (.cells #[.int .i64 tk, .int .i64 tn, .string ts, .slice A tl.length c] 68) := ⟨_, rfl⟩
    have hb23 : Below w2.heap.size w2 w3 := by rw [hw3]; exact (Below.refl _ _).alloc (Nat.le_refl _) _
    have hV3 : Row w3 w2.heap.size 68 [.int .i64 tk, .int .i64 tn, .string ts, .slice A tl.length c] := by rw [hw3]; exact Row.new w2 _ _
    have hs2 := hb2.size
    have hs3 := hb23.size
    have hb13 := hb2.trans (hb23.mono hb2.size)
    have hb03 : Below w.heap.size w w3 := hb1.trans (hb13.mono hb1.size)
    have T3 := Lib.hid (f1.on hb13)
    have Z3 := Lib.hid (hz1.on hb13)
    have HV3 := Lib.hid hV3
    have HKP := Lib.hid (hKp w3 hb23)
    have hO0 : QRel w3 w3 (w.heap.size + 1) tl 0 q0 R := ⟨T3.out, grown_refl _ _, by rw [List.drop_zero]; exact HR.out, okq0⟩
    have HO0 := Lib.hid hO0
    have HW3 := Lib.hid hw3.symm
    have hlm : tl.length ≤ maxLen := Nat.le_trans hlc hcm
    have hln : (tl.length : Int) ≤ 9223372036854775807 := by unfold maxLen at hlm; omega
    clear hr hrl hlc hcm hKp hlm h2 HON hw3 hO0 f1 hz1 hV3 hb13 hb23 hb1 hb2
    obtain ⟨n, hn⟩ : ∃ n, tl.length = n := ⟨_, rfl⟩
    rw [hn] at HKP HW3 HV3 hln
    have HN := Lib.hid hn
    rw [hn]
    clear hn
    go_wp2_with fail
    rw [HW3.out]
    go_loopw [7] (fun vi wr => ∃ (k : Nat) (q : List E), vi = .int .i64 (k : Int) ∧ k ≤ n ∧ QRel w3 wr (w.heap.size + 1) tl k q R) (fun vi _ => n - (intOf vi).toNat)
    case atStart => exact ⟨0, q0, rfl, by omega, HO0.out⟩
    case round =>
      obtain ⟨k, q, rfl, hk, hO⟩ := hrel
      have hb3r : Below w.heap.size w wr := below_grown_new hb03 hO.grown (by omega)
      have hV : Row wr w2.heap.size 68 [.int .i64 tk, .int .i64 tn, .string ts, .slice A n c] := HV3.out.keep (grown_keep hO.grown HV3.out.lt (by omega))
      have hZ : TabV wr w.heap.size q0 := Z3.out.keep (grown_keep hO.grown Z3.out.lt (by omega))
      have v3 : wr.cell? ⟨w2.heap.size, 3, none⟩ = some (.slice A n c) := hV.cell rfl
      by_cases hkn : k < n
      · have hkz : (k : Int) < (n : Int) := by omega
        have hkl : k < tl.length := by have := HN.out; omega
        obtain ⟨hrd, hrl⟩ := HKP.out
        obtain ⟨b, o, A', c', hA, hbb, hblt, hbf, hRA', e0, e1, e2, e3⟩ := elem_at (HN.out ▸ hrd) hrl hkl
        subst hA
        have hbp : b ≠ w.heap.size + 1 := by have := hbb.1; omega
        have d3 := (World.cell?_of_block (w := w3) (w' := wr) (a := ⟨b, o + k * 4 + 3, none⟩) (grown_keep hO.grown hblt hbp)).trans e3
        have hkeep : Keeps (fun b => W1.heap.size ≤ b ∧ b < w2.heap.size) w3 wr := Keeps.of_grown hO.grown (fun b hb e => by injection e with e; have := hb.1; omega)
        have hRAw := hRA'.keep hkeep
        have hrest : R = match refRow q tl[k] with | none => none | some q' => refRows q' (tl.drop (k + 1)) := by
          rw [← hO.rest, List.drop_eq_getElem_cons hkl]
          rfl
        generalize tl[k] = el at *
        obtain ⟨ek, en, es, ell⟩ := el
        simp only [T.k, T.n, T.s, T.l] at d3 hRAw
        have hm := fun (c n : Int) (W : World) => (may_any c n W).mono (fun _ _ h => And.intro h.1 h.2.symm)
        have HM := Lib.hid hm
        have HO := Lib.hid hO
        have HREST := Lib.hid hrest
        have HZR := Lib.hid hZ
        have HB3R := Lib.hid hb3r
        clear hRA' e0 e1 e2 e3 hkeep hrd hrl hrest hm hO hV hZ hb3r
        by_cases hl4 : ell.length = 4
        · obtain ⟨A3, c4, ys, heq, _, _, _, hr3, hrl3⟩ := hRAw
          simp only [T.k, T.n, T.s, T.l, Value.agg.injEq, Array.mk.injEq, List.cons.injEq, Value.slice.injEq, true_and, and_true] at heq
          obtain ⟨rfl, rfl⟩ := heq
          simp only [T.l] at hr3 hrl3
          obtain ⟨ra, rb, rc, rd, rfl⟩ : ∃ a b c d, ell = [a, b, c, d] := by
            match ell, hl4 with
            | [a, b, c, d], _ => exact ⟨a, b, c, d, rfl⟩
          obtain ⟨ak, an, as_, al⟩ := ra
          obtain ⟨bk, bn, bs, bl⟩ := rb
          obtain ⟨ck, cn, cs, cl⟩ := rc
          obtain ⟨dk, dn, ds, dl⟩ := rd
          obtain ⟨b3, o3, _, _, hA3, hok3, hlt3, _, _, p0k, p0n, _, _⟩ := elem_at (k := 0) hr3 hrl3 (by simp)
          obtain ⟨b4, o4, _, _, hA4, _, _, _, _, _, p1n, _, _⟩ := elem_at (k := 1) hr3 hrl3 (by simp)
          obtain ⟨b5, o5, _, _, hA5, _, _, _, _, _, p2n, _, _⟩ := elem_at (k := 2) hr3 hrl3 (by simp)
          obtain ⟨b6, o6, _, _, hA6, _, _, _, _, _, p3n, _, _⟩ := elem_at (k := 3) hr3 hrl3 (by simp)
          subst hA3
          simp only [Option.some.injEq, Addr.mk.injEq, and_true] at hA4 hA5 hA6
          obtain ⟨rfl, rfl⟩ := hA4
          obtain ⟨rfl, rfl⟩ := hA5
          obtain ⟨rfl, rfl⟩ := hA6
          simp only [List.getElem_cons_zero, List.getElem_cons_succ, T.k, T.n, Nat.zero_mul, Nat.one_mul, Nat.reduceMul, Nat.add_zero] at p0k p0n p1n p2n p3n
          simp only [List.length_cons, List.length_nil, Nat.zero_add, Nat.reduceAdd] at d3
          have hbp3 : b3 ≠ w.heap.size + 1 := by have := hok3.1; omega
          clear hr3 hrl3 hl4
          by_cases hk1 : ak = 1
          · subst hk1
            have hmq := HM.out an bn
            by_cases hmay : mayB an bn = true
            · rw [hmay] at hmq
              have HMQ := Lib.hid hmq
              clear hmq
              by_cases hc0 : cn < 0
              · have hnone : R = none := by
                  rw [HREST.out]
                  have hx : refRow q (T.mk ek en es [T.mk 1 an as_ al, T.mk bk bn bs bl, T.mk ck cn cs cl, T.mk dk dn ds dl]) = none := by
                    unfold refRow
                    simp only [T.l, T.k, T.n]
                    exact if_neg (by rintro ⟨x1, x2, x3⟩; unfold errB at x3; simp at x3; omega)
                  rw [hx]
                subst hnone
                go_wp2_with fail
                go_quiet ((go_at_call 20; exact Calls.quiet_of_same (HMQ.out _)))
                go_wp2_with (refine st_tab (q' := q0) (HZR.out.keep (w' := wr.drewN nq) rfl) rfl rfl _ _ rfl rfl rfl ?_; intro W5 g1 g2 g3)
                exact bodyPost_ret (res_tab Tryd.results19 _ g1 rfl rfl) rfl ⟨q0, rfl, rfl, below_grown_new (below_drewN HB3R.out nq) g3 (Nat.le_refl _)⟩
              · by_cases hc1 : 255 < cn
                · have hnone : R = none := by
                    rw [HREST.out]
                    have hx : refRow q (T.mk ek en es [T.mk 1 an as_ al, T.mk bk bn bs bl, T.mk ck cn cs cl, T.mk dk dn ds dl]) = none := by
                      unfold refRow
                      simp only [T.l, T.k, T.n]
                      exact if_neg (by rintro ⟨x1, x2, x3⟩; unfold errB at x3; simp at x3; omega)
                    rw [hx]
                  subst hnone
                  go_wp2_with fail
                  go_quiet ((go_at_call 20; exact Calls.quiet_of_same (HMQ.out _)))
                  go_wp2_with (refine st_tab (q' := q0) (HZR.out.keep (w' := wr.drewN nq) rfl) rfl rfl _ _ rfl rfl rfl ?_; intro W5 g1 g2 g3)
                  exact bodyPost_ret (res_tab Tryd.results19 _ g1 rfl rfl) rfl ⟨q0, rfl, rfl, below_grown_new (below_drewN HB3R.out nq) g3 (Nat.le_refl _)⟩
                · have hex : R = refRows (q.set an.toNat ⟨bn, cn, decide (dn = 1)⟩) (tl.drop (k + 1)) := by
                    rw [HREST.out]
                    have hx : refRow q (T.mk ek en es [T.mk 1 an as_ al, T.mk bk bn bs bl, T.mk ck cn cs cl, T.mk dk dn ds dl]) = some (q.set an.toNat ⟨bn, cn, decide (dn = 1)⟩) := by
                      unfold refRow
                      simp only [T.l, T.k, T.n]
                      exact if_pos ⟨trivial, hmay, by unfold errB; simp; omega⟩
                    rw [hx]
                  obtain ⟨ci, hci0, hci⟩ := cli_nat (by unfold mayB at hmay; simp only [Bool.and_eq_true] at hmay; exact hmay.1 : cliB an = true)
                  subst hci0
                  rw [show ((ci : Int)).toNat = ci from rfl] at hex
                  have hci2 : (ci : Int) < 8 := by omega
                  have hok' := refRow_ok HO.out.ok (show refRow q (T.mk ek en es [T.mk 1 ci as_ al, T.mk bk bn bs bl, T.mk ck cn cs cl, T.mk dk dn ds dl]) = some (q.set ci ⟨bn, cn, decide (dn = 1)⟩) from by
                    unfold refRow
                    simp only [T.l, T.k, T.n]
                    exact if_pos ⟨trivial, hmay, by unfold errB; simp; omega⟩)
                  obtain ⟨wb, hwb⟩ : ∃ wb, decide (dn = 1) = wb := ⟨_, rfl⟩
                  have hwb2 : (dn == 1) = wb := hwb
                  rw [hwb] at hex hok'
                  have HEX := Lib.hid hex
                  have HOK := Lib.hid hok'
                  clear hex hok'
                  go_wp2_with fail
                  go_quiet ((go_at_call 20; exact Calls.quiet_of_same (HMQ.out _)))
                  have HQ : Hid (QRel w3 (wr.drewN nq) (w.heap.size + 1) tl k q R) := Lib.hid ⟨HO.out.tab.keep rfl, grown_then HO.out.grown (grown_below (below_drewN (Below.refl _ wr) nq) _), HO.out.rest, HO.out.ok⟩
                  have r0 : (wr.drewN nq).cell? _ = _ := p0n
                  have r1 : (wr.drewN nq).cell? _ = _ := p1n
                  have r2 : (wr.drewN nq).cell? _ = _ := p2n
                  have r3 : (wr.drewN nq).cell? _ = _ := p3n
                  have r4 : (wr.drewN nq).cell? _ = _ := v3
                  have r5 : (wr.drewN nq).cell? _ = _ := d3
                  obtain ⟨q1, q2, q3⟩ := HQ.out.tab.cell hci
                  have hfz := fun j => HQ.out.tab.1.frozen j
                  generalize q[ci]! = xq at *
                  obtain ⟨xs, xe, xb⟩ := xq
                  simp only at q1 q2 q3
                  clear p0k p0n p1n p2n p3n v3 d3 HO HM HMQ hmay HREST HZR HB3R
                  generalize wr.drewN nq = Wq at *
                  go_wp2_with fail
                  go_region
                  all_goals go_wp2_with fail
                  have h3 := ((HQ.out.tab.1.set (ci * 3) (.int .i64 bn)).set (ci * 3 + 1) (.int .i64 cn)).set (ci * 3 + 2) (.bool wb)
                  rw [← qc_set q ci (by have := HQ.out.ok.len; omega) ⟨bn, cn, wb⟩] at h3
                  have g3 := grown_setCell (grown_setCell (grown_setCell (grown_refl Wq _) ⟨w.heap.size + 1, ci * 3, none⟩ rfl (.int .i64 bn)) ⟨w.heap.size + 1, ci * 3 + 1, none⟩ rfl (.int .i64 cn)) ⟨w.heap.size + 1, ci * 3 + 2, none⟩ rfl (.bool wb)
                  exact ⟨⟨k + 1, q.set ci ⟨bn, cn, wb⟩, by go_num, by omega, ⟨⟨h3.keep rfl, HOK.out.len⟩, grown_then HQ.out.grown (grown_then g3 (grown_below ((Below.refl _ _).drew) _)), HEX.out.symm, HOK.out⟩⟩, by simp [intOf]; omega⟩
            · have hmay : mayB an bn = false := by simpa using hmay
              rw [hmay] at hmq
              have HMQ := Lib.hid hmq
              clear hmq
              have hnone : R = none := by
                rw [HREST.out]
                have hx : refRow q (T.mk ek en es [T.mk 1 an as_ al, T.mk bk bn bs bl, T.mk ck cn cs cl, T.mk dk dn ds dl]) = none := by
                  unfold refRow
                  simp only [T.l, T.k, T.n]
                  exact if_neg (by rintro ⟨x1, x2, x3⟩; rw [hmay] at x2; cases x2)
                rw [hx]
              subst hnone
              go_wp2_with fail
              go_quiet ((go_at_call 20; exact Calls.quiet_of_same (HMQ.out _)))
              go_wp2_with (refine st_tab (q' := q0) (HZR.out.keep (w' := wr.drewN nq) rfl) rfl rfl _ _ rfl rfl rfl ?_; intro W5 g1 g2 g3)
              exact bodyPost_ret (res_tab Tryd.results19 _ g1 rfl rfl) rfl ⟨q0, rfl, rfl, below_grown_new (below_drewN HB3R.out nq) g3 (Nat.le_refl _)⟩
          · have hk1b : (ak != 1) = true := by simpa using hk1
            have hnone : R = none := by
              rw [HREST.out]
              have hx : refRow q (T.mk ek en es [T.mk ak an as_ al, T.mk bk bn bs bl, T.mk ck cn cs cl, T.mk dk dn ds dl]) = none := by
                unfold refRow
                simp only [T.l, T.k, T.n]
                exact if_neg (by rintro ⟨x1, x2, x3⟩; exact hk1 x1)
              rw [hx]
            subst hnone
            go_wp2_with fail
            go_quiet (fail)
            go_wp2_with (refine st_tab (q' := q0) (HZR.out.keep (w' := wr.drewN nq) rfl) rfl rfl _ _ rfl rfl rfl ?_; intro W5 g1 g2 g3)
            exact bodyPost_ret (res_tab Tryd.results19 _ g1 rfl rfl) rfl ⟨q0, rfl, rfl, below_grown_new (below_drewN HB3R.out nq) g3 (Nat.le_refl _)⟩
        · have hl4b : ((ell.length : Int) != 4) = true := by simp; omega
          have hnone : R = none := by
            rw [HREST.out]
            unfold refRow
            simp only [T.l]
            split <;> first | rfl | (rename_i h; split at h <;> simp_all)
          subst hnone
          go_wp2_with fail
          go_quiet (fail)
          go_wp2_with (refine st_tab (q' := q0) (HZR.out.keep (w' := wr.drewN nq) rfl) rfl rfl _ _ rfl rfl rfl ?_; intro W5 g1 g2 g3)
          exact bodyPost_ret (res_tab Tryd.results19 _ g1 rfl rfl) rfl ⟨q0, rfl, rfl, below_grown_new (below_drewN HB3R.out nq) g3 (Nat.le_refl _)⟩
      · obtain rfl : k = n := by omega
        have hkz : ¬ (k : Int) < (k : Int) := by omega
        have hsome : R = some q := by
          rw [← hO.rest, List.drop_eq_nil_of_le (by have := HN.out; omega)]
          rfl
        subst hsome
        have hx := rtext_any (w := wr) hO.ok
        have hlen := hO.ok.len
        obtain ⟨S, hS⟩ : ∃ S, textB q = S := ⟨_, rfl⟩
        rw [hS] at hx
        have HSS := Lib.hid hS
        have HX := Lib.hid hx
        have HT := Lib.hid hO.tab
        have HZR := Lib.hid hZ
        have HB3R := Lib.hid hb3r
        clear hS hx hO hZ hb3r
        by_cases hE : S = s
        · have hF : refEnd s (some q) = some q := by
            unfold refEnd
            exact if_pos (by rw [HSS.out]; exact hE)
          have HFF := Lib.hid hF
          clear hF
          subst hE
          go_wp2_with (with_reducible refine ld_tab HT.out rfl _ rfl rfl ?_)
          refine HX.out.mono ?_
          rintro e w4 ⟨rfl, hb4⟩
          have T4 := HT.out.on hb4
          have Z4 := HZR.out.on hb4
          go_wp2_with (first | (with_reducible refine ld_tab T4 rfl _ rfl rfl ?_) | (refine st_tab (q' := q) Z4 hlen rfl _ _ rfl rfl rfl ?_; intro W5 g1 g2 g3))
          exact bodyPost_ret (res_tab Tryd.results19 _ g1 rfl rfl) rfl ⟨q, hlen, by simp [HFF.out], below_grown_new (HB3R.out.trans (hb4.mono HB3R.out.size)) g3 (Nat.le_refl _)⟩
        · have hF : refEnd s (some q) = none := by
            unfold refEnd
            exact if_neg (by rw [HSS.out]; exact hE)
          have HFF := Lib.hid hF
          clear hF
          have hb1 : (S.toList == s.toList) = false := by
            rw [str_eq_dec]
            exact decide_eq_false hE
          go_wp2_with (with_reducible refine ld_tab HT.out rfl _ rfl rfl ?_)
          refine HX.out.mono ?_
          rintro e w4 ⟨rfl, hb4⟩
          have Z4 := HZR.out.on hb4
          go_wp2_with (refine st_tab (q' := q0) Z4 rfl rfl _ _ rfl rfl rfl ?_; intro W5 g1 g2 g3)
          exact bodyPost_ret (res_tab Tryd.results19 _ g1 rfl rfl) rfl ⟨q0, rfl, by simp [HFF.out], below_grown_new (HB3R.out.trans (hb4.mono HB3R.out.size)) g3 (Nat.le_refl _)⟩
end Go.Proofs.YtbijaipoifpngaaDoor.Be
