/- What Of of the document's answers returns. Conditions: none. -/
import Derived.Test.YtmepahlmbopacaaDoorChOf
import Derived.Test.YtmepahlmbopacaaDoorBRefI
set_option linter.unusedVariables false
set_option linter.unusedSimpArgs false
set_option maxRecDepth 100000
namespace Go.Proofs.YtmepahlmbopacaaDoor.Ct
open Go Go.RowKit
open Be (T enc encL kindsOk kindsOkL deepT deepL wfT wfL tidy tidyL onlyRes takeRes gdT numT numL RdL Rd RdA ReadsP Keeps)
theorem news_one (w : World) (n : Int) : ∀ j u, [Value.int .i64 n][j]? = some u → (w.alloc (.cells #[.int .i64 n] 3)).cell? ((⟨w.heap.size, 0, none⟩ : Addr).add j) = some u :=
  news_cells w #[.int .i64 n] 3
set_option maxHeartbeats 16000000 in
theorem rcof_any (s : ByteArray) (hs : s.size ≤ 1000000000) (w : World) : Calls Tryd.prog 18 #[.string s] w (OfPost (ofC s) w) := by
  obtain ⟨i0, hi, hz0, hz1, hz2⟩ := info_parts int_row
  obtain ⟨W, hW⟩ : ∃ W, W = w.alloc (.cells #[.int .i64 0, .slice none 0 0] 24) := ⟨_, rfl⟩
  have hB0 : Below w.heap.size w W := by rw [hW]; exact (Below.refl _ w).alloc (Nat.le_refl _) _
  have r0 : Row W w.heap.size 24 [.int .i64 0, .slice none 0 0] := by rw [hW]; exact Row.new w 24 [.int .i64 0, .slice none 0 0]
  have hsW : W.heap.size = w.heap.size + 1 := by rw [hW]; simp
  have KR := Lib.hid (fun w1 (hb : Below W.heap.size W w1) => show Row w1 w.heap.size 24 [.int .i64 0, .slice none 0 0] ∧ Below w.heap.size w w1 from ⟨r0.keep (hb.block _ r0.lt), hB0.trans (hb.mono hB0.size)⟩)
  have HON := Lib.hid (Be.ronly_any s hs W)
  have HW := Lib.hid hW
  have HRR0 := Lib.hid (And.intro r0 hB0)
  have HSW := Lib.hid hsW
  clear hB0 r0 hW hsW
  cases ho : onlyRes s.data.toList with
  | error x =>
    rw [ho] at HON
    have hx := only_err ho
    have hxb : (x != 0) = true := by simpa using hx
    have HE := Lib.hid (show ofC s = none by unfold ofC; rw [ho])
    clear ho hx
    go_enter Tryd.func18, Tryd.ntmps18
    go_wp2_with fail
    rw [← HW.out]
    refine HON.out.mono ?_
    intro en w1 hpost
    unfold Be.OnPost at hpost
    obtain ⟨rfl, hb1⟩ := hpost
    obtain ⟨rr, hbw⟩ := KR.out w1 hb1
    have x0 := rr.cell (j := 0) rfl
    have x1 := rr.cell (j := 1) rfl
    have f0 := rr.frozen 0
    have f1 := rr.frozen 1
    have xl := rr.lt
    have HRR := Lib.hid (And.intro rr hbw)
    simp only [Be.zeroA]
    clear rr hbw hb1 HON
    go_wp2_with fail
    have rs := ((HRR.out.1.set 0 (.int .i64 0)).set 1 (.slice none 0 0)).keep (heap_alloc_lt _ (.cells #[.int .i64 0, .int .i64 0, .string ⟨#[]⟩, .slice none 0 0] 60) ((HRR.out.1.set 0 (.int .i64 0)).set 1 (.slice none 0 0)).lt)
    have g0 := rs.cell (j := 0) rfl
    have g1 := rs.cell (j := 1) rfl
    refine bodyPost_ret (v := .tuple #[.agg #[.int .i64 0, .slice none 0 0], .int .i64 20]) (by simp [results, Tryd.results18, go_sem, g0, g1]) rfl (OfPost.no HE.out ?_)
    exact (below_setCell (below_setCell HRR.out.2 (p := ⟨w.heap.size, 0, none⟩) (Nat.le_refl _) _) (p := ⟨w.heap.size, 1, none⟩) (Nat.le_refl _) _).alloc (by simpa using HRR.out.2.size) _
  | ok t =>
    rw [ho] at HON
    have hsm := len_small ho
    have hof : ofC s = pickC s t.l := by unfold ofC; rw [ho]
    clear ho
    obtain ⟨tk, tn, ts, tl⟩ := t
    simp only [Be.T.l] at hof hsm
    by_cases h2 : tl.length = 2
    · obtain ⟨a, b, rfl⟩ := two_of h2
      obtain ⟨ak, an, as_, al⟩ := a
      obtain ⟨bk, bn, bs, bl⟩ := b
      have hbl := hsm.2 _ (List.mem_cons_of_mem _ (List.mem_cons_self ..))
      simp only [Be.T.l] at hbl
      have hof2 : ofC s = if mayC an (bl.map T.n) = true ∧ textB an (bl.map T.n) = s then some (an, bl.map T.n) else none := by rw [hof]; rfl
      have HOF := Lib.hid hof2
      clear hof hof2 hsm h2
      go_enter Tryd.func18, Tryd.ntmps18
      go_wp2_with fail
      rw [← HW.out]
      refine HON.out.mono ?_
      intro en w1 hpost
      unfold Be.OnPost at hpost
      obtain ⟨v, rfl, hRA, hb1⟩ := hpost
      obtain ⟨A, c, xs, rfl, _, hlc, hcm, hr, hrl⟩ := hRA
      simp only [Be.T.k, Be.T.n, Be.T.s, Be.T.l] at hr hrl hlc ⊢
      obtain ⟨pb, po, A0, c0, hA0, hbb, hblt, _, _, e0, e1, _, _⟩ := Be.elem_at (k := 0) hr hrl (by simp)
      obtain ⟨pb2, po2, A2, c2, hA2, _, _, _, hRB, _, _, _, d3⟩ := Be.elem_at (k := 1) hr hrl (by simp)
      subst hA0
      injection hA2 with hA2
      injection hA2 with h3 h4 _
      subst h3 h4
      simp only [List.getElem_cons_zero, List.getElem_cons_succ, Be.T.k, Be.T.n, Be.T.s, Be.T.l, Nat.zero_mul, Nat.add_zero, Nat.one_mul] at e0 e1 d3 hRB
      obtain ⟨A2', c2', xs2, hv2, _, _, _, hr2, hrl2⟩ := hRB
      simp only [Be.T.k, Be.T.n, Be.T.s, Be.T.l, Value.agg.injEq, Array.mk.injEq, List.cons.injEq, Value.slice.injEq, and_true, true_and] at hv2 hr2 hrl2
      obtain ⟨rfl, rfl⟩ := hv2
      rw [show ([T.mk ak an as_ al, T.mk bk bn bs bl] : List T).length = 2 from rfl] at hlc ⊢
      obtain ⟨U, hU⟩ : ∃ U, U = (w1.alloc (.cells #[.int .i64 tk, .int .i64 tn, .string ts, .slice (some ⟨pb, po, none⟩) 2 c] 60)).alloc (.cells #[.int .i64 an, .slice none 0 0] 24) := ⟨_, rfl⟩
      have hbU : Below w1.heap.size w1 U := by rw [hU]; exact ((Below.refl _ w1).alloc (Nat.le_refl _) _).alloc (by simp) _
      have ru : Row U w1.heap.size 60 [.int .i64 tk, .int .i64 tn, .string ts, .slice (some ⟨pb, po, none⟩) 2 c] := by
        rw [hU]
        exact (Row.new w1 60 [.int .i64 tk, .int .i64 tn, .string ts, .slice (some ⟨pb, po, none⟩) 2 c]).keep (heap_alloc_lt _ _ (by simp))
      have rp : Row U (w1.heap.size + 1) 24 [.int .i64 an, .slice none 0 0] := by
        rw [hU]
        have := Row.new (w1.alloc (.cells #[.int .i64 tk, .int .i64 tn, .string ts, .slice (some ⟨pb, po, none⟩) 2 c] 60)) 24 [.int .i64 an, .slice none 0 0]
        rwa [World.size_alloc] at this
      have hos : OS U U (w1.heap.size + 1) an (.slice none 0 0) 0 (bl.map T.n) := ⟨rp, World.ownsRow_nil .., rp.lt, Below.refl _ _⟩
      have KE := Lib.hid (fun wr (hb : Below (w1.heap.size + 1) U wr) => show ReadsP (fun b => b < w1.heap.size) wr 4 A2 bl.length xs2 ∧ RdL (fun b => b < w1.heap.size) wr bl xs2 from by
        have hb2 : Below w1.heap.size w1 wr := hbU.trans (hb.mono (by omega))
        have k0 : Keeps (fun b => b < w1.heap.size) w1 wr := Keeps.of_below hb2 (fun b hb _ => hb)
        exact ⟨(hr2.mono (fun b _ hl => hl)).keep k0, RdL.keep k0 _ _ (RdL.mono (fun b _ hl => hl) _ _ hrl2)⟩)
      have KB := Lib.hid (fun wr (hb : Below (w1.heap.size + 1) U wr) => show Row wr w.heap.size 24 [.int .i64 0, .slice none 0 0] ∧ Below w.heap.size w wr ∧ Below W.heap.size W wr from by
        have hb2 : Below W.heap.size W wr := hb1.trans ((hbU.trans (hb.mono (by omega))).mono hb1.size)
        exact ⟨(KR.out wr hb2).1, (KR.out wr hb2).2, hb2⟩)
      have hpbU : pb < U.heap.size := Nat.lt_of_lt_of_le hblt hbU.size
      have KD := Lib.hid (fun wr (hb : Below (w1.heap.size + 1) U wr) => show wr.cell? ⟨w1.heap.size, 3, none⟩ = some (.slice (some ⟨pb, po, none⟩) 2 c) ∧ wr.cell? ⟨pb, po + 4 + 3, none⟩ = some (.slice A2 bl.length c2) ∧ w1.heap.size < wr.heap.size ∧ pb < wr.heap.size from
        ⟨(hb.cell (p := ⟨w1.heap.size, 3, none⟩) (Nat.lt_succ_self _)).trans (ru.cell (j := 3) rfl), (hb.cell (p := ⟨pb, po + 4 + 3, none⟩) (Nat.lt_succ_of_lt hblt)).trans ((hbU.cell (p := ⟨pb, po + 4 + 3, none⟩) hblt).trans d3), Nat.lt_of_lt_of_le ru.lt hb.size, Nat.lt_of_lt_of_le hpbU hb.size⟩)
      have d3' := (hbU.cell (p := ⟨pb, po + 4 + 3, none⟩) hblt).trans d3
      have u3 := ru.cell (j := 3) rfl
      have ul := ru.lt
      have hpbU : pb < U.heap.size := Nat.lt_of_lt_of_le hblt hbU.size
      have HU := Lib.hid hU
      have HOS := Lib.hid hos
      have HWU := Lib.hid hbU
      clear hr hrl hr2 hrl2 hU hos hb1 ru rp hbU e0 hbb d3 HON
      generalize hp : w1.heap.size + 1 = p at *
      have HP := Lib.hid hp
      clear hp
      go_upto_region 5 with fail
      rw [HP.out, ← HU.out]
      go_wp2_with fail
      go_loopw [7] (fun v wr => ∃ (va : Value) (k : Nat), v = .int .i64 (k : Int) ∧ k ≤ bl.length ∧ OS U wr p an va k (bl.map T.n)) (fun v _ => bl.length - (intOf v).toNat)
      case atStart => exact ⟨_, 0, rfl, Nat.zero_le _, HOS.out⟩
      case round =>
        obtain ⟨va, k, rfl, hk, hO⟩ := hrel
        obtain ⟨Aq, cq, rfl, hkq, hcq⟩ := own_shape hO.own
        obtain ⟨u3r, d3r, ulr, hpr⟩ := KD.out wr hO.bel
        have y1 := hO.row.cell (j := 1) rfl
        have yl := hO.row.lt
        by_cases hlt : k < bl.length
        · have hltz : (k : Int) < (bl.length : Int) := by omega
          obtain ⟨hrk, hlk⟩ := KE.out wr hO.bel
          obtain ⟨b, o, A', c', hA, hbb, hblt', hbf, _, q0, q1, q2, q3⟩ := Be.elem_at hrk hlk hlt
          subst hA
          have HTK := Lib.hid (show (bl.map T.n).take (k + 1) = (bl.map T.n).take k ++ [(bl[k]).n] by rw [List.take_succ_eq_append_getElem (by simpa using hlt), List.getElem_map])
          have HO := Lib.hid hO
          have hle := hO.le
          have hkb : k ≤ 65536 := by omega
          clear hO hrk hlk hbb hbf hkq hcq
          generalize bl[k] = u at *
          obtain ⟨uk, un, us, ul⟩ := u
          simp only [Be.T.k, Be.T.n, Be.T.s, Be.T.l] at q0 q1 q2 q3 HTK
          generalize hn2 : bl.length = n2 at *
          have HN2 := Lib.hid hn2
          clear hn2
          go_wp2_with fail
          go_region_law (refine step_append_lies _ rfl (.tmp 41) (.tmp 51) 22 rfl (p + 1) 3 i0 (.int .i64 0) 1 8 Tryd.underlying22 hi hz0 hz1 hz2 rfl (by decide) (.slice Aq k cq) k (ints ((bl.map T.n).take k)) rfl (by first | exact HO.out.own.alloc _ | exact (own_drewN HO.out.own _).alloc _) _ 1 1 _ rfl rfl (news_one _ un) (by intro u hu; simp at hu; subst hu; rfl) (by decide) (by unfold maxLen; omega) (by omega) (by simp; omega) _ rfl ?_; intro g cap w3 hown3 hgr3 hlies hlt3; rw [show ints ((bl.map T.n).take k) ++ [Value.int .i64 un] = ints ((bl.map T.n).take (k + 1)) by rw [ints_snoc, ← HTK.out]] at hown3; have HN := Lib.hid (HO.out.step ((below_drewN (Below.refl _ wr) _).alloc (Nat.le_refl _) _) hown3 hgr3); have z1 := HN.out.z1; have z2 := HN.out.y1; have l3 := HN.out.l3; clear hown3 hgr3 hlies hlt3)
          all_goals (
            go_wp2_with fail
            exact ⟨⟨_, k + 1, by go_num, hlt, HN.out.next⟩, by simp [intOf]; omega⟩)
        · obtain rfl : k = bl.length := by omega
          have hnl : ¬ (bl.length : Int) < (bl.length : Int) := by omega
          have y0 := hO.row.cell (j := 0) rfl
          have hown := hO.own
          rw [List.take_of_length_le (by simp)] at hown
          obtain ⟨rr, hbw, hbW⟩ := KB.out wr hO.bel
          have HTX := Lib.hid (rctext_any (w := wr) (c := cq) an (Reads.of_own hown) (Nat.le_refl _) (by unfold maxLen; omega))
          have HX := Lib.hid (And.intro (Reads.of_own hown) (And.intro rr (And.intro hbw (own_off hown (show w.heap.size + 1 ≤ p + 1 by have := HP.out; have := HWU.out.size; have h9 := HSW.out; have h8 := hbW.size; omega)))))
          clear hO hown rr hbw hbW
          generalize hn2 : bl.length = n2 at *
          have HN2 := Lib.hid hn2
          clear hn2
          go_wp2_with fail
          refine HTX.out.mono ?_
          rintro en w5 ⟨rfl, hb5⟩
          have HRR := Lib.hid (And.intro (HX.out.2.1.keep (hb5.block _ HX.out.2.1.lt)) (below_then HX.out.2.2.1 hb5))
          have x0 := HRR.out.1.cell (j := 0) rfl
          have x1 := HRR.out.1.cell (j := 1) rfl
          have f0 := HRR.out.1.frozen 0
          have f1 := HRR.out.1.frozen 1
          have xl := HRR.out.1.lt
          have w0 := (hb5.cell (p := ⟨p, 0, none⟩) yl).trans y0
          have w1' := (hb5.cell (p := ⟨p, 1, none⟩) yl).trans y1
          have wl := Nat.lt_of_lt_of_le yl hb5.size
          have HR5 := Lib.hid ((HX.out.1.below hb5).more hb5.size)
          clear hb5 y0 y1 yl
          unfold txS
          cases hmc : mayC an (bl.map T.n) with
          | false =>
            have HE := Lib.hid (show ofC s = none by rw [HOF.out, if_neg (by rw [hmc]; simp)])
            clear hmc
            go_wp2_with fail
            have rs := (HRR.out.1.set 0 (.int .i64 0)).set 1 (.slice none 0 0)
            have g0 := rs.cell (j := 0) rfl
            have g1 := rs.cell (j := 1) rfl
            refine bodyPost_ret (v := .tuple #[.agg #[.int .i64 0, .slice none 0 0], .int .i64 20]) (by simp [results, Tryd.results18, go_sem, g0, g1]) rfl (OfPost.no HE.out ?_)
            exact below_setCell (below_setCell HRR.out.2 (p := ⟨w.heap.size, 0, none⟩) (Nat.le_refl _) _) (p := ⟨w.heap.size, 1, none⟩) (Nat.le_refl _) _
          | true =>
            by_cases hts : textB an (bl.map T.n) = s
            · have HE := Lib.hid (show ofC s = some (an, bl.map T.n) by rw [HOF.out, if_pos ⟨hmc, hts⟩])
              clear hmc
              rw [if_pos rfl, if_pos rfl, hts]
              clear hts
              go_wp2_with fail
              have rs := (HRR.out.1.set 0 (.int .i64 an)).set 1 (.slice Aq n2 cq)
              have g0 := rs.cell (j := 0) rfl
              have g1 := rs.cell (j := 1) rfl
              have hsz : ((w5.setCell ⟨w.heap.size, 0, none⟩ (.int .i64 an)).setCell ⟨w.heap.size, 1, none⟩ (.slice Aq n2 cq)).heap.size = w5.heap.size := by simp
              refine bodyPost_ret (v := .tuple #[.agg #[.int .i64 an, .slice Aq n2 cq], .int .i64 0]) (by simp [results, Tryd.results18, go_sem, g0, g1]) rfl (OfPost.yes HE.out ?_ ?_)
              · rw [hsz]
                exact reads_set_ne (reads_set_ne HR5.out HX.out.2.2.2 _ _) HX.out.2.2.2 _ _
              · exact below_setCell (below_setCell HRR.out.2 (p := ⟨w.heap.size, 0, none⟩) (Nat.le_refl _) _) (p := ⟨w.heap.size, 1, none⟩) (Nat.le_refl _) _
            · have HE := Lib.hid (show ofC s = none by rw [HOF.out, if_neg (fun h => hts h.2)])
              have htb := str_ne hts
              rw [if_pos rfl, if_pos rfl]
              clear hmc hts
              generalize textB an (bl.map T.n) = X at *
              go_wp2_with fail
              have rs := (HRR.out.1.set 0 (.int .i64 0)).set 1 (.slice none 0 0)
              have g0 := rs.cell (j := 0) rfl
              have g1 := rs.cell (j := 1) rfl
              refine bodyPost_ret (v := .tuple #[.agg #[.int .i64 0, .slice none 0 0], .int .i64 20]) (by simp [results, Tryd.results18, go_sem, g0, g1]) rfl (OfPost.no HE.out ?_)
              exact below_setCell (below_setCell HRR.out.2 (p := ⟨w.heap.size, 0, none⟩) (Nat.le_refl _) _) (p := ⟨w.heap.size, 1, none⟩) (Nat.le_refl _) _
    · have HE := Lib.hid (show ofC s = none by rw [hof]; exact pick_two h2)
      have h2b : ((tl.length : Int) != 2) = true := by rw [bne_iff_ne]; omega
      clear hof hsm h2
      go_enter Tryd.func18, Tryd.ntmps18
      go_wp2_with fail
      rw [← HW.out]
      refine HON.out.mono ?_
      intro en w1 hpost
      unfold Be.OnPost at hpost
      obtain ⟨v, rfl, hRA, hb1⟩ := hpost
      obtain ⟨A, c, xs, rfl, _⟩ := hRA
      simp only [Be.T.k, Be.T.n, Be.T.s, Be.T.l]
      obtain ⟨rr, hbw⟩ := KR.out w1 hb1
      have x0 := rr.cell (j := 0) rfl
      have x1 := rr.cell (j := 1) rfl
      have f0 := rr.frozen 0
      have f1 := rr.frozen 1
      have xl := rr.lt
      have HRR := Lib.hid (And.intro rr hbw)
      clear rr hbw hb1 HON
      go_wp2_with fail
      have rs := ((HRR.out.1.set 0 (.int .i64 0)).set 1 (.slice none 0 0)).keep (heap_alloc_lt _ (.cells #[.int .i64 tk, .int .i64 tn, .string ts, .slice A tl.length c] 60) ((HRR.out.1.set 0 (.int .i64 0)).set 1 (.slice none 0 0)).lt)
      have g0 := rs.cell (j := 0) rfl
      have g1 := rs.cell (j := 1) rfl
      refine bodyPost_ret (v := .tuple #[.agg #[.int .i64 0, .slice none 0 0], .int .i64 20]) (by simp [results, Tryd.results18, go_sem, g0, g1]) rfl (OfPost.no HE.out ?_)
      exact (below_setCell (below_setCell HRR.out.2 (p := ⟨w.heap.size, 0, none⟩) (Nat.le_refl _) _) (p := ⟨w.heap.size, 1, none⟩) (Nat.le_refl _) _).alloc (by simpa using HRR.out.2.size) _
end Go.Proofs.YtmepahlmbopacaaDoor.Ct
