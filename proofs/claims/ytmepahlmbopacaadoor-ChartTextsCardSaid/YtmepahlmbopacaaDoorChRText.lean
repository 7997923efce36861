/- What Text of the document's answers returns. Conditions: the chart's nodes read as a list. -/
import Derived.Test.YtmepahlmbopacaaDoorChText
import Derived.Deep.RegionLaw
set_option linter.unusedVariables false
set_option linter.unusedSimpArgs false
set_option maxRecDepth 100000
namespace Go.Proofs.YtmepahlmbopacaaDoor.Ct
open Go Go.RowKit
open Be (T enc encL kindsOk kindsOkL deepT deepL wfT wfL tidy tidyL onlyRes takeRes gdT numT numL RdL Rd RdA ReadsP Keeps)
/-- The document's list of nodes, as it grows in a variable at p. -/
structure VS (w1 wr : World) (p : Nat) (va : Value) (k : Nat) (l : List Int) : Prop where
  row : Row wr p 60 [.int .i64 3, .int .i64 0, .string ⟨#[]⟩, va]
  own : wr.ownsRow (p + 1) 60 4 va k (ivals (l.take k))
  le : p + 1 ≤ wr.heap.size
  bel : Below w1.heap.size w1 wr
  pw : w1.heap.size ≤ p
structure VN (w1 w3 : World) (p : Nat) (va v' : Value) (k : Nat) (l : List Int) : Prop where
  z1 : w3.frozen? ⟨p, 3, none⟩ = false
  y1 : w3.cell? ⟨p, 3, none⟩ = some va
  l3 : p < w3.heap.size
  next : VS w1 (w3.setCell ⟨p, 3, none⟩ v') p v' (k + 1) l
theorem VS.step {w1 wr wd w3 : World} {p : Nat} {va v' : Value} {k : Nat} {l : List Int} (h : VS w1 wr p va k l) (hd : Below wr.heap.size wr wd) (ho : w3.ownsRow (p + 1) 60 4 v' (k + 1) (ivals (l.take (k + 1)))) (hg : wd.grownBy w3 va.ownBlock) : VN w1 w3 p va v' k l := by
  have hle := h.le
  have hpw := h.pw
  have hownd := keep_none h.own hd
  have hb : Below (p + 1) wd w3 := below_own hownd hg (Nat.le_trans hle hd.size)
  have hb2 : Below (p + 1) wr w3 := (hd.mono hle).trans hb
  have r3 := h.row.keep (hb2.block p (by omega))
  have hs := hb2.size
  refine ⟨r3.frozen 3, r3.cell (j := 3) rfl, r3.lt, r3.set 3 v', ownsRow_setCell_below ho (a := ⟨p, 3, none⟩) (by show p < p + 1; omega) v', by simp; omega, below_setCell (h.bel.trans (hb2.mono (by omega))) (p := ⟨p, 3, none⟩) hpw v', hpw⟩
theorem news_val (w : World) (n : Int) : ∀ j u, (vcell n)[j]? = some u → (w.alloc (.cells #[.int .i64 1, .int .i64 n, .string ⟨#[]⟩, .slice none 0 0] 60)).cell? ((⟨w.heap.size, 0, none⟩ : Addr).add j) = some u :=
  news_cells w #[.int .i64 1, .int .i64 n, .string ⟨#[]⟩, .slice none 0 0] 60
set_option maxHeartbeats 8000000 in
theorem rctext_any {w : World} {B : Nat} {A : Option Addr} {n c : Nat} {l : List Int} (e : Int) (hR : Reads w B 1 A n (ints l)) (hB : B ≤ w.heap.size) (hn : n ≤ maxLen) :
    Calls Tryd.prog 16 #[.agg #[.int .i64 e, .slice A n c]] w (Gives (.tuple #[.string (txS e l), .int .i64 (if mayC e l = true then 0 else 1)]) w) := by
  obtain ⟨i0, hi, hz0, hz1, hz2⟩ := info_parts Be.value_row
  have hln := hR.len
  obtain ⟨W, hW⟩ : ∃ W, W = w.alloc (.cells #[.int .i64 e, .slice A n c] 24) := ⟨_, rfl⟩
  have hB0 : Below w.heap.size w W := by rw [hW]; exact (Below.refl _ w).alloc (Nat.le_refl _) _
  have r0 : Row W w.heap.size 24 [.int .i64 e, .slice A n c] := by rw [hW]; exact Row.new w 24 [.int .i64 e, .slice A n c]
  have h1 := (hR.more hB).below hB0
  have HC := Lib.hid (may_any (c := c) e h1 hB0.size hn)
  have KR := Lib.hid (fun w1 (hb : Below W.heap.size W w1) => show w1.cell? ⟨w.heap.size, 0, none⟩ = some (.int .i64 e) ∧ w1.cell? ⟨w.heap.size, 1, none⟩ = some (.slice A n c) ∧ w.heap.size < w1.heap.size ∧ Reads w1 w.heap.size 1 A n (ints l) ∧ Below w.heap.size w w1 from
    ⟨(r0.keep (hb.block _ r0.lt)).cell (j := 0) rfl, (r0.keep (hb.block _ r0.lt)).cell (j := 1) rfl, (r0.keep (hb.block _ r0.lt)).lt, h1.below (hb.mono hB0.size), hB0.trans (hb.mono hB0.size)⟩)
  have HW := Lib.hid hW
  have HB0 := Lib.hid hB0
  have HL := Lib.hid hln
  clear hR hB hB0 r0 hW h1 hln hn
  unfold txS
  cases hmc : mayC e l with
  | false =>
    rw [hmc] at HC
    clear hmc
    go_enter Tryd.func16, Tryd.ntmps16
    go_wp2_with fail
    rw [← HW.out]
    refine HC.out.mono ?_
    rintro en w1 ⟨rfl, hb1⟩
    have HB1 := Lib.hid (HB0.out.trans (hb1.mono HB0.out.size))
    clear hb1
    go_wp2_with fail
    go_ret2
    exact ⟨rfl, HB1.out⟩
  | true =>
    rw [hmc] at HC
    have HM := Lib.hid hmc
    have hl16 := (mayC_iff.1 hmc).2.1.2
    have hn16 : n ≤ 16 := by have := HL.out; omega
    clear hmc
    go_enter Tryd.func16, Tryd.ntmps16
    go_wp2_with fail
    rw [← HW.out]
    refine HC.out.mono ?_
    rintro en w1 ⟨rfl, hb1⟩
    obtain ⟨U, hU⟩ : ∃ U, U = w1.alloc (.cells #[.int .i64 3, .int .i64 0, .string ⟨#[]⟩, .slice none 0 0] 60) := ⟨_, rfl⟩
    have hv0 : VS w1 U w1.heap.size (.slice none 0 0) 0 l := by
      rw [hU]
      exact ⟨Row.new w1 60 [.int .i64 3, .int .i64 0, .string ⟨#[]⟩, .slice none 0 0], World.ownsRow_nil .., by simp, (Below.refl _ w1).alloc (Nat.le_refl _) _, Nat.le_refl _⟩
    have HV0 := Lib.hid hv0
    have HU := Lib.hid hU
    have HB1 := Lib.hid hb1
    clear hb1 hv0 hU
    go_wp2_with fail
    rw [← HU.out]
    go_loopw [5] (fun i wr => ∃ (va : Value) (k : Nat), i = .int .i64 (k : Int) ∧ k ≤ n ∧ VS w1 wr w1.heap.size va k l) (fun i _ => n - (intOf i).toNat)
    case atStart => exact ⟨_, 0, rfl, Nat.zero_le _, HV0.out⟩
    case round =>
      obtain ⟨va, k, rfl, hk, hV⟩ := hrel
      have hbW := HB1.out.trans (hV.bel.mono HB1.out.size)
      obtain ⟨x0, x1, xl, hRr, _⟩ := KR.out wr hbW
      obtain ⟨Aq, cq, rfl, _, _⟩ := own_shape hV.own
      have y3 := hV.row.cell (j := 3) rfl
      have yl := hV.row.lt
      by_cases hlt : k < n
      · have hltz : (k : Int) < (n : Int) := by omega
        obtain ⟨ad, rfl, hab, hc⟩ := hRr.int_at hlt
        have hadl : (ad.add k).block < wr.heap.size := by rw [block_of_add]; omega
        have htk := take_snoc l k (by have := HL.out; omega)
        have HTK := Lib.hid (show ivals (l.take (k + 1)) = ivals (l.take k) ++ vcell (l.getD k 0) by rw [htk, ivals_snoc])
        have HV := Lib.hid hV
        have hle := hV.le
        clear hV hbW hRr htk
        generalize l.getD k 0 = x at *
        go_wp2_with fail
        go_region_law (refine step_append_lies _ rfl (.tmp 18) (.tmp 25) 58 rfl (w1.heap.size + 1) 60 i0 _ 4 56 Tryd.underlying58 hi hz0 hz1 hz2 rfl (by decide) (.slice Aq k cq) k (ivals (l.take k)) rfl (by first | exact HV.out.own.alloc _ | exact (own_drewN HV.out.own _).alloc _) _ 1 1 _ rfl rfl (news_val _ x) (by intro u hu; simp [vcell] at hu; rcases hu with rfl | rfl | rfl | rfl <;> rfl) (by decide) (by unfold maxLen; omega) (by omega) (by simp; omega) _ rfl ?_; intro g cap w3 hown3 hgr3 hlies hlt3; rw [← HTK.out] at hown3; have HN := Lib.hid (HV.out.step ((below_drewN (Below.refl _ wr) _).alloc (Nat.le_refl _) _) hown3 hgr3); have z1 := HN.out.z1; have y1 := HN.out.y1; have l3 := HN.out.l3; clear hown3 hgr3 hlies hlt3)
        all_goals (
          go_wp2_with fail
          exact ⟨⟨_, k + 1, by go_num, hlt, HN.out.next⟩, by simp [intOf]; omega⟩)
      · obtain rfl : k = n := by omega
        have hnl : ¬ (k : Int) < (k : Int) := by omega
        have y0 := hV.row.cell (j := 0) rfl
        have y1 := hV.row.cell (j := 1) rfl
        have y2 := hV.row.cell (j := 2) rfl
        obtain ⟨_, _, hnq, hcq⟩ : True ∧ True ∧ k ≤ cq ∧ cq ≤ maxLen := by
          obtain ⟨A', c', hq, h1, h2⟩ := own_shape hV.own
          injection hq with _ _ hq
          subst hq
          exact ⟨trivial, trivial, h1, h2⟩
        have hown := hV.own
        rw [List.take_of_length_le (by rw [HL.out]; exact Nat.le_refl _)] at hown
        obtain ⟨a1, a2, a3, a4, a5, a6⟩ := text_facts HM.out
        obtain ⟨U2, hU2⟩ : ∃ U2, U2 = wr.alloc (.cells #[.int .i64 1, .int .i64 e, .string ⟨#[]⟩, .slice none 0 0, .int .i64 3, .int .i64 0, .string ⟨#[]⟩, .slice Aq k cq] 60) := ⟨_, rfl⟩
        have hbU2 : Below wr.heap.size wr U2 := by rw [hU2]; exact (Below.refl _ wr).alloc (Nat.le_refl _) _
        have hRP : ReadsP (fun b => True) U2 4 (some ⟨wr.heap.size, 0, none⟩) 2 (cval e Aq k cq) := by rw [hU2]; exact reads_newP (xs := cval e Aq k cq) (n := 2) trivial rfl
        have hRA : RdA (fun b => True) U2 (textC e l) (.agg #[.int .i64 3, .int .i64 0, .string ⟨#[]⟩, .slice (some ⟨wr.heap.size, 0, none⟩) 2 2]) := by
          refine ⟨_, 2, cval e Aq k cq, rfl, by simp [textC, Be.T.s, maxLen], Nat.le_refl _, by unfold maxLen; omega, hRP, rdl_cval e HL.out hnq hcq ?_⟩
          exact (((Be.ReadsP.of_own hown).mono (ok' := fun b => b < wr.heap.size) (fun b _ hl => hl)).keep (Keeps.of_below hbU2 (fun b hb _ => hb))).mono (fun b _ _ => trivial)
        have HP := Lib.hid (Be.rbput_any (textC e l) _ _ U2 hRA a1 a6 (by omega) (by omega))
        have hb0 : Below w.heap.size w U2 := HB0.out.trans ((hbW.trans (hbU2.mono hbW.size)).mono HB0.out.size)
        have HU2 := Lib.hid hU2
        have HBW := Lib.hid hb0
        clear hV hbW hRr hown a1 a2 a3 a4 a5 a6 hU2 hbU2 hRP hRA hb0 hnq hcq
        go_wp2_with fail
        rw [← HU2.out]
        refine HP.out.mono ?_
        rintro en w6 ⟨rfl, hb6⟩
        go_wp2_with fail
        go_ret2
        exact ⟨rfl, below_then HBW.out hb6⟩
end Go.Proofs.YtmepahlmbopacaaDoor.Ct
