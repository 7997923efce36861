/- ChartGets returns true. Conditions: the charts' nodes read as lists. -/
import Derived.Test.YtmepahlmbopacaaChLawB
import Derived.Deep.CutRange
set_option linter.unusedVariables false
set_option linter.unusedSimpArgs false
set_option maxRecDepth 100000
namespace Go.Proofs.Ytmepahlmbopacaa.Ct
open Go Go.RowKit
/-- What a Done has put into a new variable. -/
structure NX (wr wc : World) (y : Nat) (E : Int) (A3 : Option Addr) (n3 c3 : Nat) (L : List Int) : Prop where
  row : Row wc y 24 [.int .i64 E, .slice A3 n3 c3]
  own : wc.ownsRow wr.heap.size 3 1 (.slice A3 n3 c3) n3 (ints L)
  bel : Below wr.heap.size wr wc
  yw : wr.heap.size ≤ y
section
variable {wr w5 : World} {E : Int} {A3 : Option Addr} {n3 c3 : Nat} {L : List Int}
theorem nx_last (hown : w5.ownsRow wr.drew.heap.size 3 1 (.slice A3 n3 c3) n3 (ints L)) (hb : Below wr.drew.heap.size wr.drew w5) : NX wr (w5.alloc (.cells #[.int .i64 E, .slice A3 n3 c3] 24)) w5.heap.size E A3 n3 c3 L := by
  have hb' : Below wr.heap.size wr w5 := (below_drewN (Below.refl wr.heap.size wr) 1).trans hb
  exact ⟨Row.new w5 24 [.int .i64 E, .slice A3 n3 c3], hown.alloc _, hb'.alloc hb'.size _, hb'.size⟩
abbrev z0W (wr : World) : World := wr.alloc (.cells #[.int .i64 0, .slice none 0 0] 24)
theorem nx_row (hb : Below (z0W wr).drew.heap.size (z0W wr).drew w5) : Row w5 wr.heap.size 24 [.int .i64 0, .slice none 0 0] :=
  (show Row (z0W wr).drew wr.heap.size 24 [.int .i64 0, .slice none 0 0] from Row.new wr 24 [.int .i64 0, .slice none 0 0]).keep (hb.block _ (by show wr.heap.size < (wr.alloc _).heap.size; simp))
theorem below_d (hb : Below wr.drew.heap.size wr.drew w5) : Below wr.heap.size wr w5 := (below_drewN (Below.refl wr.heap.size wr) 1).trans hb
theorem below_z (hb : Below (z0W wr).drew.heap.size (z0W wr).drew w5) : Below wr.heap.size wr w5 := (show Below wr.heap.size wr (z0W wr).drew from below_drewN ((Below.refl wr.heap.size wr).alloc (Nat.le_refl _) _) 1).trans (hb.mono (by show wr.heap.size ≤ (wr.alloc _).heap.size; simp))
theorem nx_first (hown : w5.ownsRow (z0W wr).drew.heap.size 3 1 (.slice A3 n3 c3) n3 (ints L)) (hb : Below (z0W wr).drew.heap.size (z0W wr).drew w5) : NX wr ((w5.setCell ⟨wr.heap.size, 0, none⟩ (.int .i64 E)).setCell ⟨wr.heap.size, 1, none⟩ (.slice A3 n3 c3)) wr.heap.size E A3 n3 c3 L := by
  have e : (z0W wr).drew.heap.size = wr.heap.size + 1 := by show (wr.alloc _).heap.size = _; simp
  have hb' : Below wr.heap.size wr w5 := (show Below wr.heap.size wr (z0W wr).drew from below_drewN ((Below.refl wr.heap.size wr).alloc (Nat.le_refl _) _) 1).trans (hb.mono (by omega))
  rw [e] at hown
  refine ⟨((nx_row hb).set 0 _).set 1 _, own_base (ownsRow_setCell_below (ownsRow_setCell_below hown (by show wr.heap.size < wr.heap.size + 1; omega) _) (by show wr.heap.size < wr.heap.size + 1; omega) _) (Nat.le_succ _), below_setCell (below_setCell hb' (p := ⟨wr.heap.size, 0, none⟩) (Nat.le_refl _) _) (p := ⟨wr.heap.size, 1, none⟩) (Nat.le_refl _) _, Nat.le_refl _⟩
end
theorem reads_set_ne {w : World} {B n : Nat} {A : Option Addr} {xs : List Value} (h : Reads w B 1 A n xs) {p : Nat} (hne : ∀ ad, A = some ad → ad.block ≠ p) (j : Nat) (u : Value) : Reads (w.setCell ⟨p, j, none⟩ u) B 1 A n xs :=
  ⟨h.1, fun hn => by
    obtain ⟨ad, e, hb, hc⟩ := h.2 hn
    exact ⟨ad, e, hb, fun k x hx => (World.cell?_setCell_other w ⟨p, j, none⟩ _ u (fun e2 => hne ad e (by have h3 := congrArg Addr.block e2; simp only [block_of_add] at h3; first | exact h3 | exact h3.symm))).trans (hc k x hx)⟩⟩
/-- A chart in a variable at p, so many moves on. -/
structure GI (w1 wr : World) (p : Nat) (e : Int) (i : Nat) (A : Option Addr) (n c : Nat) (L : List Int) : Prop where
  row : Row wr p 24 [.int .i64 (e + i), .slice A n c]
  rd : Reads wr wr.heap.size 1 A n (ints L)
  ne : ∀ ad, A = some ad → ad.block ≠ p
  nc : n ≤ c
  cm : c ≤ maxLen
  may : mayC (e + i) L = true
  bel : Below w1.heap.size w1 wr
  pw : w1.heap.size ≤ p
theorem GI.next {w1 wr wc : World} {p y : Nat} {e : Int} {i : Nat} {A A3 : Option Addr} {n c n3 c3 : Nat} {L L' : List Int} (h : GI w1 wr p e i A n c L) (hx : NX wr wc y (e + (i + 1 : Nat)) A3 n3 c3 L') (hm : mayC (e + (i + 1 : Nat)) L' = true) :
    wc.cell? ⟨p, 0, none⟩ = some (.int .i64 (e + i)) ∧ wc.cell? ⟨p, 1, none⟩ = some (.slice A n c) ∧ wc.frozen? ⟨p, 0, none⟩ = false ∧ wc.frozen? ⟨p, 1, none⟩ = false ∧ p < wc.heap.size ∧
    wc.cell? ⟨y, 0, none⟩ = some (.int .i64 (e + (i + 1 : Nat))) ∧ wc.cell? ⟨y, 1, none⟩ = some (.slice A3 n3 c3) ∧ y < wc.heap.size ∧
    GI w1 ((wc.setCell ⟨p, 0, none⟩ (.int .i64 (e + (i + 1 : Nat)))).setCell ⟨p, 1, none⟩ (.slice A3 n3 c3)) p e (i + 1) A3 n3 c3 L' := by
  have hp := h.row.lt
  have rp := h.row.keep (hx.bel.block _ hp)
  have hR := Reads.of_own hx.own
  have hne : ∀ ad, A3 = some ad → ad.block ≠ p := fun ad hA hb => by
    subst hA
    have := (hx.own.lt ad.block (by
      rcases hx.own.2 with ⟨h1, _⟩ | ⟨g, cap, cur, h1, _⟩
      · simp at h1
      · injection h1 with h1 _ _
        injection h1 with h1
        subst h1
        rfl)).1
    omega
  obtain ⟨h1, h2⟩ := own_cap hx.own
  have hs : ((wc.setCell ⟨p, 0, none⟩ (.int .i64 (e + (i + 1 : Nat)))).setCell ⟨p, 1, none⟩ (.slice A3 n3 c3)).heap.size = wc.heap.size := by simp
  refine ⟨rp.cell (j := 0) rfl, rp.cell (j := 1) rfl, rp.frozen 0, rp.frozen 1, rp.lt, hx.row.cell (j := 0) rfl, hx.row.cell (j := 1) rfl, hx.row.lt, (rp.set 0 _).set 1 _, ?_, hne, h1, h2, hm, ?_, h.pw⟩
  · rw [hs]
    exact reads_set_ne (reads_set_ne hR hne _ _) hne _ _
  · exact below_setCell (below_setCell (h.bel.trans (hx.bel.mono (by have := h.bel.size; omega))) (p := ⟨p, 0, none⟩) h.pw _) (p := ⟨p, 1, none⟩) h.pw _
/-- What a Done of the next move says, at two worlds. -/
def NextP (er EN : Int) (Ln : List Int) (X : World) (en : Ending) (w' : World) : Prop := ∃ A3 n3 c3, en = .returned (.tuple #[.agg #[.int .i64 EN, .slice A3 n3 c3], .int .i64 er]) ∧ w'.ownsRow X.heap.size 3 1 (.slice A3 n3 c3) n3 (ints Ln) ∧ Below X.heap.size X w'
theorem next_any {w1 wr X : World} {p : Nat} {e : Int} {i : Nat} {A : Option Addr} {n c : Nat} {L : List Int} (h : GI w1 wr p e i A n c L) (hX : Below wr.heap.size wr X) {s : Nat} {f t : Int} (hs : s < L.length) (ht : 0 ≤ t ∧ t < 8) (hne : t ≠ f) (hf : L.getD s 0 = f) :
    ∃ er EN Ln, (er = 0 ∧ EN = e + ((i + 1 : Nat) : Int) ∧ Ln = L.set s t ∧ mayC (e + ((i + 1 : Nat) : Int)) (L.set s t) = true ∨ er = 101 ∧ EN = 0 ∧ Ln = [] ∧ e + i = 1099511627776) ∧
      ∀ X, Below wr.heap.size wr X → Calls Try.prog 9 #[.agg #[.int .i64 (e + i), .slice A n c], .agg #[.int .i64 (s : Int), .int .i64 f, .int .i64 t]] X (NextP er EN Ln X) := by
  have hm := h.may
  have hc := mayC_iff.1 hm
  have hD := fun X (hX : Below wr.heap.size wr X) => done_any (w := X) (c := c) (e + i) (h.rd.below hX) hX.size ⟨(s : Int), f, t⟩ h.nc h.cm
  unfold DonePost at hD
  by_cases he : e + i = 1099511627776
  · have h1 : doneE (e + i) L ⟨(s : Int), f, t⟩ = 101 := doneE_epoch (by
      have h2 : nodeC t = true := nodeC_iff.2 ht
      simp only [hm, h2, not_or]
      refine ⟨by simp, by omega, by omega, by simp, hne⟩) (by simpa using hf) he
    refine ⟨101, 0, [], .inr ⟨rfl, rfl, rfl, he⟩, fun X hX => (hD X hX).mono fun en w' hp => ?_⟩
    have h2 : doneN (e + i) L ⟨(s : Int), f, t⟩ = 0 := by rw [doneN, if_neg (by omega)]
    have h3 : doneL (e + i) L ⟨(s : Int), f, t⟩ = [] := by rw [doneL, if_neg (by omega)]
    rw [h1, h2, h3] at hp
    exact hp
  · obtain ⟨d1, d2, d3⟩ := done_yes hm hs ht hne hf he
    have e1 : e + (i : Int) + 1 = e + ((i + 1 : Nat) : Int) := by omega
    refine ⟨0, e + ((i + 1 : Nat) : Int), L.set s t, .inl ⟨rfl, rfl, rfl, mayC_set hm ⟨by omega, by omega⟩ ht⟩, fun X hX => (hD X hX).mono fun en w' hp => ?_⟩
    rw [d1, d2, d3, e1] at hp
    exact hp
set_option maxHeartbeats 8000000 in
theorem chartGets_walk {w : World} {B B' : Nat} {A A' : Option Addr} {n n' c c' : Nat} {l l' : List Int} (e e' : Int) (hR : Reads w B 1 A n (ints l)) (hB : B ≤ w.heap.size) (hR' : Reads w B' 1 A' n' (ints l')) (hB' : B' ≤ w.heap.size) (hnc : n ≤ c) (hc : c ≤ maxLen) (hc' : n' ≤ maxLen) :
    Calls Try.prog 4 #[.agg #[.int .i64 e, .slice A n c], .agg #[.int .i64 e', .slice A' n' c']] w (Gives (.bool true) w) := by
  have hln := hR.len
  have hln' := hR'.len
  obtain ⟨W, hW⟩ : ∃ W, W = (w.alloc (.cells #[.int .i64 e, .slice A n c] 24)).alloc (.cells #[.int .i64 e', .slice A' n' c'] 24) := ⟨_, rfl⟩
  have hB0 : Below w.heap.size w W := by rw [hW]; exact ((Below.refl _ w).alloc (Nat.le_refl _) _).alloc (by simp) _
  have r1 : Row W w.heap.size 24 [.int .i64 e, .slice A n c] := by
    rw [hW]
    exact (Row.new w 24 [.int .i64 e, .slice A n c]).keep (heap_alloc_lt _ _ (by simp))
  have r2 : Row W (w.heap.size + 1) 24 [.int .i64 e', .slice A' n' c'] := by
    rw [hW]
    have := Row.new (w.alloc (.cells #[.int .i64 e, .slice A n c] 24)) 24 [.int .i64 e', .slice A' n' c']
    rwa [World.size_alloc] at this
  have h1 := (hR.more hB).below hB0
  have h2 := (hR'.more hB').below hB0
  have hsW := hB0.size
  have HD1 := Lib.hid (diff_any (c := c) (c' := c') e e' h1 hsW h2 hsW)
  have KX := Lib.hid (fun w2 (hb : Below W.heap.size W w2) => show (w2.cell? ⟨w.heap.size, 0, none⟩ = some (.int .i64 e) ∧ w2.cell? ⟨w.heap.size, 1, none⟩ = some (.slice A n c) ∧ w2.cell? ⟨w.heap.size + 1, 0, none⟩ = some (.int .i64 e') ∧ w2.cell? ⟨w.heap.size + 1, 1, none⟩ = some (.slice A' n' c') ∧ w.heap.size < w2.heap.size ∧ w.heap.size + 1 < w2.heap.size) from
    ⟨(r1.keep (hb.block _ r1.lt)).cell (j := 0) rfl, (r1.keep (hb.block _ r1.lt)).cell (j := 1) rfl, (r2.keep (hb.block _ r2.lt)).cell (j := 0) rfl, (r2.keep (hb.block _ r2.lt)).cell (j := 1) rfl, (r1.keep (hb.block _ r1.lt)).lt, (r2.keep (hb.block _ r2.lt)).lt⟩)
  have KR := Lib.hid (fun w1 (hb : Below W.heap.size W w1) => And.intro (h1.below (hb.mono hsW)) (And.intro (h2.below (hb.mono hsW)) (Nat.le_trans hsW hb.size)))
  have HW := Lib.hid hW
  have HB0 := Lib.hid hB0
  have HL := Lib.hid (And.intro hln hln')
  have HSW := Lib.hid hsW
  clear hR hB hR' hB' hW hB0 r1 r2 h1 h2 hln hln' hsW
  by_cases hok : mayC e l = true ∧ mayC e' l' = true ∧ l.length = l'.length
  · have hE : diffE e l e' l' = 0 := by unfold diffE; rw [if_pos hok]
    have hD : diffL e l e' l' = dm l l' l.length := by unfold diffL; rw [if_pos hok]
    rw [hE, hD] at HD1
    clear hE hD
    obtain ⟨k1, k2, k3⟩ := hok
    obtain ⟨⟨m1, m2⟩, ⟨m3, m4⟩, m5⟩ := mayC_iff.1 k1
    have HM := Lib.hid (And.intro k1 (And.intro k2 k3))
    have HM5 := Lib.hid (mayC_iff.1 k2).2.2
    have n16 : n ≤ 16 := by have := HL.out; omega
    have n1 : 1 ≤ n := by have := HL.out; omega
    have HN := Lib.hid (dm_len l l' l.length)
    clear k1 k2 k3 m3 m4 m5
    go_enter Try.func4, Try.ntmps4
    go_wp2_with fail
    rw [← HW.out]
    refine HD1.out.mono ?_
    rintro en w1 ⟨v, rfl, hown1, hb1⟩
    obtain ⟨Am, cm, rfl, _, _⟩ := own_shape hown1
    obtain ⟨x0, x1, y0, y1, xl, yl⟩ := KX.out w1 hb1
    have HV := Lib.hid (Reads.of_own hown1)
    have hg0 : GI w1 (w1.alloc (.cells #[.int .i64 e, .slice A n c] 24)) w1.heap.size e 0 A n c (app l ((dm l l' l.length).take 0)) := by
      refine ⟨?_, ?_, ?_, hnc, hc, ?_, (Below.refl _ w1).alloc (Nat.le_refl _) _, Nat.le_refl _⟩
      · rw [Int.natCast_zero, Int.add_zero]
        exact Row.new w1 24 [.int .i64 e, .slice A n c]
      · exact (((KR.out w1 hb1).1.more (KR.out w1 hb1).2.2).alloc (Nat.le_refl _) _).more (by simp)
      · intro ad hA
        obtain ⟨ad', hA', hb', _⟩ := (KR.out w1 hb1).1.2 (by omega)
        rw [hA] at hA'
        injection hA' with hA'
        subst hA'
        have := (KR.out w1 hb1).2.2
        omega
      · rw [Int.natCast_zero, Int.add_zero]
        exact HM.out.1
    have HG0 := Lib.hid hg0
    have HB1 := Lib.hid hb1
    clear hown1 hb1 hg0 HD1
    generalize hN : (dm l l' l.length).length = N at *
    have hN16 : N ≤ 16 := by have := HN.out; have := HL.out; omega
    have HNN := Lib.hid hN
    clear hN
    go_wp2_with fail
    go_loopw [8] (fun v8 wr => ∃ (i : Nat) (Ai : Option Addr) (ci : Nat), i ≤ N ∧ v8 = .int .i64 (i : Int) ∧ GI w1 wr w1.heap.size e i Ai n ci (app l ((dm l l' l.length).take i))) (fun v8 _ => N - (intOf v8).toNat)
    case atStart => exact ⟨0, A, c, Nat.zero_le _, rfl, HG0.out⟩
    case round =>
      obtain ⟨i, Ai, ci, hi, rfl, hG⟩ := hrel
      by_cases hlt : i < N
      · have hltz : (i : Int) < (N : Int) := by omega
        obtain ⟨s, hsn, hmv, hne, hcur⟩ := app_next (a := l) (b := l') (k := l.length) (i := i) (by rw [HNN.out]; exact hlt)
        obtain ⟨ad, hAm, hab, hil, v0, v1, v2⟩ := move_at (HV.out.below hG.bel) hlt
        have hgd : (dm l l' l.length).getD i mv0 = ⟨(s : Int), l.getD s 0, l'.getD s 0⟩ := by
          rw [List.getD_eq_getElem?_getD, List.getElem?_eq_getElem hil, ← hmv]
          rfl
        have htk : app l ((dm l l' l.length).take (i + 1)) = (app l ((dm l l' l.length).take i)).set s (l'.getD s 0) := by
          rw [List.take_succ_eq_append_getElem hil, app_snoc, hmv]
          simp
        have ht8 := HM5.out (l'.getD s 0) (mem_getD (by have := HM.out.2.2; omega))
        have hsL : s < (app l ((dm l l' l.length).take i)).length := by rw [app_len]; exact hsn
        rw [hgd] at v0 v1 v2
        simp only at v0 v1 v2
        obtain ⟨er, EN, Ln, hor, hcall⟩ := next_any hG (Below.refl _ _) hsL ht8 (fun h => hne h.symm) hcur
        rw [← htk] at hor
        have HOR := Lib.hid hor
        have HTK := Lib.hid htk
        subst hAm
        have hadl : (ad.add (i * 3)).block < wr.heap.size := by rw [block_of_add]; have := hG.bel.size; omega
        generalize l.getD s 0 = f at *
        generalize l'.getD s 0 = t at *
        have p0 := hG.row.cell (j := 0) rfl
        have p1 := hG.row.cell (j := 1) rfl
        have pl := hG.row.lt
        have KS := Lib.hid (fun w' (hb : Below wr.heap.size wr w') => show w'.cell? ⟨w1.heap.size, 0, none⟩ = some (.int .i64 (e + i)) ∧ w'.cell? ⟨w1.heap.size, 1, none⟩ = some (.slice Ai n ci) ∧ w'.cell? (ad.add (i * 3)) = some (.int .i64 (s : Int)) ∧ w'.cell? ⟨(ad.add (i * 3)).block, (ad.add (i * 3)).off + 1, none⟩ = some (.int .i64 f) ∧ w'.cell? ⟨(ad.add (i * 3)).block, (ad.add (i * 3)).off + 2, none⟩ = some (.int .i64 t) from
          ⟨(hb.cell (p := ⟨w1.heap.size, 0, none⟩) pl).trans p0, (hb.cell (p := ⟨w1.heap.size, 1, none⟩) pl).trans p1, (hb.cell hadl).trans v0, (hb.cell (p := ⟨(ad.add (i * 3)).block, (ad.add (i * 3)).off + 1, none⟩) hadl).trans v1, (hb.cell (p := ⟨(ad.add (i * 3)).block, (ad.add (i * 3)).off + 2, none⟩) hadl).trans v2⟩)
        have hbd : Below wr.heap.size wr wr.drew := below_drewN (Below.refl _ wr) 1
        have hbz : Below wr.heap.size wr (z0W wr).drew := below_drewN ((Below.refl _ wr).alloc (Nat.le_refl _) _) 1
        have HC1 := Lib.hid (hcall _ hbd)
        have HC2 := Lib.hid (hcall _ hbz)
        have HBD := Lib.hid hbd
        have HBZ := Lib.hid hbz
        have HS0 := Lib.hid (KS.out _ hbd)
        have HZ0 := Lib.hid (KS.out _ hbz)

        have HG := Lib.hid hG
        clear hor hcall hgd htk ht8 hsL hmv hne hcur hG hab hil hbd hbz
        go_upto_region 8 with fail
        go_cut [9, 10] from 34 to 42 (fun s9 s10 wc => ∃ (y : Nat) (A3 : Option Addr) (n3 c3 : Nat), s9 = .pointer (some ⟨y, 0, none⟩) ∧ s10 = .int .i64 er ∧ Hid (NX wr wc y EN A3 n3 c3 Ln))
        case first =>
          go_region_held3 (fun w' => w'.cell? ⟨w1.heap.size, 0, none⟩ = some (.int .i64 (e + i)) ∧ w'.cell? ⟨w1.heap.size, 1, none⟩ = some (.slice Ai n ci) ∧ w'.cell? (ad.add (i * 3)) = some (.int .i64 (s : Int)) ∧ w'.cell? ⟨(ad.add (i * 3)).block, (ad.add (i * 3)).off + 1, none⟩ = some (.int .i64 f) ∧ w'.cell? ⟨(ad.add (i * 3)).block, (ad.add (i * 3)).off + 2, none⟩ = some (.int .i64 t))
            (first | exact HS6.out | exact HS5.out | exact HS0.out | exact HZ0.out | go_keep)
            (first
              | (go_at_call 9; with_reducible refine HC1.out.mono ?_; intro en w5 hpost; unfold NextP at hpost; obtain ⟨A3, n3, c3, rfl, hown, hb⟩ := hpost; have HP := Lib.hid (nx_last (E := EN) hown hb); have HS6 := Lib.hid (KS.out _ HP.out.bel); have HS5 := Lib.hid (KS.out w5 (below_d hb)); clear hown hb)
              | (go_at_call 9; with_reducible refine HC2.out.mono ?_; intro en w5 hpost; unfold NextP at hpost; obtain ⟨A3, n3, c3, rfl, hown, hb⟩ := hpost; have HP := Lib.hid (nx_first (E := EN) hown hb); have HS6 := Lib.hid (KS.out _ HP.out.bel); have hob := nx_row hb; have o0 := hob.cell (j := 0) rfl; have o1 := hob.cell (j := 1) rfl; have of0 := hob.frozen 0; have of1 := hob.frozen 1; have ol := hob.lt; have HS5 := Lib.hid (KS.out w5 (below_z hb)); clear hown hb hob))
          all_goals
            go_wp2_with fail
            go_meet
          · exact ⟨_, A3, n3, c3, rfl, rfl, HP⟩
          · exact ⟨_, A3, n3, c3, rfl, rfl, HP⟩
        case rest =>
          obtain ⟨y, A3, n3, c3, rfl, rfl, HP⟩ := hcut
          rcases HOR.out with ⟨rfl, rfl, rfl, hmay⟩ | ⟨rfl, rfl, rfl, hbig⟩
          · obtain rfl : n3 = n := by
              have := own_len HP.out.own
              rw [app_len] at this
              have := HL.out
              omega
            obtain ⟨g0, g1, g2, g3, g4, g5, g6, g7, g8⟩ := HG.out.next HP.out hmay
            have HG8 := Lib.hid g8
            clear g8 hmay HC1 HC2 HS0 HZ0 p0 p1 v0 v1 v2 x0 x1 y0 y1 xl yl
            go_wp2_with fail
            exact ⟨⟨i + 1, A3, c3, hlt, by go_num, HG8.out⟩, by simp [intOf]; omega⟩
          · have hbw : Below W.heap.size W wc := (HB1.out.trans (HG.out.bel.mono HB1.out.size)).trans (HP.out.bel.mono (Nat.le_trans HB1.out.size HG.out.bel.size))
            obtain ⟨z0, z1, z2, z3, z4, z5⟩ := KX.out wc hbw
            have hbe : (1099511627760 : Int) < e := by have := HN.out; have := HL.out; omega
            have HA := Lib.hid (cawake_any wc)
            have HBW := Lib.hid (HB0.out.trans (hbw.mono HB0.out.size))
            clear hbw HC1 HC2 HS0 HZ0 p0 p1 v0 v1 v2 x0 x1 y0 y1 xl yl
            go_wp2_with fail
            refine HA.out.mono ?_
            rintro en w6 ⟨rfl, hb6⟩
            go_wp2_with fail
            go_ret
            exact ⟨rfl, below_then HBW.out hb6⟩
      · obtain rfl : i = N := by omega
        have hnl : ¬ (i : Int) < (i : Int) := by omega
        have htk : (dm l l' l.length).take i = dm l l' l.length := List.take_of_length_le (by rw [HNN.out]; exact Nat.le_refl _)
        rw [htk, app_dm HM.out.2.2] at hG
        have hbw : Below W.heap.size W wr := HB1.out.trans (hG.bel.mono HB1.out.size)
        obtain ⟨z0, z1, z2, z3, z4, z5⟩ := KX.out wr hbw
        obtain ⟨_, hRb, hrs⟩ := KR.out wr hbw
        have hnn : n = n' := by have := HL.out; have := HM.out.2.2; omega
        subst hnn
        have g0 := hG.row.cell (j := 0) rfl
        have g1 := hG.row.cell (j := 1) rfl
        have gl := hG.row.lt
        have HD := Lib.hid (diff_any (c := ci) (c' := c') (e + i) e' hG.rd (Nat.le_refl _) hRb hrs)
        have hE : diffE (e + i) l' e' l' = 0 := by unfold diffE; rw [if_pos ⟨hG.may, HM.out.2.1, rfl⟩]
        have hD : diffL (e + i) l' e' l' = [] := by unfold diffL; rw [if_pos ⟨hG.may, HM.out.2.1, rfl⟩, dm_same]
        rw [hE, hD] at HD
        have HG := Lib.hid (And.intro hG (And.intro hRb hrs))
        have HBW := Lib.hid hbw
        have ewr : wrap64 (e + i) = e + i := by have := (mayC_iff.1 hG.may).1; unfold wrap64; omega
        clear hE hD hG hRb hrs hbw x0 x1 y0 y1 xl yl htk
        go_wp2_with fail
        refine HD.out.mono ?_
        rintro en w6 ⟨vd, rfl, hown, hb6⟩
        obtain ⟨Ad, cd, rfl, _, _⟩ := own_shape hown
        have hbw := HBW.out.trans (hb6.mono HBW.out.size)
        clear z0 z1 z2 z3 z4 z5 g0 g1 gl
        obtain ⟨z0, z1, z2, z3, z4, z5⟩ := KX.out w6 hbw
        have hrow := HG.out.1.row.keep (hb6.block _ HG.out.1.row.lt)
        have g0 := hrow.cell (j := 0) rfl
        have g1 := hrow.cell (j := 1) rfl
        have gl := hrow.lt
        have HS := Lib.hid (sameInts_any Ai A' n n ci c' wr.heap.size w.heap.size l' l' w6 (HG.out.1.rd.below hb6) (HG.out.2.1.below (hb6.mono HG.out.2.2)) hc' hc')
        rw [decide_eq_true (rfl : l' = l')] at HS
        have HAW := Lib.hid (fun W' => cawake_any W')
        have HBV := Lib.hid (HB0.out.trans (hbw.mono HB0.out.size))
        clear hown hb6 hbw hrow HD
        go_wp2_with fail
        refine HS.out.mono ?_
        rintro en w7 ⟨rfl, q4, rfl⟩
        go_wp2_with fail
        refine (HAW.out _).mono ?_
        rintro en w8 ⟨rfl, hb8⟩
        go_wp2_with fail
        go_ret
        exact ⟨rfl, below_then (below_drewN HBV.out q4) hb8⟩
  · have hE : diffE e l e' l' = 1 := by unfold diffE; rw [if_neg hok]
    have hD : diffL e l e' l' = [] := by unfold diffL; rw [if_neg hok]
    rw [hE, hD] at HD1
    clear hE hD hok
    go_enter Try.func4, Try.ntmps4
    go_wp2_with fail
    rw [← HW.out]
    refine HD1.out.mono ?_
    rintro en w1 ⟨v, rfl, hown1, hb1⟩
    obtain ⟨Am, cm, rfl, _, _⟩ := own_shape hown1
    have HA := Lib.hid (cawake_any w1)
    have HB1 := Lib.hid (HB0.out.trans (hb1.mono HB0.out.size))
    clear hb1 hown1
    go_wp2_with fail
    refine HA.out.mono ?_
    rintro en w2 ⟨rfl, hb2⟩
    go_wp2_with fail
    go_ret
    exact ⟨rfl, below_then HB1.out hb2⟩
end Go.Proofs.Ytmepahlmbopacaa.Ct
