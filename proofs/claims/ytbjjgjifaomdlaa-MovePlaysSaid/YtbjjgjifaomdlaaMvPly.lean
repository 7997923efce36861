/- A move says, and stands, as the document says: the law's walk. Conditions: the texts of the script are no longer than may be. -/
import Derived.Test.YtbjjgjifaomdlaaMvSame
import Derived.Test.YtbjjgjifaomdlaaMvLd
import Derived.Test.YtbjjgjifaomdlaaMvRn
set_option linter.unusedVariables false
set_option linter.unusedSimpArgs false
set_option maxRecDepth 100000
namespace Go.Proofs.Ytbjjgjifaomdlaa.Mv
open Go Go.RowKit
open Po (M msgV)
/-- Both moves. -/
structure PL (w W : World) (p X : Nat) (m : Mv) : Prop where
  ms : MS w W p m
  rx : Row W X 31 (mvV m)
  lo : w.heap.size ≤ X
  ne : X ≠ p
section
variable {w W W2 : World} {p X : Nat} {m m' : Mv}
theorem PL.on (h : PL w W p X m) (hb : Below W.heap.size W W2) : PL w W2 p X m := ⟨h.ms.on hb, h.rx.keep (hb.block _ h.rx.lt), h.lo, h.ne⟩
end
/-- Between the two: the program's has moved on. -/
structure PM (w W : World) (p X : Nat) (m m' : Mv) : Prop where
  ms : MS w W p m'
  rx : Row W X 31 (mvV m)
  lo : w.heap.size ≤ X
  ne : X ≠ p
section
variable {w W W2 : World} {p X : Nat} {m m' : Mv}
theorem PL.mv (h : PL w W p X m) (hd : IsM W2 p m' ∧ Turn (fun b => b = p) W (fun b => b = p) W2) : PM w W2 p X m m' := ⟨h.ms.mv hd, h.rx.keep (hd.2.block _ h.rx.lt h.ne), h.lo, h.ne⟩
theorem PM.on (h : PM w W p X m m') (hb : Below W.heap.size W W2) : PM w W2 p X m m' := ⟨h.ms.on hb, h.rx.keep (hb.block _ h.rx.lt), h.lo, h.ne⟩
theorem PM.st (h : PM w W p X m m') (hr : Row W2 X 31 (mvV m')) (hg : W.grownBy W2 (some X)) (hs : W2.heap.size = W.heap.size) : PL w W2 p X m' := ⟨h.ms.grown hg h.ne h.lo hs, hr, h.lo, h.ne⟩
end
/-- The calls of a script in memory: its kind, from where, the message's cells. -/
def ActsAt (w : World) (B : Nat) (A : Option Addr) (n : Nat) : Prop := ∀ i, i < n → ∃ ad k f x A1 n1 c1 A2 n2 c2, A = some ad ∧ ad.block < B ∧ NC (ad.add (i * 18)) (.int .i64 k :: .int .i64 f :: msgV x A1 n1 c1 A2 n2 c2) w ∧ x.tx.size ≤ 281474976710656
theorem mvA (m : Mv) : (mvV m).toArray = #[.int .i64 m.nm, .int .i64 m.ep, .int .i64 m.ph, .int .i64 m.vr, .int .i64 m.sh, .int .i64 m.fr, .int .i64 m.to, .string m.tx] := rfl
theorem rows_start (w : World) (a b s f t : Int) {w1 : World}
    (hb : Below ((w.alloc (.cells #[.int .i64 a, .int .i64 b] 22)).alloc (.cells #[.int .i64 s, .int .i64 f, .int .i64 t] 24)).heap.size ((w.alloc (.cells #[.int .i64 a, .int .i64 b] 22)).alloc (.cells #[.int .i64 s, .int .i64 f, .int .i64 t] 24)) w1) : Row w1 w.heap.size 22 [.int .i64 a, .int .i64 b] ∧ Row w1 (w.heap.size + 1) 24 [.int .i64 s, .int .i64 f, .int .i64 t] := by
  have r0 := (Row.new w 22 [.int .i64 a, .int .i64 b])
  have r1 := r0.keep (heap_alloc_lt _ (.cells #[.int .i64 s, .int .i64 f, .int .i64 t] 24) r0.lt)
  have v1 := row_new1 w (.cells #[.int .i64 a, .int .i64 b] 22) 24 [.int .i64 s, .int .i64 f, .int .i64 t]
  exact ⟨r1.keep (hb.block _ r1.lt), v1.keep (hb.block _ v1.lt)⟩
set_option maxHeartbeats 16000000 in
theorem plays_walk (a b s f t : Int) {w : World} {B : Nat} {A : Option Addr} {n c : Nat} (hA : ActsAt w B A n) (hB : B ≤ w.heap.size) (hn : n ≤ maxLen) : Calls Try.prog 3 #[.agg #[.int .i64 a, .int .i64 b], .agg #[.int .i64 s, .int .i64 f, .int .i64 t], .slice A n c] w (Gives (.bool true) w) := by
  have HAW := Lib.hid (fun w => awake_any w)
  have hb0 : Below w.heap.size w ((w.alloc (.cells #[.int .i64 a, .int .i64 b] 22)).alloc (.cells #[.int .i64 s, .int .i64 f, .int .i64 t] 24)) := ((Below.refl _ w).alloc (Nat.le_refl _) _).alloc (by simp) _
  have HB0 := Lib.hid hb0
  clear hb0
  have HRN := Lib.hid (fun w => rnew_any a b s f t w)
  unfold RNPost at HRN
  by_cases hk : okN a b s f t
  rotate_left
  · have H0 := Lib.hid (fun w => new_no a b s f t w hk)
    rw [if_neg hk, if_neg hk] at HRN
    clear hk
    as_aux_lemma =>
    simp only [mvA, noMv] at HRN
    go_enter Try.func3, Try.ntmps3
    go_wp2_with fail
    with_reducible refine (H0.out _).mono ?_
    rintro e w1 ⟨rfl, hb1⟩
    have HB1 := Lib.hid (HB0.out.trans (hb1.mono HB0.out.size))
    obtain ⟨r1, r2⟩ := rows_start w a b s f t hb1
    have k0 := r1.cell (j := 0) rfl
    have k1 := r1.cell (j := 1) rfl
    have k2 := r2.cell (j := 0) rfl
    have k3 := r2.cell (j := 1) rfl
    have k4 := r2.cell (j := 2) rfl
    have kl := r2.lt
    have kl' := r1.lt
    clear hb1 r1 r2
    go_wp2_with fail
    refine (HRN.out _).mono ?_
    rintro e w2 ⟨rfl, hb2⟩
    have HB2 := Lib.hid ((HB1.out.trans (hb2.mono HB1.out.size)).alloc (HB1.out.trans (hb2.mono HB1.out.size)).size (.cells #[.int .i64 0, .int .i64 0, .int .i64 0, .int .i64 0, .int .i64 0, .int .i64 0, .int .i64 0, .string { data := #[] }] 31))
    clear hb2 k0 k1 k2 k3 k4 kl kl'
    go_wp2_with fail
    refine (HAW.out _).mono ?_
    rintro e w3 ⟨rfl, hb3⟩
    have hfin := HB2.out.trans (hb3.mono HB2.out.size)
    go_wp2
    go_ret
    exact ⟨rfl, hfin⟩
  have H0 := Lib.hid (fun w => new_is a b s f t w hk)
  rw [if_pos hk, if_pos hk] at HRN
  simp only [mvA, newM] at HRN
  have HAA := Lib.hid (And.intro hA (And.intro hB hn))
  clear hk hA hB hn
  go_enter Try.func3, Try.ntmps3
  go_wp2_with fail
  with_reducible refine (H0.out _).mono ?_
  rintro e w1 ⟨p, rfl, h1, h2, hb⟩
  have HL := Lib.hid (show LS w w1 p (newM a b s f t) a b s f t from ls_start w a b s f t h1 h2 hb)
  obtain ⟨k0, k1, k2, k3, k4, kl⟩ := HL.out.cells
  have kl' : w.heap.size < w1.heap.size := by omega
  clear h1 h2 hb
  go_wp2_with fail
  refine (HRN.out _).mono ?_
  rintro e w2 ⟨rfl, hb2⟩
  have HP := Lib.hid (show PL w (w2.alloc (.cells (mvV (newM a b s f t)).toArray 31)) p w2.heap.size (newM a b s f t) from
    ⟨(HL.out.ms.on hb2).on (below_a _ _), Row.new w2 _ _, (HL.out.ms.on hb2).bel.size, by have := (HL.out.ms.on hb2).is.lt; omega⟩)
  clear hb2 HL k0 k1 k2 k3 k4 kl kl'
  go_wp2_with fail
  generalize w2.heap.size = X at *
  go_loopw [11] (fun st wr => ∃ (i : Nat) (m : Mv), st = .int .i64 (i : Int) ∧ i ≤ n ∧ Hid (PL w wr p X m)) (fun st _ => ((n : Int) - intOf st).toNat)
  case atStart => exact ⟨0, _, rfl, by omega, HP⟩
  case round =>
    obtain ⟨i, m, rfl, hi, H⟩ := hrel
    clear HP
    have HSA := Lib.hid (fun w (h : IsM w p m) => same_mv h)
    by_cases hlt : i < n ∧ (i : Int) < 100
    rotate_left
    · rcases (by omega : ¬ ((i : Int) < (n : Int)) ∨ ((i : Int) < (n : Int) ∧ ¬ ((i : Int) < 100))) with hnl | ⟨hl, hnl⟩
      all_goals
        as_aux_lemma =>
        clear hlt
        go_wp2_with (refine ld_mv (by exact H.out.rx) rfl _ rfl rfl ?_)
        refine (HSA.out _ H.out.ms.is).mono ?_
        rintro e w3 ⟨rfl, hb3⟩
        have HZ := Lib.hid (H.out.ms.bel.trans (hb3.mono H.out.ms.bel.size))
        clear hb3
        go_wp2_with fail
        refine (HAW.out _).mono ?_
        rintro e w4 ⟨rfl, hb4⟩
        have hfin := HZ.out.trans (hb4.mono HZ.out.size)
        go_wp2
        go_ret
        exact ⟨rfl, hfin⟩
    obtain ⟨ad, k, ff, x, A1, n1, c1, A2, n2, c2, rfl, hadb, hact0, hsz⟩ := HAA.out.1 i hlt.1
    have hact := Lib.hid (show NC (ad.add (i * 18)) [.int .i64 k, .int .i64 ff, .int .i64 x.kd, .int .i64 x.sh, .int .i64 x.ep, .int .i64 x.cl, .int .i64 x.sq, .int .i64 x.nn, .int .i64 x.vr, .int .i64 x.lm, .int .i64 x.ok, .int .i64 x.oi, .slice A1 n1 c1, .int .i64 x.kk, .int .i64 x.er, .bool x.wa, .slice A2 n2 c2, .string x.tx] wr from hact0.below (by rw [block_of_add]; exact hadb) (H.out.ms.bel.mono HAA.out.2.1))
    have hn2 := HAA.out.2.2
    have hlt1 : (i : Int) < (n : Int) := by omega
    have hlt2 := hlt.2
    have hf := H.out.ms.is.fit
    have HSZ := Lib.hid hsz
    obtain ⟨⟨nn, y, b'⟩, hs⟩ : ∃ y, saysM m = y := ⟨_, rfl⟩
    have hyk : 0 ≤ y.kd ∧ y.kd ≤ 100 := by
      have e : y = (saysM m).2.1 := by rw [hs]
      rw [e]
      unfold saysM
      split
      · exact said_kd m
      · show (0 : Int) ≤ 0 ∧ (0 : Int) ≤ 100; omega
    have HR := Lib.hid (fun w => by have := rsays_any hf w; unfold saysV at this; rw [hs] at this; simp only [msgA] at this; exact this)
    have HF := Lib.hid hf
    have HYK := Lib.hid hyk
    have HPW := Lib.hid H.out.ms.is.lt
    clear hact0 hsz hs hyk hf HAA hlt hadb
    as_aux_lemma =>
    go_wp2_with (first
      | (refine ld_act hact.out rfl rfl _ rfl rfl ?_)
      | (refine ld_mv (by exact H.out.rx.keep (heap_alloc_lt _ _ H.out.rx.lt)) rfl _ rfl rfl ?_))
    have H1 := Lib.hid (H.out.on (below_a wr (.cells ([.int .i64 k, .int .i64 ff, .int .i64 x.kd, .int .i64 x.sh, .int .i64 x.ep, .int .i64 x.cl, .int .i64 x.sq, .int .i64 x.nn, .int .i64 x.vr, .int .i64 x.lm, .int .i64 x.ok, .int .i64 x.oi, .slice A1 n1 c1, .int .i64 x.kk, .int .i64 x.er, .bool x.wa, .slice A2 n2 c2, .string x.tx] : List Value).toArray 44)))
    have RA1 := Lib.hid (Row.new wr 44 [.int .i64 k, .int .i64 ff, .int .i64 x.kd, .int .i64 x.sh, .int .i64 x.ep, .int .i64 x.cl, .int .i64 x.sq, .int .i64 x.nn, .int .i64 x.vr, .int .i64 x.lm, .int .i64 x.ok, .int .i64 x.oi, .slice A1 n1 c1, .int .i64 x.kk, .int .i64 x.er, .bool x.wa, .slice A2 n2 c2, .string x.tx])
    clear H hact
    as_aux_lemma =>
    refine (HR.out _).mono ?_
    rintro e w3 ⟨rfl, hb3⟩
    have H3 := Lib.hid (H1.out.on hb3)
    have RA3 := Lib.hid (RA1.out.keep (hb3.block _ RA1.out.lt))
    have hAp0 : wr.heap.size ≠ p := by have := H1.out.ms.is.lt; have := HPW.out; omega
    generalize wr.heap.size = Ab at *
    clear hb3 H1 RA1 HR
    have HA3 := Lib.hid (show PL w (w3.alloc (.cells (mA y none 0 0 none 0 0) 42)) p X m from H3.out.on (below_a _ _))
    have RA4 := Lib.hid (show Row (w3.alloc (.cells (mA y none 0 0 none 0 0) 42)) Ab 44 [.int .i64 k, .int .i64 ff, .int .i64 x.kd, .int .i64 x.sh, .int .i64 x.ep, .int .i64 x.cl, .int .i64 x.sq, .int .i64 x.nn, .int .i64 x.vr, .int .i64 x.lm, .int .i64 x.ok, .int .i64 x.oi, .slice A1 n1 c1, .int .i64 x.kk, .int .i64 x.er, .bool x.wa, .slice A2 n2 c2, .string x.tx] from RA3.out.keep (heap_alloc_lt _ _ RA3.out.lt))
    have hAp := Lib.hid hAp0
    clear hAp0
    have z0 := RA3.out.cell (j := 0) rfl
    have z1 := RA3.out.cell (j := 1) rfl
    have z2 := RA3.out.cell (j := 2) rfl
    have z3 := RA3.out.cell (j := 3) rfl
    have z4 := RA3.out.cell (j := 4) rfl
    have z5 := RA3.out.cell (j := 5) rfl
    have z6 := RA3.out.cell (j := 6) rfl
    have z7 := RA3.out.cell (j := 7) rfl
    have z8 := RA3.out.cell (j := 8) rfl
    have z9 := RA3.out.cell (j := 9) rfl
    have z10 := RA3.out.cell (j := 10) rfl
    have z11 := RA3.out.cell (j := 11) rfl
    have z12 := RA3.out.cell (j := 12) rfl
    have z13 := RA3.out.cell (j := 13) rfl
    have z14 := RA3.out.cell (j := 14) rfl
    have z15 := RA3.out.cell (j := 15) rfl
    have z16 := RA3.out.cell (j := 16) rfl
    have z17 := RA3.out.cell (j := 17) rfl
    have zl := RA3.out.lt
    as_aux_lemma =>
    by_cases hk2 : k = 2
    · as_aux_lemma =>
      obtain ⟨⟨m', gi⟩, hab⟩ : ∃ y, abortM m = y := ⟨_, rfl⟩
      have HRA := Lib.hid (fun w => by have := rabort_any m HF.out w; unfold Gives at this; rw [hab] at this; simp only [mvA] at this; exact this)
      have HAB := Lib.hid (fun w (h : IsM w p m) => abort_to h hab)
      rw [hk2] at z0
      clear hk2 hab
      go_wp2_with (refine ld_mv (by exact HA3.out.rx) rfl _ rfl rfl ?_)
      refine (HRA.out _).mono ?_
      rintro e w4 ⟨rfl, hb4⟩
      have H4 := Lib.hid (HA3.out.on hb4)
      clear z0 z1 z2 z3 z4 z5 z6 z7 z8 z9 z10 z11 z12 z13 z14 z15 z16 z17 zl
      clear hb4 HA3
      go_wp2_with fail
      have H5 := Lib.hid (show PL w (w4.alloc (.cells (mvV m').toArray 31)) p X m from H4.out.on (below_a _ _))
      have N5 := Lib.hid (Row.new w4 31 (mvV m'))
      refine (HAB.out _ H5.out.ms.is).mono ?_
      rintro e w5 ⟨rfl, hd5⟩
      have HM := Lib.hid (H5.out.mv hd5)
      have N6 := Lib.hid (N5.out.keep (hd5.2.block _ N5.out.lt (by have := H4.out.ms.is.lt; omega)))
      clear hd5 H5 N5
      go_upto_region 32 with (first
        | (refine ld_mv (by exact N6.out) rfl _ rfl rfl ?_)
        | (refine st_mv (m := m') (by exact HM.out.rx) rfl _ _ rfl rfl rfl ?_; intro W6 hr6 hs6 hg6))
      have H6 := Lib.hid (HM.out.st hr6 hg6 hs6)
      have HSB := Lib.hid (same_mv H6.out.ms.is)
      clear hr6 hs6 hg6
      go_wp2_with (refine ld_mv (by exact H6.out.rx) rfl _ rfl rfl ?_)
      refine (HSB.out).mono ?_
      rintro e w7 ⟨rfl, hb7⟩
      have H7 := Lib.hid (H6.out.on hb7)
      clear hb7
      go_wp2_with fail
      exact ⟨⟨i + 1, m', by go_num, by omega, H7⟩, by simp [intOf]; omega⟩
    by_cases hk3 : k = 3
    · as_aux_lemma =>
      obtain ⟨⟨m', r⟩, hh⟩ : ∃ z, hearsM m nn { nilM with kd := y.kd + 1, sh := y.sh, nn := y.nn, vr := x.vr, tx := x.tx } = z := ⟨_, rfl⟩
      have HRH := Lib.hid (fun w => by have := rhears_any m HF.out nn { nilM with kd := y.kd + 1, sh := y.sh, nn := y.nn, vr := x.vr, tx := x.tx } none 0 0 none 0 0 w; unfold HPost at this; rw [hh] at this; simp only [mvA, msgA, nilM] at this; exact this)
      have HHE := Lib.hid (fun w (h : IsM w p m) => by have := hears_to h nn { nilM with kd := y.kd + 1, sh := y.sh, nn := y.nn, vr := x.vr, tx := x.tx } hh (fun _ _ => HSZ.out) none 0 0 none 0 0; simp only [msgA, nilM] at this; exact this)
      have wy : IntKind.i64.wrap (y.kd + 1) = y.kd + 1 := by have := HYK.out; rw [IntKind.wrap_i64]; omega
      rw [hk3] at z0
      clear hk3 hh
      have HQ := Lib.hid (HA3.out.on (below_a _ (.cells #[.int .i64 (y.kd + 1), .int .i64 y.sh, .int .i64 0, .int .i64 0, .int .i64 0, .int .i64 y.nn, .int .i64 (x.vr), .int .i64 0, .int .i64 0, .int .i64 0, .slice none 0 0, .int .i64 0, .int .i64 0, .bool false, .slice none 0 0, .string x.tx] 42)))
      have RY := Lib.hid (row_new1 w3 (.cells (mA y none 0 0 none 0 0) 42) 42 (msgV { nilM with kd := y.kd + 1, sh := y.sh, nn := y.nn, vr := x.vr, tx := x.tx } none 0 0 none 0 0))
      go_wp2_with (refine ld_mv (by exact HQ.out.rx) rfl _ rfl rfl ?_)
      refine (HRH.out _).mono ?_
      rintro e w4 ⟨rfl, hb4⟩
      have H4 := Lib.hid (HQ.out.on hb4)
      have RY4 := Lib.hid ((show Row (World.alloc _ _) _ _ _ from RY.out).keep (hb4.block _ RY.out.lt))
      clear z0 z1 z2 z3 z4 z5 z6 z7 z8 z9 z10 z11 z12 z13 z14 z15 z16 z17 zl
      clear hb4 HQ RY HA3
      have H5 := Lib.hid (show PL w (w4.alloc (.cells (mvV m').toArray 31)) p X m from H4.out.on (below_a _ _))
      have N5 := Lib.hid (Row.new w4 31 (mvV m'))
      have RY5 := Lib.hid (RY4.out.keep (heap_alloc_lt _ (.cells (mvV m').toArray 31) RY4.out.lt))
      go_wp2_with (refine Po.ld_msg (by exact RY5.out) rfl rfl _ rfl rfl ?_)
      refine (HHE.out _ H5.out.ms.is).mono ?_
      rintro e w5 ⟨rfl, hd5⟩
      have HM := Lib.hid (H5.out.mv hd5)
      have N6 := Lib.hid (N5.out.keep (hd5.2.block _ N5.out.lt (by have := H4.out.ms.is.lt; omega)))
      clear hd5 H5 N5 RY5
      go_upto_region 32 with (first
        | (refine ld_mv (by exact N6.out) rfl _ rfl rfl ?_)
        | (refine st_mv (m := m') (by exact HM.out.rx) rfl _ _ rfl rfl rfl ?_; intro W6 hr6 hs6 hg6))
      have H6 := Lib.hid (HM.out.st hr6 hg6 hs6)
      have HSB := Lib.hid (same_mv H6.out.ms.is)
      clear hr6 hs6 hg6
      go_wp2_with (refine ld_mv (by exact H6.out.rx) rfl _ rfl rfl ?_)
      refine (HSB.out).mono ?_
      rintro e w7 ⟨rfl, hb7⟩
      have H7 := Lib.hid (H6.out.on hb7)
      clear hb7
      go_wp2_with fail
      exact ⟨⟨i + 1, m', by go_num, by omega, H7⟩, by simp [intOf]; omega⟩
    by_cases hk4 : k = 4
    · as_aux_lemma =>
      obtain ⟨⟨m', r⟩, hh⟩ : ∃ z, hearsM m nn { nilM with kd := 19, sh := y.sh, nn := y.nn, vr := y.kd, tx := x.tx } = z := ⟨_, rfl⟩
      have HRH := Lib.hid (fun w => by have := rhears_any m HF.out nn { nilM with kd := 19, sh := y.sh, nn := y.nn, vr := y.kd, tx := x.tx } none 0 0 none 0 0 w; unfold HPost at this; rw [hh] at this; simp only [mvA, msgA, nilM] at this; exact this)
      have HHE := Lib.hid (fun w (h : IsM w p m) => by have := hears_to h nn { nilM with kd := 19, sh := y.sh, nn := y.nn, vr := y.kd, tx := x.tx } hh (fun _ _ => HSZ.out) none 0 0 none 0 0; simp only [msgA, nilM] at this; exact this)
      have wy : IntKind.i64.wrap (y.kd + 1) = y.kd + 1 := by have := HYK.out; rw [IntKind.wrap_i64]; omega
      rw [hk4] at z0
      clear hk4 hh
      have HQ := Lib.hid (HA3.out.on (below_a _ (.cells #[.int .i64 (19), .int .i64 y.sh, .int .i64 0, .int .i64 0, .int .i64 0, .int .i64 y.nn, .int .i64 (y.kd), .int .i64 0, .int .i64 0, .int .i64 0, .slice none 0 0, .int .i64 0, .int .i64 0, .bool false, .slice none 0 0, .string x.tx] 42)))
      have RY := Lib.hid (row_new1 w3 (.cells (mA y none 0 0 none 0 0) 42) 42 (msgV { nilM with kd := 19, sh := y.sh, nn := y.nn, vr := y.kd, tx := x.tx } none 0 0 none 0 0))
      go_wp2_with (refine ld_mv (by exact HQ.out.rx) rfl _ rfl rfl ?_)
      refine (HRH.out _).mono ?_
      rintro e w4 ⟨rfl, hb4⟩
      have H4 := Lib.hid (HQ.out.on hb4)
      have RY4 := Lib.hid ((show Row (World.alloc _ _) _ _ _ from RY.out).keep (hb4.block _ RY.out.lt))
      clear z0 z1 z2 z3 z4 z5 z6 z7 z8 z9 z10 z11 z12 z13 z14 z15 z16 z17 zl
      clear hb4 HQ RY HA3
      have H5 := Lib.hid (show PL w (w4.alloc (.cells (mvV m').toArray 31)) p X m from H4.out.on (below_a _ _))
      have N5 := Lib.hid (Row.new w4 31 (mvV m'))
      have RY5 := Lib.hid (RY4.out.keep (heap_alloc_lt _ (.cells (mvV m').toArray 31) RY4.out.lt))
      go_wp2_with (refine Po.ld_msg (by exact RY5.out) rfl rfl _ rfl rfl ?_)
      refine (HHE.out _ H5.out.ms.is).mono ?_
      rintro e w5 ⟨rfl, hd5⟩
      have HM := Lib.hid (H5.out.mv hd5)
      have N6 := Lib.hid (N5.out.keep (hd5.2.block _ N5.out.lt (by have := H4.out.ms.is.lt; omega)))
      clear hd5 H5 N5 RY5
      go_upto_region 32 with (first
        | (refine ld_mv (by exact N6.out) rfl _ rfl rfl ?_)
        | (refine st_mv (m := m') (by exact HM.out.rx) rfl _ _ rfl rfl rfl ?_; intro W6 hr6 hs6 hg6))
      have H6 := Lib.hid (HM.out.st hr6 hg6 hs6)
      have HSB := Lib.hid (same_mv H6.out.ms.is)
      clear hr6 hs6 hg6
      go_wp2_with (refine ld_mv (by exact H6.out.rx) rfl _ rfl rfl ?_)
      refine (HSB.out).mono ?_
      rintro e w7 ⟨rfl, hb7⟩
      have H7 := Lib.hid (H6.out.on hb7)
      clear hb7
      go_wp2_with fail
      exact ⟨⟨i + 1, m', by go_num, by omega, H7⟩, by simp [intOf]; omega⟩
    obtain ⟨⟨m', r⟩, hh⟩ : ∃ z, hearsM m ff x = z := ⟨_, rfl⟩
    have HRH := Lib.hid (fun w => by have := rhears_any m HF.out ff x A1 n1 c1 A2 n2 c2 w; unfold HPost at this; rw [hh] at this; simp only [mvA, msgA] at this; exact this)
    have HHE := Lib.hid (fun w (h : IsM w p m) => by have := hears_to h ff x hh (fun _ _ => HSZ.out) A1 n1 c1 A2 n2 c2; simp only [msgA] at this; exact this)
    have e2 : (k == 2) = false := by simp [hk2]
    have e3 : (k == 3) = false := by simp [hk3]
    have e4 : (k == 4) = false := by simp [hk4]
    clear hk2 hk3 hk4 hh
    as_aux_lemma =>
    go_wp2_with (refine ld_mv (by exact HA3.out.rx) rfl _ rfl rfl ?_)
    refine (HRH.out _).mono ?_
    rintro e w4 ⟨rfl, hb4⟩
    have H4 := Lib.hid (HA3.out.on hb4)
    have RX4 := Lib.hid (RA4.out.keep (hb4.block _ RA4.out.lt))
    clear z0 z1 z2 z3 z4 z5 z6 z7 z8 z9 z10 z11 z12 z13 z14 z15 z16 z17 zl
    clear hb4 HA3 RA4
    have H5 := Lib.hid (show PL w (w4.alloc (.cells (mvV m').toArray 31)) p X m from H4.out.on (below_a _ _))
    have N5 := Lib.hid (Row.new w4 31 (mvV m'))
    have z0 := RX4.out.cell (j := 0) rfl
    have z1 := RX4.out.cell (j := 1) rfl
    have z2 := RX4.out.cell (j := 2) rfl
    have z3 := RX4.out.cell (j := 3) rfl
    have z4 := RX4.out.cell (j := 4) rfl
    have z5 := RX4.out.cell (j := 5) rfl
    have z6 := RX4.out.cell (j := 6) rfl
    have z7 := RX4.out.cell (j := 7) rfl
    have z8 := RX4.out.cell (j := 8) rfl
    have z9 := RX4.out.cell (j := 9) rfl
    have z10 := RX4.out.cell (j := 10) rfl
    have z11 := RX4.out.cell (j := 11) rfl
    have z12 := RX4.out.cell (j := 12) rfl
    have z13 := RX4.out.cell (j := 13) rfl
    have z14 := RX4.out.cell (j := 14) rfl
    have z15 := RX4.out.cell (j := 15) rfl
    have z16 := RX4.out.cell (j := 16) rfl
    have z17 := RX4.out.cell (j := 17) rfl
    have zl := RX4.out.lt
    go_wp2_with fail
    refine (HHE.out _ H5.out.ms.is).mono ?_
    rintro e w5 ⟨rfl, hd5⟩
    have HM := Lib.hid (H5.out.mv hd5)
    have N6 := Lib.hid (N5.out.keep (hd5.2.block _ N5.out.lt (by have := H4.out.ms.is.lt; omega)))
    clear z0 z1 z2 z3 z4 z5 z6 z7 z8 z9 z10 z11 z12 z13 z14 z15 z16 z17 zl
    clear hd5 H5 N5
    go_upto_region 32 with (first
      | (refine ld_mv (by exact N6.out) rfl _ rfl rfl ?_)
      | (refine st_mv (m := m') (by exact HM.out.rx) rfl _ _ rfl rfl rfl ?_; intro W6 hr6 hs6 hg6))
    have H6 := Lib.hid (HM.out.st hr6 hg6 hs6)
    have HSB := Lib.hid (same_mv H6.out.ms.is)
    clear hr6 hs6 hg6
    go_wp2_with (refine ld_mv (by exact H6.out.rx) rfl _ rfl rfl ?_)
    refine (HSB.out).mono ?_
    rintro e w7 ⟨rfl, hb7⟩
    have H7 := Lib.hid (H6.out.on hb7)
    clear hb7
    go_wp2_with fail
    exact ⟨⟨i + 1, m', by go_num, by omega, H7⟩, by simp [intOf]; omega⟩
end Go.Proofs.Ytbjjgjifaomdlaa.Mv
