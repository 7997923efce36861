/- It is done: the law's walk. Conditions: none. -/
import Derived.Test.YtbjjgjifaomdlaaMvLd
set_option linter.unusedVariables false
set_option linter.unusedSimpArgs false
set_option maxRecDepth 100000
namespace Go.Proofs.Ytbjjgjifaomdlaa.Mv
open Go Go.RowKit
open Po (M msgV)
def kdsV : List Value := [.int .i64 7, .int .i64 9, .int .i64 11, .int .i64 13, .int .i64 15]
structure DS (w W : World) (p KB : Nat) (m : Mv) (a b s f t : Int) : Prop where
  ls : LS w W p m a b s f t
  rk : Row W KB 3 kdsV
  ne : KB ≠ p
section
variable {w W W2 : World} {p KB : Nat} {m m' : Mv} {a b s f t : Int}
theorem DS.on (h : DS w W p KB m a b s f t) (hb : Below W.heap.size W W2) : DS w W2 p KB m a b s f t := ⟨h.ls.on hb, h.rk.keep (hb.block _ h.rk.lt), h.ne⟩
theorem DS.mv (h : DS w W p KB m a b s f t) (hd : IsM W2 p m' ∧ Turn (fun b => b = p) W (fun b => b = p) W2) : DS w W2 p KB m' a b s f t := ⟨h.ls.mv hd, h.rk.keep (hd.2.block _ h.rk.lt h.ne), h.ne⟩
theorem DS.drew (h : DS w W p KB m a b s f t) : DS w W.drew p KB m a b s f t := ⟨h.ls.drew, h.rk, h.ne⟩
theorem DS.drewN (h : DS w W p KB m a b s f t) (q : Nat) : DS w (W.drewN q) p KB m a b s f t := ⟨h.ls.drewN q, h.rk, h.ne⟩
end
theorem asks_at {p : Int} (h : 1 ≤ p) (h5 : p ≤ 5) : asks p = 5 + 2 * p := by
  unfold asks
  rcases (by omega : p = 1 ∨ p = 2 ∨ p = 3 ∨ p = 4 ∨ p = 5) with rfl | rfl | rfl | rfl | rfl <;> rfl
theorem asks_6 : asks 6 = 0 := rfl
section
variable {a b s f t : Int} {i : Nat}
theorem hears_late (hi : i < 5) : hearsM (aft a b s f t (i + 1)) (nodeM (aft a b s f t i)) (answerM (saidM (aft a b s f t i))) = (aft a b s f t (i + 1), false) := by
  have h1 : (aft a b s f t i).ph = (i : Int) + 1 := aft_ph
  have h2 : (aft a b s f t (i + 1)).ph = (i : Int) + 2 := by rw [aft_ph]; omega
  have e1 := asks_at (p := (i : Int) + 1) (by omega) (by omega)
  refine hears_kind _ _ ?_ ?_
  · show asks (aft a b s f t i).ph + 1 ≠ asks (aft a b s f t (i + 1)).ph + 1
    rw [h1, h2, e1]
    by_cases h4 : i = 4
    · subst h4
      rw [show ((4 : Nat) : Int) + 2 = 6 by omega, asks_6]
      omega
    · have e2 := asks_at (p := (i : Int) + 2) (by omega) (by omega)
      rw [e2]
      omega
  · rintro ⟨h, _⟩
    have : asks (aft a b s f t i).ph + 1 = 19 := h
    rw [h1, e1] at this
    omega
theorem hears_else {x : M} {g : Int} (h : x.nn ≠ a) : hearsM (aft a b s f t i) g x = (aft a b s f t i, false) :=
  hears_other (.inr (.inr (by rw [show (aft a b s f t i).nm = a from (after_ph a b s f t 5 text4 i).2.1]; exact h)))
theorem node_aft (hi : i < 5) : nodeM (aft a b s f t i) = if i = 1 ∨ i = 3 then t else f := by
  obtain ⟨h1, h2, h3, h4, h5, h6⟩ := after_ph a b s f t 5 text4 i
  unfold nodeM
  rw [show (aft a b s f t i).ph = (i : Int) + 1 from h1, show (aft a b s f t i).fr = f from h5, show (aft a b s f t i).to = t from h6]
  rcases (by omega : i = 0 ∨ i = 1 ∨ i = 2 ∨ i = 3 ∨ i = 4) with rfl | rfl | rfl | rfl | rfl <;> simp
end
theorem tkn {P : Program} {ops : Array Oper} {Q : Exit → Act → World → Prop} {md : Region.Mode} {S : World → Prop} {fuel : Nat} {listed : Array Bool} {a : Act} {w : World} (i : Nat) {oi : Oper} (hi : ops[i]? = some oi) (h : wpAnyH P md ops Q S fuel (listed.setIfInBounds i true) (a.put oi.dst undef) w)
    (hs : Region.noSelect ops = true := by kernel_rfl) (hf : Region.free md ops listed i = true := by kernel_rfl) (hr : (Region.ready md ops listed).contains i = true := by kernel_rfl) (hQ : ∀ c a w, Q (.panic c) (a.put oi.dst undef) w → Q (.panic c) a w := by exact fun _ _ _ h => h)
    (hw : Region.wanted oi (yielded ops a.tmps) = false := by rfl) (hS : S w := by assumption) : wpAnyH P md ops Q S (fuel + 1) listed a w := wpAnyH_take hi hs hf hr hQ (.inr ⟨hw, rfl⟩) hS h
set_option maxHeartbeats 16000000 in
theorem done_walk (a b s f t : Int) {w : World} {B : Nat} {A : Option Addr} {n c : Nat} (hM : MsgsAt w B A n) (hB : B ≤ w.heap.size) (hn : n ≤ maxLen) : Calls Try.prog 4 #[.agg #[.int .i64 a, .int .i64 b], .agg #[.int .i64 s, .int .i64 f, .int .i64 t], .slice A n c] w (Gives (.bool true) w) := by
  have HAW := Lib.hid (fun w => awake_any w)
  have hb0 : Below w.heap.size w ((w.alloc (.cells #[.int .i64 a, .int .i64 b] 22)).alloc (.cells #[.int .i64 s, .int .i64 f, .int .i64 t] 24)) := ((Below.refl _ w).alloc (Nat.le_refl _) _).alloc (by simp) _
  have HB0 := Lib.hid hb0
  clear hb0
  by_cases hk : okN a b s f t
  rotate_left
  · have H0 := Lib.hid (fun w => new_no a b s f t w hk)
    clear hk hM hB hn
    as_aux_lemma =>
    go_enter Try.func4, Try.ntmps4
    go_wp2_with fail
    with_reducible refine (H0.out _).mono ?_
    rintro e w1 ⟨rfl, hb1⟩
    have HB1 := Lib.hid (HB0.out.trans (hb1.mono HB0.out.size))
    clear hb1
    go_wp2_with fail
    refine (HAW.out _).mono ?_
    rintro e w2 ⟨rfl, hb2⟩
    have hfin := HB1.out.trans (hb2.mono HB1.out.size)
    go_wp2
    go_ret
    exact ⟨rfl, hfin⟩
  have H0 := Lib.hid (fun w => new_is a b s f t w hk)
  have HK := Lib.hid hk
  have HMM := Lib.hid (And.intro hM (And.intro hB hn))
  clear hk hM hB hn
  go_enter Try.func4, Try.ntmps4
  go_wp2_with fail
  with_reducible refine (H0.out _).mono ?_
  rintro e w1 ⟨p, rfl, h1, h2, hb⟩
  have HL := Lib.hid (show LS w w1 p (aft a b s f t 0) a b s f t from ls_start w a b s f t h1 h2 hb)
  clear h1 h2 hb
  go_wp2_with fail
  have HD := Lib.hid (show DS w (w1.alloc (.cells kdsV.toArray 3)) p w1.heap.size (aft a b s f t 0) a b s f t from ⟨HL.out.on (below_a _ _), Row.new w1 _ _, by have := HL.out.ms.is.lt; omega⟩)
  clear HL
  generalize w1.heap.size = KB at *
  go_loopw [10] (fun st wr => ∃ i : Nat, st = .int .i64 (i : Int) ∧ i ≤ 5 ∧ Hid (DS w wr p KB (aft a b s f t i) a b s f t)) (fun st _ => (5 - intOf st).toNat)
  case atStart => exact ⟨0, rfl, by omega, HD⟩
  case round =>
    obtain ⟨i, rfl, hi, H⟩ := hrel
    clear HD
    by_cases hi5 : i < 5
    rotate_left
    · obtain rfl : i = 5 := by omega
      clear hi hi5
      as_aux_lemma =>
      have h6 : (aft a b s f t 5).ph = 6 := by rw [aft_ph]; rfl
      have o5 : open_ (aft a b s f t 5) = false := by unfold open_; rw [h6]; rfl
      have HS9 := Lib.hid (fun w p (h : IsM w p (aft a b s f t 5)) => by have := says_to h (says_over o5); rw [msgA] at this; simpa only [nilM] using this)
      have HP9 := Lib.hid (fun w p (h : IsM w p (aft a b s f t 5)) => phase_to h h6)
      have HB9 := Lib.hid (fun w p (h : IsM w p (aft a b s f t 5)) => abort_to h (m' := aft a b s f t 5) (r := 3) (by unfold abortM; rw [h6]; rfl))
      clear h6 o5
      have hnl : ¬ ((5 : Nat) : Int) < 5 := by omega
      go_wp2_with fail
      refine (HS9.out _ _ H.out.ls.ms.is).mono ?_
      rintro e w9 ⟨rfl, hb9⟩
      have HG9 := Lib.hid (H.out.on hb9)
      clear hb9
      have HZ := Lib.hid (HG9.out.on (below_a w9 (.cells nilV.toArray 42)))
      have HPZ := Lib.hid (HP9.out _ _ HZ.out.ls.ms.is)
      go_wp2_with ((refine (HPZ.out).mono ?_); rintro e w5 ⟨rfl, rfl⟩)
      refine (HB9.out _ _ HZ.out.ls.ms.is).mono ?_
      rintro e wa ⟨rfl, hda⟩
      have HF := Lib.hid (HZ.out.mv hda)
      have HPF := Lib.hid (HP9.out _ _ HF.out.ls.ms.is)
      clear hda
      go_wp2_with ((refine (HPF.out).mono ?_); rintro e w6 ⟨rfl, rfl⟩)
      refine (HAW.out _).mono ?_
      rintro e wb ⟨rfl, hbb⟩
      have hfin := HF.out.ls.ms.bel.trans (hbb.mono HF.out.ls.ms.bel.size)
      go_wp2
      go_ret
      exact ⟨rfl, hfin⟩
    have hiz : (i : Int) < 5 := by omega
    obtain ⟨ND, hND⟩ : ∃ ND, nodeM (aft a b s f t i) = ND := ⟨_, rfl⟩
    have hNC := node_aft (a := a) (b := b) (s := s) (f := f) (t := t) hi5
    rw [hND] at hNC
    have HNC := Lib.hid (And.intro hNC hND)
    obtain ⟨k0, k1, k2, k3, k4, kl⟩ := H.out.ls.cells
    clear hNC hND
    go_upto_region 11 with fail
    go_cut [53] from 42 to 190 (fun s53 wc => s53 = .bool (decide (i = 1 ∨ i = 3)) ∧ wc = wr)
    case first =>
      as_aux_lemma =>
      rcases (by omega : i = 0 ∨ i = 1 ∨ i = 2 ∨ i = 3 ∨ i = 4) with rfl | rfl | rfl | rfl | rfl
      all_goals
        go_wp2_with fail
        go_meet
        exact ⟨rfl, rfl⟩
    case rest =>
    obtain ⟨rfl, rfl⟩ := hcut
    go_upto_if 53 with fail
    go_cut [11] from 42 to 190 (fun s11 wd => s11 = .int .i64 ND ∧ wd = wc)
    case first =>
      as_aux_lemma =>
      by_cases hc : i = 1 ∨ i = 3
      · have hd : decide (i = 1 ∨ i = 3) = true := decide_eq_true hc
        have hNC : ND = t := HNC.out.1.trans (if_pos hc)
        rw [hd]
        clear hc
        go_wp2_with fail
        go_meet
        exact ⟨by rw [hNC], rfl⟩
      · have hd : decide (i = 1 ∨ i = 3) = false := decide_eq_false hc
        have hNC : ND = f := HNC.out.1.trans (if_neg hc)
        rw [hd]
        clear hc
        go_wp2_with fail
        go_meet
        exact ⟨by rw [hNC], rfl⟩
    case rest =>
      obtain ⟨rfl, rfl⟩ := hcut
      clear k0 k1 k2 k3 k4 kl
      go_wp2_with fail
      go_loopw [12] (fun st wq => ∃ k : Nat, st = .int .i64 (k : Int) ∧ k ≤ n ∧ Hid (DS w wq p KB (aft a b s f t i) a b s f t)) (fun st _ => ((n : Int) - intOf st).toNat)
      case atStart => exact ⟨0, rfl, by omega, H⟩
      case round =>
        obtain ⟨k, rfl, hk, Hq⟩ := hrel
        clear H
        go_upto_region 14 with fail
        go_cut [63] from 56 to 93 (fun s63 wd => s63 = .bool (decide (k < n ∧ k < 20)) ∧ wd = wr)
        case first =>
          as_aux_lemma =>
          by_cases h1 : k < n
          · have h1z : (k : Int) < (n : Int) := by omega
            by_cases h2 : k < 20
            · have h2z : (k : Int) < 20 := by omega
              go_wp2_with fail
              go_meet
              exact ⟨by rw [decide_eq_true (And.intro h1 h2)], rfl⟩
            · have h2z : ¬ (k : Int) < 20 := by omega
              go_wp2_with fail
              go_meet
              exact ⟨by rw [decide_eq_false (fun h => h2 h.2)], rfl⟩
          · have h1z : ¬ (k : Int) < (n : Int) := by omega
            go_wp2_with fail
            go_meet
            exact ⟨by rw [decide_eq_false (fun h => h1 h.1)], rfl⟩
        case rest =>
        obtain ⟨rfl, rfl⟩ := hcut
        by_cases hlt : k < n ∧ k < 20
        · rw [decide_eq_true hlt]
          obtain ⟨ad, x, A1, n1, c1, A2, n2, c2, rfl, hadb, hc⟩ := HMM.out.1 k hlt.1
          have hgB : (ad.add (k * 16)).block < B := by rw [block_of_add]; exact hadb
          have hnc0 : NC (ad.add (k * 16)) (msgV x A1 n1 c1 A2 n2 c2) w := hc
          have hnc := Lib.hid (hnc0.below hgB (Hq.out.ls.ms.bel.mono HMM.out.2.1))
          have hgl := Nat.lt_of_lt_of_le hgB (Nat.le_trans HMM.out.2.1 Hq.out.ls.ms.bel.size)
          have hgp : (ad.add (k * 16)).block ≠ p := by have := Hq.out.ls.ms.lo; have := HMM.out.2.1; omega
          have hkn : (k : Int) < (n : Int) := by omega
          have hk20 : k < n := hlt.1
          have HKN := Lib.hid hk20
          have hkz : (k : Int) < 20 := by omega
          have hkm := HMM.out.2.2
          have y5 : wc.cell? ⟨(ad.add (k * 16)).block, (ad.add (k * 16)).off + 5, none⟩ = some (.int .i64 x.nn) := hnc.out 5 _ rfl
          obtain ⟨k0, k1, k2, k3, k4, kl⟩ := Hq.out.ls.cells
          clear hnc0 hc hadb hgB hlt HMM
          by_cases hna : x.nn = a
          · have e1 : (x.nn != a) = false := by simp [hna]
            clear hna
            as_aux_lemma =>
            go_wp2_with fail
            refine wp_region_held_drew (S := fun W => DS w W p KB (aft a b s f t i) a b s f t ∧ NC (ad.add (k * 16)) (msgV x A1 n1 c1 A2 n2 c2) W) (by kernel_rfl) ?_ (fun hHeld => ?_)
            · exact ⟨Hq.out.drew, hnc.out⟩
            refine tk 0 (oi := ⟨_, _, _, _, _, _⟩) rfl (fun w' hSw => by ((try dsimp only at hSw); go_simp <;> with_reducible rfl)) ?_
            try simp only [Act.put, List.setIfInBounds_toArray, List.set_cons_zero, List.set_cons_succ]
            refine tk 1 (oi := ⟨_, _, _, _, _, _⟩) rfl (fun w' hSw => by ((try dsimp only at hSw); go_simp <;> with_reducible rfl)) ?_
            try simp only [Act.put, List.setIfInBounds_toArray, List.set_cons_zero, List.set_cons_succ]
            refine tk 2 (oi := ⟨_, _, _, _, _, _⟩) rfl (fun w' hSw => by ((try dsimp only at hSw); go_simp <;> with_reducible rfl)) ?_
            try simp only [Act.put, List.setIfInBounds_toArray, List.set_cons_zero, List.set_cons_succ]
            refine tk 3 (oi := ⟨_, _, _, _, _, _⟩) rfl (fun w' hSw => by ((try dsimp only at hSw); go_simp <;> with_reducible rfl)) ?_
            try simp only [Act.put, List.setIfInBounds_toArray, List.set_cons_zero, List.set_cons_succ]
            refine tk 4 (oi := ⟨_, _, _, _, _, _⟩) rfl (fun w' hSw => by (have y : w'.cell? ⟨(ad.add (k * 16)).block, (ad.add (k * 16)).off + 5, none⟩ = some (.int .i64 x.nn) := hSw.2 5 _ rfl; go_simp <;> with_reducible rfl)) ?_
            try simp only [Act.put, List.setIfInBounds_toArray, List.set_cons_zero, List.set_cons_succ]
            refine tk 5 (oi := ⟨_, _, _, _, _, _⟩) rfl (fun w' hSw => by ((try dsimp only at hSw); go_simp <;> with_reducible rfl)) ?_
            try simp only [Act.put, List.setIfInBounds_toArray, List.set_cons_zero, List.set_cons_succ]
            refine tk 6 (oi := ⟨_, _, _, _, _, _⟩) rfl (fun w' hSw => by (have y := hSw.1.ls.ra.cell (j := 0) rfl; go_simp <;> with_reducible rfl)) ?_
            try simp only [Act.put, List.setIfInBounds_toArray, List.set_cons_zero, List.set_cons_succ]
            refine tk 7 (oi := ⟨_, _, _, _, _, _⟩) (v := .bool false) rfl (fun w' hSw => by ((try dsimp only at hSw); go_simp <;> with_reducible rfl)) ?_
            try simp only [Act.put, List.setIfInBounds_toArray, List.set_cons_zero, List.set_cons_succ]
            refine tk 8 (oi := ⟨_, _, _, _, _, _⟩) rfl (fun w' hSw => by ((try dsimp only at hSw); go_simp <;> with_reducible rfl)) ?_
            try simp only [Act.put, List.setIfInBounds_toArray, List.set_cons_zero, List.set_cons_succ]
            refine tkn 9 (oi := ⟨_, _, _, _, _, _⟩) rfl ?_
            try simp only [Act.put, List.setIfInBounds_toArray, List.set_cons_zero, List.set_cons_succ]
            refine tkn 10 (oi := ⟨_, _, _, _, _, _⟩) rfl ?_
            try simp only [Act.put, List.setIfInBounds_toArray, List.set_cons_zero, List.set_cons_succ]
            refine tkn 11 (oi := ⟨_, _, _, _, _, _⟩) rfl ?_
            try simp only [Act.put, List.setIfInBounds_toArray, List.set_cons_zero, List.set_cons_succ]
            refine tkn 12 (oi := ⟨_, _, _, _, _, _⟩) rfl ?_
            try simp only [Act.put, List.setIfInBounds_toArray, List.set_cons_zero, List.set_cons_succ]
            refine tkn 13 (oi := ⟨_, _, _, _, _, _⟩) rfl ?_
            try simp only [Act.put, List.setIfInBounds_toArray, List.set_cons_zero, List.set_cons_succ]
            refine tkn 14 (oi := ⟨_, _, _, _, _, _⟩) rfl ?_
            try simp only [Act.put, List.setIfInBounds_toArray, List.set_cons_zero, List.set_cons_succ]
            refine tkn 15 (oi := ⟨_, _, _, _, _, _⟩) rfl ?_
            try simp only [Act.put, List.setIfInBounds_toArray, List.set_cons_zero, List.set_cons_succ]
            refine tkn 16 (oi := ⟨_, _, _, _, _, _⟩) rfl ?_
            try simp only [Act.put, List.setIfInBounds_toArray, List.set_cons_zero, List.set_cons_succ]
            refine tkn 17 (oi := ⟨_, _, _, _, _, _⟩) rfl ?_
            try simp only [Act.put, List.setIfInBounds_toArray, List.set_cons_zero, List.set_cons_succ]
            refine tkn 18 (oi := ⟨_, _, _, _, _, _⟩) rfl ?_
            try simp only [Act.put, List.setIfInBounds_toArray, List.set_cons_zero, List.set_cons_succ]
            refine tkn 19 (oi := ⟨_, _, _, _, _, _⟩) rfl ?_
            try simp only [Act.put, List.setIfInBounds_toArray, List.set_cons_zero, List.set_cons_succ]
            refine tkn 20 (oi := ⟨_, _, _, _, _, _⟩) rfl ?_
            try simp only [Act.put, List.setIfInBounds_toArray, List.set_cons_zero, List.set_cons_succ]
            refine tkn 21 (oi := ⟨_, _, _, _, _, _⟩) rfl ?_
            try simp only [Act.put, List.setIfInBounds_toArray, List.set_cons_zero, List.set_cons_succ]
            refine tkn 22 (oi := ⟨_, _, _, _, _, _⟩) rfl ?_
            try simp only [Act.put, List.setIfInBounds_toArray, List.set_cons_zero, List.set_cons_succ]
            refine tkn 23 (oi := ⟨_, _, _, _, _, _⟩) rfl ?_
            try simp only [Act.put, List.setIfInBounds_toArray, List.set_cons_zero, List.set_cons_succ]
            refine tkn 24 (oi := ⟨_, _, _, _, _, _⟩) rfl ?_
            try simp only [Act.put, List.setIfInBounds_toArray, List.set_cons_zero, List.set_cons_succ]
            refine tkn 25 (oi := ⟨_, _, _, _, _, _⟩) rfl ?_
            try simp only [Act.put, List.setIfInBounds_toArray, List.set_cons_zero, List.set_cons_succ]
            refine tkn 26 (oi := ⟨_, _, _, _, _, _⟩) rfl ?_
            try simp only [Act.put, List.setIfInBounds_toArray, List.set_cons_zero, List.set_cons_succ]
            refine tk 27 (oi := ⟨_, _, _, _, _, _⟩) rfl (fun w' hSw => by ((try dsimp only at hSw); go_simp <;> with_reducible rfl)) ?_
            try simp only [Act.put, List.setIfInBounds_toArray, List.set_cons_zero, List.set_cons_succ]
            refine wpAnyH_done (by kernel_rfl) ?_ _
            go_wp2_with fail
            exact ⟨⟨k + 1, by go_num, by have := HKN.out; omega, Lib.hid Hq.out.drew⟩, by have := HKN.out; simp [intOf]; omega⟩
          have e1 : (x.nn != a) = true := by simp [hna]
          have HE1 := Lib.hid (fun W (h : IsM W p (aft a b s f t i)) => hears_to h f x (hears_else hna) (fun _ e => absurd (e.trans (show (aft a b s f t i).nm = a from (after_ph a b s f t 5 text4 i).2.1)) hna) A1 n1 c1 A2 n2 c2)
          have HE2 := Lib.hid (fun W (h : IsM W p (aft a b s f t i)) => hears_to h t x (hears_else hna) (fun _ e => absurd (e.trans (show (aft a b s f t i).nm = a from (after_ph a b s f t 5 text4 i).2.1)) hna) A1 n1 c1 A2 n2 c2)
          clear hna y5 k0 k1 k2 k3 k4 kl
          as_aux_lemma =>
          go_wp2_with fail
          refine wp_region_held_drew (S := fun W => DS w W p KB (aft a b s f t i) a b s f t ∧ NC (ad.add (k * 16)) (msgV x A1 n1 c1 A2 n2 c2) W) (by kernel_rfl) ?_ (fun hHeld => ?_)
          · exact ⟨Hq.out.drew, hnc.out⟩
          refine tk 0 (oi := ⟨_, _, _, _, _, _⟩) rfl (fun w' hSw => by ((try dsimp only at hSw); go_simp <;> with_reducible rfl)) ?_
          try simp only [Act.put, List.setIfInBounds_toArray, List.set_cons_zero, List.set_cons_succ]
          refine tk 1 (oi := ⟨_, _, _, _, _, _⟩) rfl (fun w' hSw => by ((try dsimp only at hSw); go_simp <;> with_reducible rfl)) ?_
          try simp only [Act.put, List.setIfInBounds_toArray, List.set_cons_zero, List.set_cons_succ]
          refine tk 2 (oi := ⟨_, _, _, _, _, _⟩) rfl (fun w' hSw => by ((try dsimp only at hSw); go_simp <;> with_reducible rfl)) ?_
          try simp only [Act.put, List.setIfInBounds_toArray, List.set_cons_zero, List.set_cons_succ]
          refine tk 3 (oi := ⟨_, _, _, _, _, _⟩) rfl (fun w' hSw => by ((try dsimp only at hSw); go_simp <;> with_reducible rfl)) ?_
          try simp only [Act.put, List.setIfInBounds_toArray, List.set_cons_zero, List.set_cons_succ]
          refine tk 4 (oi := ⟨_, _, _, _, _, _⟩) rfl (fun w' hSw => by (have y : w'.cell? ⟨(ad.add (k * 16)).block, (ad.add (k * 16)).off + 5, none⟩ = some (.int .i64 x.nn) := hSw.2 5 _ rfl; go_simp <;> with_reducible rfl)) ?_
          try simp only [Act.put, List.setIfInBounds_toArray, List.set_cons_zero, List.set_cons_succ]
          refine tk 5 (oi := ⟨_, _, _, _, _, _⟩) rfl (fun w' hSw => by ((try dsimp only at hSw); go_simp <;> with_reducible rfl)) ?_
          try simp only [Act.put, List.setIfInBounds_toArray, List.set_cons_zero, List.set_cons_succ]
          refine tk 6 (oi := ⟨_, _, _, _, _, _⟩) rfl (fun w' hSw => by (have y := hSw.1.ls.ra.cell (j := 0) rfl; go_simp <;> with_reducible rfl)) ?_
          try simp only [Act.put, List.setIfInBounds_toArray, List.set_cons_zero, List.set_cons_succ]
          refine tk 7 (oi := ⟨_, _, _, _, _, _⟩) (v := .bool true) rfl (fun w' hSw => by ((try dsimp only at hSw); go_simp <;> with_reducible rfl)) ?_
          try simp only [Act.put, List.setIfInBounds_toArray, List.set_cons_zero, List.set_cons_succ]
          refine tk 8 (oi := ⟨_, _, _, _, _, _⟩) rfl (fun w' hSw => by ((try dsimp only at hSw); go_simp <;> with_reducible rfl)) ?_
          try simp only [Act.put, List.setIfInBounds_toArray, List.set_cons_zero, List.set_cons_succ]
          refine tk 9 (oi := ⟨_, _, _, _, _, _⟩) rfl (fun w' hSw => by ((try dsimp only at hSw); go_simp <;> with_reducible rfl)) ?_
          try simp only [Act.put, List.setIfInBounds_toArray, List.set_cons_zero, List.set_cons_succ]
          refine tk 10 (oi := ⟨_, _, _, _, _, _⟩) rfl (fun w' hSw => by ((try dsimp only at hSw); go_simp <;> with_reducible rfl)) ?_
          try simp only [Act.put, List.setIfInBounds_toArray, List.set_cons_zero, List.set_cons_succ]
          refine tk 11 (oi := ⟨_, _, _, _, _, _⟩) rfl (fun w' hSw => by (have y1 := hSw.1.ls.rv.cell (j := 1) rfl; have y2 := hSw.1.ls.rv.cell (j := 2) rfl; go_simp <;> with_reducible rfl)) ?_
          try simp only [Act.put, List.setIfInBounds_toArray, List.set_cons_zero, List.set_cons_succ]
          refine tk 12 (oi := ⟨_, _, _, _, _, _⟩) rfl (fun w' hSw => by ((try dsimp only at hSw); go_simp <;> with_reducible rfl)) ?_
          try simp only [Act.put, List.setIfInBounds_toArray, List.set_cons_zero, List.set_cons_succ]
          refine tk 13 (oi := ⟨_, _, _, _, _, _⟩) rfl (fun w' hSw => by ((try dsimp only at hSw); go_simp <;> with_reducible rfl)) ?_
          try simp only [Act.put, List.setIfInBounds_toArray, List.set_cons_zero, List.set_cons_succ]
          refine tk 14 (oi := ⟨_, _, _, _, _, _⟩) rfl (fun w' hSw => by ((try dsimp only at hSw); go_simp <;> with_reducible rfl)) ?_
          try simp only [Act.put, List.setIfInBounds_toArray, List.set_cons_zero, List.set_cons_succ]
          refine tk 15 (oi := ⟨_, _, _, _, _, _⟩) rfl (fun w' hSw => by (refine yields_at hSw.2 rfl (.tmp 80) ?_ ?_) <;> rfl) ?_
          try simp only [Act.put, List.setIfInBounds_toArray, List.set_cons_zero, List.set_cons_succ]
          refine rd1 16 (o := ⟨_, _, _, _, _, _⟩) rfl (fun K' hK => ?_)
          go_simp
          go_at_call 15
          refine (HE1.out _ Hq.out.drew.ls.ms.is).mono ?_
          rintro en w5 ⟨rfl, hd5⟩
          have H5 := Lib.hid (Hq.out.drew.mv hd5)
          have N5 := Lib.hid (hnc.out.heap (hd5.2.block _ hgl hgp))
          refine hK.out _ _ (by exact ⟨H5.out, N5.out⟩) (fun hHeld => ?_)
          clear hK K'
          have hgl5 := Nat.lt_of_lt_of_le hgl hd5.2.size
          clear hd5
          try simp only [Act.put, List.setIfInBounds_toArray, List.set_cons_zero, List.set_cons_succ]
          refine tk 17 (oi := ⟨_, _, _, _, _, _⟩) rfl (fun w' hSw => by ((try dsimp only at hSw); go_simp <;> with_reducible rfl)) ?_
          try simp only [Act.put, List.setIfInBounds_toArray, List.set_cons_zero, List.set_cons_succ]
          refine tk 18 (oi := ⟨_, _, _, _, _, _⟩) rfl (fun w' hSw => by ((try dsimp only at hSw); go_simp <;> with_reducible rfl)) ?_
          try simp only [Act.put, List.setIfInBounds_toArray, List.set_cons_zero, List.set_cons_succ]
          refine tk 19 (oi := ⟨_, _, _, _, _, _⟩) rfl (fun w' hSw => by ((try dsimp only at hSw); go_simp <;> with_reducible rfl)) ?_
          try simp only [Act.put, List.setIfInBounds_toArray, List.set_cons_zero, List.set_cons_succ]
          refine tk 20 (oi := ⟨_, _, _, _, _, _⟩) rfl (fun w' hSw => by (have y1 := hSw.1.ls.rv.cell (j := 1) rfl; have y2 := hSw.1.ls.rv.cell (j := 2) rfl; go_simp <;> with_reducible rfl)) ?_
          try simp only [Act.put, List.setIfInBounds_toArray, List.set_cons_zero, List.set_cons_succ]
          refine tk 21 (oi := ⟨_, _, _, _, _, _⟩) rfl (fun w' hSw => by ((try dsimp only at hSw); go_simp <;> with_reducible rfl)) ?_
          try simp only [Act.put, List.setIfInBounds_toArray, List.set_cons_zero, List.set_cons_succ]
          refine tk 22 (oi := ⟨_, _, _, _, _, _⟩) rfl (fun w' hSw => by ((try dsimp only at hSw); go_simp <;> with_reducible rfl)) ?_
          try simp only [Act.put, List.setIfInBounds_toArray, List.set_cons_zero, List.set_cons_succ]
          refine tk 23 (oi := ⟨_, _, _, _, _, _⟩) rfl (fun w' hSw => by ((try dsimp only at hSw); go_simp <;> with_reducible rfl)) ?_
          try simp only [Act.put, List.setIfInBounds_toArray, List.set_cons_zero, List.set_cons_succ]
          refine tk 24 (oi := ⟨_, _, _, _, _, _⟩) rfl (fun w' hSw => by (refine yields_at hSw.2 rfl (.tmp 89) ?_ ?_) <;> rfl) ?_
          try simp only [Act.put, List.setIfInBounds_toArray, List.set_cons_zero, List.set_cons_succ]
          refine rd1 25 (o := ⟨_, _, _, _, _, _⟩) rfl (fun K' hK => ?_)
          go_simp
          go_at_call 15
          refine (HE2.out _ H5.out.ls.ms.is).mono ?_
          rintro en w6 ⟨rfl, hd6⟩
          have H6 := Lib.hid (H5.out.mv hd6)
          have N6 := Lib.hid (N5.out.heap (hd6.2.block _ hgl5 hgp))
          refine hK.out _ _ (by exact ⟨H6.out, N6.out⟩) (fun hHeld => ?_)
          clear hK K' hd6
          try simp only [Act.put, List.setIfInBounds_toArray, List.set_cons_zero, List.set_cons_succ]
          refine tk 26 (oi := ⟨_, _, _, _, _, _⟩) rfl (fun w' hSw => by ((try dsimp only at hSw); go_simp <;> with_reducible rfl)) ?_
          try simp only [Act.put, List.setIfInBounds_toArray, List.set_cons_zero, List.set_cons_succ]
          refine tk 27 (oi := ⟨_, _, _, _, _, _⟩) rfl (fun w' hSw => by ((try dsimp only at hSw); go_simp <;> with_reducible rfl)) ?_
          try simp only [Act.put, List.setIfInBounds_toArray, List.set_cons_zero, List.set_cons_succ]
          refine wpAnyH_done (by kernel_rfl) ?_ _
          go_wp2_with fail
          exact ⟨⟨k + 1, by go_num, by have := HKN.out; omega, H6⟩, by have := HKN.out; simp [intOf]; omega⟩
        rw [decide_eq_false hlt]
        clear hlt hk HMM
        have HI5 := Lib.hid hi5
        obtain ⟨ND', x, y, hN, hx, hy, hA, hS, hH⟩ := trio (aft_fit HK.out (show i ≤ 5 by omega)) (aft_open hi5)
        obtain rfl : ND' = ND := hN.symm.trans HNC.out.2
        have HA := Lib.hid hA
        have HS := Lib.hid hS
        have HH := Lib.hid (show ∀ w p, IsM w p (aft a b s f t i) → Calls Try.prog 15 #[ptr p, .int .i64 ND', .agg (mA y none 0 0 none 0 0)] w (Does p (.bool true) (aft a b s f t (i + 1)) w) from hH)
        have hph : (aft a b s f t i).ph = (i : Int) + 1 := aft_ph
        obtain ⟨q1, q2, q3, q4, q5, q6⟩ := after_ph a b s f t 5 text4 i
        have hkk := HK.out
        have hxk : x.kd = 7 + 2 * (i : Int) := by
          rw [← hx]
          show asks (aft a b s f t i).ph = _
          rw [hph, asks_at (by omega) (by omega)]
          omega
        have hxs : x.sh = s := by rw [← hx]; exact q4
        have hxn : x.nn = a := by rw [← hx]; exact q2
        have hxt : x.tx = if i = 1 ∨ i = 3 then text4 else ⟨#[]⟩ := by
          rw [← hx]
          show (if (aft a b s f t i).ph = 2 ∨ (aft a b s f t i).ph = 4 then (aft a b s f t i).tx else ⟨#[]⟩) = _
          rw [hph]
          by_cases h : i = 1 ∨ i = 3
          · rw [if_pos h, if_pos (by omega)]
            exact (after_kept a b s f t 5 text4 i (by omega)).2
          · rw [if_neg h, if_neg (by omega)]
        have hxv : x.vr = if i = 2 then 5 else 0 := by
          rw [← hx]
          show (if (aft a b s f t i).ph = 3 then (aft a b s f t i).vr else 0) = _
          rw [hph]
          by_cases h : i = 2
          · rw [if_pos h, if_pos (by omega)]
            exact (after_kept a b s f t 5 text4 i (by omega)).1
          · rw [if_neg h, if_neg (by omega)]
        have hxe : x.ep = if i = 3 then b else 0 := by
          rw [← hx]
          show (if (aft a b s f t i).ph = 4 ∨ (aft a b s f t i).ph = 8 then (aft a b s f t i).ep else 0) = _
          rw [hph]
          by_cases h : i = 3
          · rw [if_pos h, if_pos (by omega)]
            exact q3
          · rw [if_neg h, if_neg (by omega)]
        obtain ⟨OT, hOT⟩ : ∃ OT, f + t - ND' = OT := ⟨_, rfl⟩
        have hND : ND' = if i = 1 ∨ i = 3 then t else f := HNC.out.1
        unfold okN at hkk
        have hot : OT ≠ ND' := by
          split at hND <;> omega
        have wf1 : IntKind.i64.wrap (f + t) = f + t := by rw [IntKind.wrap_i64]; omega
        have wf2 : IntKind.i64.wrap (f + t - ND') = OT := by rw [IntKind.wrap_i64]; split at hND <;> omega
        have HE0 := Lib.hid (fun W p (h : IsM W p (aft a b s f t i)) => hears_to (m' := aft a b s f t i) (r := false) h OT y (hears_other (.inl (by rw [HNC.out.2]; exact hot))) (fun _ _ => by rw [← hy]; exact text_small) none 0 0 none 0 0)
        have HLT := Lib.hid (fun W p (h : IsM W p (aft a b s f t (i + 1))) => hears_to (m' := aft a b s f t (i + 1)) (r := false) h ND' y (by rw [← hy, ← hx, ← HNC.out.2]; exact hears_late hi5) (fun _ _ => by rw [← hy]; exact text_small) none 0 0 none 0 0)
        have HWF := Lib.hid (And.intro wf1 wf2)
        have HX := Lib.hid (And.intro hxk (And.intro hxs (And.intro hxn (And.intro hxt (And.intro hxv hxe)))))
        have HBE := Lib.hid (show (0 : Int) ≠ b by omega)
        clear hA hS hH hN hx hy hph q1 q2 q3 q4 q5 q6 hkk hxk hxs hxn hxt hxv hxe hOT hND hot wf1 wf2
        as_aux_lemma =>
        go_wp2_with fail
        refine (HS.out _ _ Hq.out.ls.ms.is).mono ?_
        rintro e w2 ⟨rfl, hb2⟩
        have H2 := Lib.hid (Hq.out.on hb2)
        clear hb2 Hq
        go_wp2_with fail
        refine wp_world (fun U => DS w U p KB (aft a b s f t i) a b s f t ∧ Row U w2.heap.size 42 (msgV x none 0 0 none 0 0)) ⟨H2.out.on (below_a _ _), Row.new w2 _ _⟩ ?_
        intro U HU
        have HU := Lib.hid HU
        have HNp := Lib.hid (show w2.heap.size ≠ p by have := H2.out.ls.ms.is.lt; omega)
        generalize w2.heap.size = N at *
        have x0 := HU.out.2.cell (j := 0) rfl
        have x1 := HU.out.2.cell (j := 1) rfl
        have x5 := HU.out.2.cell (j := 5) rfl
        have xl := HU.out.2.lt
        rw [HX.out.2.1] at x1
        rw [HX.out.2.2.1] at x5
        obtain ⟨k0, k1, k2, k3, k4, kl⟩ := HU.out.1.ls.cells
        have kc : U.cell? ⟨KB, i, none⟩ = some (.int .i64 x.kd) := by
          rw [HX.out.1]
          refine HU.out.1.rk.cell ?_
          rcases (by omega : i = 0 ∨ i = 1 ∨ i = 2 ∨ i = 3 ∨ i = 4) with rfl | rfl | rfl | rfl | rfl <;> rfl
        have kbl := HU.out.1.rk.lt
        have wi : IntKind.i64.wrap ((i : Int) + 1) = (i : Int) + 1 := by rw [IntKind.wrap_i64]; omega
        have HPq := Lib.hid (fun q => phase_to (HU.out.1.drewN q).ls.ms.is (r := (i : Int) + 1) aft_ph)
        clear H2
        as_aux_lemma =>
        go_quiet ((go_at_call 18; exact Calls.quiet_of_same (HPq.out _)))
        clear x0 x1 x5 k0 k1 k2 k3 k4 kl kc kbl wi HPq
        have HV := Lib.hid (And.intro (HU.out.1.drewN nq) (show Row (U.drewN nq) N 42 (msgV x none 0 0 none 0 0) from HU.out.2))
        generalize U.drewN nq = V at *
        clear HU xl
        go_upto_region 21 with fail
        go_cut [164] from 42 to 190 (fun s164 wd => s164 = .bool false ∧ Hid (DS w wd p KB (aft a b s f t i) a b s f t ∧ Row wd N 42 (msgV x none 0 0 none 0 0)))
        case first =>
          as_aux_lemma =>
          have x2 := HV.out.2.cell (j := 2) rfl
          have x6 := HV.out.2.cell (j := 6) rfl
          have x15 := HV.out.2.cell (j := 15) rfl
          have xl := HV.out.2.lt
          obtain ⟨k0, k1, k2, k3, k4, kl⟩ := HV.out.1.ls.cells
          rw [HX.out.2.2.2.2.2] at x2
          rw [HX.out.2.2.2.2.1] at x6
          rw [HX.out.2.2.2.1] at x15
          have hbe : ((0 : Int) == b) = false := by simp [HBE.out]
          have hbd : decide ((0 : Int) = b) = false := decide_eq_false HBE.out
          rcases (by omega : i = 0 ∨ i = 1 ∨ i = 2 ∨ i = 3 ∨ i = 4) with rfl | rfl | rfl | rfl | rfl
          all_goals
            simp (config := { decide := true }) only [if_true, if_false, or_true, true_or, or_false, false_or, text4] at x2 x6 x15
            go_wp2_with fail
            go_meet
            exact ⟨rfl, HV⟩
        case rest =>
        obtain ⟨rfl, HD⟩ := hcut
        clear HV
        have wf1 := HWF.out.1
        have wf2 := HWF.out.2
        as_aux_lemma =>
        go_wp2_with fail
        refine wp_region_held_drew (S := fun W => Row W (w.heap.size + 1) 24 [.int .i64 s, .int .i64 f, .int .i64 t] ∧ Row W N 42 (msgV x none 0 0 none 0 0)) (by kernel_rfl) ?_ (fun hHeld => ?_)
        · exact ⟨HD.out.1.ls.rv, HD.out.2⟩
        have H3 := Lib.hid HD.out.1.drew
        have R3 := Lib.hid (show Row wc.drew N 42 (msgV x none 0 0 none 0 0) from HD.out.2)
        clear HD
        refine tk 0 (oi := ⟨_, _, _, _, _, _⟩) rfl (fun w' hSw => by ((try dsimp only at hSw); go_simp <;> with_reducible rfl)) ?_
        try simp only [Act.put, List.setIfInBounds_toArray, List.set_cons_zero, List.set_cons_succ]
        refine tk 1 (oi := ⟨_, _, _, _, _, _⟩) rfl (fun w' hSw => by ((try dsimp only at hSw); go_simp <;> with_reducible rfl)) ?_
        try simp only [Act.put, List.setIfInBounds_toArray, List.set_cons_zero, List.set_cons_succ]
        refine tk 2 (oi := ⟨_, _, _, _, _, _⟩) rfl (fun w' hSw => by (have y1 := hSw.1.cell (j := 1) rfl; have y2 := hSw.1.cell (j := 2) rfl; go_simp <;> with_reducible rfl)) ?_
        try simp only [Act.put, List.setIfInBounds_toArray, List.set_cons_zero, List.set_cons_succ]
        refine tk 3 (oi := ⟨_, _, _, _, _, _⟩) rfl (fun w' hSw => by ((try dsimp only at hSw); go_simp <;> with_reducible rfl)) ?_
        try simp only [Act.put, List.setIfInBounds_toArray, List.set_cons_zero, List.set_cons_succ]
        refine tk 4 (oi := ⟨_, _, _, _, _, _⟩) rfl (fun w' hSw => by (have y1 := hSw.1.cell (j := 1) rfl; have y2 := hSw.1.cell (j := 2) rfl; go_simp <;> with_reducible rfl)) ?_
        try simp only [Act.put, List.setIfInBounds_toArray, List.set_cons_zero, List.set_cons_succ]
        refine tk 5 (oi := ⟨_, _, _, _, _, _⟩) (v := .int .i64 (f + t)) rfl (fun w' hSw => by ((try dsimp only at hSw); go_simp <;> with_reducible rfl)) ?_
        try simp only [Act.put, List.setIfInBounds_toArray, List.set_cons_zero, List.set_cons_succ]
        refine tk 6 (oi := ⟨_, _, _, _, _, _⟩) rfl (fun w' hSw => by ((try dsimp only at hSw); go_simp <;> with_reducible rfl)) ?_
        try simp only [Act.put, List.setIfInBounds_toArray, List.set_cons_zero, List.set_cons_succ]
        refine tk 7 (oi := ⟨_, _, _, _, _, _⟩) (v := .int .i64 OT) rfl (fun w' hSw => by ((try dsimp only at hSw); go_simp <;> with_reducible rfl)) ?_
        try simp only [Act.put, List.setIfInBounds_toArray, List.set_cons_zero, List.set_cons_succ]
        refine tk 8 (oi := ⟨_, _, _, _, _, _⟩) rfl (fun w' hSw => by (refine yields_msg hSw.2 rfl (.tmp 14) ?_ ?_) <;> rfl) ?_
        try simp only [Act.put, List.setIfInBounds_toArray, List.set_cons_zero, List.set_cons_succ]
        refine rd1 9 (o := ⟨_, _, _, _, _, _⟩) rfl (fun K' hK => ?_)
        go_simp
        go_at_call 19
        refine (HA.out _).mono ?_
        rintro en w4 ⟨rfl, hb4⟩
        have H4 := Lib.hid (H3.out.on hb4)
        have R4 := Lib.hid (R3.out.keep (hb4.block _ R3.out.lt))
        refine hK.out _ _ (by exact ⟨H4.out.ls.rv, R4.out⟩) (fun hHeld => ?_)
        clear hK K' hb4 H3 R3
        try simp only [Act.put, List.setIfInBounds_toArray, List.set_cons_zero, List.set_cons_succ]
        refine rd1 10 (o := ⟨_, _, _, _, _, _⟩) rfl (fun K' hK => ?_)
        go_simp
        go_at_call 15
        refine (HE0.out _ _ H4.out.ls.ms.is).mono ?_
        rintro en w5 ⟨rfl, hd5⟩
        have H5 := Lib.hid (H4.out.mv hd5)
        have R5 := Lib.hid (R4.out.keep (hd5.2.block _ R4.out.lt HNp.out))
        refine hK.out _ _ (by exact ⟨H5.out.ls.rv, R5.out⟩) (fun hHeld => ?_)
        clear hK K' hd5 H4 R4
        try simp only [Act.put, List.setIfInBounds_toArray, List.set_cons_zero, List.set_cons_succ]
        refine tk 11 (oi := ⟨_, _, _, _, _, _⟩) rfl (fun w' hSw => by ((try dsimp only at hSw); go_simp <;> with_reducible rfl)) ?_
        try simp only [Act.put, List.setIfInBounds_toArray, List.set_cons_zero, List.set_cons_succ]
        refine tk 12 (oi := ⟨_, _, _, _, _, _⟩) rfl (fun w' hSw => by ((try dsimp only at hSw); go_simp <;> with_reducible rfl)) ?_
        try simp only [Act.put, List.setIfInBounds_toArray, List.set_cons_zero, List.set_cons_succ]
        refine tk 13 (oi := ⟨_, _, _, _, _, _⟩) rfl (fun w' hSw => by ((try dsimp only at hSw); go_simp <;> with_reducible rfl)) ?_
        try simp only [Act.put, List.setIfInBounds_toArray, List.set_cons_zero, List.set_cons_succ]
        refine tk 14 (oi := ⟨_, _, _, _, _, _⟩) rfl (fun w' hSw => by (refine yields_msg hSw.2 rfl (.tmp 14) ?_ ?_) <;> rfl) ?_
        try simp only [Act.put, List.setIfInBounds_toArray, List.set_cons_zero, List.set_cons_succ]
        refine rd1 15 (o := ⟨_, _, _, _, _, _⟩) rfl (fun K' hK => ?_)
        go_simp
        go_at_call 19
        refine (HA.out _).mono ?_
        rintro en w6 ⟨rfl, hb6⟩
        have H6 := Lib.hid (H5.out.on hb6)
        have R6 := Lib.hid (R5.out.keep (hb6.block _ R5.out.lt))
        refine hK.out _ _ (by exact ⟨H6.out.ls.rv, R6.out⟩) (fun hHeld => ?_)
        clear hK K' hb6 H5 R5
        try simp only [Act.put, List.setIfInBounds_toArray, List.set_cons_zero, List.set_cons_succ]
        refine rd1 16 (o := ⟨_, _, _, _, _, _⟩) rfl (fun K' hK => ?_)
        go_simp
        go_at_call 15
        refine (HH.out _ _ H6.out.ls.ms.is).mono ?_
        rintro en w7 ⟨rfl, hd7⟩
        have H7 := Lib.hid (H6.out.mv hd7)
        have R7 := Lib.hid (R6.out.keep (hd7.2.block _ R6.out.lt HNp.out))
        refine hK.out _ _ (by exact ⟨H7.out.ls.rv, R7.out⟩) (fun hHeld => ?_)
        clear hK K' hd7 H6 R6
        try simp only [Act.put, List.setIfInBounds_toArray, List.set_cons_zero, List.set_cons_succ]
        refine tk 17 (oi := ⟨_, _, _, _, _, _⟩) rfl (fun w' hSw => by ((try dsimp only at hSw); go_simp <;> with_reducible rfl)) ?_
        try simp only [Act.put, List.setIfInBounds_toArray, List.set_cons_zero, List.set_cons_succ]
        refine tk 18 (oi := ⟨_, _, _, _, _, _⟩) rfl (fun w' hSw => by ((try dsimp only at hSw); go_simp <;> with_reducible rfl)) ?_
        try simp only [Act.put, List.setIfInBounds_toArray, List.set_cons_zero, List.set_cons_succ]
        refine tk 19 (oi := ⟨_, _, _, _, _, _⟩) rfl (fun w' hSw => by ((try dsimp only at hSw); go_simp <;> with_reducible rfl)) ?_
        try simp only [Act.put, List.setIfInBounds_toArray, List.set_cons_zero, List.set_cons_succ]
        refine tk 20 (oi := ⟨_, _, _, _, _, _⟩) rfl (fun w' hSw => by ((try dsimp only at hSw); go_simp <;> with_reducible rfl)) ?_
        try simp only [Act.put, List.setIfInBounds_toArray, List.set_cons_zero, List.set_cons_succ]
        refine tk 21 (oi := ⟨_, _, _, _, _, _⟩) rfl (fun w' hSw => by ((try dsimp only at hSw); go_simp <;> with_reducible rfl)) ?_
        try simp only [Act.put, List.setIfInBounds_toArray, List.set_cons_zero, List.set_cons_succ]
        refine tk 22 (oi := ⟨_, _, _, _, _, _⟩) rfl (fun w' hSw => by (refine yields_msg hSw.2 rfl (.tmp 14) ?_ ?_) <;> rfl) ?_
        try simp only [Act.put, List.setIfInBounds_toArray, List.set_cons_zero, List.set_cons_succ]
        refine rd1 23 (o := ⟨_, _, _, _, _, _⟩) rfl (fun K' hK => ?_)
        go_simp
        go_at_call 19
        refine (HA.out _).mono ?_
        rintro en w8 ⟨rfl, hb8⟩
        have H8 := Lib.hid (H7.out.on hb8)
        have R8 := Lib.hid (R7.out.keep (hb8.block _ R7.out.lt))
        refine hK.out _ _ (by exact ⟨H8.out.ls.rv, R8.out⟩) (fun hHeld => ?_)
        clear hK K' hb8 H7 R7
        try simp only [Act.put, List.setIfInBounds_toArray, List.set_cons_zero, List.set_cons_succ]
        refine rd1 24 (o := ⟨_, _, _, _, _, _⟩) rfl (fun K' hK => ?_)
        go_simp
        go_at_call 15
        refine (HLT.out _ _ H8.out.ls.ms.is).mono ?_
        rintro en w9 ⟨rfl, hd9⟩
        have H9 := Lib.hid (H8.out.mv hd9)
        have R9 := Lib.hid (R8.out.keep (hd9.2.block _ R8.out.lt HNp.out))
        refine hK.out _ _ (by exact ⟨H9.out.ls.rv, R9.out⟩) (fun hHeld => ?_)
        clear hK K' hd9 H8 R8
        try simp only [Act.put, List.setIfInBounds_toArray, List.set_cons_zero, List.set_cons_succ]
        refine tk 25 (oi := ⟨_, _, _, _, _, _⟩) rfl (fun w' hSw => by ((try dsimp only at hSw); go_simp <;> with_reducible rfl)) ?_
        try simp only [Act.put, List.setIfInBounds_toArray, List.set_cons_zero, List.set_cons_succ]
        refine wpAnyH_done (by kernel_rfl) ?_ _
        go_wp2_with fail
        exact ⟨⟨i + 1, by go_num, by have := HI5.out; omega, H9⟩, by have := HI5.out; simp [intOf]; omega⟩
end Go.Proofs.Ytbjjgjifaomdlaa.Mv
