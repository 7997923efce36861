/- What Put of the document's answers returns. Conditions: the message's numbers and hits read as lists; few of them. -/
import Derived.Test.YtcbkgcnajplagaaDoorJ24
import Derived.Test.YtcbkgcnajplagaaDoorJ34
import Derived.Test.YtcbkgcnajplagaaDoorJ20
import Derived.Deep.Cut
import Derived.Deep.CutRange
set_option linter.unusedVariables false
set_option linter.unusedSimpArgs false
set_option maxRecDepth 100000
namespace Go.Proofs.YtcbkgcnajplagaaDoor.Po
open Go Go.RowKit
open Be (T kindsOk kindsOkL deepT deepL wfT wfL tidy tidyL onlyRes takeRes gdT RdL Rd RdA ReadsP Keeps numT numL)
theorem rdl_app {ok : Nat → Prop} {w : World} {b : List T} {ys : List Value} (hb : RdL ok w b ys) : ∀ {a : List T} {xs : List Value}, RdL ok w a xs → RdL ok w (a ++ b) (xs ++ ys)
  | [], xs, h => by
    rw [RdL] at h
    subst h
    exact hb
  | t :: ts, xs, h => by
    rw [RdL] at h
    obtain ⟨cs, xs', rfl, h2, h3⟩ := h
    exact ⟨cs, xs' ++ ys, by rw [List.append_assoc], h2, rdl_app hb h3⟩
theorem num_nT {n : Int} (h : S64 n) : numT (nT n) = true := by
  have h1 := h.1
  have h2 := h.2
  simp [nT, numT, h1, h2]
theorem num_nTs : ∀ (l : List Int), (∀ x ∈ l, S64 x) → numL (l.map nT) = true
  | [], _ => by simp [numL]
  | x :: r, h => by
    have h1 := num_nTs r (fun y hy => h y (List.mem_cons_of_mem _ hy))
    have h2 := num_nT (h x (List.mem_cons_self ..))
    simp [numL, h1, h2]
theorem num_lT {l : List Int} (h : ∀ x ∈ l, S64 x) : numT (lT l) = true := by
  have := num_nTs l h
  simp [lT, numT, this]
theorem numL_app : ∀ a b, numL (a ++ b) = (numL a && numL b)
  | [], b => by simp [numL]
  | x :: r, b => by simp only [List.cons_append, numL, numL_app r b, Bool.and_assoc]
theorem num_val {m : M} (h : mayM m = true) (hf : FitM m) : numT (valM m) = true := by
  obtain ⟨f1, f2, f3, f4, f5, f6⟩ := may_fits h hf
  have a := num_nTs _ f1
  have b := num_lT f2
  have c := num_lT f3
  have d := num_nT f4
  have e := num_nT (b2i_64 m.wa)
  simp [valM, itemsM, numT, numL_app, numL, a, b, c, d, e]
/-- A list of numbers of the call's own. -/
structure GI (b : Nat) (w1 wr : World) (va : Value) (k : Nat) (l : List Int) : Prop where
  own : wr.ownsRow b 3 1 va k (ints l)
  le : b ≤ wr.heap.size
  bel : Below b w1 wr
theorem GI.on {b : Nat} {w1 wr w2 : World} {va : Value} {k : Nat} {l : List Int} (h : GI b w1 wr va k l) (hb : Below wr.heap.size wr w2) : GI b w1 w2 va k l :=
  ⟨keep_none h.own hb, Nat.le_trans h.le hb.size, h.bel.trans (hb.mono h.le)⟩
theorem GI.step {b : Nat} {w1 wr w3 : World} {va v' : Value} {k : Nat} {l : List Int} (h : GI b w1 wr va k l) {x : Int} (ho : w3.ownsRow b 3 1 v' (k + 1) (ints l ++ [.int .i64 x])) (hg : wr.grownBy w3 va.ownBlock) : GI b w1 w3 v' (k + 1) (l ++ [x]) :=
  have hb := below_own h.own hg h.le
  ⟨by rw [← ints_snoc]; exact ho, Nat.le_trans h.le hb.size, h.bel.trans hb⟩
/-- The document's value as it grows in a variable at q: so many values that read as ts. -/
structure DV (w : World) (N q : Nat) (vL : Value) (k : Nat) (ts : List T) (w' : World) : Prop where
  row : Row w' q 47 [.int .i64 3, .int .i64 0, .string ⟨#[]⟩, vL]
  own : ∃ xs, w'.ownsRow N 47 4 vL k xs ∧ RdL (fun b => b ≠ q ∧ some b ≠ vL.ownBlock) w' ts xs
  ne : ∀ g, vL.ownBlock = some g → g ≠ q
  nq : N ≤ q
  nw : w.heap.size ≤ N
  bel : Below w.heap.size w w'
theorem DV.on {w : World} {N q : Nat} {vL : Value} {k : Nat} {ts : List T} {w' w'' : World} (h : DV w N q vL k ts w') (hb : Below w'.heap.size w' w'') : DV w N q vL k ts w'' := by
  obtain ⟨xs, h1, h2⟩ := h.own
  exact ⟨h.row.keep (hb.block _ h.row.lt), ⟨xs, keep_none h1 hb, RdL.keep (Keeps.of_below hb (fun b _ h => h)) _ _ h2⟩, h.ne, h.nq, h.nw, h.bel.trans (hb.mono h.bel.size)⟩
/-- What is known behind an append, before the variable is stored. -/
structure DA (w : World) (N q : Nat) (vL v' : Value) (k : Nat) (ts : List T) (w3 : World) : Prop where
  z3 : w3.frozen? ⟨q, 3, none⟩ = false
  y3 : w3.cell? ⟨q, 3, none⟩ = some vL
  l3 : q < w3.heap.size
  next : DV w N q v' k ts (w3.setCell ⟨q, 3, none⟩ v')
theorem DV.app {w : World} {N q : Nat} {vL : Value} {k : Nat} {ts : List T} {wd we w3 : World} (h : DV w N q vL k ts wd) (hbe : Below wd.heap.size wd we) {xs : List Value} (ho : wd.ownsRow N 47 4 vL k xs) (hr : RdL (fun b => b ≠ q ∧ some b ≠ vL.ownBlock) wd ts xs) {m : Nat} {news : List Value} {us : List T} (hn : RdL (fun b => q < b ∧ some b ≠ vL.ownBlock) wd us news) {v' : Value}
    (ho3 : w3.ownsRow N 47 4 v' m (xs ++ news)) (hg : we.grownBy w3 vL.ownBlock) (hl : v'.ownBlock = vL.ownBlock ∨ v'.ownBlock = some we.heap.size) : DA w N q vL v' m (ts ++ us) w3 := by
  have hrow := h.row.keep (hbe.block _ h.row.lt)
  have hqe := hrow.lt
  have hrow3 : Row w3 q 47 [.int .i64 3, .int .i64 0, .string ⟨#[]⟩, vL] := hrow.keep (hg.block _ hrow.lt (fun e => h.ne q e.symm rfl))
  have hall : RdL (fun b => b ≠ q ∧ some b ≠ vL.ownBlock) wd (ts ++ us) (xs ++ news) := rdl_app (RdL.mono (fun b hb _ => ⟨by omega, hb.2⟩) _ _ hn) hr
  have hall1 : RdL (fun b => (b ≠ q ∧ some b ≠ vL.ownBlock) ∧ b < wd.heap.size) wd (ts ++ us) (xs ++ news) := RdL.mono (fun b hb hlt => ⟨hb, hlt⟩) _ _ hall
  have hk1 : Keeps (fun b => (b ≠ q ∧ some b ≠ vL.ownBlock) ∧ b < wd.heap.size) wd w3 := (Keeps.of_below hbe (fun b _ h => h)).trans (Keeps.of_grown hg (fun b hb => hb.1.2))
  have hall2 : RdL (fun b => b ≠ q ∧ some b ≠ v'.ownBlock) w3 (ts ++ us) (xs ++ news) := RdL.mono (fun b hb hlt => ⟨hb.1.1, by
    rcases hl with e | e
    · rw [e]; exact hb.1.2
    · rw [e]; intro e2; injection e2 with e2; have := hbe.size; omega⟩) _ _ (RdL.keep hk1 _ _ hall1)
  have hk2 := Keeps.setCell (Keeps.refl (fun b => b ≠ q ∧ some b ≠ v'.ownBlock) w3) ⟨q, 3, none⟩ (by simp) v'
  have hqw : q < we.heap.size := hrow.lt
  have hne : ∀ g, v'.ownBlock = some g → g ≠ q := fun g e => by
    rcases hl with e1 | e1
    · rw [e1] at e; exact h.ne g e
    · rw [e1] at e; injection e with e; omega
  have hNe : N ≤ we.heap.size := by have := h.nq; omega
  have hbelow : Below w.heap.size w w3 := (h.bel.trans (hbe.mono h.bel.size)).grown hg (by have := h.bel.size; have := hbe.size; omega) (fun g e => by have := (ho.lt g e).1; have := h.nw; omega)
  refine ⟨hrow3.frozen 3, hrow3.cell (j := 3) rfl, hrow3.lt, hrow3.set 3 v', ⟨xs ++ news, own_keep ho3 (fun g e => heap_set_ne w3 ⟨q, 3, none⟩ v' (hne g e)), RdL.keep hk2 _ _ hall2⟩, hne, h.nq, h.nw, below_setCell hbelow (p := ⟨q, 3, none⟩) (by have := h.nq; have := h.nw; show w.heap.size ≤ q; omega) v'⟩
theorem lcell_one (A : Option Addr) (n c : Nat) : ∀ u ∈ lcell A n c, u.oneCell' = true := fun u hu => by
  simp [lcell] at hu
  rcases hu with rfl | rfl | rfl | rfl <;> rfl
theorem rd_one {ok : Nat → Prop} {w : World} {t : T} {cs : List Value} (h : Rd ok w t cs) : RdL ok w [t] cs := ⟨cs, [], by simp, h, rfl⟩
theorem lies_or {v : Value} {g H m cap : Nat} (h : v.ownBlock = some g ∨ g = H) : (Value.slice (some ⟨g, 0, none⟩) m cap).ownBlock = v.ownBlock ∨ (Value.slice (some ⟨g, 0, none⟩) m cap).ownBlock = some H := by
  rcases h with e | e
  · exact .inl (by rw [e]; rfl)
  · exact .inr (by rw [e]; rfl)
set_option maxHeartbeats 16000000 in
theorem rput_any (m : M) (hf : FitM m) {w : World} {B : Nat} {A A' : Option Addr} {n c n' c' : Nat} (hR : Reads w B 1 A n (ints m.vs)) (hR' : Reads w B 2 A' n' (hits m.hs)) (hB : B ≤ w.heap.size) (hm : n ≤ 70000) (hm' : n' ≤ 70000) :
    Calls Tryd.prog 11 #[.agg (msgV m A n c A' n' c').toArray] w (Gives (.tuple #[.string (txP m), .int .i64 (eM m)]) w) := by
  have hln := hR.len
  have hln' := hR'.hits_len
  obtain ⟨W, hW⟩ : ∃ W, W = w.alloc (.cells (msgV m A n c A' n' c').toArray 30) := ⟨_, rfl⟩
  have hb0 : Below w.heap.size w W := by rw [hW]; exact (Below.refl _ w).alloc (Nat.le_refl _) _
  have hRw : Row W w.heap.size 30 (msgV m A n c A' n' c') := by rw [hW]; exact Row.new w 30 (msgV m A n c A' n' c')
  have KR := Lib.hid (fun w1 (hb : Below W.heap.size W w1) => show Row w1 w.heap.size 30 (msgV m A n c A' n' c') ∧ Reads w1 B 1 A n (ints m.vs) ∧ Reads w1 B 2 A' n' (hits m.hs) ∧ B ≤ w1.heap.size ∧ Below w.heap.size w w1 ∧ W.heap.size ≤ w1.heap.size from
    ⟨hRw.keep (hb.block _ hRw.lt), hR.below ((hb0.trans (hb.mono hb0.size)).mono hB), hR'.below ((hb0.trans (hb.mono hb0.size)).mono hB), Nat.le_trans hB (hb0.trans (hb.mono hb0.size)).size, hb0.trans (hb.mono hb0.size), hb.size⟩)
  have HSW := Lib.hid (show W.heap.size = w.heap.size + 1 by rw [hW]; simp)
  have HC := Lib.hid (rmay_any (c := c) (c' := c') m (hR.below (hb0.mono hB)) (hR'.below (hb0.mono hB)) (Nat.le_trans hB hb0.size) (show n ≤ maxLen by unfold maxLen; omega) (show n' ≤ maxLen by unfold maxLen; omega))
  have c0 := hRw.cell (j := 0) rfl
  have c1 := hRw.cell (j := 1) rfl
  have c2 := hRw.cell (j := 2) rfl
  have c3 := hRw.cell (j := 3) rfl
  have c4 := hRw.cell (j := 4) rfl
  have c5 := hRw.cell (j := 5) rfl
  have c6 := hRw.cell (j := 6) rfl
  have c7 := hRw.cell (j := 7) rfl
  have c8 := hRw.cell (j := 8) rfl
  have c9 := hRw.cell (j := 9) rfl
  have c10 := hRw.cell (j := 10) rfl
  have c11 := hRw.cell (j := 11) rfl
  have c12 := hRw.cell (j := 12) rfl
  have c13 := hRw.cell (j := 13) rfl
  have c14 := hRw.cell (j := 14) rfl
  have c15 := hRw.cell (j := 15) rfl
  have lw := hRw.lt
  have HW := Lib.hid hW
  have HL := Lib.hid (And.intro hln hln')
  clear hRw hb0 hR hR' hB hW hln hln'
  cases hmm : mayM m with
  | false =>
    have HE := Lib.hid (eM_f hmm)
    have HTX := Lib.hid (show txP m = ⟨#[]⟩ by unfold txP; rw [hmm]; rfl)
    rw [hmm] at HC
    rw [HE.out, HTX.out]
    clear hmm
    go_enter Tryd.func11, Tryd.ntmps11
    unfold msgV at HW HC
    unfold msgV
    go_wp2_with fail
    rw [← HW.out]
    go_wp2_with fail
    refine HC.out.mono ?_
    rintro en w1 ⟨rfl, hb1⟩
    have HB1 := Lib.hid (KR.out w1 hb1).2.2.2.2.1
    clear hb1
    go_wp2_with fail
    go_ret2
    exact ⟨rfl, HB1.out⟩
  | true =>
    have HE := Lib.hid (eM_t hmm)
    have HTX := Lib.hid (show txP m = txtB m by unfold txP; rw [if_pos hmm])
    have hfits := may_fits hmm hf
    have HV := Lib.hid (val_facts hmm hf)
    have HNV := Lib.hid (num_val hmm hf)
    have htx : m.tx.size ≤ 262144 := (mayM_iff.1 hmm).2.2.2.2.2.2.2.2.2.2.2.2.2
    have hn1 : n ≤ 16 := by have := HL.out; omega
    have hn2 : n' ≤ 64 := by have := HL.out; omega
    have HA := Lib.hid (txt_put m _ rfl)
    rw [hmm] at HC
    rw [HE.out, HTX.out]
    clear hmm hfits
    obtain ⟨S, hS⟩ : ∃ S : ByteArray, S = ⟨(Be.enc (valM m)).toArray⟩ := ⟨_, rfl⟩
    have hSz : S.size ≤ 4000 := by rw [hS]; show (Be.enc (valM m)).toArray.size ≤ 4000; simpa using HV.out.2.2.2.2
    rw [← hS] at HA
    have HS := Lib.hid hS
    clear hS
    have HP1 := Lib.hid (fun w' => YtcbkgcnajplagaaDoor.rput_any S (by omega) w')
    have HP2 := Lib.hid (fun w' => YtcbkgcnajplagaaDoor.rput_any m.tx (by omega) w')
    rw [putV_t (by omega)] at HP1
    rw [putV_t htx] at HP2
    have hz1 := encS_size S
    have hz2 := encS_size m.tx
    obtain ⟨E1, hE1⟩ : ∃ E1, encS S = E1 := ⟨_, rfl⟩
    obtain ⟨E2, hE2⟩ : ∃ E2, encS m.tx = E2 := ⟨_, rfl⟩
    rw [hE1] at HA HP1 hz1
    rw [hE2] at HA HP2 hz2
    have hs1 : E1.size ≤ 300000 := by omega
    have hs2 : E2.size ≤ 300000 := by omega
    clear hE1 hE2 hz1 hz2
    go_enter Tryd.func11, Tryd.ntmps11
    unfold msgV at HW HC
    unfold msgV
    go_wp2_with fail
    rw [← HW.out]
    go_wp2_with fail
    refine HC.out.mono ?_
    rintro en w1 ⟨rfl, hb1⟩
    clear c0 c1 c2 c3 c4 c5 c6 c7 c8 c9 c10 c11 c12 c13 c14 c15 lw HC
    have c13 := (KR.out w1 hb1).1.cell (j := 13) rfl
    have lw := (KR.out w1 hb1).1.lt
    have HB1 := Lib.hid hb1
    clear hb1
    obtain ⟨z, hz⟩ : ∃ z, m.wa = z := ⟨_, rfl⟩
    rw [hz] at c13
    have HZ := Lib.hid hz
    clear hz
    go_upto_if 20 with fail
    go_cut [4] from 21 to 21 (fun s4 wc => s4 = .int .i64 (b2i z) ∧ w1 = wc)
    case first =>
      cases z with
      | true =>
        go_wp2_with fail
        go_meet
        all_goals exact ⟨rfl, rfl⟩
      | false =>
        go_wp2_with fail
        go_meet
        all_goals exact ⟨rfl, rfl⟩
    case rest =>
      obtain ⟨rfl, rfl⟩ := hcut
      have HBZ := Lib.hid (show b2i z = b2i m.wa by rw [HZ.out])
      go_wp2_with fail
      clear c13 lw
      go_loopw [5, 6] (fun v i wr => ∃ (va : Value) (k : Nat), va = v ∧ i = .int .i64 (k : Int) ∧ k ≤ n' ∧ GI w1.heap.size w1 wr va (2 * k) (hitsL (m.hs.take k))) (fun v i _ => n' - (intOf i).toNat)
      case atStart => exact ⟨_, 0, rfl, rfl, Nat.zero_le _, World.ownsRow_nil .., Nat.le_refl _, Below.refl _ _⟩
      case round =>
        obtain ⟨va, k, rfl, rfl, hk, hG⟩ := hrel
        have hbW : Below W.heap.size W wr := HB1.out.trans (hG.bel.mono HB1.out.size)
        obtain ⟨rM, hV, hH, hBs, hbw, hsz⟩ := KR.out wr hbW
        have c14 := rM.cell (j := 14) rfl
        have lw := rM.lt
        by_cases hlt : k < n'
        · have hltz : (k : Int) < (n' : Int) := by omega
          obtain ⟨ad, rfl, hab, hkl, hc0, hc1⟩ := hH.hit_at hlt
          have hadl : (ad.add (k * 2)).block < wr.heap.size := by rw [block_of_add]; omega
          have KX := Lib.hid (fun w4 (hb : Below w1.heap.size w1 w4) => show w4.cell? ⟨w.heap.size, 14, none⟩ = some (.slice (some ad) n' c') ∧ w.heap.size < w4.heap.size ∧ w4.cell? ⟨(ad.add (k * 2)).block, (ad.add (k * 2)).off + 1, none⟩ = some (.int .i64 (m.hs.getD k (0, 0)).2) ∧ (ad.add (k * 2)).block < w4.heap.size from by
            have hbW4 : Below W.heap.size W w4 := HB1.out.trans (hb.mono HB1.out.size)
            obtain ⟨rM4, _, hH4, hBs4, _, _⟩ := KR.out w4 hbW4
            obtain ⟨ad4, e4, _, _, _, h1⟩ := hH4.hit_at hlt
            injection e4 with e4
            subst e4
            exact ⟨rM4.cell (j := 14) rfl, rM4.lt, h1, by rw [block_of_add]; omega⟩)
          have HTK := Lib.hid (show hitsL (m.hs.take k) ++ [(m.hs.getD k (0, 0)).1] ++ [(m.hs.getD k (0, 0)).2] = hitsL (m.hs.take (k + 1)) by rw [hitsL_snoc m.hs hkl, List.append_assoc]; rfl)
          have HG := Lib.hid hG
          have hle := hG.le
          have hkb : 2 * k ≤ 1000 := by omega
          generalize (m.hs.getD k (0, 0)).1 = X1 at *
          generalize (m.hs.getD k (0, 0)).2 = X2 at *
          clear hbW rM hV hH hBs hbw hsz hG hkl
          go_wp2_with (first
            | (at_builtin; refine append_int rfl (.tmp 29) (.tmp 37) rfl w1.heap.size va (2 * k) (ints (hitsL (m.hs.take k))) X1 rfl HG.out.own wr.heap.size rfl rfl (by omega) hle ?_; intro v4 w4 hown4 hgr4; have hG4 := HG.out.step hown4 hgr4; have HG4 := Lib.hid hG4; obtain ⟨y14, yl, yc, ya⟩ := KX.out w4 hG4.bel; have hle4 := hG4.le; clear hown4 hgr4 hG4)
            | (at_builtin; refine append_int rfl (.tmp 39) (.tmp 47) rfl w1.heap.size v4 (2 * k + 1) (ints (hitsL (m.hs.take k) ++ [X1])) X2 rfl HG4.out.own w4.heap.size rfl rfl (by omega) hle4 ?_; intro v5 w5 hown5 hgr5; have HG5 := Lib.hid (show GI w1.heap.size w1 w5 v5 (2 * (k + 1)) (hitsL (m.hs.take (k + 1))) by rw [← HTK.out]; exact HG4.out.step hown5 hgr5); clear hown5 hgr5))
          exact ⟨⟨_, k + 1, rfl, by go_num, hlt, HG5.out⟩, by simp [intOf]; omega⟩
        · obtain rfl : k = n' := by omega
          have hnl : ¬ (k : Int) < (k : Int) := by omega
          obtain ⟨w2, h2⟩ : ∃ w2, w2 = wr := ⟨_, rfl⟩
          subst h2
          have htq : m.hs.take k = m.hs := List.take_of_length_le (by rw [← HL.out.2]; exact Nat.le_refl _)
          rw [htq] at hG
          obtain ⟨Ah, ch, rfl, _, _⟩ := own_shape hG.own
          have c0 := rM.cell (j := 0) rfl
          have c1 := rM.cell (j := 1) rfl
          have c2 := rM.cell (j := 2) rfl
          have c3 := rM.cell (j := 3) rfl
          have c4 := rM.cell (j := 4) rfl
          have c5 := rM.cell (j := 5) rfl
          have c6 := rM.cell (j := 6) rfl
          have c7 := rM.cell (j := 7) rfl
          have c8 := rM.cell (j := 8) rfl
          have c9 := rM.cell (j := 9) rfl
          have c11 := rM.cell (j := 11) rfl
          have KR2 := Lib.hid (fun w' (hb : Below w2.heap.size w2 w') => show Row w' w.heap.size 30 (msgV m A n c A' k c') ∧ Reads w' B 1 A n (ints m.vs) ∧ B ≤ w'.heap.size ∧ Below w.heap.size w w' ∧ Reads w' w'.heap.size 1 Ah (2 * k) (ints (hitsL m.hs)) from by
            have hq := KR.out w' (hbW.trans (hb.mono hsz))
            exact ⟨hq.1, hq.2.1, hq.2.2.2.1, hq.2.2.2.2.1, Reads.of_own (hG.on hb).own⟩)
          have HS2 := Lib.hid (And.intro hsz HSW.out)
          obtain ⟨V, hVd⟩ : ∃ V, V = w2.alloc (.cells #[.int .i64 m.kd, .int .i64 m.sh, .int .i64 m.ep, .int .i64 m.cl, .int .i64 m.sq, .int .i64 m.nn, .int .i64 m.vr, .int .i64 m.lm, .int .i64 m.ok, .int .i64 m.oi, .int .i64 m.kk] 3) := ⟨_, rfl⟩
          have hbV : Below w2.heap.size w2 V := by rw [hVd]; exact (Below.refl _ w2).alloc (Nat.le_refl _) _
          have hRV : Reads V V.heap.size 1 (some ⟨w2.heap.size, 0, none⟩) 11 (ints (headI m)) := by
            have := news_int w2 (headI m) (by simp [headI])
            rw [hVd]
            exact this.more (by simp)
          have HLI := Lib.hid (rlist_any (c := 11) hRV (Nat.le_refl _) (by omega))
          have HVD := Lib.hid hVd
          have HBV := Lib.hid hbV
          clear rM hV hH hBs hbW hbw hsz hG hk htq hVd hbV hRV
          go_wp2_with fail
          rw [← HVD.out]
          refine HLI.out.mono ?_
          intro en w3 hpost
          unfold ListPost at hpost
          obtain ⟨A1, k1, b1, rfl, hb1, hown1, _, _, hb3⟩ := hpost
          obtain ⟨U, hUd⟩ : ∃ U, U = w3.alloc (.cells #[.int .i64 3, .int .i64 0, .string ⟨#[]⟩, .slice A1 11 k1] 47) := ⟨_, rfl⟩
          have hbU : Below w3.heap.size w3 U := by rw [hUd]; exact (Below.refl _ w3).alloc (Nat.le_refl _) _
          have hDU : DV w2 b1 w3.heap.size (.slice A1 11 k1) 11 ((headI m).map nT) U := by
            obtain ⟨g, cap, hgA, hg1, hg2⟩ := hown1.form (by omega)
            exact ⟨by rw [hUd]; exact Row.new w3 _ _, ⟨_, keep_none hown1 hbU, rdl_nT _ _ _⟩, fun g e => by have := (hown1.lt g e).2; omega, by omega, Nat.le_trans HBV.out.size hb1, (HBV.out.trans (hb3.mono HBV.out.size)).trans (hbU.mono (Nat.le_trans HBV.out.size hb3.size))⟩
          have HUD := Lib.hid hUd
          have HDU := Lib.hid hDU
          clear hb1 hown1 hb3 hUd hbU hDU HLI HVD
          clear c0 c1 c2 c3 c4 c5 c6 c7 c8 c9 c11 c14 lw
          have hq := KR2.out U HDU.out.bel
          have c10 := hq.1.cell (j := 10) rfl
          have lw := hq.1.lt
          have y3 := HDU.out.row.cell (j := 3) rfl
          have yl := HDU.out.row.lt
          have HLV := Lib.hid (rlist_any (c := c) (w := U.drew) hq.2.1 hq.2.2.1 (by omega))
          obtain ⟨xs1, ho1, hr1⟩ := HDU.out.own
          have HO1 := Lib.hid (And.intro ho1 hr1)
          obtain ⟨i0, hi, hz0, hz1, hz2⟩ := info_parts val_row
          have hNq := HDU.out.nq
          generalize hqq : w3.heap.size = q at *
          have HQQ := Lib.hid hqq
          clear hq ho1 hr1 hqq
          go_wp2_with fail
          rw [← HUD.out, HQQ.out]
          go_cut [4] from 76 to 84 (fun s4 wc => s4 = .int .i64 (b2i z) ∧ ∃ v6 : Value, Hid (DV w2 b1 q v6 12 ((headI m).map nT ++ [lT m.vs]) wc))
          case first =>
           go_region_law (first
            | (go_simp; go_at_call 21; refine HLV.out.mono ?_; intro e w5 hpost; unfold ListPost at hpost; obtain ⟨A2, k2, b2, rfl, hb2, hown2, hk2, hm2, hb5⟩ := hpost; have hU5 : Below U.heap.size U w5 := (Below.refl _ U).drew.trans hb5; have hD5 := HDU.out.on hU5; have y3' := hD5.row.cell (j := 3) rfl; have yl' := hD5.row.lt; have HD5 := Lib.hid hD5; have HX5 := Lib.hid (show Below U.heap.size U w5 ∧ ReadsP (fun b => q < b ∧ some b ≠ (Value.slice A1 11 k1).ownBlock) w5 4 A2 n (ivals m.vs) ∧ n ≤ k2 ∧ k2 ≤ maxLen from ⟨hU5, (ReadsP.of_own hown2).mono (fun b hb _ => by have hb2' : U.heap.size ≤ b2 := hb2; exact ⟨by omega, fun e => by have := (HO1.out.1.lt b e.symm).2; omega⟩), hk2, hm2⟩); clear hb2 hown2 hk2 hm2 hb5 hU5 hD5 HLV)
            | (refine step_append_lies _ rfl (.tmp 77) (.tmp 82) 45 rfl b1 47 i0 _ 4 56 Tryd.underlying45 hi hz0 hz1 hz2 rfl (by decide) (.slice A1 11 k1) 11 xs1 rfl ((keep_none HO1.out.1 HX5.out.1).alloc _) ⟨w5.heap.size, 0, none⟩ 1 1 (lcell A2 n k2) rfl rfl (news_cells w5 (lcell A2 n k2).toArray 47) (lcell_one A2 n k2) (by decide) (by unfold maxLen; omega) (by omega) (by have := HD5.out.row.lt; simp; omega) _ rfl ?_; intro g cap w6 hown6 hg6 hlies6 hlt6; have hA6 := HD5.out.app ((Below.refl _ w5).alloc (Nat.le_refl _) _) (keep_none HO1.out.1 HX5.out.1) (RdL.keep (Keeps.of_below HX5.out.1 (fun b _ h => h)) _ _ HO1.out.2) (rd_one (rd_lT HL.out.1 HX5.out.2.2.1 HX5.out.2.2.2 HX5.out.2.1)) hown6 hg6 (lies_or hlies6); have HA6 := Lib.hid hA6; have z3 := hA6.z3; have y36 := hA6.y3; have l36 := hA6.l3; clear hA6 hown6 hg6 hlies6 hlt6))
           all_goals (go_wp2_with fail; go_meet)
           all_goals exact ⟨rfl, _, Lib.hid HA6.out.next⟩
          case rest =>
           obtain ⟨rfl, v6, HD6⟩ := hcut
           obtain ⟨w6, h6⟩ : ∃ w6, w6 = wc := ⟨_, rfl⟩
           subst h6
           clear HLV HDU HO1 c10 lw y3 yl
           have hq6 := KR2.out w6 HD6.out.bel
           have c12 := hq6.1.cell (j := 12) rfl
           have lw := hq6.1.lt
           obtain ⟨V7, hV7⟩ : ∃ V7, V7 = w6.alloc (.cells #[.int .i64 m.er, .int .i64 (b2i z)] 3) := ⟨_, rfl⟩
           have hbV7 : Below w6.heap.size w6 V7 := by rw [hV7]; exact (Below.refl _ w6).alloc (Nat.le_refl _) _
           have hRV7 : Reads V7 V7.heap.size 1 (some ⟨w6.heap.size, 0, none⟩) 2 (ints [m.er, b2i z]) := by
             have := news_int w6 [m.er, b2i z] (by simp)
             rw [hV7]
             exact this.more (by simp)
           have HL7 := Lib.hid (rlist_any (c := 2) hRV7 (Nat.le_refl _) (by omega))
           have HV7 := Lib.hid hV7
           have HB7 := Lib.hid hbV7
           clear hq6 hV7 hbV7 hRV7
           go_wp2_with fail
           rw [← HV7.out]
           refine HL7.out.mono ?_
           intro en w8 hpost
           unfold ListPost at hpost
           obtain ⟨A8, k8, b8, rfl, hb8, hown8, hk8, hm8, hb78⟩ := hpost
           obtain ⟨U8, hU8⟩ : ∃ U8, U8 = w8.alloc (.cells #[.int .i64 3, .int .i64 0, .string ⟨#[]⟩, .slice A8 2 k8] 47) := ⟨_, rfl⟩
           have hbU8 : Below w8.heap.size w8 U8 := by rw [hU8]; exact (Below.refl _ w8).alloc (Nat.le_refl _) _
           have hb68 : Below w6.heap.size w6 U8 := (HB7.out.trans (hb78.mono HB7.out.size)).trans (hbU8.mono (Nat.le_trans HB7.out.size hb78.size))
           have hD8 := HD6.out.on hb68
           have rU8 : Row U8 w8.heap.size 47 [.int .i64 3, .int .i64 0, .string ⟨#[]⟩, .slice A8 2 k8] := by rw [hU8]; exact Row.new w8 _ _
           have x3 := rU8.cell (j := 3) rfl
           have xl := rU8.lt
           obtain ⟨xs8, ho8, hr8⟩ := hD8.own
           obtain ⟨A6v, k6v, rfl, _, _⟩ := own_shape ho8
           have y3 := hD8.row.cell (j := 3) rfl
           have yl := hD8.row.lt
           have HD8 := Lib.hid (And.intro hD8 (And.intro ho8 hr8))
           have HR8 := Lib.hid (ReadsP.of_own (keep_none hown8 hbU8))
           have HU8 := Lib.hid hU8
           have hle8 : b1 ≤ U8.heap.size := by omega
           clear hb8 hown8 hk8 hm8 hb78 hU8 hbU8 hb68 hD8 rU8 ho8 hr8 c12 lw
           go_upto_region 15 with fail
           rw [← HU8.out]
           go_wp2_with (at_builtin; refine Be.wpList_append_any _ rfl (.tmp 92) (.tmp 94) 45 rfl b1 47 i0 _ 4 56 Tryd.underlying45 hi hz0 hz1 hz2 rfl (by decide) (.slice A6v 12 k6v) 12 xs8 rfl HD8.out.2.1 _ A8 2 k8 (ivals [m.er, b2i z]) rfl HR8.out (ivals_one _) (by unfold maxLen; omega) (by omega) hle8 ?_; intro v9 w9 hown9 hg9 hl9; obtain ⟨A9v, k9v, rfl, _, _⟩ := own_shape hown9; have hA9 := HD8.out.1.app (Below.refl _ U8) HD8.out.2.1 HD8.out.2.2 (rdl_nT _ _ [m.er, b2i z]) hown9 hg9 hl9; have HA9 := Lib.hid hA9; have z3 := hA9.z3; have y39 := hA9.y3; have l39 := hA9.l3; clear hA9 hown9 hg9 hl9)
           clear y3 yl x3 xl
           obtain ⟨w10, h10⟩ : ∃ w10, w9.setCell ⟨q, 3, none⟩ (.slice A9v (12 + 2) k9v) = w10 := ⟨_, rfl⟩
           have hD10 := HA9.out.next
           rw [h10] at hD10
           have H10 := Lib.hid h10
           have HD10 := Lib.hid hD10
           have y3 := hD10.row.cell (j := 3) rfl
           have yl := hD10.row.lt
           have hRh := (KR2.out w10 hD10.bel).2.2.2.2
           have HLV := Lib.hid (rlist_any (c := ch) (w := w10.drew) hRh (Nat.le_refl _) (by omega))
           obtain ⟨xs10, ho10, hr10⟩ := hD10.own
           have HO1 := Lib.hid (And.intro ho10 hr10)
           have hNq := hD10.nq
           clear h10 hD10 ho10 hr10 hRh z3 y39 l39
           rw [H10.out]
           go_cut [4] from 97 to 103 (fun s4 wc => s4 = .int .i64 (b2i z) ∧ ∃ v6 : Value, Hid (DV w2 b1 q v6 15 ((((headI m).map nT ++ [lT m.vs]) ++ [m.er, b2i z].map nT) ++ [lT (hitsL m.hs)]) wc))
           case first =>
            go_region_law (first
            | (go_simp; go_at_call 21; refine HLV.out.mono ?_; intro e w5 hpost; unfold ListPost at hpost; obtain ⟨A2, k2, b2, rfl, hb2, hown2, hk2, hm2, hb5⟩ := hpost; have hU5 : Below w10.heap.size w10 w5 := (Below.refl _ w10).drew.trans hb5; have hD5 := HD10.out.on hU5; have y3' := hD5.row.cell (j := 3) rfl; have yl' := hD5.row.lt; have HD5 := Lib.hid hD5; have HX5 := Lib.hid (show Below w10.heap.size w10 w5 ∧ ReadsP (fun b => q < b ∧ some b ≠ (Value.slice A9v (12 + 2) k9v).ownBlock) w5 4 A2 (2 * k) (ivals (hitsL m.hs)) ∧ 2 * k ≤ k2 ∧ k2 ≤ maxLen from ⟨hU5, (ReadsP.of_own hown2).mono (fun b hb _ => by have hb2' : w10.heap.size ≤ b2 := hb2; exact ⟨by omega, fun e => by have := (HO1.out.1.lt b e.symm).2; omega⟩), hk2, hm2⟩); clear hb2 hown2 hk2 hm2 hb5 hU5 hD5 HLV)
            | (refine step_append_lies _ rfl (.tmp 98) (.tmp 101) 45 rfl b1 47 i0 _ 4 56 Tryd.underlying45 hi hz0 hz1 hz2 rfl (by decide) (.slice A9v (12 + 2) k9v) (12 + 2) xs10 rfl ((keep_none HO1.out.1 HX5.out.1).alloc _) ⟨w5.heap.size, 0, none⟩ 1 1 (lcell A2 (2 * k) k2) rfl rfl (news_cells w5 (lcell A2 (2 * k) k2).toArray 47) (lcell_one A2 (2 * k) k2) (by decide) (by unfold maxLen; omega) (by omega) (by have := HD5.out.row.lt; simp; omega) _ rfl ?_; intro g cap w6' hown6 hg6 hlies6 hlt6; have hA6 := HD5.out.app ((Below.refl _ w5).alloc (Nat.le_refl _) _) (keep_none HO1.out.1 HX5.out.1) (RdL.keep (Keeps.of_below HX5.out.1 (fun b _ h => h)) _ _ HO1.out.2) (rd_one (rd_lT (by have := HL.out.2; rw [hitsL_len]; omega) HX5.out.2.2.1 HX5.out.2.2.2 HX5.out.2.1)) hown6 hg6 (lies_or hlies6); have HA6 := Lib.hid hA6; have z3 := hA6.z3; have y36 := hA6.y3; have l36 := hA6.l3; clear hA6 hown6 hg6 hlies6 hlt6))
            all_goals (go_wp2_with fail; go_meet)
            all_goals exact ⟨rfl, _, Lib.hid HA6.out.next⟩
           case rest =>
            obtain ⟨rfl, v11, HD11⟩ := hcut
            obtain ⟨w11, h11⟩ : ∃ w11, w11 = wc := ⟨_, rfl⟩
            subst h11
            clear HLV HO1 y3 yl
            obtain ⟨xs, ho, hr⟩ := HD11.out.own
            obtain ⟨A11, k11, rfl, hk11, hm11⟩ := own_shape ho
            have hRA : RdA (fun _ => True) w11 (valM m) (.agg #[.int .i64 3, .int .i64 0, .string ⟨#[]⟩, .slice A11 15 k11]) := by
              have hit : itemsM m = (((headI m).map nT ++ [lT m.vs]) ++ [m.er, b2i z].map nT) ++ [lT (hitsL m.hs)] := by rw [HBZ.out]; simp [itemsM, headI, headL]
              refine ⟨A11, k11, xs, rfl, by simp [valM, Be.T.s, maxLen], hk11, hm11, (ReadsP.of_own ho).mono (fun _ _ _ => trivial), ?_⟩
              show RdL _ _ (itemsM m) xs
              rw [hit]
              exact RdL.mono (fun _ _ _ => trivial) _ _ hr
            have HPB := Lib.hid (Be.rbput_any (valM m) _ _ w11 hRA HV.out.1 HNV.out (by have := HV.out.2.1; omega) (by have := HV.out.2.2.2.2; omega))
            rw [← HS.out] at HPB
            have d0 := HD11.out.row.cell (j := 0) rfl
            have d1 := HD11.out.row.cell (j := 1) rfl
            have d2 := HD11.out.row.cell (j := 2) rfl
            have d3 := HD11.out.row.cell (j := 3) rfl
            have dl := HD11.out.row.lt
            have hq := KR2.out w11 HD11.out.bel
            have KE := Lib.hid (fun w' (hb : Below w11.heap.size w11 w') => show w'.cell? ⟨w.heap.size, 15, none⟩ = some (.string m.tx) ∧ w.heap.size < w'.heap.size ∧ Below w.heap.size w w' from
              ⟨(hq.1.keep (hb.block _ hq.1.lt)).cell (j := 15) rfl, (hq.1.keep (hb.block _ hq.1.lt)).lt, hq.2.2.2.1.trans (hb.mono hq.2.2.2.1.size)⟩)
            clear ho hr hk11 hm11 hRA hq
            go_wp2_with fail
            refine HPB.out.mono ?_
            rintro en w12 ⟨rfl, hb12⟩
            have HP1b := Lib.hid (HP1.out w12)
            have HB12 := Lib.hid hb12
            clear d0 d1 d2 d3 dl hb12
            go_wp2_with fail
            refine HP1b.out.mono ?_
            rintro en w13 ⟨rfl, hb13⟩
            have hb := HB12.out.trans (hb13.mono HB12.out.size)
            obtain ⟨c15, lw, _⟩ := KE.out w13 hb
            have HP2b := Lib.hid (HP2.out w13)
            have HB13 := Lib.hid hb
            clear hb hb13
            go_wp2_with fail
            refine HP2b.out.mono ?_
            rintro en w14 ⟨rfl, hb14⟩
            have HB14 := Lib.hid (KE.out w14 (HB13.out.trans (hb14.mono HB13.out.size))).2.2
            clear hb14 c15 lw
            go_wp2_with fail
            go_ret2
            exact ⟨by rw [HA.out]; rfl, HB14.out⟩
end Go.Proofs.YtcbkgcnajplagaaDoor.Po
