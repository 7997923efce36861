/- What seek of the nodes does: all points that are still there, and near enough, are told. Conditions: the tree and what is nearest lie in memory. -/
import Derived.Test.YtkgapieikgniiaaVTell
set_option linter.unusedVariables false
set_option linter.unusedSimpArgs false
namespace Go.Proofs.Ytkgapieikgniiaa
open Go Go.RowKit Go.Maps
section
variable {w w' : World} {F : Nat → Prop} {t bm fm dim bt bb base k : Nat} {rv : Value} {N : NT} {B U : List Ent} {lim : Int} {v : Value} {S : List Hit}
theorem SkW.same {S' : List Hit} (h : SkW w F t bm fm dim rv N B U bt bb base k lim v S) (e : bst k S = bst k S') (hl : ∀ x ∈ S', x.2 ≤ lim) : SkW w F t bm fm dim rv N B U bt bb base k lim v S' :=
  ⟨h.tree, h.box, by rw [← e]; exact h.near, h.below, h.bt, h.k1, h.k2, hl⟩
theorem SkW.far {v' : Value} (h : SkW w F t bm fm dim rv N B U bt bb base k lim v S) (T : Turn (Own2 bb v) w (Own2 bb v') w') : ∀ b, b < bb → b < w.heap.size → w'.heap[b]? = w.heap[b]? := fun b hb hlt => T.block b hlt (fun ho => by
  rcases ho with ho | ho
  · omega
  · have := (h.near.own.lt b ho).1
    have := h.near.up
    omega)
theorem reads_far {A : Option Addr} {n size : Nat} {xs : List Value} (h : Reads w bb size A n xs) (hb : bb ≤ w.heap.size) (hk : ∀ b, b < bb → b < w.heap.size → w'.heap[b]? = w.heap[b]?) : Reads w' bb size A n xs :=
  h.keep (fun p hp => World.cell?_of_block (hk p.block hp (by omega)))
theorem SkW.at_ (h : SkW w F t bm fm dim rv N B U bt bb base k lim v S) {G : Nat → Prop} (hG : ∀ b, G b → b < bb) (hk : ∀ b, b < bb → b < w.heap.size → w'.heap[b]? = w.heap[b]?) (hs : w.heap.size ≤ w'.heap.size) {N' : NT} {r : Value} (hN : NodeAt w G r N') : NodeAt w' G r N' :=
  hN.keep (fun b hb hlt => hk b (hG b hb) hlt) hs
theorem xs_lim {vec : List Int} {X : List (Int × List Int)} (hS : ∀ x ∈ S, x.2 ≤ lim) : ∀ x ∈ nearH vec lim X ++ S, x.2 ≤ lim := fun x hx => by
  rcases List.mem_append.1 hx with hx | hx
  · exact nearH_lim x hx
  · exact hS x hx
theorem oneH_near {vec nv : List Int} {id : Int} : oneH B lim (id, far nv vec) = nearH vec lim (selB B [(id, nv)]) := by
  unfold oneH
  rw [selB_cons, selB_nil]
  by_cases hi : isId id B = true
  · rw [if_pos hi, if_pos hi, nearH_cons, nearH_nil, List.append_nil]
  · rw [if_neg hi, if_neg hi, nearH_nil]
/-- One point, the one side, the other: the whole. -/
theorem three_perm {vec : List Int} {e : Int × List Int} {a b : List (Int × List Int)} : (nearH vec lim (selB B a) ++ (nearH vec lim (selB B b) ++ (nearH vec lim (selB B [e]) ++ S))).Perm (nearH vec lim (selB B (e :: (b ++ a))) ++ S) := by
  rw [show e :: (b ++ a) = [e] ++ (b ++ a) from rfl, selB_append, selB_append, nearH_append, nearH_append]
  rw [← List.append_assoc, ← List.append_assoc]
  refine List.Perm.append_right S ?_
  refine (List.perm_append_comm).trans ?_
  exact List.Perm.append_left _ List.perm_append_comm
theorem three_perm' {vec : List Int} {e : Int × List Int} {a b : List (Int × List Int)} : (nearH vec lim (selB B a) ++ (nearH vec lim (selB B b) ++ (nearH vec lim (selB B [e]) ++ S))).Perm (nearH vec lim (selB B (e :: (a ++ b))) ++ S) := by
  refine three_perm.trans (List.Perm.append_right S (nearH_perm (List.Perm.filter _ ?_)))
  exact (List.perm_append_comm).cons e
def clo (bt bb : Nat) : Value := .func (.func 41) #[] #[.pointer (some ⟨bt, 0, none⟩), .pointer (some ⟨bb, 0, none⟩)]
set_option maxHeartbeats 1000000 in
theorem seek_nil (s : SkW w F t bm fm dim rv N B U bt bb base k lim v S) {A : Option Addr} {n c : Nat} {vec : List Int} :
    Calls Try.prog 39 #[.pointer none, .slice A n c, .int .i64 (reachOf k lim (bst k S)), clo bt bb] w (TellPost F t bm fm dim rv N B U bt bb base k lim v S (nearH vec lim (selB B NT.leaf.ents)) w) := by
  have HF := Lib.hid (show TellPost F t bm fm dim rv N B U bt bb base k lim v S (nearH vec lim (selB B NT.leaf.ents)) w (.returned (.int .i64 (reachOf k lim (bst k S)))) w from ⟨rfl, v, s, Turn.refl _ w⟩)
  clear s
  generalize reachOf k lim (bst k S) = R at *
  unfold clo
  go_enter Try.func39, Try.ntmps39
  go_wp2_with fail
  go_ret
  exact HF.out
/-- What holds of a world that a search has come to. -/
structure AtN (w : World) (G : Nat → Prop) (bb : Nat) (A : Option Addr) (n : Nat) (vec : List Int) (a b : NT) (lv bv : Value) (g : Nat) (id : Int) (nv : Value) (rad : Int) : Prop where
  cell : w.heap[g]? = some (.cells #[.int .i64 id, nv, .int .i64 rad, lv, bv] 105 (0, 0))
  l : NodeAt w G lv a
  b : NodeAt w G bv b
  reads : Reads w bb 1 A n (ints vec)
theorem AtN.keep {G : Nat → Prop} {A : Option Addr} {n : Nat} {vec : List Int} {a b : NT} {lv bv : Value} {g : Nat} {id : Int} {nv : Value} {rad : Int} (h : AtN w G bb A n vec a b lv bv g id nv rad) (hG : ∀ b, G b → b < bb) (hg : g < bb) (hb : bb ≤ w.heap.size)
    (hk : ∀ b, b < bb → b < w.heap.size → w'.heap[b]? = w.heap[b]?) (hs : w.heap.size ≤ w'.heap.size) : AtN w' G bb A n vec a b lv bv g id nv rad :=
  ⟨(hk g hg (Array.getElem?_eq_some_iff.1 h.cell).1).trans h.cell, h.l.keep (fun b hb hlt => hk b (hG b hb) hlt) hs, h.b.keep (fun b hb hlt => hk b (hG b hb) hlt) hs, reads_far h.reads hb hk⟩
set_option maxHeartbeats 2000000 in
set_option maxRecDepth 100000 in
theorem seek_any {A : Option Addr} {n c : Nat} {vec : List Int} (hok : okV vec = true) (hdim : vec.length = dim) : ∀ (N' : NT) (w : World) (r v : Value) (S : List Hit), SkW w F t bm fm dim rv N B U bt bb base k lim v S → NodeAt w (Core F t bm fm) r N' → N'.Good dim → Reads w bb 1 A n (ints vec) →
    Calls Try.prog 39 #[r, .slice A n c, .int .i64 (reachOf k lim (bst k S)), clo bt bb] w (TellPost F t bm fm dim rv N B U bt bb base k lim v S (nearH vec lim (selB B N'.ents)) w) := by
  intro N'
  induction N' with
  | leaf =>
    intro w r v S s hN _ _
    have e : r = .pointer none := hN
    subst e
    exact seek_nil s
  | node id nvl rad a b iha ihb =>
    intro w r v S s hN hgood hR
    obtain ⟨g, nv, lv, bv, rfl, hg, hcell, hvec, hla, hlb⟩ := hN
    obtain ⟨hwf, hok1, hlen1, hr0, hr1, hina, hinb, hga, hgb⟩ := hgood
    have hgbb : g < bb := s.below g hg.1
    have hbbs : bb ≤ w.heap.size := Nat.le_of_lt s.near.lt
    have hGbb : ∀ b, Core F t bm fm b → b < bb := fun b hb => s.below b hb.1
    have hAt : AtN w (Core F t bm fm) bb A n vec a b lv bv g id nv rad := ⟨hcell, hla, hlb, hR⟩
    obtain ⟨Av, cv, rfl, hRv⟩ := hvec.reads
    have hfl := far_le hok1 hok (by omega)
    have hf0 := far_nonneg nvl vec
    have hfar := vfar_any Av A nvl.length n cv c w.heap.size bb nvl vec w hRv hR hok1 hok (by omega)
    have htell := fun q => tell_any (s.under (below_drewN (Below.refl _ w) q)) (id, far nvl vec) hwf
    rw [oneH_near] at htell
    unfold hitV at htell
    have row : Row w g 105 [.int .i64 id, .slice Av nvl.length cv, .int .i64 rad, lv, bv] := hcell
    have n0 := row.cell (j := 0) rfl
    have n1 := row.cell (j := 1) rfl
    have nl := row.lt
    have HS := Lib.hid (And.intro s (And.intro hAt (And.intro hGbb (And.intro hgbb (And.intro hga hgb)))))
    have HI := Lib.hid (And.intro hina hinb)
    have HIA := Lib.hid iha
    have HIB := Lib.hid ihb
    have HL := Lib.hid (And.intro hlen1 (And.intro (fun e he => (hga.vec e he).2) (fun e he => (hgb.vec e he).2)))
    clear s hAt hGbb hgbb hga hgb hina hinb iha ihb hcell hvec hla hlb hR hRv row hlen1 hok1
    generalize hD : far nvl vec = D at *
    have HD := Lib.hid hD
    clear hD
    generalize hRE : reachOf k lim (bst k S) = RE at *
    have HRE := Lib.hid hRE
    clear hRE
    unfold clo
    go_enter Try.func39, Try.ntmps39
    go_wp2_with fail
    refine hfar.mono ?_
    rintro e w1 ⟨rfl, q, rfl⟩
    have h1 := HS.out.2.1.keep HS.out.2.2.1 HS.out.2.2.2.1 (Nat.le_of_lt HS.out.1.near.lt) (w' := w.drewN q) (fun _ _ _ => rfl) (Nat.le_refl _)
    have htl := htell q
    have T1 : Turn (Own2 bb v) w (Own2 bb v) (w.drewN q) := Turn.drewN _ w q
    have s1 := HS.out.1.under (below_drewN (Below.refl _ w) q)
    generalize w.drewN q = w1 at *
    have row1 : Row w1 g 105 [.int .i64 id, .slice Av nvl.length cv, .int .i64 rad, lv, bv] := h1.cell
    have n0 := row1.cell (j := 0) rfl
    have nl := row1.lt
    have H1 := Lib.hid (And.intro s1 (And.intro h1 T1))
    clear h1 T1 s1 row1 n1 htell hfar
    go_wp2_with fail
    refine htl.mono ?_
    rintro e w2 ⟨rfl, v2, s2, T2⟩
    have h2 := H1.out.2.1.keep HS.out.2.2.1 HS.out.2.2.2.1 (Nat.le_of_lt H1.out.1.near.lt) (H1.out.1.far T2) T2.size
    have T02 := H1.out.2.2.trans T2
    generalize hR2 : reachOf k lim (bst k (nearH vec lim (selB B [(id, nvl)]) ++ S)) = R2
    have HR2 := Lib.hid hR2
    have row2 : Row w2 g 105 [.int .i64 id, .slice Av nvl.length cv, .int .i64 rad, lv, bv] := h2.cell
    have n2 := row2.cell (j := 2) rfl
    have n3 := row2.cell (j := 3) rfl
    have n4 := row2.cell (j := 4) rfl
    have nl := row2.lt
    have HK := Lib.hid (show 0 < k from s2.k1)
    have H2 := Lib.hid (And.intro s2 (And.intro h2 T02))
    clear hR2 s2 h2 T02 T2 row2 n0 htl
    by_cases hsw : rad < D
    · go_wp2_with fail
      go_quiet (fail)
      obtain ⟨q3, rfl⟩ : ∃ q3, q3 = nq := ⟨_, rfl⟩
      have H3 := Lib.hid (And.intro (H2.out.1.under (below_drewN (Below.refl _ w2) q3)) (And.intro (H2.out.2.1.keep HS.out.2.2.1 HS.out.2.2.2.1 (Nat.le_of_lt H2.out.1.near.lt) (w' := w2.drewN q3) (fun _ _ _ => rfl) (Nat.le_refl _)) (H2.out.2.2.trans (Turn.drewN _ w2 q3))))
      have hsk := HIB.out (w2.drewN q3) bv v2 _ H3.out.1 H3.out.2.1.b HS.out.2.2.2.2.2 H3.out.2.1.reads
      rw [HR2.out] at hsk
      unfold clo at hsk
      have row3 : Row (w2.drewN q3) g 105 [.int .i64 id, .slice Av nvl.length cv, .int .i64 rad, lv, bv] := H3.out.2.1.cell
      have m2 := row3.cell (j := 2) rfl
      have ml := row3.lt
      generalize w2.drewN q3 = w3 at *
      clear n2 n3 n4 nl row3
      go_wp2_with fail
      refine hsk.mono ?_
      rintro e w4 ⟨rfl, v4, s4, T4⟩
      have h4 := H3.out.2.1.keep HS.out.2.2.1 HS.out.2.2.2.1 (Nat.le_of_lt H3.out.1.near.lt) (H3.out.1.far T4) T4.size
      have T04 := H3.out.2.2.trans T4
      generalize hR4 : reachOf k lim (bst k (nearH vec lim (selB B b.ents) ++ (nearH vec lim (selB B [(id, nvl)]) ++ S))) = R4
      have HR4 := Lib.hid hR4
      have row4 : Row w4 g 105 [.int .i64 id, .slice Av nvl.length cv, .int .i64 rad, lv, bv] := h4.cell
      have k2 := row4.cell (j := 2) rfl
      have kl4 := row4.lt
      have H4 := Lib.hid (And.intro s4 (And.intro h4 T04))
      clear hR4 s4 h4 T04 T4 row4 hsk m2 ml
      have hcmp0 : max D rad - min D rad = D - rad := by omega
      by_cases hcmp : max D rad - min D rad ≤ R4
      · have hok := Lib.hid hcmp
        go_wp2_with fail
        go_quiet (fail)
        obtain ⟨q5, rfl⟩ : ∃ q5, q5 = nq := ⟨_, rfl⟩
        have H5 := Lib.hid (And.intro (H4.out.1.under (below_drewN (Below.refl _ w4) q5)) (And.intro (H4.out.2.1.keep HS.out.2.2.1 HS.out.2.2.2.1 (Nat.le_of_lt H4.out.1.near.lt) (w' := w4.drewN q5) (fun _ _ _ => rfl) (Nat.le_refl _)) (H4.out.2.2.trans (Turn.drewN _ w4 q5))))
        have hsk := HIA.out (w4.drewN q5) lv v4 _ H5.out.1 H5.out.2.1.l HS.out.2.2.2.2.1 H5.out.2.1.reads
        rw [HR4.out] at hsk
        unfold clo at hsk
        generalize w4.drewN q5 = w5 at *
        have hcmp1 : D - rad ≤ R4 := by omega
        clear k2 kl4 hcmp hcmp0  
        go_wp2_with fail
        refine hsk.mono ?_
        rintro e w6 ⟨rfl, v6, s6, T6⟩
        have hp := bst_perm (k := k) (three_perm' (B := B) (lim := lim) (S := S) (vec := vec) (e := (id, nvl)) (a := a.ents) (b := b.ents))
        have HF := Lib.hid (show TellPost F t bm fm dim rv N B U bt bb base k lim v S (nearH vec lim (selB B (NT.node id nvl rad a b).ents)) w (.returned (.int .i64 (reachOf k lim (bst k (nearH vec lim (selB B a.ents) ++ (nearH vec lim (selB B b.ents) ++ (nearH vec lim (selB B [(id, nvl)]) ++ S))))))) w6 from
          ⟨by rw [hp]; rfl, v6, s6.same hp (xs_lim HS.out.1.lim), H5.out.2.2.trans T6⟩)
        clear hp s6 T6 hsk
        generalize reachOf k lim (bst k (nearH vec lim (selB B a.ents) ++ (nearH vec lim (selB B b.ents) ++ (nearH vec lim (selB B [(id, nvl)]) ++ S)))) = R6 at *
        go_wp2_with fail
        go_ret
        exact HF.out
      · have s4 := H4.out.1
        have hpr := prune_in (k := k) (dim := dim) (rad := rad) (nv := nvl) (B := B) (es := a.ents) (lim := lim) HK.out s4.lim HL.out.1 hdim (fun e he => ⟨HL.out.2.1 e he, HI.out.1 e he⟩) (by rw [HD.out, HR4.out]; omega)
        have hp := bst_perm (k := k) (three_perm' (B := B) (lim := lim) (S := S) (vec := vec) (e := (id, nvl)) (a := a.ents) (b := b.ents))
        have HF := Lib.hid (fun q => show TellPost F t bm fm dim rv N B U bt bb base k lim v S (nearH vec lim (selB B (NT.node id nvl rad a b).ents)) w (.returned (.int .i64 R4)) (w4.drewN q) from
          ⟨by rw [← HR4.out, ← hpr, hp]; rfl, v4, ((H4.out.1.under (below_drewN (Below.refl _ w4) q)).same (hpr.symm.trans hp) (xs_lim HS.out.1.lim)), H4.out.2.2.trans (Turn.drewN _ w4 q)⟩)
        clear hp hpr s4
        go_wp2_with fail
        go_quiet (fail)
        go_wp2_with fail
        go_ret
        exact HF.out _
    · go_wp2_with fail
      go_quiet (fail)
      obtain ⟨q3, rfl⟩ : ∃ q3, q3 = nq := ⟨_, rfl⟩
      have H3 := Lib.hid (And.intro (H2.out.1.under (below_drewN (Below.refl _ w2) q3)) (And.intro (H2.out.2.1.keep HS.out.2.2.1 HS.out.2.2.2.1 (Nat.le_of_lt H2.out.1.near.lt) (w' := w2.drewN q3) (fun _ _ _ => rfl) (Nat.le_refl _)) (H2.out.2.2.trans (Turn.drewN _ w2 q3))))
      have hsk := HIA.out (w2.drewN q3) lv v2 _ H3.out.1 H3.out.2.1.l HS.out.2.2.2.2.1 H3.out.2.1.reads
      rw [HR2.out] at hsk
      unfold clo at hsk
      have row3 : Row (w2.drewN q3) g 105 [.int .i64 id, .slice Av nvl.length cv, .int .i64 rad, lv, bv] := H3.out.2.1.cell
      have m2 := row3.cell (j := 2) rfl
      have ml := row3.lt
      generalize w2.drewN q3 = w3 at *
      clear n2 n3 n4 nl row3
      go_wp2_with fail
      refine hsk.mono ?_
      rintro e w4 ⟨rfl, v4, s4, T4⟩
      have h4 := H3.out.2.1.keep HS.out.2.2.1 HS.out.2.2.2.1 (Nat.le_of_lt H3.out.1.near.lt) (H3.out.1.far T4) T4.size
      have T04 := H3.out.2.2.trans T4
      generalize hR4 : reachOf k lim (bst k (nearH vec lim (selB B a.ents) ++ (nearH vec lim (selB B [(id, nvl)]) ++ S))) = R4
      have HR4 := Lib.hid hR4
      have row4 : Row w4 g 105 [.int .i64 id, .slice Av nvl.length cv, .int .i64 rad, lv, bv] := h4.cell
      have k2 := row4.cell (j := 2) rfl
      have kl4 := row4.lt
      have H4 := Lib.hid (And.intro s4 (And.intro h4 T04))
      clear hR4 s4 h4 T04 T4 row4 hsk m2 ml
      have hcmp0 : max D rad - min D rad = rad - D := by omega
      by_cases hcmp : max D rad - min D rad ≤ R4
      · have hok := Lib.hid hcmp
        go_wp2_with fail
        go_quiet (fail)
        obtain ⟨q5, rfl⟩ : ∃ q5, q5 = nq := ⟨_, rfl⟩
        have H5 := Lib.hid (And.intro (H4.out.1.under (below_drewN (Below.refl _ w4) q5)) (And.intro (H4.out.2.1.keep HS.out.2.2.1 HS.out.2.2.2.1 (Nat.le_of_lt H4.out.1.near.lt) (w' := w4.drewN q5) (fun _ _ _ => rfl) (Nat.le_refl _)) (H4.out.2.2.trans (Turn.drewN _ w4 q5))))
        have hsk := HIB.out (w4.drewN q5) bv v4 _ H5.out.1 H5.out.2.1.b HS.out.2.2.2.2.2 H5.out.2.1.reads
        rw [HR4.out] at hsk
        unfold clo at hsk
        generalize w4.drewN q5 = w5 at *
        have hcmp1 : rad - D ≤ R4 := by omega
        clear k2 kl4 hcmp hcmp0  
        go_wp2_with fail
        refine hsk.mono ?_
        rintro e w6 ⟨rfl, v6, s6, T6⟩
        have hp := bst_perm (k := k) (three_perm (B := B) (lim := lim) (S := S) (vec := vec) (e := (id, nvl)) (a := b.ents) (b := a.ents))
        have HF := Lib.hid (show TellPost F t bm fm dim rv N B U bt bb base k lim v S (nearH vec lim (selB B (NT.node id nvl rad a b).ents)) w (.returned (.int .i64 (reachOf k lim (bst k (nearH vec lim (selB B b.ents) ++ (nearH vec lim (selB B a.ents) ++ (nearH vec lim (selB B [(id, nvl)]) ++ S))))))) w6 from
          ⟨by rw [hp]; rfl, v6, s6.same hp (xs_lim HS.out.1.lim), H5.out.2.2.trans T6⟩)
        clear hp s6 T6 hsk
        generalize reachOf k lim (bst k (nearH vec lim (selB B b.ents) ++ (nearH vec lim (selB B a.ents) ++ (nearH vec lim (selB B [(id, nvl)]) ++ S)))) = R6 at *
        go_wp2_with fail
        go_ret
        exact HF.out
      · have s4 := H4.out.1
        have hpr := prune_out (k := k) (dim := dim) (rad := rad) (nv := nvl) (B := B) (es := b.ents) (lim := lim) HK.out s4.lim HL.out.1 hdim (fun e he => ⟨HL.out.2.2 e he, HI.out.2 e he⟩) (by rw [HD.out, HR4.out]; omega)
        have hp := bst_perm (k := k) (three_perm (B := B) (lim := lim) (S := S) (vec := vec) (e := (id, nvl)) (a := b.ents) (b := a.ents))
        have HF := Lib.hid (fun q => show TellPost F t bm fm dim rv N B U bt bb base k lim v S (nearH vec lim (selB B (NT.node id nvl rad a b).ents)) w (.returned (.int .i64 R4)) (w4.drewN q) from
          ⟨by rw [← HR4.out, ← hpr, hp]; rfl, v4, ((H4.out.1.under (below_drewN (Below.refl _ w4) q)).same (hpr.symm.trans hp) (xs_lim HS.out.1.lim)), H4.out.2.2.trans (Turn.drewN _ w4 q)⟩)
        clear hp hpr s4
        go_wp2_with fail
        go_quiet (fail)
        go_wp2_with fail
        go_ret
        exact HF.out _
end
end Go.Proofs.Ytkgapieikgniiaa
