/- What the closure of Top does: a point that is still there is taken; how far is still near enough. Conditions: the tree and what is nearest lie in memory. -/
import Derived.Test.YtkgapieikgniiaaVTakeY
import Derived.Test.YtkgapieikgniiaaVPrune
set_option linter.unusedVariables false
set_option linter.unusedSimpArgs false
namespace Go.Proofs.Ytkgapieikgniiaa
open Go Go.RowKit Go.Maps
section
variable {w w' : World} {F : Nat → Prop} {t bm fm dim bt bb base k : Nat} {rv : Value} {N : NT} {B U : List Ent} {lim : Int} {v : Value} {S : List Hit}
theorem take_any (tw : NearW w bb base k lim v (bst k S)) (hk1 : 1 ≤ k) (hk : k ≤ 64) (hS : ∀ x ∈ S, x.2 ≤ lim) (h : Hit) :
    Calls Try.prog 37 #[.pointer (some ⟨bb, 0, none⟩), hitV h] w fun e w' => e = .returned (.tuple #[]) ∧ ∃ v', NearW w' bb base k lim v' (bst k ((if h.2 ≤ lim then [h] else []) ++ S)) ∧ Turn (Own2 bb v) w (Own2 bb v') w' := by
  have e := one_more (k := k) (show 0 < k by omega) hS h
  by_cases hr : reachOf k lim (bst k S) < h.2
  · refine (take_no tw hk1 hk (bst_len k S) hr).mono ?_
    rintro e' w' ⟨rfl, v', h1, h2⟩
    rw [e] at h1
    exact ⟨rfl, v', h1, h2⟩
  · refine (take_yes tw hk1 hk (bst_len k S) (bst_ord k S) hr).mono ?_
    rintro e' w' ⟨rfl, v', h1, h2⟩
    rw [e] at h1
    exact ⟨rfl, v', h1, h2⟩
theorem MapAt.lookN {b : Nat} {E : List Ent} (h : MapAt w b E) {x : Int} (hx : (Lit.int .i64 x).wf = true) (hi : isId x E = true) :
    ∃ u, ∀ n, (Instr.lookup 64 (.map (some b)) (.int .i64 x) true).run Try.prog (w.drewN n) = .ok (.tuple #[u, .bool true]) (w.drewN n) := by
  obtain ⟨D, ho, hD⟩ := h
  obtain ⟨⟨y, u, l⟩, hp, rfl⟩ := (isId_iff _ _).1 hi
  refine ⟨u, fun n => ?_⟩
  have hon : (w.drewN n).ownsMap Try.prog 3 hR b E.length D := ho
  obtain ⟨v, ps, hrun, hv⟩ := hon.look_ok law3 Try.underlying64 (zeroS (w.drewN n)) (zd := .held (.slice none 0 0)) (zp := []) rfl (key_of hx)
  rw [hD.has] at hrun
  have hv := hR_inj hv
  have hv2 := DataW.held.inj ((hD.at_ _ hp (.held (.slice none 0 0))).symm.trans hv)
  subst hv2
  rw [hi] at hrun
  exact hrun
/-- All that a search has in memory: the tree, the variable that holds it, and what is nearest so far. -/
structure SkW (w : World) (F : Nat → Prop) (t bm fm dim : Nat) (rv : Value) (N : NT) (B U : List Ent) (bt bb base k : Nat) (lim : Int) (v : Value) (S : List Hit) : Prop where
  tree : TreeW w F t bm fm dim rv N B U
  box : Row w bt 23 [.pointer (some ⟨t, 0, none⟩)]
  near : NearW w bb base k lim v (bst k S)
  below : ∀ b, F b → b < bb
  bt : bt < bb
  k1 : 1 ≤ k
  k2 : k ≤ 64
  lim : ∀ x ∈ S, x.2 ≤ lim
theorem SkW.step {v' : Value} {S' : List Hit} (h : SkW w F t bm fm dim rv N B U bt bb base k lim v S) (hn : NearW w' bb base k lim v' (bst k S')) (T : Turn (Own2 bb v) w (Own2 bb v') w') (hS : ∀ x ∈ S', x.2 ≤ lim) : SkW w' F t bm fm dim rv N B U bt bb base k lim v' S' := by
  have far_ : ∀ b, b < bb → ¬ Own2 bb v b := fun b hb ho => by
    rcases ho with ho | ho
    · omega
    · have := (h.near.own.lt b ho).1
      have := h.near.up
      omega
  exact ⟨h.tree.turn T (fun b hb => far_ b (h.below b hb)), h.box.keep (T.block bt h.box.lt (far_ bt h.bt)), hn, h.below, h.bt, h.k1, h.k2, hS⟩
theorem SkW.under (h : SkW w F t bm fm dim rv N B U bt bb base k lim v S) (hb : Below w.heap.size w w') : SkW w' F t bm fm dim rv N B U bt bb base k lim v S :=
  ⟨h.tree.below hb, h.box.keep (hb.block bt h.box.lt), h.near.below hb, h.below, h.bt, h.k1, h.k2, h.lim⟩
def TellPost (F : Nat → Prop) (t bm fm dim : Nat) (rv : Value) (N : NT) (B U : List Ent) (bt bb base k : Nat) (lim : Int) (v : Value) (S X : List Hit) (w : World) (e : Ending) (w' : World) : Prop :=
  e = .returned (.int .i64 (reachOf k lim (bst k (X ++ S)))) ∧ ∃ v', SkW w' F t bm fm dim rv N B U bt bb base k lim v' (X ++ S) ∧ Turn (Own2 bb v) w (Own2 bb v') w'
def oneH (B : List Ent) (lim : Int) (h : Hit) : List Hit := if isId h.1 B = true then (if h.2 ≤ lim then [h] else []) else []
set_option maxHeartbeats 1000000 in
theorem tell_any (s : SkW w F t bm fm dim rv N B U bt bb base k lim v S) (h : Hit) (hw : (Lit.int .i64 h.1).wf = true) :
    Calls Try.prog 41 #[hitV h, .pointer (some ⟨bt, 0, none⟩), .pointer (some ⟨bb, 0, none⟩)] w (TellPost F t bm fm dim rv N B U bt bb base k lim v S (oneH B lim h) w) := by
  have hb0 : Below w.heap.size w (w.alloc (.cells #[.int .i64 h.1, .int .i64 h.2] 57)) := (Below.refl _ w).alloc (Nat.le_refl _) _
  have hh0 : Row (w.alloc (.cells #[.int .i64 h.1, .int .i64 h.2] 57)) w.heap.size 57 (hcell h) := Row.new w 57 (hcell h)
  have s0 := s.under hb0
  have T0 : Turn (Own2 bb v) w (Own2 bb v) (w.alloc (.cells #[.int .i64 h.1, .int .i64 h.2] 57)) := Turn.below _ hb0
  unfold hitV
  generalize hW : w.alloc (.cells #[.int .i64 h.1, .int .i64 h.2] 57) = W at *
  generalize hs : w.heap.size = s1 at *
  have HW := Lib.hid hW
  have HS := Lib.hid hs
  have z0 := s0.box.cell (j := 0) rfl
  have zl := s0.box.lt
  have y0 := hh0.cell (j := 0) rfl
  have y1 := hh0.cell (j := 1) rfl
  have yl := hh0.lt
  have c3 := s0.tree.c3
  have tl := s0.tree.tlt
  have HF := Lib.hid (And.intro s0 (And.intro T0 hh0))
  clear hW hs hb0 hh0 T0 s
  cases hi : isId h.1 B with
  | false =>
    have hlk := fun n => ((s0.tree.drewN n).mb.look hw).2 hi
    have hre := fun q => vreach_any ((s0.near).drewN q) s0.k1 s0.k2 (bst_len k S)
    have HX : Hid (oneH B lim h ++ S = S) := Lib.hid (by unfold oneH; rw [if_neg (by rw [hi]; simp)]; rfl)
    clear s0 hi
    go_enter Try.func41, Try.ntmps41
    go_wp2_with fail
    rw [HW.out, HS.out]
    go_quiet (fail)
    obtain ⟨q, rfl⟩ : ∃ q, q = nq := ⟨_, rfl⟩
    have hre1 := hre q
    have hq : Below W.heap.size W (W.drewN q) := below_drewN (Below.refl _ W) q
    have HF1 := Lib.hid (And.intro (HF.out.1.under hq) (HF.out.2.1.trans (Turn.drewN _ W q)))
    generalize W.drewN q = w1 at *
    clear hre hq hlk
    go_wp2_with fail
    refine hre1.mono ?_
    rintro e w2 ⟨rfl, q2, rfl⟩
    go_wp2_with fail
    go_ret
    refine ⟨by rw [HX.out]; rfl, v, ?_, ?_⟩
    · rw [HX.out]
      exact HF1.out.1.under (below_drewN (Below.refl _ w1) q2)
    · exact HF1.out.2.trans (Turn.drewN _ w1 q2)
  | true =>
    have HX : Hid (oneH B lim h = if h.2 ≤ lim then [h] else []) := Lib.hid (by unfold oneH; rw [if_pos hi])
    obtain ⟨u, hlk⟩ := MapAt.lookN s0.tree.mb hw hi
    have htk := fun q => take_any (s0.near.drewN q) s0.k1 s0.k2 s0.lim h
    unfold hitV at htk
    have hXl : ∀ x ∈ (if h.2 ≤ lim then [h] else []), x.2 ≤ lim := fun x hx => by
      by_cases hl : h.2 ≤ lim
      · rw [if_pos hl] at hx
        rw [List.mem_singleton.1 hx]
        exact hl
      · rw [if_neg hl] at hx
        simp at hx
    generalize (if h.2 ≤ lim then [h] else []) = X at *
    have HXL := Lib.hid hXl
    clear s0 hi hXl
    go_enter Try.func41, Try.ntmps41
    go_wp2_with fail
    rw [HW.out, HS.out]
    go_quiet (fail)
    obtain ⟨q, rfl⟩ : ∃ q, q = nq := ⟨_, rfl⟩
    go_wp2_with fail
    refine (htk q).mono ?_
    rintro e w2 ⟨rfl, v2, hn2, T2⟩
    have s2 := (HF.out.1.under (below_drewN (Below.refl _ W) q)).step hn2 T2 (fun x hx => by
      rcases List.mem_append.1 hx with hx | hx
      · exact HXL.out x hx
      · exact HF.out.1.lim x hx)
    have hre := vreach_any s2.near s2.k1 s2.k2 (bst_len k _)
    have HF2 := Lib.hid (And.intro s2 ((HF.out.2.1.trans (Turn.drewN _ W q)).trans T2))
    clear hn2 T2 s2 htk hlk
    go_wp2_with fail
    refine hre.mono ?_
    rintro e w3 ⟨rfl, q3, rfl⟩
    go_wp2_with fail
    go_ret
    refine ⟨by rw [HX.out]; rfl, v2, ?_, ?_⟩
    · rw [HX.out]
      exact HF2.out.1.under (below_drewN (Below.refl _ w2) q3)
    · exact HF2.out.2.trans (Turn.drewN _ w2 q3)
end
end Go.Proofs.Ytkgapieikgniiaa
