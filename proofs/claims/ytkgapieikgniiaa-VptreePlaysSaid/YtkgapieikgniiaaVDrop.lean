/- What Drop and Get of a tree return. Conditions: a tree that New gave, in memory. -/
import Derived.Test.YtkgapieikgniiaaVApp
set_option linter.unusedVariables false
set_option linter.unusedSimpArgs false
namespace Go.Proofs.Ytkgapieikgniiaa
open Go Go.RowKit Go.Maps
section
variable {w w' : World} {F : Nat → Prop} {t bm fm dim : Nat} {rv : Value} {N : NT} {B U B' U' : List Ent}
theorem TreeW.remap (h : TreeW w F t bm fm dim rv N B U) (hk : ∀ b, F b → b ≠ bm → b ≠ fm → w'.heap[b]? = w.heap[b]?) (hs : w.heap.size ≤ w'.heap.size) (m1 : MapAt w' bm B') (m2 : MapAt w' fm U')
    (s1 : ∀ p ∈ B', p ∈ B) (s2 : ∀ p ∈ U', p ∈ U) (hl : B'.length + U'.length ≤ 512) : TreeW w' F t bm fm dim rv N B' U' :=
  have hs' : ∀ p ∈ B' ++ U', p ∈ B ++ U := fun p hp => List.mem_append.2 ((List.mem_append.1 hp).imp (s1 p) (s2 p))
  { h with
    box := (hk t h.ft h.e1 h.e2).trans h.box
    mb := m1
    mf := m2
    ok := fun p hp => h.ok p (hs' p hp)
    vec := fun p hp => (h.vec p (hs' p hp)).keep (fun b hb _ => hk b hb.1 hb.2.2.1 hb.2.2.2) hs
    apart := fun p hp q hq => h.apart p (s1 p hp) q (s2 q hq)
    node := h.node.keep (fun b hb _ => hk b hb.1 hb.2.2.1 hb.2.2.2) hs
    sub := fun p hp => h.sub p (s1 p hp)
    len := hl
    lt := fun b hb => by have := h.lt b hb; omega }
theorem TreeW.unroot (h : TreeW w F t bm fm dim rv N B U) (hB : B = []) : TreeW (w.setCell ⟨t, 2, none⟩ (.pointer none)) F t bm fm dim (.pointer none) .leaf B U := by
  subst hB
  exact { h with
    box := h.row.set 2 (.pointer none)
    mb := h.mb.keep (heap_set_ne w _ _ h.e1.symm)
    mf := h.mf.keep (heap_set_ne w _ _ h.e2.symm)
    vec := fun p hp => (h.vec p hp).keep (fun b hb _ => heap_set_ne w _ _ hb.2.1) (by simp)
    node := rfl
    good := trivial
    nnd := List.Pairwise.nil
    sub := fun p hp => by simp at hp
    lt := fun b hb => by have := h.lt b hb; simpa using this }
theorem noId_le (x : Int) (E : List Ent) : (noId x E).length ≤ E.length := List.length_filter_le ..
theorem turn_grown {row : Nat} (hg : w.grownBy w' (some row)) (hF : F row) : Turn F w F w' := ⟨hg.os, hg.tape, hg.output, hg.size, fun b hb hf => hg.block b hb (fun e => by injection e with e; subst e; exact hf hF), fun _ h => .inl h⟩
theorem TreeW.delB (h : TreeW w F t bm fm dim rv N B U) {x : Int} (m : MapAt w' bm (noId x B)) (hg : w.grownBy w' (some bm)) : TreeW w' F t bm fm dim rv N (noId x B) U :=
  h.remap (fun b hb h1 _ => hg.block b (h.lt b hb) (by simpa using h1)) hg.size m (h.mf.keep (hg.block fm (h.lt fm h.ff) (by simpa using h.e3.symm))) (fun p hp => (noId_mem.1 hp).1) (fun _ hp => hp) (by have := h.len; have := noId_le x B; omega)
theorem TreeW.delU (h : TreeW w F t bm fm dim rv N B U) {x : Int} (m : MapAt w' fm (noId x U)) (hg : w.grownBy w' (some fm)) : TreeW w' F t bm fm dim rv N B (noId x U) :=
  h.remap (fun b hb _ h2 => hg.block b (h.lt b hb) (by simpa using h2)) hg.size (h.mb.keep (hg.block bm (h.lt bm h.fb) (by simpa using h.e3))) m (fun _ hp => hp) (fun p hp => (noId_mem.1 hp).1) (by have := h.len; have := noId_le x U; omega)
end
section
variable {ops : Array Oper} {rest : List Oper} {o : Oper} {a : Act} {Q : Exit → Act → World → Prop} {W : World}
theorem wpList_del (hgd : o.guard = none) (m k : Operand) (hop : o.op = Op.call { callee := Callee.builtin Builtin.delete, args := #[m, k], argTypes := #[64, 3] }) (b : Nat) (E : List Ent) (x : Int)
    (hm : a.eval m = .map (some b)) (h : MapAt W b E) (hx : a.eval k = .int .i64 x) (hw : (Lit.int .i64 x).wf = true)
    (hK : ∀ w', MapAt w' b (noId x E) → W.grownBy w' (some b) → wpList Try.prog ops Q rest (a.put o.dst (.tuple #[])) w') : wpList Try.prog ops Q (o :: rest) a W := by
  obtain ⟨D, ho, hD⟩ := h
  exact wpList_delete_own W hgd m k 64 3 hop 35 law3 Try.underlying64 hR b E.length D hm ho _ _ hx (key_of hw) (fun w' h1 h2 => hK w' (MapAt.of h1 (hD.del x)) h2.grown)
theorem wpList_ins (hgd : o.guard = none) (m k v : Operand) (hop : o.op = Op.mapUpdate 64 m k v) (b : Nat) (E : List Ent) (x : Int) (val : Value) (l : List Int)
    (hm : a.eval m = .map (some b)) (h : MapAt W b E) (hl : E.length ≤ 1000) (hx : a.eval k = .int .i64 x) (hv : a.eval v = val) (hw : (Lit.int .i64 x).wf = true) (hn : isId x E = false)
    (hK : ∀ w', MapAt w' b ((x, val, l) :: E) → W.grownBy w' (some b) → wpList Try.prog ops Q rest (a.put o.dst undef) w') : wpList Try.prog ops Q (o :: rest) a W := by
  obtain ⟨D, ho, hD⟩ := h
  exact wpList_mapUpdate_in W hgd m k v 64 hop 3 35 law3 Try.underlying64 hR b E.length D hm ho (by unfold maxLen; omega) _ _ _ hx hv (key_of hw) (.held val) [] rfl (fun w' h1 h2 => hK w' (MapAt.of h1 (hD.put x val l hn)) h2.grown)
end
section
variable {w w' : World} {F : Nat → Prop} {t bm fm dim : Nat} {rv : Value} {N : NT} {B U : List Ent}
def DropPost (w : World) (F : Nat → Prop) (t bm fm dim : Nat) (B U : List Ent) (x : Int) (e : Ending) (w' : World) : Prop :=
  e = .returned (.bool (isId x (B ++ U))) ∧ ∃ rv' N', TreeW w' F t bm fm dim rv' N' (noId x B) (noId x U) ∧ Turn F w F w'
set_option maxHeartbeats 1000000 in
theorem vdrop_any (h : TreeW w F t bm fm dim rv N B U) {x : Int} (hx : (Lit.int .i64 x).wf = true) : Calls Try.prog 25 #[.pointer (some ⟨t, 0, none⟩), .int .i64 x] w (DropPost w F t bm fm dim B U x) := by
  have hv := vvec_any h hx
  go_enter Try.func25, Try.ntmps25
  go_wp2_with fail
  refine hv.mono ?_
  rintro e w1 ⟨v, r, hA, rfl, q, rfl⟩
  have H1 := Lib.hid (h.drewN q)
  have HT := Lib.hid (Turn.drewN F w q)
  cases hA with
  | no h1 h2 =>
    have HF := Lib.hid (show DropPost w F t bm fm dim B U x (.returned (.bool false)) (w.drewN q) from ⟨by
      have : isId x (B ++ U) = false := by unfold isId at *; rw [List.any_append, h1, h2]; rfl
      rw [this], rv, N, by rw [noId_self h1, noId_self h2]; exact h.drewN q, Turn.drewN F w q⟩)
    clear h hv h1 h2
    go_wp2
    go_ret
    exact HF.out
  | yes v l hm =>
    have HL := Lib.hid (show B.length ≤ 512 by have := h.len; omega)
    have HI := Lib.hid (show isId x (B ++ U) = true from (isId_iff _ _).2 ⟨_, hm, rfl⟩)
    have c3 := (h.drewN q).c3
    have hl := (h.drewN q).tlt
    have hm1 := (h.drewN q).mb
    generalize w.drewN q = w1 at *
    clear h hv hm
    have arm1 : ∀ (w2 : World), MapAt w2 bm (noId x B) → w1.grownBy w2 (some bm) → Hid (TreeW w2 F t bm fm dim rv N (noId x B) U ∧ Turn F w F w2) := fun _ m2 g2 => Lib.hid ⟨H1.out.delB m2 g2, HT.out.trans (turn_grown g2 H1.out.fb)⟩
    have arm2 : ∀ (w2 w3 : World), Hid (TreeW w2 F t bm fm dim rv N (noId x B) U ∧ Turn F w F w2) → MapAt w3 fm (noId x U) → w2.grownBy w3 (some fm) → Hid (TreeW w3 F t bm fm dim rv N (noId x B) (noId x U) ∧ Turn F w F w3) := fun _ _ H m3 g3 => Lib.hid ⟨H.out.1.delU m3 g3, H.out.2.trans (turn_grown g3 H.out.1.ff)⟩
    have ARM1 := Lib.hid arm1
    have ARM2 := Lib.hid arm2
    clear arm1 arm2 H1 HT
    by_cases h0 : (noId x B).length = 0
    · have hB := Lib.hid (List.eq_nil_of_length_eq_zero h0)
      have L0 := Lib.hid (show ((noId x B).length : Int) = 0 by omega)
      clear h0
      go_wp2_with (first
        | (at_delete
           refine wpList_del rfl _ _ rfl bm B x rfl hm1 rfl hx ?_
           intro w2 m2 g2
           have H2 := ARM1.out _ m2 g2
           have c4 := H2.out.1.c4
           have hl2 := H2.out.1.tlt
           have hm2 := H2.out.1.mf
           clear hm1 c3 hl m2 g2)
        | (at_delete
           refine wpList_del rfl _ _ rfl fm U x rfl hm2 rfl hx ?_
           intro w3 m3 g3
           have H3 := ARM2.out _ _ H2 m3 g3
           have c3 := H3.out.1.c3
           have c2 := H3.out.1.c2
           have z2 := H3.out.1.z2
           have hl3 := H3.out.1.tlt
           have l1 := fun ty => H3.out.1.mb.len_run ty
           rw [L0.out] at l1
           clear hm2 c4 hl2 m3 g3)
        | go_in)
      go_ret
      exact ⟨by rw [HI.out]; rfl, _, _, H3.out.1.unroot hB.out, H3.out.2.trans (Turn.set F w3 (a := ⟨t, 2, none⟩) H3.out.1.ft (.pointer none))⟩
    · have hBn : ((noId x B).length : Int) ≠ 0 := by omega
      have hlt : ((noId x B).length : Int) ≤ 512 := by have := noId_le x B; have := h0; have := HL.out; omega
      generalize hn : ((noId x B).length : Int) = n at *
      have L0 := Lib.hid hn
      have h01 : (n == 0) = false := by rw [beq_eq_false_iff_ne]; exact hBn
      clear h0 hn
      go_wp2_with (first
        | (at_delete
           refine wpList_del rfl _ _ rfl bm B x rfl hm1 rfl hx ?_
           intro w2 m2 g2
           have H2 := ARM1.out _ m2 g2
           have c4 := H2.out.1.c4
           have hl2 := H2.out.1.tlt
           have hm2 := H2.out.1.mf
           clear hm1 c3 hl m2 g2)
        | (at_delete
           refine wpList_del rfl _ _ rfl fm U x rfl hm2 rfl hx ?_
           intro w3 m3 g3
           have H3 := ARM2.out _ _ H2 m3 g3
           have c3 := H3.out.1.c3
           have hl3 := H3.out.1.tlt
           have l1 := fun ty => H3.out.1.mb.len_run ty
           rw [L0.out] at l1
           clear hm2 c4 hl2 m3 g3)
        | go_in)
      go_ret
      exact ⟨by rw [HI.out]; rfl, _, _, H3.out.1, H3.out.2⟩
set_option maxHeartbeats 1000000 in
theorem vget_no (h : TreeW w F t bm fm dim rv N B U) {x : Int} (hx : (Lit.int .i64 x).wf = true) (hi : isId x (B ++ U) = false) : Calls Try.prog 24 #[.pointer (some ⟨t, 0, none⟩), .int .i64 x] w fun e w' => e = .returned (.tuple #[.slice none 0 0, .int .i64 3]) ∧ ∃ q, w' = w.drewN q := by
  have hg := vgiven_any h
  have hv := fun q => vvec_any (h.drewN q) hx
  go_enter Try.func24, Try.ntmps24
  go_wp2_with fail
  refine hg.mono ?_
  rintro e w1 ⟨rfl, q, rfl⟩
  go_wp2_with fail
  refine (hv q).mono ?_
  rintro e w1 ⟨v, r, hA, rfl, q2, rfl⟩
  cases hA with
  | yes v l hm =>
    exfalso
    have := (isId_iff x (B ++ U)).2 ⟨_, hm, rfl⟩
    rw [hi] at this
    cases this
  | no h1 h2 =>
    clear h hg hv h1 h2 hi
    go_wp2
    go_ret2
    first | exact ⟨rfl, _, rfl⟩ | exact ⟨rfl, _, World.drewN_drewN ..⟩
set_option maxHeartbeats 1000000 in
theorem vget_yes (h : TreeW w F t bm fm dim rv N B U) {x : Int} (hx : (Lit.int .i64 x).wf = true) (hi : isId x (B ++ U) = true) : Calls Try.prog 24 #[.pointer (some ⟨t, 0, none⟩), .int .i64 x] w fun e w' => ∃ v0 l v, (x, v0, l) ∈ B ++ U ∧ e = .returned (.tuple #[v, .int .i64 0]) ∧ w'.ownsRow w.heap.size 3 1 v l.length (ints l) ∧ Below w.heap.size w w' := by
  have hg := vgiven_any h
  have hv := fun q => vvec_any (h.drewN q) hx
  go_enter Try.func24, Try.ntmps24
  go_wp2_with fail
  refine hg.mono ?_
  rintro e w1 ⟨rfl, q, rfl⟩
  go_wp2_with fail
  refine (hv q).mono ?_
  rintro e w1 ⟨v, r, hA, rfl, q2, rfl⟩
  cases hA with
  | no h1 h2 =>
    exfalso
    have : isId x (B ++ U) = false := by unfold isId at *; rw [List.any_append, h1, h2]; rfl
    rw [hi] at this
    cases this
  | yes v l hm =>
    have hk := (h.ok _ hm).2.1
    have h16 := ((okV_iff l).1 hk).2.1
    obtain ⟨ad, c, hv0, hG, hlt, hc⟩ := h.vec _ hm
    change v = .slice (some ad) l.length c at hv0
    subst hv0
    obtain ⟨w2, hw2⟩ : ∃ w2, w2 = (w.drewN q).drewN q2 := ⟨_, rfl⟩
    have hs2 : w2.heap.size = w.heap.size := by rw [hw2]; rfl
    have hb2 : Below w.heap.size w w2 := by rw [hw2]; exact below_drewN (below_drewN (Below.refl _ w) q) q2
    rw [← hw2]
    have HB2 := Lib.hid (And.intro hs2 hb2)
    have hR : Reads w2 w.heap.size 1 (some ad) l.length (ints l) := ⟨by rw [ints_len]; omega, fun _ => ⟨ad, rfl, hlt, by rw [hw2]; exact hc⟩⟩
    have hC := icloned ad c w.heap.size l w2 hR (by omega) (by omega)
    have HM := Lib.hid hm
    clear h hg hv hi hc hR hm hk hw2 hs2 hb2
    go_wp2_with fail
    refine hC.mono ?_
    rintro e w2 ⟨v', rfl, hown, hb⟩
    have HF := Lib.hid (And.intro (HB2.out.1 ▸ hown) (HB2.out.2.trans (hb.mono (Nat.le_of_eq HB2.out.1.symm))))
    clear hown hb hC
    obtain ⟨A1, c1, rfl, _, _⟩ := own_shape HF.out.1
    go_wp2_with fail
    go_ret2
    exact ⟨_, l, _, HM.out, rfl, HF.out.1, HF.out.2⟩
end
end Go.Proofs.Ytkgapieikgniiaa
