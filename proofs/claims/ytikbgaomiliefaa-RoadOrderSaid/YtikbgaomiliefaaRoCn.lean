/- Next of the program's road. Conditions: none. -/
import Derived.Test.YtikbgaomiliefaaRoCb
set_option linter.unusedVariables false
set_option linter.unusedSimpArgs false
set_option maxRecDepth 100000
namespace Go.Proofs.Ytikbgaomiliefaa.Ro
open Go Go.RowKit
section
variable {w : World} {p : Nat} {F : Nat → Prop} {Q : Rd}
theorem IsB.alloc {ss : List Sl} (h : IsB w p ss Q) (o : Obj) : IsB (w.alloc o) p ss Q := h.keep (fun b hb => heap_alloc_lt w o (h.lt b hb))
theorem Turn.new {w w1 : World} {F F' : Nat → Prop} {N : Nat} (T : Turn F w F' w1) (hN : w.heap.size ≤ N) (j : Nat) (v : Value) : Turn F w F' (w1.setCell ⟨N, j, none⟩ v) :=
  ⟨T.os, T.tape, T.output, by simpa using T.size, fun b hb hf => (heap_set_ne w1 ⟨N, j, none⟩ v (by simp only; omega)).trans (T.block b hb hf), T.foot⟩
theorem Turn.more {w w1 : World} {F F' : Nat → Prop} (T : Turn F w F' w1) (o : Obj) : Turn F w F' (w1.alloc o) :=
  ⟨T.os, T.tape, T.output, by have := T.size; simp; omega, fun b hb hf => (heap_alloc_lt w1 o (Nat.lt_of_lt_of_le hb T.size)).trans (T.block b hb hf), T.foot⟩
theorem sets3 (w : World) (b o : Nat) (x y z : Value) : w.setCells b o [x, y, z] = ((w.setCell ⟨b, o, none⟩ x).setCell ⟨b, o + 1, none⟩ y).setCell ⟨b, o + 2, none⟩ z := rfl
/-- The first one goes: the queue's cells, the road's, the answer's. -/
theorem next_fin {ss : List Sl} {W : World} {l0 : Lt} (h : IsB w p ss Q) (hF : ∀ b, F b ↔ Foot p ss b) (hW : W = w.alloc (.cells (lc l0).toArray 34)) (i : Nat) (hi : i < Q.length) {b off off' n c n' c' : Nat} {L r : List Lt} (e : ss.getD i nls = (some ⟨b, off, none⟩, n, c))
    (hq : QA (W.setCells b off (lc noL)) (some ⟨b, off', none⟩, n', c') r) (hr : r.length ≤ 1024) (x : Lt) (o : Obj) :
    let WF := ((((((((W.setCell ⟨b, off, none⟩ (.int .i64 0)).setCell ⟨b, off + 1, none⟩ (.int .i64 0)).setCell ⟨b, off + 2, none⟩ (.string ⟨#[]⟩)).setCell ⟨p, 2 + i, none⟩ (.slice (some ⟨b, off', none⟩) n' c')).setCell ⟨w.heap.size, 0, none⟩ (.int .i64 x.1)).setCell ⟨w.heap.size, 1, none⟩ (.int .i64 x.2.1)).setCell ⟨w.heap.size, 2, none⟩ (.string x.2.2)).alloc o)
    (∀ (v : Value), Does IsR p F v (Q.set i r) w (.returned v) WF) ∧ WF.cell? ⟨w.heap.size, 0, none⟩ = some (.int .i64 x.1) ∧ WF.cell? ⟨w.heap.size, 1, none⟩ = some (.int .i64 x.2.1) ∧ WF.cell? ⟨w.heap.size, 2, none⟩ = some (.string x.2.2) := by
  intro WF
  have h1 : IsB W p ss Q := by rw [hW]; exact h.alloc _
  have hbw : b < w.heap.size := (h.queue i).lt b (by rw [e]; exact ⟨_, rfl, rfl⟩)
  have hpw := h.row.lt
  have T : Turn (Ob (ss.getD i nls).1) W (Ob (some ⟨b, off', none⟩)) (W.setCells b off (lc noL)) := by
    rw [e]
    have T := Turn.sets (w := W) (F := Ob (some ⟨b, off, none⟩)) ⟨_, rfl, rfl⟩ off (lc noL)
    exact ⟨T.os, T.tape, T.output, T.size, T.block, fun y hy => .inl (by obtain ⟨ad, e1, e2⟩ := hy; injection e1 with e1; subst e1; exact ⟨_, rfl, e2⟩)⟩
  obtain ⟨s1, s2⟩ := h1.step i hi hq hr T
  obtain ⟨W2, hW2⟩ : ∃ W2, W2 = (W.setCells b off (lc noL)).setCell ⟨p, 2 + i, none⟩ (sc (some ⟨b, off', none⟩, n', c')) := ⟨_, rfl⟩
  rw [← hW2] at s1 s2
  have hWF : WF = (((W2.setCell ⟨w.heap.size, 0, none⟩ (.int .i64 x.1)).setCell ⟨w.heap.size, 1, none⟩ (.int .i64 x.2.1)).setCell ⟨w.heap.size, 2, none⟩ (.string x.2.2)).alloc o := by rw [hW2]; rfl
  have hlo : ∀ y, Foot p (ss.set i (some ⟨b, off', none⟩, n', c')) y → y < w.heap.size := by
    rintro y (rfl | ⟨j, hj⟩)
    · exact hpw
    · rw [sets_getD ss i _ nls j (by have := h.nine; have := h.most; omega)] at hj
      split at hj
      · obtain ⟨ad, e1, e2⟩ := hj
        injection e1 with e1
        subst e1
        subst e2
        exact hbw
      · exact (h.queue j).lt y hj
  have T0 : Turn (Foot p ss) w (Foot p ss) W := by rw [hW]; exact Turn.alloc _ _ _
  have T2 := T0.trans s2
  have T3 := Turn.more (Turn.new (Turn.new (Turn.new T2 (Nat.le_refl _) 0 (.int .i64 x.1)) (Nat.le_refl _) 1 (.int .i64 x.2.1)) (Nat.le_refl _) 2 (.string x.2.2)) o
  have hk : ∀ y, Foot p (ss.set i (some ⟨b, off', none⟩, n', c')) y → WF.heap[y]? = W2.heap[y]? := fun y hy => by
    have hy1 := hlo y hy
    have hz := T2.size
    rw [hWF, heap_alloc_lt _ _ (by simp; omega), heap_set_ne _ ⟨w.heap.size, 2, none⟩ _ (by simp only; omega), heap_set_ne _ ⟨w.heap.size, 1, none⟩ _ (by simp only; omega), heap_set_ne _ ⟨w.heap.size, 0, none⟩ _ (by simp only; omega)]
  have r0 : Row W w.heap.size 34 (lc l0) := by rw [hW]; exact Row.new w _ _
  have r2 : Row W2 w.heap.size 34 (lc l0) := r0.keep (s2.block _ r0.lt (fun hy => by have := h.lt _ hy; omega))
  have r3 : Row WF w.heap.size 34 (((( lc l0).set 0 (.int .i64 x.1)).set 1 (.int .i64 x.2.1)).set 2 (.string x.2.2)) := by
    rw [hWF]
    exact (((r2.set 0 _).set 1 _).set 2 _).keep (heap_alloc_lt _ _ (by simpa using r2.lt))
  refine ⟨fun v => ⟨rfl, _, ⟨_, s1.keep hk, fun y => Iff.rfl⟩, ?_⟩, r3.cell rfl, r3.cell rfl, r3.cell rfl⟩
  rw [hWF]
  exact turn_iff T3 hF (fun y hy => hy)
theorem next_nix {W : World} {l0 : Lt} (hW : W = w.alloc (.cells (lc l0).toArray 34)) :
    let WF := ((W.setCell ⟨w.heap.size, 0, none⟩ (.int .i64 0)).setCell ⟨w.heap.size, 1, none⟩ (.int .i64 0)).setCell ⟨w.heap.size, 2, none⟩ (.string ⟨#[]⟩)
    Below w.heap.size w WF ∧ WF.cell? ⟨w.heap.size, 0, none⟩ = some (.int .i64 0) ∧ WF.cell? ⟨w.heap.size, 1, none⟩ = some (.int .i64 0) ∧ WF.cell? ⟨w.heap.size, 2, none⟩ = some (.string ⟨#[]⟩) := by
  intro WF
  have r0 : Row W w.heap.size 34 (lc l0) := by rw [hW]; exact Row.new w _ _
  have r3 := ((r0.set 0 (.int .i64 0)).set 1 (.int .i64 0)).set 2 (.string ⟨#[]⟩)
  have hb : Below w.heap.size w W := by rw [hW]; exact (Below.refl _ w).alloc (Nat.le_refl _) _
  exact ⟨below_setCell (below_setCell (below_setCell hb (p := ⟨w.heap.size, 0, none⟩) (Nat.le_refl _) _) (p := ⟨w.heap.size, 1, none⟩) (Nat.le_refl _) _) (p := ⟨w.heap.size, 2, none⟩) (Nat.le_refl _) _, r3.cell rfl, r3.cell rfl, r3.cell rfl⟩
set_option maxHeartbeats 4000000 in
theorem next_is (to : Int) (h : IsR w p F Q) (hto : In64 to) : Calls Try.prog 14 #[ptr p, .int .i64 to] w (Does IsR p F (.tuple #[.agg #[.int .i64 (nextQ Q to).2.1.1, .int .i64 (nextQ Q to).2.1.2.1, .string (nextQ Q to).2.1.2.2], .int .i64 (nextQ Q to).2.2]) (nextQ Q to).1 w) := by
  have HN := Lib.hid (fun (r : Int) (w1 : World) (hb : Below w.heap.size w w1) => does_none h (v := .tuple #[.agg #[.int .i64 0, .int .i64 0, .string ⟨#[]⟩], .int .i64 r]) rfl hb)
  obtain ⟨ss, h, hF⟩ := h
  obtain ⟨W, hW⟩ : ∃ W, W = w.alloc (.cells #[.int .i64 0, .int .i64 0, .string ⟨#[]⟩] 34) := ⟨_, rfl⟩
  have h1 : IsB W p ss Q := by rw [hW]; exact h.alloc _
  have HA := at_any h1 to hto
  unfold nextQ
  have HB := Lib.hid (show Below w.heap.size w W by rw [hW]; exact (Below.refl _ w).alloc (Nat.le_refl _) _)
  have r0 : Row W w.heap.size 34 [.int .i64 0, .int .i64 0, .string ⟨#[]⟩] := by rw [hW]; exact Row.new w _ _
  have l0 := r0.cell (j := 0) (u := .int .i64 0) rfl
  have l1 := r0.cell (j := 1) (u := .int .i64 0) rfl
  have l2 := r0.cell (j := 2) (u := .string ⟨#[]⟩) rfl
  have lf0 := r0.frozen 0
  have lf1 := r0.frozen 1
  have lf2 := r0.frozen 2
  have ll := r0.lt
  have HW := Lib.hid hW
  have HZ := Lib.hid (next_nix (l0 := noL) (w := w) hW)
  cases ht : thereQ Q to with
  | false =>
    rw [q_none ht] at HA
    rw [if_pos rfl]
    have HA := Lib.hid HA
    clear h hF ht h1 hW r0
    go_enter Try.func14, Try.ntmps14
    go_wp2_with fail
    rw [← HW.out]
    with_reducible refine HA.out.mono ?_
    rintro e w1 ⟨rfl, rfl⟩
    go_wp2
    have HRO := HZ.out
    clear HZ
    generalize ((w1.setCell ⟨w.heap.size, 0, none⟩ (.int .i64 0)).setCell ⟨w.heap.size, 1, none⟩ (.int .i64 0)).setCell ⟨w.heap.size, 2, none⟩ (.string ⟨#[]⟩) = WF at *
    obtain ⟨hbf, g0, g1, g2⟩ := HRO
    refine bodyPost_ret (v := .tuple #[.agg #[.int .i64 0, .int .i64 0, .string ⟨#[]⟩], .int .i64 1]) (by simp [results, Try.results14, go_sem, g0, g1, g2]) rfl ?_
    exact HN.out 1 WF hbf
  | true =>
    rw [q_there ht] at HA
    rw [if_neg (by simp)]
    obtain ⟨⟨A, n, c⟩, e⟩ : ∃ s, ss.getD (spot to) nls = s := ⟨_, rfl⟩
    obtain ⟨hs, hc, hf, hp, hq, hn, hn1⟩ := h1.place ht e
    have HA := Lib.hid HA
    have HH := has_any hc hp 0
    have HWS := Lib.hid (fun (L' : List Lt) => with_sets (l := L') ht)
    obtain ⟨L, hL⟩ : ∃ L, haveQ Q to = L := ⟨_, rfl⟩
    rw [hL] at hn hq ⊢
    generalize spot to = i at *
    cases L with
    | nil =>
      obtain rfl : n = 0 := hn
      rw [decide_eq_false (by simp)] at HH
      have HH := Lib.hid HH
      clear h hF ht hq hs e hL h1 hW r0
      simp only
      go_enter Try.func14, Try.ntmps14
      go_wp2_with fail
      rw [← HW.out]
      with_reducible refine HA.out.mono ?_
      rintro e w1 ⟨rfl, rfl⟩
      go_wp2_with (with_reducible refine HH.out.mono ?_; rintro e w1 ⟨rfl, rfl⟩)
      have HRO := HZ.out
      clear HZ
      generalize ((w1.setCell ⟨w.heap.size, 0, none⟩ (.int .i64 0)).setCell ⟨w.heap.size, 1, none⟩ (.int .i64 0)).setCell ⟨w.heap.size, 2, none⟩ (.string ⟨#[]⟩) = WF at *
      obtain ⟨hbf, g0, g1, g2⟩ := HRO
      refine bodyPost_ret (v := .tuple #[.agg #[.int .i64 0, .int .i64 0, .string ⟨#[]⟩], .int .i64 3]) (by simp [results, Try.results14, go_sem, g0, g1, g2]) rfl ?_
      exact HN.out 3 WF hbf
    | cons x r =>
      simp only
      rw [HWS.out]
      obtain ⟨b, off, n', c', e', hb⟩ := hq.ne (by simp)
      injection e' with e1 e2
      injection e2 with e2 e3
      subst e1 e2 e3
      have hnz : (0 : Int) < (n : Int) := by simp only [List.length_cons] at hn; omega
      rw [decide_eq_true (show (0 : Int) ≤ 0 ∧ (0 : Int) < (n : Int) from ⟨by omega, hnz⟩)] at HH
      have HH := Lib.hid HH
      have x0 := hb.reads 0 _ (rfl : (lts (x :: r))[0]? = some (.int .i64 x.1))
      have x1 := hb.reads 1 _ (rfl : (lts (x :: r))[1]? = some (.int .i64 x.2.1))
      have x2 := hb.reads 2 _ (rfl : (lts (x :: r))[2]? = some (.string x.2.2))
      have hcn := hb.le
      have f0 := (hb.room 0 (by omega)).2
      have f1 := (hb.room 1 (by omega)).2
      have f2 := (hb.room 2 (by omega)).2
      simp only [Nat.add_zero] at x0 f0
      have hbl := hb.lt
      have hpw := h.row.lt
      have hbw := (h.queue i).lt b (by rw [e]; exact ⟨_, rfl, rfl⟩)
      have hpb : ¬ p = b := fun e2 => h1.far i (by rw [e]; exact ⟨_, rfl, e2.symm⟩)
      have hbp : ¬ b = p := fun e2 => hpb e2.symm
      have hrl : r.length ≤ 1024 := by simp only [List.length_cons] at hn; omega
      have hs0 : QB (W.setCells b off (lc noL)) b off n c (noL :: r) := by
        refine hb.sets 0 (lc noL) (noL :: r) n (by show 0 + 3 ≤ c * 3; omega) (Nat.zero_le _) (by rw [hn]; rfl) hcn ⟨[], ?_⟩
        rw [List.append_nil]
        rfl
      by_cases hc1 : c = 1
      · subst hc1
        have hr0 : r = [] := List.eq_nil_of_length_eq_zero (by simp only [List.length_cons] at hn; omega)
        have HE := Lib.hid (next_fin (l0 := noL) (L := []) (o := .cells #[.int .i64 x.1, .int .i64 x.2.1, .string x.2.2] 34) h hF hW i hs e (.inr ⟨b, off, 0, 0, rfl, by rw [hr0]; exact hs0.none⟩) hrl x)
        clear hs0 hr0 hrl
        clear h hF ht hq hs e hL h1 hW r0 hn HWS hb
        go_enter Try.func14, Try.ntmps14
        go_wp2_with fail
        rw [← HW.out]
        with_reducible refine HA.out.mono ?_
        rintro e w1 ⟨rfl, rfl⟩
        go_wp2_with (with_reducible refine HH.out.mono ?_; rintro e w1 ⟨rfl, rfl⟩)
        have HRO := HE.out
        clear HE
        generalize ((((((((w1.setCell ⟨b, off, none⟩ (.int .i64 0)).setCell ⟨b, off + 1, none⟩ (.int .i64 0)).setCell ⟨b, off + 2, none⟩ (.string ⟨#[]⟩)).setCell ⟨p, 2 + i, none⟩ (.slice (some ⟨b, off, none⟩) 0 0)).setCell ⟨w.heap.size, 0, none⟩ (.int .i64 x.1)).setCell ⟨w.heap.size, 1, none⟩ (.int .i64 x.2.1)).setCell ⟨w.heap.size, 2, none⟩ (.string x.2.2)).alloc (.cells #[.int .i64 x.1, .int .i64 x.2.1, .string x.2.2] 34)) = WF at *
        obtain ⟨hE, g0, g1, g2⟩ := HRO
        refine bodyPost_ret (v := .tuple #[.agg #[.int .i64 x.1, .int .i64 x.2.1, .string x.2.2], .int .i64 0]) (by simp [results, Try.results14, go_sem, g0, g1, g2]) rfl ?_
        exact hE _
      · have HE := Lib.hid (next_fin (l0 := noL) (L := []) (o := .cells #[.int .i64 x.1, .int .i64 x.2.1, .string x.2.2] 34) h hF hW i hs e (.inr ⟨b, off + 3, n - 1, c - 1, rfl, hs0.back 1 (by omega) (by omega)⟩) hrl x)
        clear hs0 hrl
        clear h hF ht hq hs e hL h1 hW r0 hn HWS hb
        go_enter Try.func14, Try.ntmps14
        go_wp2_with fail
        rw [← HW.out]
        with_reducible refine HA.out.mono ?_
        rintro e w1 ⟨rfl, rfl⟩
        go_wp2_with (with_reducible refine HH.out.mono ?_; rintro e w1 ⟨rfl, rfl⟩)
        have HRO := HE.out
        clear HE
        generalize ((((((((w1.setCell ⟨b, off, none⟩ (.int .i64 0)).setCell ⟨b, off + 1, none⟩ (.int .i64 0)).setCell ⟨b, off + 2, none⟩ (.string ⟨#[]⟩)).setCell ⟨p, 2 + i, none⟩ (.slice (some ⟨b, off + 3, none⟩) (n - 1) (c - 1))).setCell ⟨w.heap.size, 0, none⟩ (.int .i64 x.1)).setCell ⟨w.heap.size, 1, none⟩ (.int .i64 x.2.1)).setCell ⟨w.heap.size, 2, none⟩ (.string x.2.2)).alloc (.cells #[.int .i64 x.1, .int .i64 x.2.1, .string x.2.2] 34)) = WF at *
        obtain ⟨hE, g0, g1, g2⟩ := HRO
        refine bodyPost_ret (v := .tuple #[.agg #[.int .i64 x.1, .int .i64 x.2.1, .string x.2.2], .int .i64 0]) (by simp [results, Try.results14, go_sem, g0, g1, g2]) rfl ?_
        exact hE _
end
end Go.Proofs.Ytikbgaomiliefaa.Ro
