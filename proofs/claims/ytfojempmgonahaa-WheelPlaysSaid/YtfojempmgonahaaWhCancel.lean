/- What Cancel of a wheel does. Conditions: a wheel in memory. -/
import Derived.Test.YtfojempmgonahaaWhOps
import Derived.DataShut
set_option linter.unusedVariables false
set_option linter.unusedSimpArgs false
set_option maxRecDepth 100000
namespace Go.Proofs.Ytfojempmgonahaa.Wh
open Go Go.RowKit Go.Maps
section
variable {w w1 w2 w3 : World} {p bm dm : Nat} {now : Int} {L : List Tm} {G : List (Int × Nat)}
theorem at_off {x : Tm} (h : Mid w p bm dm now L G) (hx : x ∈ L) {t : Int} (ht : t ≠ x.2) : at_ t (off x.1 L) = at_ t L := by
  unfold at_ off
  rw [List.filter_filter]
  refine List.filter_congr fun q hq => ?_
  by_cases hqt : q.2 = t
  · have : q.1 ≠ x.1 := fun e => ht (by rw [← hqt, h.one hq hx e])
    simp [hqt, this]
  · simp [hqt]
theorem cancel_mid (h : WheelW w p bm dm now L G) {x t : Int} {s : Nat} (hx : (x, t) ∈ L) (hs : (t, s) ∈ G) (m1 : MapAt w1 bm (noId x (endsE L))) (g1 : w.grownBy w1 (some bm)) (m2 : MapAt w2 s (noId x (setE t L))) (g2 : w1.grownBy w2 (some s)) :
    Mid w2 p bm dm now (off x L) G := by
  obtain ⟨o1, o2, o3⟩ := h.out _ hs
  have e1 := h.e1
  have e2 := h.e2
  have e3 := h.e3
  have keep : ∀ b, Foot p bm dm G b → b ≠ bm → b ≠ s → w2.heap[b]? = w.heap[b]? := fun b hb h1 h2 =>
    (g2.block b (Nat.lt_of_lt_of_le (h.lt b hb) g1.size) (fun e => h2 (by injection e))).trans (g1.block b (h.lt b hb) (fun e => h1 (by injection e)))
  refine ⟨h.row.keep (keep p (.inl rfl) e1 (Ne.symm o1)), ?_, h.due.keep (keep dm (.inr (.inr (.inl rfl))) (Ne.symm e3) (Ne.symm o3)), fun q hq => ?_, fun y hy => h.all y (mem_off.1 hy).1, h.gap, h.out, e1, e2, e3, h.rise.filter _, fun y hy => h.wf y (mem_off.1 hy).1, h.now0, Nat.le_trans (List.length_filter_le _ _) h.len⟩
  · rw [← noId_ends]
    exact m1.keep (g2.block bm m1.lt (fun e => o2 (by injection e with e; exact e.symm)))
  · by_cases hq2 : q = (t, s)
    · subst hq2
      rw [← noId_set]
      exact m2
    · have hne : q.2 ≠ s := fun e => hq2 (h.gap q hq _ hs e)
      have hne1 : q.1 ≠ t := fun e => hq2 (h.tick1 hq hs e)
      have hset : setE q.1 (off x L) = setE q.1 L := by
        unfold setE
        rw [at_off h.toMid hx hne1]
      rw [hset]
      exact (h.sets q hq).keep (keep _ (.inr (.inr (.inr ⟨q, hq, rfl⟩))) (h.out q hq).2.1 hne)
theorem drop_due (h : Mid w p bm dm now L G) {t : Int} (he : at_ t L = []) (hne : ∀ q ∈ G, q.1 ≠ t → at_ q.1 L ≠ []) (m3 : MapAt w3 dm (noId t (dueE G))) (g3 : w.grownBy w3 (some dm)) :
    WheelW w3 p bm dm now L (noTick t G) := by
  have keep : ∀ b, Foot p bm dm G b → b ≠ dm → w3.heap[b]? = w.heap[b]? := fun b hb h1 => g3.block b (h.lt b hb) (fun e => h1 (by injection e))
  refine ⟨⟨h.row.keep (keep p (.inl rfl) h.e2), h.ends.keep (keep bm (.inr (.inl rfl)) h.e3), by rw [← noId_due]; exact m3, fun q hq => ?_, fun y hy => ?_, fun q hq r hr => h.gap q (noTick_mem.1 hq).1 r (noTick_mem.1 hr).1, fun q hq => h.out q (noTick_mem.1 hq).1, h.e1, h.e2, h.e3, h.rise, h.wf, h.now0, h.len⟩, fun q hq => hne q (noTick_mem.1 hq).1 (noTick_mem.1 hq).2⟩
  · have hq' := (noTick_mem.1 hq).1
    exact (h.sets q hq').keep (keep _ (.inr (.inr (.inr ⟨q, hq', rfl⟩))) (h.out q hq').2.2)
  · obtain ⟨q, hq, e⟩ := h.all y hy
    refine ⟨q, noTick_mem.2 ⟨hq, fun e2 => ?_⟩, e⟩
    have : y ∈ at_ t L := mem_at.2 ⟨hy, e.symm.trans e2⟩
    rw [he] at this
    simp at this
theorem foot_tick {p bm dm : Nat} {G : List (Int × Nat)} {t : Int} {b : Nat} (h : Foot p bm dm (noTick t G) b) : Foot p bm dm G b := by
  rcases h with h | h | h | ⟨q, hq, e⟩
  · exact .inl h
  · exact .inr (.inl h)
  · exact .inr (.inr (.inl h))
  · exact .inr (.inr (.inr ⟨q, (noTick_mem.1 hq).1, e⟩))
theorem turn_less {Z Z' Z'' : Nat → Prop} {w w' : World} (h : Turn Z w Z' w') (k : ∀ b, Z'' b → Z' b) : Turn Z w Z'' w' := ⟨h.os, h.tape, h.output, h.size, h.block, fun b hb => h.foot b (k b hb)⟩
/-- How a call ends that answers v: the wheel has L behind it. -/
def Ends (v : Value) (p bm dm : Nat) (now : Int) (L : List Tm) (G : List (Int × Nat)) (w : World) (e : Ending) (w' : World) : Prop :=
  e = .returned v ∧ ∃ G', WheelW w' p bm dm now L G' ∧ Turn (Foot p bm dm G) w (Foot p bm dm G') w'
theorem wf_tick {t : Int} (h0 : 0 ≤ t) (h1 : t ≤ 1000000000000) : (Lit.int .i64 t).wf = true := by
  rw [Lit.wf_int_iff]
  have h1 : IntKind.i64.min = -9223372036854775808 := by decide
  have h2 : IntKind.i64.max = 9223372036854775807 := by decide
  omega
set_option maxHeartbeats 2000000 in
theorem cancel_any (h : WheelW w p bm dm now L G) (hn : now ≤ 1000000) {x : Int} (hx : (Lit.int .i64 x).wf = true) :
    Calls Try.prog 13 #[.pointer (some ⟨p, 0, none⟩), .int .i64 x] w (Ends (.bool (has x L)) p bm dm now (off x L) G w) := by
  have HG := Lib.hid (show Calls _ _ _ _ _ from given_any h.row)
  have c2 := h.c2
  have hl := h.row.lt
  have hlook := h.ends.look2 uE (zeroI w) hx
  rw [val_ends, isId_ends] at hlook
  cases hh : has x L with
  | false =>
    rw [hh] at hlook
    have HE := Lib.hid (show Ends (.bool false) p bm dm now (off x L) G w (.returned (.bool false)) w from ⟨rfl, G, by rw [off_self hh]; exact h, Turn.refl _ _⟩)
    generalize endOf x L = en at hlook
    clear h hh
    go_enter Try.func13, Try.ntmps13
    go_wp2_with fail
    refine HG.out.mono ?_
    rintro e w1 ⟨rfl, rfl⟩
    go_wp2
    go_ret
    exact HE.out
  | true =>
    rw [hh] at hlook
    obtain ⟨⟨x', t⟩, hm, rfl⟩ := (has_iff x L).1 hh
    have het := endOf_mem h.toMid hm
    rw [het] at hlook
    obtain ⟨q, hq, hqt⟩ := h.all _ hm
    obtain ⟨qt, s⟩ := q
    obtain rfl : qt = t := hqt
    obtain ⟨o1, o2, o3⟩ := h.out _ hq
    have hwf := h.wf _ hm
    have h0 := h.now0
    have ht : (Lit.int .i64 qt).wf = true := wf_tick (by have := hwf.2.1; simp only at this; omega) (by have := hwf.2.2; simp only at this; omega)
    have HM := Lib.hid h.ends
    have FP : Foot p bm dm G p := .inl rfl
    have FB : Foot p bm dm G bm := .inr (.inl rfl)
    have FD : Foot p bm dm G dm := .inr (.inr (.inl rfl))
    have FS : Foot p bm dm G s := .inr (.inr (.inr ⟨_, hq, rfl⟩))
    have A1 := Lib.hid (fun w1 (g1 : w.grownBy w1 (some bm)) => show w1.cell? ⟨p, 3, none⟩ = some (.map (some dm)) ∧ p < w1.heap.size ∧ (Instr.lookup 51 (.map (some dm)) (.int .i64 qt) false).run Try.prog w1 = .ok (.map (some s)) w1 ∧ MapAt w1 s (setE qt L) from by
      have k : ∀ b, Foot p bm dm G b → b ≠ bm → w1.heap[b]? = w.heap[b]? := fun b hb h1 => g1.block b (h.lt b hb) (fun e => h1 (by injection e))
      have kd := (h.due.keep (k dm FD (Ne.symm h.e3))).look1 uD (zeroM w1) ht
      rw [h.val_due hq] at kd
      exact ⟨(h.row.keep (k p FP h.e1)).cell rfl, Nat.lt_of_lt_of_le hl g1.size, kd, (h.sets _ hq).keep (k s FS o2)⟩)
    have A2 := Lib.hid (fun w1 w2 (m1 : MapAt w1 bm (noId x' (endsE L))) (g1 : w.grownBy w1 (some bm)) (m2 : MapAt w2 s (noId x' (setE qt L))) (g2 : w1.grownBy w2 (some s)) => show w2.cell? ⟨p, 3, none⟩ = some (.map (some dm)) ∧ p < w2.heap.size ∧ (Instr.lookup 51 (.map (some dm)) (.int .i64 qt) false).run Try.prog w2 = .ok (.map (some s)) w2 ∧ (Builtin.len_ #[64] 3 #[.map (some s)]).run Try.prog w2 = .ok (.int .i64 ((at_ qt (off x' L)).length : Int)) w2 ∧ MapAt w2 dm (dueE G) ∧ Mid w2 p bm dm now (off x' L) G ∧ Turn (Foot p bm dm G) w (Foot p bm dm G) w2 from by
      have hM := cancel_mid h hm hq m1 g1 m2 g2
      have kd := hM.due.look1 uD (zeroM w2) ht
      rw [hM.val_due hq] at kd
      have hl2 := (hM.sets _ hq).len uS 3
      have e : (setE qt (off x' L)).length = (at_ qt (off x' L)).length := by simp [setE]
      rw [e] at hl2
      exact ⟨hM.c3, hM.row.lt, kd, hl2, hM.due, hM, (grown_turn g1 FB).trans (grown_turn g2 FS)⟩)
    have hne : ∀ q ∈ G, q.1 ≠ qt → at_ q.1 (off x' L) ≠ [] := fun q hq' hqt => by rw [at_off h.toMid hm hqt]; exact h.ne q hq'
    have HNE := Lib.hid hne
    have HH := Lib.hid hh
    by_cases hem : at_ qt (off x' L) = []
    · have hz : ((at_ qt (off x' L)).length : Int) = 0 := by rw [hem]; rfl
      have A3 := Lib.hid (fun w2 w3 (hM : Mid w2 p bm dm now (off x' L) G) (T : Turn (Foot p bm dm G) w (Foot p bm dm G) w2) (m3 : MapAt w3 dm (noId qt (dueE G))) (g3 : w2.grownBy w3 (some dm)) => show Ends (.bool true) p bm dm now (off x' L) G w (.returned (.bool true)) w3 from
        ⟨rfl, _, drop_due hM hem hne m3 g3, turn_less (T.trans (grown_turn g3 FD)) fun _ hb => foot_tick hb⟩)
      rw [hz] at A2
      clear h hh hm het hq o1 o2 o3 hwf h0 FP FB FD FS hne hem hz
      go_enter Try.func13, Try.ntmps13
      go_wp2_with fail
      refine HG.out.mono ?_
      rintro e w1 ⟨rfl, rfl⟩
      go_wp2_with (first
        | (at_delete; refine wpList_del 50 uE rfl _ _ rfl bm (endsE L) x' rfl HM.out rfl hx ?_; intro w1 m1 g1; obtain ⟨d3, dl, dk, ds⟩ := A1.out w1 g1; have M1 := Lib.hid (And.intro m1 (And.intro g1 ds)); clear m1 g1 ds c2 hl hlook)
        | (at_delete; refine wpList_del 64 uS rfl _ _ rfl s (setE qt L) x' rfl M1.out.2.2 rfl hx ?_; intro w2 m2 g2; obtain ⟨f3, fl, fk, fn, fd, fM, fT⟩ := A2.out w1 w2 M1.out.1 M1.out.2.1 m2 g2; have M2 := Lib.hid (And.intro fd (And.intro fM fT)); clear m2 g2 d3 dl dk fd fM fT)
        | (at_delete; refine wpList_del 51 uD rfl _ _ rfl dm (dueE G) qt rfl M2.out.1 rfl ht ?_; intro w3 m3 g3; have M3 := Lib.hid (A3.out w2 w3 M2.out.2.1 M2.out.2.2 m3 g3); clear m3 g3))
      go_ret
      exact M3.out
    · have hz : ¬ ((at_ qt (off x' L)).length : Int) = 0 := by
        have : (at_ qt (off x' L)).length ≠ 0 := fun e => hem (List.eq_nil_of_length_eq_zero e)
        omega
      have A3 := Lib.hid (fun w2 (hM : Mid w2 p bm dm now (off x' L) G) (T : Turn (Foot p bm dm G) w (Foot p bm dm G) w2) => show Ends (.bool true) p bm dm now (off x' L) G w (.returned (.bool true)) w2 from
        ⟨rfl, _, ⟨hM, fun q hq' => by
          by_cases hqt : q.1 = qt
          · rw [hqt]; exact hem
          · exact hne q hq' hqt⟩, T⟩)
      generalize ((at_ qt (off x' L)).length : Int) = nn at *
      clear h hh hm het hq o1 o2 o3 hwf h0 FP FB FD FS hne hem
      go_enter Try.func13, Try.ntmps13
      go_wp2_with fail
      refine HG.out.mono ?_
      rintro e w1 ⟨rfl, rfl⟩
      go_wp2_with (first
        | (at_delete; refine wpList_del 50 uE rfl _ _ rfl bm (endsE L) x' rfl HM.out rfl hx ?_; intro w1 m1 g1; obtain ⟨d3, dl, dk, ds⟩ := A1.out w1 g1; have M1 := Lib.hid (And.intro m1 (And.intro g1 ds)); clear m1 g1 ds c2 hl hlook)
        | (at_delete; refine wpList_del 64 uS rfl _ _ rfl s (setE qt L) x' rfl M1.out.2.2 rfl hx ?_; intro w2 m2 g2; obtain ⟨f3, fl, fk, fn, fd, fM, fT⟩ := A2.out w1 w2 M1.out.1 M1.out.2.1 m2 g2; have M2 := Lib.hid (And.intro fd (And.intro fM fT)); clear m2 g2 d3 dl dk fd fM fT))
      go_ret
      exact (A3.out w2 M2.out.2.1 M2.out.2.2)
end
end Go.Proofs.Ytfojempmgonahaa.Wh
