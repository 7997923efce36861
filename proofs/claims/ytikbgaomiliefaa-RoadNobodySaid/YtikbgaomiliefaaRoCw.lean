/- Swap of the program's road. Conditions: none. -/
import Derived.Test.YtikbgaomiliefaaRoCs
set_option linter.unusedVariables false
set_option linter.unusedSimpArgs false
set_option maxRecDepth 100000
namespace Go.Proofs.Ytikbgaomiliefaa.Ro
open Go Go.RowKit
theorem lts_two (x y : Lt) : lts [x, y] = lc x ++ lc y := by simp [lts]
theorem swap_cells (w : World) (b o : Nat) (x y : Lt) : w.setCells b o (lc y ++ lc x) = (((((w.setCell ⟨b, o, none⟩ (.int .i64 y.1)).setCell ⟨b, o + 1, none⟩ (.int .i64 y.2.1)).setCell ⟨b, o + 2, none⟩ (.string y.2.2)).setCell ⟨b, o + 3, none⟩ (.int .i64 x.1)).setCell ⟨b, o + 4, none⟩ (.int .i64 x.2.1)).setCell ⟨b, o + 5, none⟩ (.string x.2.2) := rfl
theorem cut_two (L : List Lt) (k : Nat) (hk : k + 2 ≤ L.length) (x y : Lt) : ∃ r, (lts L).take (k * 3) ++ (lc y ++ lc x ++ (lts L).drop (k * 3 + (lc y ++ lc x).length)) = lts (cutT L k 2 [y, x]) ++ r := by
  refine ⟨[], ?_⟩
  rw [lts_take, show k * 3 + (lc y ++ lc x).length = (k + 2) * 3 by show k * 3 + 6 = _; omega, lts_drop, ← lts_two, List.append_nil]
  unfold cutT
  rw [← lts_app, ← lts_app, List.append_assoc]
section
variable {w : World} {p : Nat} {F : Nat → Prop} {Q : Rd}
theorem in_cut {L : List Lt} {k : Nat} (hk : k + 2 ≤ L.length) (x y : Lt) : (cutT L k 2 [y, x]).length = L.length := by
  rw [cutT_len hk]
  simp
  omega
theorem set_self {α : Type} (l : List α) (i : Nat) (d : α) (hi : i < l.length) : l.set i (l.getD i d) = l := by
  apply List.ext_getElem
  · simp
  · intro j h1 h2
    rw [List.getElem_set]
    split
    · rename_i h
      subst h
      rw [List.getD_eq_getElem?_getD, List.getElem?_eq_getElem hi]
      rfl
    · rfl
/-- A queue's letters turn where they lie. -/
theorem does_stay {ss : List Sl} {w1 : World} (h : IsB w p ss Q) (hF : ∀ b, F b ↔ Foot p ss b) (i : Nat) (hi : i < Q.length) {s' : Sl} (e : ss.getD i nls = s') {L' : List Lt} (hq : QA w1 s' L') (hl : L'.length ≤ 1024) (T : Turn (Ob s'.1) w (Ob s'.1) w1) (v : Value) :
    Does IsR p F v (Q.set i L') w (.returned v) w1 := by
  have hi9 : i < ss.length := by have := h.nine; have := h.most; omega
  obtain ⟨h1, h2⟩ := h.step i hi hq hl (by rw [e]; exact T)
  have es : ss.set i s' = ss := by rw [← e]; exact set_self ss i nls hi9
  rw [es] at h1 h2
  have hr1 : Row w1 p 62 (rcells p (Q.length - 1) ss) := h.row.keep (T.block p h.row.lt (by have := h.far i; rw [e] at this; exact this))
  have hr2 := hr1.set (2 + i) (sc s')
  rw [rcells_set, es] at hr2
  have hp : ∀ b, w1.heap[b]? = (w1.setCell ⟨p, 2 + i, none⟩ (sc s')).heap[b]? := fun b => by
    by_cases hb : b = p
    · rw [hb]
      exact hr1.trans hr2.symm
    · exact (heap_set_ne w1 ⟨p, 2 + i, none⟩ _ hb).symm
  refine ⟨rfl, F, ⟨ss, h1.keep (fun b _ => hp b), hF⟩, ?_⟩
  exact turn_iff ⟨T.os, T.tape, T.output, T.size, fun b hb hf => (hp b).trans (h2.block b hb hf), h2.foot⟩ hF (fun b hb => (hF b).1 hb)
set_option maxHeartbeats 4000000 in
theorem swap_is (to a : Int) (h : IsR w p F Q) (hto : In64 to) (ha : In64 a) : Calls Try.prog 20 #[ptr p, .int .i64 to, .int .i64 a] w (Does IsR p F (.int .i64 (swapQ Q to a).2) (swapQ Q to a).1 w) := by
  have HN := Lib.hid (fun r => does_none h (v := .int .i64 r) rfl (Below.refl w.heap.size w))
  obtain ⟨ss, h, hF⟩ := h
  have HA := at_any h to hto
  unfold swapQ
  cases ht : thereQ Q to with
  | false =>
    rw [q_none ht] at HA
    rw [if_pos rfl]
    have HA := Lib.hid HA
    clear h hF ht
    go_enter Try.func20, Try.ntmps20
    go_wp2_with (with_reducible refine HA.out.mono ?_; rintro e w1 ⟨rfl, rfl⟩)
    go_ret
    exact HN.out 1
  | true =>
    rw [q_there ht] at HA
    rw [if_neg (by simp), with_sets ht]
    obtain ⟨⟨A, n, c⟩, e⟩ : ∃ s, ss.getD (spot to) nls = s := ⟨_, rfl⟩
    obtain ⟨hs, hc, hf, hp, hq, hn, hn1⟩ := h.place ht e
    have HA := Lib.hid HA
    have HH := has_any hc hp a
    have HG := has_any hc hp (a + 1)
    obtain ⟨L, hL⟩ : ∃ L, haveQ Q to = L := ⟨_, rfl⟩
    rw [hL] at hn hq ⊢
    generalize spot to = i at *
    by_cases hin : a < 0 ∨ (L.length : Int) - 1 ≤ a
    · rw [if_pos hin]
      by_cases h0 : a < 0 ∨ (L.length : Int) ≤ a
      · rw [decide_eq_false (by omega)] at HH
        have HH := Lib.hid HH
        clear h hF ht hq hn hs e hin hL HG h0
        go_enter Try.func20, Try.ntmps20
        go_wp2_with (first
          | (with_reducible refine HA.out.mono ?_; rintro e w1 ⟨rfl, rfl⟩)
          | (with_reducible refine HH.out.mono ?_; rintro e w1 ⟨rfl, rfl⟩))
        go_ret
        exact HN.out 3
      · rw [decide_eq_true (by omega)] at HH
        rw [decide_eq_false (by omega)] at HG
        have HH := Lib.hid HH
        have HG := Lib.hid HG
        have hw1 : IntKind.i64.wrap (a + 1) = a + 1 := by rw [IntKind.wrap_i64]; omega
        clear h hF ht hq hn hs e hin hL h0
        go_enter Try.func20, Try.ntmps20
        go_wp2_with (first
          | (with_reducible refine HA.out.mono ?_; rintro e w1 ⟨rfl, rfl⟩)
          | (with_reducible refine HH.out.mono ?_; rintro e w1 ⟨rfl, rfl⟩)
          | (with_reducible refine HG.out.mono ?_; rintro e w1 ⟨rfl, rfl⟩))
        go_ret
        exact HN.out 3
    · rw [if_neg hin]
      rw [decide_eq_true (by omega)] at HH HG
      have HH := Lib.hid HH
      have HG := Lib.hid HG
      obtain ⟨k, hk⟩ : ∃ k : Nat, a = (k : Int) := ⟨a.toNat, by omega⟩
      subst hk
      rw [Int.toNat_natCast]
      obtain ⟨b, off, n', c', e', hb⟩ := hq.ne (by omega)
      injection e' with e1 e2
      injection e2 with e2 e3
      subst e1 e2 e3
      obtain ⟨x, hx⟩ : ∃ x, L.getD k noL = x := ⟨_, rfl⟩
      obtain ⟨y, hy⟩ : ∃ y, L.getD (k + 1) noL = y := ⟨_, rfl⟩
      obtain ⟨x1, x2, x3⟩ := lts_at L k (by omega)
      obtain ⟨y1, y2, y3⟩ := lts_at L (k + 1) (by omega)
      rw [hx] at x1 x2 x3
      rw [hy, show (k + 1) * 3 = k * 3 + 3 by omega] at y1 y2 y3
      have u1 := hb.reads _ _ x1
      have u2 := hb.reads _ _ x2
      have u3 := hb.reads _ _ x3
      have v1 := hb.reads _ _ y1
      have v2 := hb.reads _ _ y2
      have v3 := hb.reads _ _ y3
      have hle := hb.le
      have r0 := (hb.room (k * 3) (by omega)).2
      have r1 := (hb.room (k * 3 + 1) (by omega)).2
      have r2 := (hb.room (k * 3 + 2) (by omega)).2
      have r3 := (hb.room (k * 3 + 3) (by omega)).2
      have r4 := (hb.room (k * 3 + 3 + 1) (by omega)).2
      have r5 := (hb.room (k * 3 + 3 + 2) (by omega)).2
      simp only [← Nat.add_assoc] at u1 u2 u3 v1 v2 v3 r0 r1 r2 r3 r4 r5
      rw [hx, hy]
      have hbl := hb.lt
      have hk2 : (k : Int) + 1 < (n : Int) := by omega
      have hck : ¬ c = k := by omega
      have hkc : k + 2 ≤ c := by omega
      have hmax := hb.max
      have hc63 : c ≤ 9223372036854775807 := by unfold maxLen at hmax; omega
      have hw1 : IntKind.i64.wrap ((k : Int) + 1) = (k : Int) + 1 := by rw [IntKind.wrap_i64]; omega
      have hw2 : IntKind.i64.wrap ((k : Int) + 2) = (k : Int) + 2 := by rw [IntKind.wrap_i64]; omega
      have mixed : Try.prog.follows .mixedOrders = true := by kernel_rfl
      have hls : (lc y ++ lc x).length = 6 := rfl
      have HE := Lib.hid (does_stay (v := .int .i64 0) h hF i hs e (w1 := (w.setCells b (off + k * 3) (lc y ++ lc x)).drew) (L' := cutT L k 2 [y, x]) (.inr ⟨b, off, n, c, rfl, (hb.sets (k * 3) (lc y ++ lc x) _ n (by omega) (by rw [lts_len]; omega) (by rw [in_cut (by omega)]; exact hn) hle (cut_two L k (by omega) x y)).drew⟩) (by rw [in_cut (by omega)]; omega)
        ((Turn.sets (F := Ob (some ⟨b, off, none⟩)) ⟨_, rfl, rfl⟩ _ _).trans (Turn.drewN _ _ 1)))
      clear hls
      clear hmax hn hq ha hin hL hs e hb ht h hF hx hy x1 x2 x3 y1 y2 y3
      go_enter Try.func20, Try.ntmps20
      go_wp2_with (first
        | (with_reducible refine HA.out.mono ?_; rintro e w1 ⟨rfl, rfl⟩)
        | (with_reducible refine HH.out.mono ?_; rintro e w1 ⟨rfl, rfl⟩)
        | (with_reducible refine HG.out.mono ?_; rintro e w1 ⟨rfl, rfl⟩))
      go_region
      all_goals
        go_wp2_with fail
        go_ret
        exact HE.out
end
end Go.Proofs.Ytikbgaomiliefaa.Ro
