/- Twice, Swap and Send of the program's road. Conditions: none. -/
import Derived.Test.YtikbgaomiliefaaRoCn
import Derived.Test.YtikbgaomiliefaaShelf
import Derived.Deep.RegionLawGrows
set_option linter.unusedVariables false
set_option linter.unusedSimpArgs false
set_option maxRecDepth 100000
namespace Go.Proofs.Ytikbgaomiliefaa.Ro
open Go Go.RowKit
section
variable {w : World} {p : Nat} {F : Nat → Prop} {Q : Rd}
theorem does_after {w1 w2 : World} {v : Value} {e : Ending} {Q' : Rd} (T : Turn F w F w1) (h : Does IsR p F v Q' w1 e w2) : Does IsR p F v Q' w e w2 := by
  obtain ⟨h1, F', h2, h3⟩ := h
  exact ⟨h1, F', h2, T.trans h3⟩
/-- A queue turns, and is stored, somewhat later. -/
theorem fin_q {ss : List Sl} {w2 : World} (h : IsB w2 p ss Q) (hF : ∀ b, F b ↔ Foot p ss b) (T02 : Turn F w F w2) (i : Nat) (hi : i < Q.length) {A : Option Addr} {n c : Nat} (e : ss.getD i nls = (A, n, c)) {v0 : Value} (hc : w2.cell? ⟨p, 2 + i, none⟩ = some v0) (L' : List Lt) (hl : L'.length ≤ 1024) (v : Value)
    (Wx w3 : World) (s' : Sl) (hb : Below w2.heap.size w2 Wx) (hq : QA w3 s' L') (T : Turn (Ob A) Wx (Ob s'.1) w3) :
    (w3.cell? ⟨p, 2 + i, none⟩ = some v0 ∧ w3.frozen? ⟨p, 2 + i, none⟩ = false ∧ p < w3.heap.size) ∧ Does IsR p F v (Q.set i L') w (.returned v) (w3.setCell ⟨p, 2 + i, none⟩ (sc s')) := by
  have hx : IsB Wx p ss Q := h.keep (fun b hF => hb.block b (h.lt b hF))
  have hcx : Wx.cell? ⟨p, 2 + i, none⟩ = some v0 := (hb.cell (p := ⟨p, 2 + i, none⟩) h.row.lt).trans hc
  exact ⟨hx.own i e T hcx, does_after (T02.trans (Turn.below F hb)) (does_step hx hF i hi hq hl (by rw [e]; exact T) rfl)⟩
set_option maxHeartbeats 4000000 in
theorem twice_is (to a : Int) (h : IsR w p F Q) (hto : In64 to) (ha : In64 a) : Calls Try.prog 18 #[ptr p, .int .i64 to, .int .i64 a] w (Does IsR p F (.int .i64 (twiceQ Q to a).2) (twiceQ Q to a).1 w) := by
  have HN := Lib.hid (fun r => does_none h (v := .int .i64 r) rfl (Below.refl w.heap.size w))
  obtain ⟨ss, h, hF⟩ := h
  have HA := at_any h to hto
  unfold twiceQ
  cases ht : thereQ Q to with
  | false =>
    rw [q_none ht] at HA
    rw [if_pos rfl]
    have HA := Lib.hid HA
    clear h hF ht
    go_enter Try.func18, Try.ntmps18
    go_wp2_with (with_reducible refine HA.out.mono ?_; rintro e w1 ⟨rfl, rfl⟩)
    go_ret
    exact HN.out 1
  | true =>
    rw [q_there ht] at HA
    rw [if_neg (by simp), with_sets ht]
    obtain ⟨⟨A, n, c⟩, e⟩ : ∃ s, ss.getD (spot to) nls = s := ⟨_, rfl⟩
    obtain ⟨hs, hc, hf, hp, hq, hn, hn1⟩ := h.place ht e
    have HA := Lib.hid HA
    have HH := has_any hc hp a
    have HU := full_any hc hp
    obtain ⟨L, hL⟩ : ∃ L, haveQ Q to = L := ⟨_, rfl⟩
    rw [hL] at hn hq ⊢
    generalize spot to = i at *
    by_cases hin : a < 0 ∨ (L.length : Int) ≤ a
    · rw [if_pos hin]
      rw [decide_eq_false (by omega)] at HH
      have HH := Lib.hid HH
      clear h hF ht hq hn hs e hin hL HU
      go_enter Try.func18, Try.ntmps18
      go_wp2_with (first
        | (with_reducible refine HA.out.mono ?_; rintro e w1 ⟨rfl, rfl⟩)
        | (with_reducible refine HH.out.mono ?_; rintro e w1 ⟨rfl, rfl⟩))
      go_ret
      exact HN.out 3
    · rw [if_neg hin]
      rw [decide_eq_true (by omega)] at HH
      have HH := Lib.hid HH
      by_cases hfull : 1024 ≤ L.length
      · rw [if_pos hfull]
        rw [decide_eq_true (by omega)] at HU
        have HU := Lib.hid HU
        clear h hF ht hq hn hs e hin hL hfull
        go_enter Try.func18, Try.ntmps18
        go_wp2_with (first
          | (with_reducible refine HA.out.mono ?_; rintro e w1 ⟨rfl, rfl⟩)
          | (with_reducible refine HH.out.mono ?_; rintro e w1 ⟨rfl, rfl⟩)
          | (with_reducible refine HU.out.mono ?_; rintro e w1 ⟨rfl, rfl⟩))
        go_ret
        exact HN.out 2
      · rw [if_neg hfull]
        rw [decide_eq_false (by omega)] at HU
        have HU := Lib.hid HU
        obtain ⟨k, hk⟩ : ∃ k : Nat, a = (k : Int) := ⟨a.toNat, by omega⟩
        subst hk
        rw [Int.toNat_natCast]
        obtain ⟨b, off, n', c', e', hb⟩ := hq.ne (by omega)
        injection e' with e1 e2
        injection e2 with e2 e3
        subst e1 e2 e3
        obtain ⟨x, hx⟩ : ∃ x, L.getD k noL = x := ⟨_, rfl⟩
        obtain ⟨y1, y2, y3⟩ := lts_at L k (by omega)
        rw [hx] at y1 y2 y3
        have z1 := hb.reads _ _ y1
        have z2 := hb.reads _ _ y2
        have z3 := hb.reads _ _ y3
        rw [← Nat.add_assoc] at z2 z3
        rw [hx]
        have hbl := hb.lt
        have HI := Lib.hid (insert_any (w := w.drew.alloc (.cells #[.int .i64 x.1, .int .i64 x.2.1, .string x.2.2] 34)) b off n c (hb.drew.keep (heap_alloc_lt _ _ hbl)) k (by omega) (by omega) w.heap.size (l := x) (Row.new w.drew 34 (lc x)) (by omega))
        have HE := Lib.hid (fin_q h hF (Turn.refl F w) i hs e hc (cutT L k 0 [x]) (by rw [cutT_len (by omega)]; simp; omega) (.int .i64 0))
        have hkn : (k : Int) < (n : Int) := by omega
        clear h hF ht hq hs e hin hL hb ha hfull hx y1 y2 y3 hn
        have mixed : Try.prog.follows .mixedOrders = true := by kernel_rfl
        go_enter Try.func18, Try.ntmps18
        go_wp2_with (first
          | (with_reducible refine HA.out.mono ?_; rintro e w1 ⟨rfl, rfl⟩)
          | (with_reducible refine HH.out.mono ?_; rintro e w1 ⟨rfl, rfl⟩)
          | (with_reducible refine HU.out.mono ?_; rintro e w1 ⟨rfl, rfl⟩))
        go_region_law (go_simp; go_at_call 34; refine (HI.out).mono ?_; rintro e w3 ⟨⟨A3, n3, c3⟩, rfl, hq3, T3⟩; obtain ⟨⟨g1, g2, g3⟩, hE⟩ := HE.out _ _ _ (((below_drewN (Below.refl _ w1) 1).alloc (Nat.le_refl _) _)) hq3 T3; have hE := Lib.hid hE; clear hq3 T3; simp only [sc])
        all_goals
          go_wp2_with fail
          go_ret
          exact hE.out
end
end Go.Proofs.Ytikbgaomiliefaa.Ro
