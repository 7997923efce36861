/- Drop and Next of the program's road. Conditions: none. -/
import Derived.Test.YtikbgaomiliefaaRoCa
set_option linter.unusedVariables false
set_option linter.unusedSimpArgs false
set_option maxRecDepth 100000
namespace Go.Proofs.Ytikbgaomiliefaa.Ro
open Go Go.RowKit
section
variable {w : World} {p : Nat} {F : Nat → Prop} {Q : Rd}
/-- The road's own cells, when a queue has turned. -/
theorem IsB.own {ss : List Sl} (h : IsB w p ss Q) (i : Nat) {A : Option Addr} {n c : Nat} (e : ss.getD i nls = (A, n, c)) {A' : Option Addr} {w1 : World} (T : Turn (Ob A) w (Ob A') w1) {v : Value} {j : Nat} (hc : w.cell? ⟨p, j, none⟩ = some v) :
    w1.cell? ⟨p, j, none⟩ = some v ∧ w1.frozen? ⟨p, j, none⟩ = false ∧ p < w1.heap.size := by
  have hb := T.block p h.row.lt (by have := h.far i; rw [e] at this; exact this)
  exact ⟨(cell_blk (a := ⟨p, j, none⟩) hb).trans hc, (h.row.keep hb).frozen j, Nat.lt_of_lt_of_le h.row.lt T.size⟩
theorem drop_is (to a : Int) (h : IsR w p F Q) (hto : In64 to) (ha : In64 a) : Calls Try.prog 16 #[ptr p, .int .i64 to, .int .i64 a] w (Does IsR p F (.int .i64 (dropQ Q to a).2) (dropQ Q to a).1 w) := by
  have HN := Lib.hid (fun r => does_none h (v := .int .i64 r) rfl (Below.refl w.heap.size w))
  obtain ⟨ss, h, hF⟩ := h
  have HA := at_any h to hto
  unfold dropQ
  cases ht : thereQ Q to with
  | false =>
    rw [q_none ht] at HA
    rw [if_pos rfl]
    have HA := Lib.hid HA
    clear h hF ht
    go_enter Try.func16, Try.ntmps16
    go_wp2_with (with_reducible refine HA.out.mono ?_; rintro e w1 ⟨rfl, rfl⟩)
    go_ret
    exact HN.out 1
  | true =>
    rw [q_there ht] at HA
    rw [if_neg (by simp), with_sets ht]
    obtain ⟨⟨A, n, c⟩, e⟩ : ∃ s, ss.getD (spot to) nls = s := ⟨_, rfl⟩
    obtain ⟨hs, hc, hf, hp, hq, hn, hn1⟩ := h.place ht e
    have HA := Lib.hid HA
    have HH := has_any hc hp a
    obtain ⟨L, hL⟩ : ∃ L, haveQ Q to = L := ⟨_, rfl⟩
    rw [hL] at hn hq ⊢
    generalize spot to = i at *
    by_cases hin : a < 0 ∨ (L.length : Int) ≤ a
    · rw [if_pos hin]
      rw [decide_eq_false (by omega)] at HH
      have HH := Lib.hid HH
      clear h hF ht hq hn hs e hin hL
      go_enter Try.func16, Try.ntmps16
      go_wp2_with (first
        | (with_reducible refine HA.out.mono ?_; rintro e w1 ⟨rfl, rfl⟩)
        | (with_reducible refine HH.out.mono ?_; rintro e w1 ⟨rfl, rfl⟩))
      go_ret
      exact HN.out 3
    · rw [if_neg hin]
      rw [decide_eq_true (by omega)] at HH
      have HH := Lib.hid HH
      obtain ⟨k, hk⟩ : ∃ k : Nat, a = (k : Int) := ⟨a.toNat, by omega⟩
      subst hk
      rw [Int.toNat_natCast]
      obtain ⟨b, off, n', c', e', hb⟩ := hq.ne (by omega)
      injection e' with e1 e2
      injection e2 with e2 e3
      subst e1 e2 e3
      have HD := Lib.hid (delete_any b off n c hb k (by omega))
      have HE := Lib.hid (fun w1 (h1 : QB w1 b off (n - 1) c (cutT L k 1 [])) (T : Turn (Ob (some ⟨b, off, none⟩)) w (Ob (some ⟨b, off, none⟩)) w1) =>
        And.intro (h.own i e T hc) (does_step (s' := (some ⟨b, off, none⟩, n - 1, c)) h hF i hs (.inr ⟨b, off, n - 1, c, rfl, h1⟩) (by rw [← h1.len]; omega) (by rw [e]; exact T) (v := .int .i64 0) rfl))
      have hw1 : IntKind.i64.wrap ((k : Int) + 1) = (k : Int) + 1 := by rw [IntKind.wrap_i64]; omega
      clear h hF ht hq hn hs e hin hL hb ha
      go_enter Try.func16, Try.ntmps16
      go_wp2_with (first
        | (with_reducible refine HA.out.mono ?_; rintro e w1 ⟨rfl, rfl⟩)
        | (with_reducible refine HH.out.mono ?_; rintro e w1 ⟨rfl, rfl⟩)
        | (with_reducible refine HD.out.mono ?_; rintro e w1 ⟨rfl, hq1, T1⟩; obtain ⟨⟨g1, g2, g3⟩, hE⟩ := HE.out w1 hq1 T1; have hE := Lib.hid hE; clear hq1 T1))
      go_ret
      exact hE.out
end
end Go.Proofs.Ytikbgaomiliefaa.Ro
