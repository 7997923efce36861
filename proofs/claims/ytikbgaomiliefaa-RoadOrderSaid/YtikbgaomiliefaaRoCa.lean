/- New, Waits and Clear of the program's road. Conditions: none. -/
import Derived.Test.YtikbgaomiliefaaRoIs
set_option linter.unusedVariables false
set_option linter.unusedSimpArgs false
set_option maxRecDepth 100000
namespace Go.Proofs.Ytikbgaomiliefaa.Ro
open Go Go.RowKit
section
variable {w : World} {p : Nat} {F : Nat → Prop} {Q : Rd}
theorem new_no (k : Int) (w : World) (hk : In64 k) (h : k < 1 ∨ 8 < k) : Calls Try.prog 9 #[.int .i64 k] w fun e w' => e = .returned (.tuple #[.pointer none, .int .i64 1]) ∧ Below w.heap.size w w' := by
  have hb := Below.refl w.heap.size w
  by_cases h1 : k < 1
  · clear h
    go_enter Try.func9, Try.ntmps9
    go_wp2
    refine bodyPost_ret (v := .tuple #[.pointer none, .int .i64 1]) (by simp [results, Try.results9, go_sem]) rfl ?_
    exact ⟨rfl, hb⟩
  · have h2 : 8 < k := by omega
    clear h
    go_enter Try.func9, Try.ntmps9
    go_wp2
    refine bodyPost_ret (v := .tuple #[.pointer none, .int .i64 1]) (by simp [results, Try.results9, go_sem]) rfl ?_
    exact ⟨rfl, hb⟩
theorem repl_getD {α : Type} (n i : Nat) (d : α) : (List.replicate n d).getD i d = d := by
  rw [List.getD_eq_getElem?_getD, List.getElem?_replicate]
  split <;> rfl
theorem is_new (w : World) (k : Nat) (h1 : 1 ≤ k) (h8 : k ≤ 8) : IsB (w.alloc (.cells (ptr w.heap.size :: .int .i64 (k : Int) :: (List.replicate 9 nls).map sc).toArray 62)) w.heap.size (List.replicate 9 nls) (List.replicate (k + 1) []) := by
  have hg : ∀ i, (List.replicate 9 nls).getD i nls = nls := fun i => repl_getD 9 i nls
  refine ⟨rfl, by simp, by simp; omega, fun i => by rw [repl_getD]; simp, ?_, fun i => ?_, fun i => ?_, fun i j _ b hb => ?_⟩
  · have h := Row.new w 62 (ptr w.heap.size :: .int .i64 (k : Int) :: (List.replicate 9 nls).map sc)
    rw [List.length_replicate, Nat.add_sub_cancel]
    exact h
  · rw [hg, repl_getD]
    exact .inl ⟨rfl, rfl⟩
  · rw [hg]
    rintro ⟨ad, e, _⟩
    cases e
  · rw [hg] at hb
    obtain ⟨ad, e, _⟩ := hb
    cases e
theorem new_is (k : Nat) (w : World) (h1 : 1 ≤ k) (h8 : k ≤ 8) : Calls Try.prog 9 #[.int .i64 (k : Int)] w fun e w' => ∃ p F, e = .returned (.tuple #[ptr p, .int .i64 0]) ∧ IsR w' p F (List.replicate (k + 1) []) ∧ (∀ b, F b → w.heap.size ≤ b) ∧ Below w.heap.size w w' := by
  have hi := is_new w k h1 h8
  have hb : Below w.heap.size w (w.alloc (.cells (ptr w.heap.size :: .int .i64 (k : Int) :: (List.replicate 9 nls).map sc).toArray 62)) := (Below.refl _ w).alloc (Nat.le_refl _) _
  have HE := Lib.hid (show ∃ p F, Ending.returned (.tuple #[ptr w.heap.size, .int .i64 0]) = .returned (.tuple #[ptr p, .int .i64 0]) ∧ IsR (w.alloc (.cells (ptr w.heap.size :: .int .i64 (k : Int) :: (List.replicate 9 nls).map sc).toArray 62)) p F (List.replicate (k + 1) []) ∧ (∀ b, F b → w.heap.size ≤ b) ∧ Below w.heap.size w (w.alloc (.cells (ptr w.heap.size :: .int .i64 (k : Int) :: (List.replicate 9 nls).map sc).toArray 62)) from
    by
    refine ⟨w.heap.size, Foot w.heap.size (List.replicate 9 nls), rfl, ⟨_, hi, fun b => Iff.rfl⟩, fun b hb' => ?_, hb⟩
    rcases hb' with rfl | ⟨i, ad, e, _⟩
    · exact Nat.le_refl _
    · rw [repl_getD] at e
      cases e)
  have c1 : (1 : Int) ≤ (k : Int) := by omega
  have c8 : (k : Int) ≤ 8 := by omega
  clear hi hb h1 h8
  go_enter Try.func9, Try.ntmps9
  go_wp2
  refine bodyPost_ret (v := .tuple #[ptr w.heap.size, .int .i64 0]) (by simp [results, Try.results9, go_sem]) rfl ?_
  exact HE.out
theorem q_there {to : Int} (ht : thereQ Q to = true) : qptr p Q to = .pointer (some ⟨p, 2 + spot to, none⟩) := if_pos ht
theorem q_none {to : Int} (ht : thereQ Q to = false) : qptr p Q to = .pointer none := if_neg (by simp [ht])
/-- What stands at a place to wait. -/
theorem IsB.place {ss : List Sl} (h : IsB w p ss Q) {to : Int} (ht : thereQ Q to = true) {A : Option Addr} {n c : Nat} (e : ss.getD (spot to) nls = (A, n, c)) :
    spot to < Q.length ∧ w.cell? ⟨p, 2 + spot to, none⟩ = some (.slice A n c) ∧ w.frozen? ⟨p, 2 + spot to, none⟩ = false ∧ p < w.heap.size ∧ QA w (A, n, c) (haveQ Q to) ∧ n = (haveQ Q to).length ∧ n ≤ 1024 := by
  obtain ⟨hs, _⟩ := spot_lt ht
  have hq := h.queue (spot to)
  have hc := h.cell (spot to) (by have := h.most; omega)
  rw [e] at hq hc
  exact ⟨hs, hc, h.row.frozen _, h.row.lt, hq, hq.len, by have := hq.len; simp only at this; rw [this]; exact h.short _⟩
theorem waits_is (to : Int) (h : IsR w p F Q) (hto : In64 to) : Calls Try.prog 24 #[ptr p, .int .i64 to] w fun e w' => e = .returned (.int .i64 (waitsQ Q to)) ∧ Below w.heap.size w w' := by
  obtain ⟨ss, h, hF⟩ := h
  have HB := Lib.hid (Below.refl w.heap.size w)
  have HA := at_any h to hto
  unfold waitsQ
  cases ht : thereQ Q to with
  | false =>
    rw [q_none ht] at HA
    rw [if_pos rfl]
    have HA := Lib.hid HA
    clear h hF ht
    go_enter Try.func24, Try.ntmps24
    go_wp2_with (with_reducible refine HA.out.mono ?_; rintro e w1 ⟨rfl, rfl⟩)
    go_ret
    exact ⟨rfl, HB.out⟩
  | true =>
    rw [q_there ht] at HA
    rw [if_neg (by simp)]
    obtain ⟨⟨A, n, c⟩, e⟩ : ∃ s, ss.getD (spot to) nls = s := ⟨_, rfl⟩
    obtain ⟨hs, hc, hf, hp, hq, hn, hn1⟩ := h.place ht e
    rw [← hn]
    have HA := Lib.hid HA
    generalize spot to = i at *
    clear h hF ht hq hn hs e
    go_enter Try.func24, Try.ntmps24
    go_wp2_with (with_reducible refine HA.out.mono ?_; rintro e w1 ⟨rfl, rfl⟩)
    go_ret
    exact ⟨rfl, HB.out⟩
theorem clear_is (to : Int) (h : IsR w p F Q) (hto : In64 to) : Calls Try.prog 22 #[ptr p, .int .i64 to] w (Does IsR p F (.int .i64 (clearQ Q to).2) (clearQ Q to).1 w) := by
  have HN := Lib.hid (does_none h (v := .int .i64 1) rfl (Below.refl w.heap.size w))
  obtain ⟨ss, h, hF⟩ := h
  have HA := at_any h to hto
  unfold clearQ
  cases ht : thereQ Q to with
  | false =>
    rw [q_none ht] at HA
    rw [if_pos rfl]
    have HA := Lib.hid HA
    clear h hF ht
    go_enter Try.func22, Try.ntmps22
    go_wp2_with (with_reducible refine HA.out.mono ?_; rintro e w1 ⟨rfl, rfl⟩)
    go_ret
    exact HN.out
  | true =>
    rw [q_there ht] at HA
    rw [if_neg (by simp), with_sets ht]
    obtain ⟨⟨A, n, c⟩, e⟩ : ∃ s, ss.getD (spot to) nls = s := ⟨_, rfl⟩
    obtain ⟨hs, hc, hf, hp, hq, hn, hn1⟩ := h.place ht e
    have HE := Lib.hid (does_step (s' := nls) (L' := []) h hF (spot to) hs (.inl ⟨rfl, rfl⟩) (by simp) ⟨rfl, rfl, rfl, Nat.le_refl _, fun _ _ _ => rfl, fun b hb => by obtain ⟨ad, e, _⟩ := hb; cases e⟩ (v := .int .i64 0) rfl)
    have HA := Lib.hid HA
    generalize spot to = i at *
    clear h hF ht hq hn hs e
    go_enter Try.func22, Try.ntmps22
    go_wp2_with (with_reducible refine HA.out.mono ?_; rintro e w1 ⟨rfl, rfl⟩)
    go_ret
    exact HE.out
end
end Go.Proofs.Ytikbgaomiliefaa.Ro
