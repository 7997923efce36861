/- What New, cut and Get of the document's disk return. Conditions: those named in each. -/
import Derived.Test.YtebcodbpgleoiaaRMem
set_option linter.unusedVariables false
set_option linter.unusedSimpArgs false
namespace Go.Proofs.Ytebcodbpgleoiaa
open Go Go.RowKit
theorem rcut_any (n : Int) (m : Nat) (h1 : -9223372036854775808 ≤ n) (h2 : n ≤ 9223372036854775807) (hm : m ≤ 1000000) (w : World) : Calls Try.prog 28 #[.int .i64 n, .int .i64 ((m + 1 : Nat) : Int)] w fun e w' => e = .returned (.int .i64 (shr n m : Int)) ∧ w = w' := by
  by_cases h0 : n < 0
  · have hr : shr n m = 0 := by unfold shr; rw [show n.toNat = 0 by omega, Nat.zero_mod]
    rw [hr]
    go_enter Try.func28, Try.ntmps28
    go_wp2
    go_ret
    exact ⟨rfl, rfl⟩
  · obtain ⟨k, rfl⟩ : ∃ k : Nat, n = k := ⟨n.toNat, by omega⟩
    have hr : shr (k : Int) m = k % (m + 1) := rfl
    have hlt := shr_le (k : Int) m
    rw [hr] at hlt
    have HR := Lib.hid hr
    clear hr
    generalize shr (k : Int) m = r at *
    go_enter Try.func28, Try.ntmps28
    go_wp2
    go_ret
    exact ⟨by rw [HR.out]; push_cast; rfl, rfl⟩
/-- What is returned is a disk of the document's, whose lists lie in blocks that were allowed, or in new ones; nothing that was there has turned. -/
def RPost (P0 : Nat → Prop) (w : World) (su : List ByteArray) (l : List (Nat × ByteArray)) (e : Ending) (w' : World) : Prop :=
  ∃ v P, e = .returned v ∧ RD w' P v su l ∧ (∀ b, P b → P0 b ∨ w.heap.size ≤ b) ∧ Below w.heap.size w w'
def RPostE (P0 : Nat → Prop) (w : World) (su : List ByteArray) (l : List (Nat × ByteArray)) (er : Int) (e : Ending) (w' : World) : Prop :=
  ∃ v P, e = .returned (.tuple #[v, .int .i64 er]) ∧ RD w' P v su l ∧ (∀ b, P b → P0 b ∨ w.heap.size ≤ b) ∧ Below w.heap.size w w'
theorem sl_new (W : World) (l : List ByteArray) (n : Nat) (hl : l.length = n) (hn : n ≤ 1000000) (P : Nat → Prop) (hP : P W.heap.size) : Sl (W.alloc (.cells (strs l).toArray 9)) P 1 (.slice (some ⟨W.heap.size, 0, none⟩) n n) n (strs l) := by
  refine ⟨by simp [strs, hl], .inr ⟨_, _, rfl, hP, Nat.le_refl _, by unfold maxLen; omega, fun j u hj => ?_⟩⟩
  have hb := heap_alloc_new W (.cells (strs l).toArray 9)
  rw [add_flat, Nat.zero_add]
  simp only [World.cell?, hb]
  simpa using hj
theorem rnew_any (n : Nat) (h4 : 4 ≤ n) (hn : n ≤ 16384) (w : World) : Calls Try.prog 10 #[.int .i64 (n : Int)] w (RPostE (fun _ => False) w (none_ n) [] 0) := by
  have hmk := run_make_row' (P := Try.prog) 28 9 (.string ⟨#[]⟩) 16 Try.underlying28 str_row rfl .i64 .i64 n (by omega) (by omega)
  have hz1 : ¬ (n : Int) < 4 := by omega
  have hz2 : ¬ 16384 < (n : Int) := by omega
  rw [made_strs] at hmk
  go_enter Try.func10, Try.ntmps10
  go_wp2
  refine bodyPost_ret (v := .tuple #[.agg #[.slice (some ⟨w.heap.size + 1, 0, none⟩) n n, .slice none 0 0], .int .i64 0]) (by simp [results, Try.results10, go_sem]) rfl ⟨_, fun b => b = w.heap.size + 1, rfl, ⟨⟨_, _, rfl, ?_, Sl.nil ..⟩, ?_⟩, ?_, ?_⟩
  · have := sl_new (w.alloc (.cells #[.slice (some ⟨w.heap.size + 1, 0, none⟩) n n, .slice none 0 0] 31)) (none_ n) n (by simp [none_]) (by omega) (fun b => b = w.heap.size + 1) (by simp)
    simp at this
    simpa [none_] using this
  · intro b hb; simp; omega
  · intro b hb; omega
  · exact (((Below.refl _ w).alloc (Nat.le_refl _) _).alloc (by simp) _)
theorem rnew_no (n : Int) (hn : n < 4 ∨ 16384 < n) (w : World) : Calls Try.prog 10 #[.int .i64 n] w (RPostE (fun _ => False) w [] [] 1) := by
  have fin : ∀ W : World, Below w.heap.size w W → RPostE (fun _ => False) w [] [] 1 (.returned (.tuple #[.agg #[.slice none 0 0, .slice none 0 0], .int .i64 1])) W := fun W hb => ⟨_, fun _ => False, rfl, ⟨⟨_, _, rfl, Sl.nil .., Sl.nil ..⟩, fun b h => h.elim⟩, fun b h => h.elim, hb⟩
  have FIN := Lib.hid fin
  clear fin
  by_cases h : n < 4
  · clear hn
    go_enter Try.func10, Try.ntmps10
    go_wp2
    refine bodyPost_ret (v := .tuple #[.agg #[.slice none 0 0, .slice none 0 0], .int .i64 1]) (by simp [results, Try.results10, go_sem]) rfl (FIN.out _ ?_)
    exact (Below.refl _ w).alloc (Nat.le_refl _) _
  · have h2 : 16384 < n := by omega
    clear hn
    go_enter Try.func10, Try.ntmps10
    go_wp2
    refine bodyPost_ret (v := .tuple #[.agg #[.slice none 0 0, .slice none 0 0], .int .i64 1]) (by simp [results, Try.results10, go_sem]) rfl (FIN.out _ ?_)
    exact (Below.refl _ w).alloc (Nat.le_refl _) _
theorem setsP_last {l : List (Nat × ByteArray)} {i : Nat} {p : Nat × ByteArray} (h : l[i]? = some p) (k : Nat) (su : List ByteArray) : (setsP (l.take (i + 1)) su).getD k ⟨#[]⟩ = if p.1 = k ∧ k < su.length then p.2 else (setsP (l.take i) su).getD k ⟨#[]⟩ := by
  have hi := (List.getElem?_eq_some_iff.1 h).1
  have e : l.take (i + 1) = l.take i ++ [p] := by
    rw [List.take_succ_eq_append_getElem hi, (List.getElem?_eq_some_iff.1 h).2]
  rw [e, setsP_snoc]
  by_cases hp : p.1 = k
  · subst hp
    by_cases hk : p.1 < su.length
    · rw [if_pos ⟨rfl, hk⟩, List.getD_eq_getElem?_getD, List.getElem?_set_self (by rw [setsP_len]; exact hk)]
      rfl
    · rw [if_neg (fun hh => hk hh.2), List.getD_eq_getElem?_getD, List.getD_eq_getElem?_getD, List.getElem?_eq_none (by rw [List.length_set, setsP_len]; omega), List.getElem?_eq_none (by rw [setsP_len]; omega)]
  · rw [if_neg (fun hh => hp hh.1), List.getD_eq_getElem?_getD, List.getElem?_set_ne hp, List.getD_eq_getElem?_getD]
theorem Sl.at_ {w : World} {P : Nat → Prop} {size : Nat} {v : Value} {n : Nat} {xs : List Value} (h : Sl w P size v n xs) {j : Nat} {u : Value} (hj : xs[j]? = some u) : ∃ ad c, v = .slice (some ad) n c ∧ P ad.block ∧ w.cell? (ad.add j) = some u ∧ n ≤ c ∧ c ≤ maxLen := by
  rcases h.2 with ⟨rfl, rfl⟩ | ⟨ad, c, rfl, hp, h1, h2, hc⟩
  · have := h.1
    rw [Nat.zero_mul, List.length_eq_zero_iff] at this
    subst this
    simp at hj
  · exact ⟨ad, c, rfl, hp, hc j u hj, h1, h2⟩
theorem Sl.str {w : World} {P : Nat → Prop} {v : Value} {l : List ByteArray} (h : Sl w P 1 v l.length (strs l)) {k : Nat} (hk : k < l.length) : ∃ ad c, v = .slice (some ad) l.length c ∧ P ad.block ∧ w.cell? (ad.add k) = some (.string (l.getD k ⟨#[]⟩)) ∧ l.length ≤ c ∧ c ≤ maxLen := h.at_ (strs_get hk)
theorem Sl.wr {w : World} {P : Nat → Prop} {v : Value} {l : List (Nat × ByteArray)} (h : Sl w P 2 v l.length (l.flatMap wcell)) {k : Nat} (hk : k < l.length) : ∃ ad c, v = .slice (some ad) l.length c ∧ P ad.block ∧ w.cell? (ad.add (k * 2)) = some (.int .i64 ((l[k]).1 : Int)) ∧ w.cell? ⟨(ad.add (k * 2)).block, (ad.add (k * 2)).off + 1, none⟩ = some (.string (l[k]).2) ∧ l.length ≤ c ∧ c ≤ maxLen := by
  have hg : l[k]? = some l[k] := List.getElem?_eq_getElem hk
  have g0 := flat_get wcell 2 (fun _ => rfl) l k 0 l[k] hg (by decide)
  have g1 := flat_get wcell 2 (fun _ => rfl) l k 1 l[k] hg (by decide)
  obtain ⟨ad, c, e, hp, h1, h2⟩ := h.at_ (g0.trans rfl)
  obtain ⟨ad', c', e', _, h1', _⟩ := h.at_ (g1.trans rfl)
  rw [e] at e'
  injection e' with e1 e2 e3
  injection e1 with e1
  subst e1
  refine ⟨ad, c, e, hp, h1, ?_, h2⟩
  show w.cell? ((ad.add (k * 2)).add 1) = _
  rw [add_of_add]
  exact h1'
end Go.Proofs.Ytebcodbpgleoiaa
