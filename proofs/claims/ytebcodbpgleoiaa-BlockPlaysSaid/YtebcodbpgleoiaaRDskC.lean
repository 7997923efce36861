/- What with of the document's disk returns. Conditions: a disk in memory. -/
import Derived.Test.YtebcodbpgleoiaaRDskB
set_option linter.unusedVariables false
set_option linter.unusedSimpArgs false
namespace Go.Proofs.Ytebcodbpgleoiaa
open Go Go.RowKit
section
variable {w : World} {P : Nat → Prop} {ad : Addr} {n c : Nat} {xs : List Value}
theorem Sl.take {size k : Nat} (h : Sl w P size (.slice (some ad) n c) n xs) (hk : k ≤ n) : Sl w P size (.slice (some ad) k c) k (xs.take (k * size)) := by
  have hl := h.1
  have hle : k * size ≤ n * size := Nat.mul_le_mul_right _ hk
  refine ⟨by rw [List.length_take]; omega, ?_⟩
  rcases h.2 with ⟨e, _⟩ | ⟨ad', c', e, hp, h1, h2, hc⟩
  · injection e with e1
    simp at e1
  · injection e with e1 e2 e3
    injection e1 with e1
    subst e1 e3
    refine .inr ⟨_, _, rfl, hp, by omega, h2, fun j u hj => hc j u ?_⟩
    rw [List.getElem?_take] at hj
    split at hj
    · exact hj
    · simp at hj
theorem Sl.drop {size k : Nat} (h : Sl w P size (.slice (some ad) n c) n xs) (hk : k ≤ n) : Sl w P size (.slice (if c = k then some ad else some (ad.add (k * size))) (n - k) (c - k)) (n - k) (xs.drop (k * size)) := by
  have hl := h.1
  refine ⟨by rw [List.length_drop, hl, Nat.sub_mul], ?_⟩
  rcases h.2 with ⟨e, _⟩ | ⟨ad', c', e, hp, h1, h2, hc⟩
  · injection e with e1
    simp at e1
  · injection e with e1 e2 e3
    injection e1 with e1
    subst e1 e3
    by_cases hck : c = k
    · rw [if_pos hck]
      refine .inr ⟨_, _, rfl, hp, by omega, by omega, fun j u hj => ?_⟩
      have := (List.getElem?_eq_some_iff.1 hj).1
      rw [List.length_drop, hl] at this
      have e0 : n * size ≤ k * size := Nat.mul_le_mul_right _ (by omega)
      omega
    · rw [if_neg hck]
      refine .inr ⟨_, _, rfl, by rw [block_of_add]; exact hp, by omega, by omega, fun j u hj => ?_⟩
      rw [add_of_add]
      exact hc _ u (by rw [← hj, List.getElem?_drop])
end
theorem list_set {α : Type} (l : List α) (k : Nat) (s : α) (hk : k < l.length) : l.set k s = l.take k ++ [s] ++ l.drop (k + 1) := by
  rw [List.set_eq_take_append_cons_drop, if_pos hk]
  simp
theorem strs_drop (l : List ByteArray) (k : Nat) : (strs l).drop k = strs (l.drop k) := by unfold strs; rw [List.map_drop]
theorem strs_take (l : List ByteArray) (k : Nat) : (strs l).take k = strs (l.take k) := by unfold strs; rw [List.map_take]
theorem strs_app (l m : List ByteArray) : strs (l ++ m) = strs l ++ strs m := by unfold strs; rw [List.map_append]
theorem Sl.of_own' {w : World} {base n size : Nat} {e : TypeId} {v : Value} {xs : List Value} (h : w.ownsRow base e size v n xs) {w' : World} (k : ∀ g, v.ownBlock = some g → w'.heap[g]? = w.heap[g]?) (hs : w.heap.size ≤ w'.heap.size) : Sl w' (fun b => base ≤ b ∧ b < w'.heap.size) size v n xs :=
  Sl.of_own (own_keep h k)
theorem row2_set {w : World} {b : Nat} {T : TypeId} {x y : Value} (h : Row w b T [x, y]) (p q : Value) : (w.setCell ⟨b, 0, none⟩ p).cell? ⟨b, 0, none⟩ = some p ∧ ((w.setCell ⟨b, 0, none⟩ p).setCell ⟨b, 1, none⟩ q).cell? ⟨b, 1, none⟩ = some q ∧ ((w.setCell ⟨b, 0, none⟩ p).setCell ⟨b, 1, none⟩ q).cell? ⟨b, 0, none⟩ = some p :=
  ⟨(h.set 0 p).cell (j := 0) rfl, ((h.set 0 p).set 1 q).cell (j := 1) rfl, ((h.set 0 p).set 1 q).cell (j := 0) rfl⟩
/-- A disk in whose row of texts nothing is loose, written into a block of the call's own. -/
theorem rpost_row {w W w3 : World} {b : Nat} {v3 : Value} {n : Nat} {su : List ByteArray} (hB : Below w.heap.size w W) (hlt : b < W.heap.size) (hge : w.heap.size ≤ b) (hn : su.length = n) (h : w3.ownsRow W.heap.size 9 1 v3 n (strs su)) (hb3 : Below W.heap.size W w3) (p q : Value) :
    RPost (fun _ => False) w su [] (.returned (.agg #[v3, .slice none 0 0])) ((w3.setCell ⟨b, 0, none⟩ p).setCell ⟨b, 1, none⟩ q) := by
  subst hn
  have hs3 := hb3.size
  have hsW := hB.size
  have hown : ((w3.setCell ⟨b, 0, none⟩ p).setCell ⟨b, 1, none⟩ q).ownsRow W.heap.size 9 1 v3 su.length (strs su) := ownsRow_setCell_below (ownsRow_setCell_below h hlt _) hlt _
  refine ⟨_, fun x => W.heap.size ≤ x ∧ x < ((w3.setCell ⟨b, 0, none⟩ p).setCell ⟨b, 1, none⟩ q).heap.size, rfl, ⟨⟨_, _, rfl, Sl.of_own hown, Sl.nil ..⟩, fun x hx => hx.2⟩, fun x hx => .inr (by omega), ?_⟩
  exact below_setCell (below_setCell (hB.trans (hb3.mono hB.size)) hge _) hge _
theorem rwith_any {w : World} {P : Nat → Prop} {v : Value} {su : List ByteArray} {l : List (Nat × ByteArray)} (h : RD w P v su l) (k : Nat) (hk : k < su.length) (hs : su.length ≤ 1000000) (s : ByteArray) : Calls Try.prog 29 #[v, .int .i64 (k : Int), .string s] w (RPost (fun _ => False) w (su.set k s) []) := by
  obtain ⟨a, b, rfl, h1, h2⟩ := h.ex
  obtain ⟨A1, c1, rfl, hc1, hm1⟩ := h1.shape
  obtain ⟨A2, c2, rfl, hc2, hm2⟩ := h2.shape
  obtain ⟨x0, x1⟩ := box2 w (.slice A1 su.length c1) (.slice A2 l.length c2) 31
  obtain ⟨ad, c, e, hp, hcell, _⟩ := h1.str hk
  have hkz : (k : Int) < (su.length : Int) := by omega
  injection e with e1 e2 e3
  subst e1 e3
  obtain ⟨W, hW⟩ : ∃ W, W = (w.alloc (.cells #[.slice (some ad) su.length c1, .slice A2 l.length c2] 31)).alloc (.cells #[.slice none 0 0, .slice none 0 0] 31) := ⟨_, rfl⟩
  have hB : Below w.heap.size w W := by rw [hW]; exact ((Below.refl _ w).alloc (Nat.le_refl _) _).alloc (by simp) _
  have hlt : W.heap.size = w.heap.size + 2 := by rw [hW]; simp
  have x0' : W.cell? ⟨w.heap.size, 0, none⟩ = some (.slice (some ad) su.length c1) := by rw [hW]; exact (World.cell?_alloc_lt _ _ _ (by simp)).trans x0
  have y : Row W (w.heap.size + 1) 31 [.slice none 0 0, .slice none 0 0] := by
    rw [hW]
    have := Row.new (w.alloc (.cells #[.slice (some ad) su.length c1, .slice A2 l.length c2] 31)) 31 [.slice none 0 0, .slice none 0 0]
    simpa using this
  clear x0 x1
  have h1W := h1.below (h.lt) hB
  have hT := h1W.take (k := k) (by omega)
  have hD := h1W.drop (k := k + 1) (by omega)
  rw [Nat.mul_one, strs_take] at hT
  rw [Nat.mul_one, strs_drop] at hD
  have hPl : ∀ b, P b → b < W.heap.size := fun b hb => by have := h.lt b hb; omega
  have hsl := list_set su k s hk
  have HX := Lib.hid (And.intro hB (And.intro hPl (And.intro y (And.intro hsl (And.intro hT (And.intro x0' hlt))))))
  have hz0 : w.heap.size < W.heap.size := by omega
  have hz1 : w.heap.size + 1 < W.heap.size := by omega
  have hW' := Lib.hid hW
  clear hB h1W h h1 h2 hp hcell hT hPl y x0' hlt hsl
  by_cases hck : c1 = k + 1
  · rw [if_pos hck] at hD
    have hsk : su.length = k + 1 := by omega
    have hs3 := Lib.hid (show k + 1 + 0 = su.length by omega)
    have hdz : su.drop (k + 1) = [] := List.drop_eq_nil_of_le (by omega)
    rw [hdz, hsk, hck, show k + 1 - (k + 1) = 0 by omega] at hD
    have HD := Lib.hid hD
    have HDZ := Lib.hid (And.intro hdz hsk)
    clear hD hdz hsk
    subst hck
    go_enter Try.func29, Try.ntmps29
    go_wp2_with (first
      | (at_builtin; rw [← hW'.out]; refine append_strs rfl (.tmp 8) (.tmp 12) rfl W.heap.size (.slice none 0 0) 0 [] rfl (World.ownsRow_nil ..) P _ k (su.take k) rfl HX.out.2.2.2.2.1 (by omega) (Nat.le_refl _) ?_; intro v1 w1 hown1 hg1; rw [Nat.zero_add, List.nil_append] at hown1; have hb1 := (Below.refl W.heap.size W).grown hg1 (Nat.le_refl _) (fun g hg => by simp [Value.ownBlock] at hg); have H1 := Lib.hid (And.intro hown1 hb1); clear hown1 hg1 hb1)
      | (at_builtin; refine append_str rfl (.tmp 14) (.tmp 16) rfl W.heap.size v1 k (strs (su.take k)) s rfl H1.out.1 w1.heap.size rfl rfl (by omega) H1.out.2.size ?_; intro v2 w2 hown2 hg2; have hb2 := H1.out.2.grown hg2 H1.out.2.size (own_ge H1.out.1); have z0 := (hb2.cell (p := ⟨w.heap.size, 0, none⟩) hz0).trans HX.out.2.2.2.2.2.1; have zl := Nat.lt_of_lt_of_le hz0 hb2.size; have H2 := Lib.hid (And.intro hown2 hb2); clear hown2 hg2 hb2)
      | (at_builtin; refine append_strs rfl (.tmp 18) (.tmp 23) rfl W.heap.size v2 (k + 1) (strs (su.take k) ++ [.string s]) rfl H2.out.1 P _ 0 [] rfl (HD.out.below HX.out.2.1 H2.out.2) (by omega) H2.out.2.size ?_; intro v3 w3 hown3 hg3; rw [hs3.out] at hown3; have hb3 := H2.out.2.grown hg3 H2.out.2.size (own_ge H2.out.1); obtain ⟨A3, c3, rfl, _, _⟩ := own_shape hown3; have y3 := HX.out.2.2.1.keep (hb3.block _ hz1); have yc := y3.cell (j := 0) rfl; have yd := y3.cell (j := 1) rfl; have yz := y3.frozen 0; have yw := y3.frozen 1; have yl := y3.lt; obtain ⟨ye, yf, yg⟩ := row2_set y3 (.slice A3 su.length c3) (.slice none 0 0); have H3 := Lib.hid (And.intro hown3 hb3); clear hown3 hg3 hb3 y3))
    refine bodyPost_ret (v := .agg #[.slice A3 su.length c3, .slice none 0 0]) (by simp [results, Try.results29, go_sem, yl, ye, yf, yg]) rfl ?_
    have hw := H3.out.1
    rw [← HDZ.out.1, show [Value.string s] = strs [s] from rfl, ← strs_app, ← strs_app, ← HX.out.2.2.2.1] at hw
    exact rpost_row HX.out.1 hz1 (by omega) (List.length_set ..) hw H3.out.2 _ _
  · rw [if_neg hck] at hD
    have HD := Lib.hid hD
    clear hD
    have hck1 : (k : Int) + 1 < (c1 : Int) := by omega
    have hs3 : k + 1 + (su.length - (k + 1)) = su.length := by omega
    go_enter Try.func29, Try.ntmps29
    go_wp2_with (first
      | (at_builtin; rw [← hW'.out]; refine append_strs rfl (.tmp 8) (.tmp 12) rfl W.heap.size (.slice none 0 0) 0 [] rfl (World.ownsRow_nil ..) P _ k (su.take k) rfl HX.out.2.2.2.2.1 (by omega) (Nat.le_refl _) ?_; intro v1 w1 hown1 hg1; rw [Nat.zero_add, List.nil_append] at hown1; have hb1 := (Below.refl W.heap.size W).grown hg1 (Nat.le_refl _) (fun g hg => by simp [Value.ownBlock] at hg); have H1 := Lib.hid (And.intro hown1 hb1); clear hown1 hg1 hb1)
      | (at_builtin; refine append_str rfl (.tmp 14) (.tmp 16) rfl W.heap.size v1 k (strs (su.take k)) s rfl H1.out.1 w1.heap.size rfl rfl (by omega) H1.out.2.size ?_; intro v2 w2 hown2 hg2; have hb2 := H1.out.2.grown hg2 H1.out.2.size (own_ge H1.out.1); have z0 := (hb2.cell (p := ⟨w.heap.size, 0, none⟩) hz0).trans HX.out.2.2.2.2.2.1; have zl := Nat.lt_of_lt_of_le hz0 hb2.size; have H2 := Lib.hid (And.intro hown2 hb2); clear hown2 hg2 hb2)
      | (at_builtin; refine append_strs rfl (.tmp 18) (.tmp 23) rfl W.heap.size v2 (k + 1) (strs (su.take k) ++ [.string s]) rfl H2.out.1 P _ (su.length - (k + 1)) (su.drop (k + 1)) rfl (HD.out.below HX.out.2.1 H2.out.2) (by omega) H2.out.2.size ?_; intro v3 w3 hown3 hg3; rw [hs3] at hown3; have hb3 := H2.out.2.grown hg3 H2.out.2.size (own_ge H2.out.1); obtain ⟨A3, c3, rfl, _, _⟩ := own_shape hown3; have y3 := HX.out.2.2.1.keep (hb3.block _ hz1); have yc := y3.cell (j := 0) rfl; have yd := y3.cell (j := 1) rfl; have yz := y3.frozen 0; have yw := y3.frozen 1; have yl := y3.lt; obtain ⟨ye, yf, yg⟩ := row2_set y3 (.slice A3 su.length c3) (.slice none 0 0); have H3 := Lib.hid (And.intro hown3 hb3); clear hown3 hg3 hb3 y3))
    refine bodyPost_ret (v := .agg #[.slice A3 su.length c3, .slice none 0 0]) (by simp [results, Try.results29, go_sem, yl, ye, yf, yg]) rfl ?_
    have hw := H3.out.1
    rw [show [Value.string s] = strs [s] from rfl, ← strs_app, ← strs_app, ← HX.out.2.2.2.1] at hw
    exact rpost_row HX.out.1 hz1 (by omega) (List.length_set ..) hw H3.out.2 _ _
end Go.Proofs.Ytebcodbpgleoiaa
