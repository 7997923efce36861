/- The document's road in memory; its with. Conditions: a place that is there; its lists lie apart from blocks that turn. -/
import Derived.Test.YtikbgaomiliefaaRoCut
set_option linter.unusedVariables false
set_option linter.unusedSimpArgs false
set_option maxRecDepth 100000
namespace Go.Proofs.Ytikbgaomiliefaa.Ro
open Go Go.RowKit
abbrev nilS : Sl := (none, 0, 0)
/-- The document's road by value, apart from blocks that turn. -/
structure RAt (w : World) (F : Nat → Prop) (Q : Rd) (A : Option Addr) (n c : Nat) : Prop where
  ex : ∃ vs : List Sl, vs.length = Q.length ∧ Reads w w.heap.size 1 A n (vs.map sc) ∧ ∀ i, i < Q.length → SlAt w F (vs.getD i nilS) (Q.getD i [])
  le : n ≤ c
  max : c ≤ maxLen
  off : Off w F A
theorem RAt.turn {w w2 : World} {F F' : Nat → Prop} {Q : Rd} {A : Option Addr} {n c : Nat} (h : RAt w F Q A n c) (T : Turn F w F' w2) : RAt w2 F' Q A n c := by
  obtain ⟨vs, h1, h2, h3⟩ := h.ex
  exact ⟨⟨vs, h1, h.off.reads h2 T, fun i hi => (h3 i hi).turn T⟩, h.le, h.max, h.off.turn T⟩
theorem RAt.len {w : World} {F : Nat → Prop} {Q : Rd} {A : Option Addr} {n c : Nat} (h : RAt w F Q A n c) : n = Q.length := by
  obtain ⟨vs, h1, h2, _⟩ := h.ex
  have := h2.1
  rw [List.length_map] at this
  omega
theorem getD_set {α : Type} (l : List α) (k i : Nat) (x d : α) (hk : k < l.length) : (l.set k x).getD i d = if i = k then x else l.getD i d := by
  rw [List.getD_eq_getElem?_getD, List.getD_eq_getElem?_getD, List.getElem?_set]
  by_cases h : i = k
  · subst h
    simp [hk]
  · have h' : ¬ k = i := fun e => h e.symm
    simp [h, h']
theorem set_form {α : Type} (l : List α) (k : Nat) (x : α) (hk : k < l.length) : l.take k ++ [x] ++ l.drop (k + 1) = l.set k x := by
  rw [List.set_eq_take_append_cons_drop, if_pos hk, List.append_assoc]
  rfl
theorem slice_row : (Try.prog.info? 58).map (fun i => (i.zero, i.size, i.bytes)) = some (some (.slice none 0 0), 1, 24) := by kernel_rfl
theorem scs_one (vs : List Sl) : ∀ u ∈ vs.map sc, u.oneCell' = true := by
  intro u hu
  obtain ⟨s, _, rfl⟩ := List.mem_map.1 hu
  rfl
theorem reads_preS {w : World} {B n k : Nat} {A : Option Addr} {vs : List Sl} (h : Reads w B 1 A n (vs.map sc)) (hk : k ≤ n) : Reads w B 1 A k ((vs.take k).map sc) := by
  have hl := h.1
  rw [List.length_map] at hl
  refine ⟨by rw [List.length_map, List.length_take]; omega, fun hn => ?_⟩
  obtain ⟨ad, rfl, hb, hc⟩ := h.2 (by omega)
  refine ⟨ad, rfl, hb, fun j u hu => hc j u ?_⟩
  rw [List.map_take, List.getElem?_take] at hu
  split at hu
  · exact hu
  · simp at hu
/-- A road that with has made. -/
theorem rat_with {w w3 W : World} {F : Nat → Prop} {Q : Rd} {vs : List Sl} {s : Sl} {L : List Lt} {k n c3 base : Nat} {A3 : Option Addr} {X : Nat}
    (hvs : vs.length = Q.length) (hn : n = Q.length) (hk : k < n) (h3 : ∀ i, i < Q.length → SlAt w F (vs.getD i nilS) (Q.getD i [])) (hs : SlAt w F s L)
    (ho : w3.ownsRow base 58 1 (.slice A3 n c3) n ((vs.set k s).map sc)) (hb : Below w.heap.size w w3) (hF : ∀ b, F b → b < w.heap.size) (hX : w.heap.size ≤ X) (hXb : X < base)
    (hW : ∀ b, b ≠ X → W.heap[b]? = w3.heap[b]?) (hWs : W.heap.size = w3.heap.size) (hbW : Below w.heap.size w W) : RAt W F (Q.set k L) A3 n c3 := by
  have hob : w.heap.size ≤ base := by omega
  have hoW : W.ownsRow base 58 1 (.slice A3 n c3) n ((vs.set k s).map sc) := own_keep ho fun g hg => hW g (by have := (ho.lt g hg).1; omega)
  obtain ⟨_, _, e1, e2, e3⟩ := own_shape hoW
  injection e1 with _ _ e1
  refine ⟨⟨vs.set k s, by simp [hvs], Reads.of_own hoW, fun i hi => ?_⟩, by omega, by omega, fun ad hA => ?_⟩
  · have hiQ : i < Q.length := by simpa using hi
    rw [getD_set vs k i s nilS (by omega), getD_set Q k i L [] (by omega)]
    have T := Turn.below F hbW
    by_cases he : i = k
    · rw [if_pos he, if_pos he]
      exact hs.turn T
    · rw [if_neg he, if_neg he]
      exact (h3 i hiQ).turn T
  · obtain ⟨h1, h2⟩ := own_addr hoW ad hA
    exact ⟨h2, fun hf => by have := hF _ hf; omega⟩
def RPost (F : Nat → Prop) (Q : Rd) (w : World) (e : Ending) (w' : World) : Prop := ∃ A n c, e = .returned (.agg #[.slice A n c]) ∧ RAt w' F Q A n c ∧ Below w.heap.size w w'
set_option maxHeartbeats 4000000 in
theorem with_any (Q : Rd) (to : Int) (L : List Lt) (s : Sl) {w : World} {F : Nat → Prop} {A : Option Addr} {n c : Nat} (h : RAt w F Q A n c) (hF : ∀ b, F b → b < w.heap.size) (ht : thereQ Q to = true) (hs : SlAt w F s L) (hQ : Q.length ≤ 100) :
    Calls Try.prog 30 #[.agg #[.slice A n c], .int .i64 to, .slice s.1 s.2.1 s.2.2] w (RPost F (Q.set (spot to) L) w) := by
  obtain ⟨i0, hi, hz0, hz1, hz2⟩ := info_parts slice_row
  have hlen := h.len
  obtain ⟨⟨vs, hvs, hR, h3⟩, hnc, hcm, hoff⟩ := h
  obtain ⟨hk0, hkz⟩ := spot_lt ht
  obtain ⟨k, hk⟩ : ∃ k, spot to = k := ⟨_, rfl⟩
  rw [hk] at hk0 hkz ⊢
  obtain rfl : to = (k : Int) - 1 := by omega
  obtain ⟨W, hW⟩ : ∃ W, W = (w.alloc (.cells #[.slice A n c] 29)).alloc (.cells #[.slice none 0 0] 29) := ⟨_, rfl⟩
  have hb0 : Below w.heap.size w W := by rw [hW]; exact ((Below.refl _ w).alloc (Nat.le_refl _) _).alloc (by simp) _
  have r1 : Row W w.heap.size 29 [.slice A n c] := by
    rw [hW]
    exact (Row.new w 29 [.slice A n c]).keep (heap_alloc_lt _ _ (by simp))
  have r2 : Row W (w.heap.size + 1) 29 [.slice none 0 0] := by
    have h := Row.new (w.alloc (.cells #[.slice A n c] 29)) 29 [.slice none 0 0]
    rw [World.size_alloc] at h
    rw [hW]
    exact h
  have hsW : W.heap.size = w.heap.size + 2 := by rw [hW]; simp
  have v0 := r1.cell (j := 0) rfl
  have vl := r1.lt
  have hW1 : IntKind.i64.wrap ((k : Int) - 1 + 1) = (k : Int) := by rw [IntKind.wrap_i64]; omega
  have hW2 : IntKind.i64.wrap ((k : Int) - 1 + 2) = ((k + 1 : Nat) : Int) := by rw [IntKind.wrap_i64]; omega
  have HT := Lib.hid (fun w1 (hb : Below w.heap.size w w1) => (reads_preS hR (show k ≤ n by omega)).below hb)
  have HB := Lib.hid (fun w1 (hb : Below W.heap.size W w1) => show w1.cell? ⟨w.heap.size, 0, none⟩ = some (.slice A n c) ∧ w1.cell? ⟨w.heap.size + 1, 0, none⟩ = some (.slice none 0 0) ∧ w1.frozen? ⟨w.heap.size + 1, 0, none⟩ = false ∧ w.heap.size + 1 < w1.heap.size ∧ w.heap.size < w1.heap.size ∧ Below w.heap.size w w1 from by
    have r1 := r1.keep (hb.block _ r1.lt)
    have r2 := r2.keep (hb.block _ r2.lt)
    exact ⟨r1.cell rfl, r2.cell rfl, r2.frozen 0, r2.lt, r1.lt, hb0.trans (hb.mono hb0.size)⟩)
  have HFIN := Lib.hid (fun w3 A3 c3 (ho : w3.ownsRow W.heap.size 58 1 (.slice A3 n c3) n ((vs.take k ++ [s] ++ vs.drop (k + 1)).map sc)) (hb : Below W.heap.size W w3) => show RAt (w3.setCell ⟨w.heap.size + 1, 0, none⟩ (.slice A3 n c3)) F (Q.set k L) A3 n c3 ∧ Below w.heap.size w (w3.setCell ⟨w.heap.size + 1, 0, none⟩ (.slice A3 n c3)) ∧ (w3.setCell ⟨w.heap.size + 1, 0, none⟩ (.slice A3 n c3)).cell? ⟨w.heap.size + 1, 0, none⟩ = some (.slice A3 n c3) from by
    have hbf := below_setCell (hb0.trans (hb.mono hb0.size)) (p := ⟨w.heap.size + 1, 0, none⟩) (by simp) (.slice A3 n c3)
    rw [set_form vs k s (by omega)] at ho
    exact ⟨rat_with (X := w.heap.size + 1) hvs hlen (by omega) h3 hs ho (hb0.trans (hb.mono hb0.size)) hF (by omega) (by omega) (fun b hb => heap_set_ne _ ⟨w.heap.size + 1, 0, none⟩ _ hb) (by simp) hbf, hbf, ((r2.keep (hb.block _ r2.lt)).set 0 _).cell rfl⟩)
  have hDR := fun w1 (hb : Below w.heap.size w w1) => (hR.below hb).cut (k := k + 1) (cap := c) (by omega) hnc
  have hA0 : ∃ ad, A = some ad := by
    obtain ⟨ad, e, _⟩ := hR.2 (by omega)
    exact ⟨ad, e⟩
  obtain ⟨ad, rfl⟩ := hA0
  have hkc : (k : Int) ≤ (c : Int) := by omega
  have hkn : ((k + 1 : Nat) : Int) ≤ (n : Int) := by omega
  have hkc1 : ((k + 1 : Nat) : Int) ≤ (c : Int) := by omega
  have hk00 : (0 : Int) ≤ (k : Int) := by omega
  have hk10 : (0 : Int) ≤ ((k + 1 : Nat) : Int) := by omega
  have hncz : (n : Int) ≤ (c : Int) := by omega
  have hn100 : n ≤ 100 := by omega
  have hkn1 : k + 1 ≤ n := by omega
  have HW := Lib.hid hW
  have HSZ := Lib.hid hsW
  have hvl : vs.length = n := by omega
  clear hW hb0 r1 r2 hR h3 hs hoff hlen hvs hk0 hkz hk ht hsW hQ hF
  obtain ⟨sa, sn, sd⟩ := s
  have HBW := Lib.hid (HB.out W (Below.refl _ _)).2.2.2.2.2
  by_cases hck : c = k + 1
  · obtain rfl : n = k + 1 := by omega
    subst hck
    have HD := Lib.hid (fun (w1 : World) (A : Option Addr) => (⟨rfl, fun h => absurd h (by omega)⟩ : Reads w1 w.heap.size 1 A 0 []))
    have HDN := Lib.hid (show (vs.drop (k + 1)).map sc = [] by rw [List.drop_eq_nil_of_le (by have := hvl; omega)]; rfl)
    clear hDR
    go_enter Try.func30, Try.ntmps30
    go_wp2_with (first
      | (at_builtin; rw [← HW.out]; refine wpList_append_any _ rfl (.tmp 8) (.tmp 13) 27 rfl W.heap.size 58 i0 (.slice none 0 0) 1 24 Try.underlying27 hi hz0 hz1 hz2 rfl (by decide) (.slice none 0 0) 0 [] rfl (World.ownsRow_nil ..) w.heap.size _ k _ ((vs.take k).map sc) rfl (HT.out W HBW.out) (scs_one _) (by unfold maxLen; omega) (by omega) (Nat.le_refl _) ?_; intro v1 w1 hown1 hgr1 _; rw [Nat.zero_add, List.nil_append] at hown1; obtain ⟨A1, c1, rfl, _, _⟩ := own_shape hown1; have hb1 := below_own (World.ownsRow_nil W W.heap.size 58 1) hgr1 (Nat.le_refl _); have H1 := Lib.hid (And.intro hown1 hb1); obtain ⟨b0, b1, b2, b3, b4, b5⟩ := HB.out w1 hb1; clear hown1 hgr1 hb1 v0 vl)
      | (at_builtin; refine append_new rfl (.tmp 15) (.tmp 17) 27 58 58 rfl W.heap.size i0 (.slice none 0 0) 1 24 Try.underlying27 hi hz0 hz1 hz2 rfl (by decide) (by decide) (.slice A1 k c1) k ((vs.take k).map sc) rfl H1.out.1 rfl #[.slice sa sn sd] rfl (by intro u hu; simp at hu; subst hu; rfl) (by omega) H1.out.2.size ?_; intro v2 w2 hown2 hgr2 _; obtain ⟨A2, c2, rfl, _, _⟩ := own_shape hown2; have hb2 := H1.out.2.trans (below_own H1.out.1 hgr2 H1.out.2.size); have H2 := Lib.hid (And.intro (show w2.ownsRow W.heap.size 58 1 (.slice A2 (k + 1) c2) (k + 1) ((vs.take k ++ [(sa, sn, sd)]).map sc) by rw [List.map_append]; exact hown2) hb2); clear b0 b1 b2 b3 b4 b5; obtain ⟨b0, b1, b2, b3, b4, b5⟩ := HB.out w2 hb2; have HB5 := Lib.hid b5; clear hown2 hgr2 hb2 b5)
      | (at_builtin; refine wpList_append_any _ rfl (.tmp 19) (.tmp 24) 27 rfl W.heap.size 58 i0 (.slice none 0 0) 1 24 Try.underlying27 hi hz0 hz1 hz2 rfl (by decide) (.slice A2 (k + 1) c2) (k + 1) ((vs.take k ++ [(sa, sn, sd)]).map sc) rfl H2.out.1 w.heap.size _ (0) _ ([]) rfl (HD.out w2 _) (fun _ h => by cases h) (by unfold maxLen; omega) (by omega) H2.out.2.size ?_; intro v3 w3 hown3 hgr3 _; rw [show k + 1 + 0 = k + 1 by omega, ← HDN.out] at hown3; obtain ⟨A3, c3, rfl, _, _⟩ := own_shape hown3; have hb3 := H2.out.2.trans (below_own H2.out.1 hgr3 H2.out.2.size); clear b0 b1 b2 b3 b4; obtain ⟨b0, b1, b2, b3, b4, b5⟩ := HB.out w3 hb3; have H3 := Lib.hid (HFIN.out w3 A3 c3 (by rw [List.map_append]; exact hown3) hb3); clear hown3 hgr3 hb3 b5))
    obtain ⟨hr, hbf, g0⟩ := H3.out
    refine bodyPost_ret (v := .agg #[.slice A3 (k + 1) c3]) (by simp [results, Try.results30, go_sem, g0]) rfl ?_
    exact ⟨A3, k + 1, c3, rfl, hr, hbf⟩
  · have HD := Lib.hid (fun w1 hb => show Reads w1 w.heap.size 1 (some ⟨ad.block, ad.off + (k + 1), none⟩) (n - (k + 1)) ((vs.drop (k + 1)).map sc) from by
      have h := hDR w1 hb
      rw [Nat.mul_one, if_neg hck, List.map_drop.symm] at h
      have e : ad.add (k + 1) = ⟨ad.block, ad.off + (k + 1), none⟩ := by unfold Addr.add; rw [if_neg (by omega)]
      rw [← e]
      exact h)
    clear hDR
    go_enter Try.func30, Try.ntmps30
    go_wp2_with (first
      | (at_builtin; rw [← HW.out]; refine wpList_append_any _ rfl (.tmp 8) (.tmp 13) 27 rfl W.heap.size 58 i0 (.slice none 0 0) 1 24 Try.underlying27 hi hz0 hz1 hz2 rfl (by decide) (.slice none 0 0) 0 [] rfl (World.ownsRow_nil ..) w.heap.size _ k _ ((vs.take k).map sc) rfl (HT.out W HBW.out) (scs_one _) (by unfold maxLen; omega) (by omega) (Nat.le_refl _) ?_; intro v1 w1 hown1 hgr1 _; rw [Nat.zero_add, List.nil_append] at hown1; obtain ⟨A1, c1, rfl, _, _⟩ := own_shape hown1; have hb1 := below_own (World.ownsRow_nil W W.heap.size 58 1) hgr1 (Nat.le_refl _); have H1 := Lib.hid (And.intro hown1 hb1); obtain ⟨b0, b1, b2, b3, b4, b5⟩ := HB.out w1 hb1; clear hown1 hgr1 hb1 v0 vl)
      | (at_builtin; refine append_new rfl (.tmp 15) (.tmp 17) 27 58 58 rfl W.heap.size i0 (.slice none 0 0) 1 24 Try.underlying27 hi hz0 hz1 hz2 rfl (by decide) (by decide) (.slice A1 k c1) k ((vs.take k).map sc) rfl H1.out.1 rfl #[.slice sa sn sd] rfl (by intro u hu; simp at hu; subst hu; rfl) (by omega) H1.out.2.size ?_; intro v2 w2 hown2 hgr2 _; obtain ⟨A2, c2, rfl, _, _⟩ := own_shape hown2; have hb2 := H1.out.2.trans (below_own H1.out.1 hgr2 H1.out.2.size); have H2 := Lib.hid (And.intro (show w2.ownsRow W.heap.size 58 1 (.slice A2 (k + 1) c2) (k + 1) ((vs.take k ++ [(sa, sn, sd)]).map sc) by rw [List.map_append]; exact hown2) hb2); clear b0 b1 b2 b3 b4 b5; obtain ⟨b0, b1, b2, b3, b4, b5⟩ := HB.out w2 hb2; have HB5 := Lib.hid b5; clear hown2 hgr2 hb2 b5)
      | (at_builtin; refine wpList_append_any _ rfl (.tmp 19) (.tmp 24) 27 rfl W.heap.size 58 i0 (.slice none 0 0) 1 24 Try.underlying27 hi hz0 hz1 hz2 rfl (by decide) (.slice A2 (k + 1) c2) (k + 1) ((vs.take k ++ [(sa, sn, sd)]).map sc) rfl H2.out.1 _ _ (n - (k + 1)) _ ((vs.drop (k + 1)).map sc) rfl (HD.out w2 HB5.out) (scs_one _) (by unfold maxLen; omega) (by omega) H2.out.2.size ?_; intro v3 w3 hown3 hgr3 _; rw [show k + 1 + (n - (k + 1)) = n by omega] at hown3; obtain ⟨A3, c3, rfl, _, _⟩ := own_shape hown3; have hb3 := H2.out.2.trans (below_own H2.out.1 hgr3 H2.out.2.size); clear b0 b1 b2 b3 b4; obtain ⟨b0, b1, b2, b3, b4, b5⟩ := HB.out w3 hb3; have H3 := Lib.hid (HFIN.out w3 A3 c3 (by rw [List.map_append]; exact hown3) hb3); clear hown3 hgr3 hb3 b5))
    obtain ⟨hr, hbf, g0⟩ := H3.out
    refine bodyPost_ret (v := .agg #[.slice A3 n c3]) (by simp [results, Try.results30, go_sem, g0]) rfl ?_
    exact ⟨A3, n, c3, rfl, hr, hbf⟩
end Go.Proofs.Ytikbgaomiliefaa.Ro
