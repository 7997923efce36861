/- What Put of the document's disk returns. Conditions: a disk in memory. -/
import Derived.Test.YtebcodbpgleoiaaRDskD
set_option linter.unusedVariables false
set_option linter.unusedSimpArgs false
namespace Go.Proofs.Ytebcodbpgleoiaa
open Go Go.RowKit
theorem rposte_out {w W w5 : World} {b : Nat} {P P5 : Nat → Prop} {v : Value} {er : Int} {su : List ByteArray} {l : List (Nat × ByteArray)} (hB : Below w.heap.size w W) (hb : b < W.heap.size) (hge : w.heap.size ≤ b) (hP : ∀ x, P x → x < w.heap.size)
    (hR5 : RD w5 P5 v su l) (hP5 : ∀ x, P5 x → P x ∨ W.heap.size ≤ x) (hB5 : Below W.heap.size W w5) (p q : Value) : RPostE P w su l er (.returned (.tuple #[v, .int .i64 er])) ((w5.setCell ⟨b, 0, none⟩ p).setCell ⟨b, 1, none⟩ q) := by
  have := hB.size
  refine ⟨_, P5, rfl, hR5.put (fun h => ?_) p q, fun x hx => (hP5 x hx).imp id (fun h => by omega), below_setCell (below_setCell (hB.trans (hB5.mono hB.size)) hge _) hge _⟩
  rcases hP5 b h with h | h
  · have := hP b h
    omega
  · omega
theorem rput_no {w : World} {P : Nat → Prop} {v : Value} {su : List ByteArray} {l : List (Nat × ByteArray)} (h : RD w P v su l) (z : Int) (s : ByteArray) (hz : z < 0 ∨ (su.length : Int) ≤ z ∨ 128 < s.size) : Calls Try.prog 11 #[v, .int .i64 z, .string s] w (RPostE P w su l 1) := by
  obtain ⟨A1, c1, A2, c2, rfl⟩ := h.form
  obtain ⟨W, hW⟩ : ∃ W, W = (w.alloc (.cells #[.slice A1 su.length c1, .slice A2 l.length c2] 31)).alloc (.cells #[.slice A1 su.length c1, .slice A2 l.length c2] 31) := ⟨_, rfl⟩
  have hB : Below w.heap.size w W := by rw [hW]; exact ((Below.refl _ w).alloc (Nat.le_refl _) _).alloc (by simp) _
  have fin : RPostE P w su l 1 (.returned (.tuple #[.agg #[.slice A1 su.length c1, .slice A2 l.length c2], .int .i64 1])) W := ⟨_, P, rfl, h.below hB, fun x hx => .inl hx, hB⟩
  rw [hW] at fin
  have FIN := Lib.hid fin
  clear h hB fin hW W
  by_cases h0 : z < 0
  · clear hz
    go_enter Try.func11, Try.ntmps11
    go_wp2_with fail
    exact bodyPost_ret (v := .tuple #[.agg #[.slice A1 su.length c1, .slice A2 l.length c2], .int .i64 1]) (by simp [results, Try.results11, go_sem]) rfl FIN.out
  · by_cases h1 : (su.length : Int) ≤ z
    · clear hz
      go_enter Try.func11, Try.ntmps11
      go_wp2_with fail
      exact bodyPost_ret (v := .tuple #[.agg #[.slice A1 su.length c1, .slice A2 l.length c2], .int .i64 1]) (by simp [results, Try.results11, go_sem]) rfl FIN.out
    · have h1' : z < (su.length : Int) := by omega
      have h2 : (128 : Int) < (s.size : Int) := by omega
      clear hz h1
      go_enter Try.func11, Try.ntmps11
      go_wp2_with fail
      exact bodyPost_ret (v := .tuple #[.agg #[.slice A1 su.length c1, .slice A2 l.length c2], .int .i64 1]) (by simp [results, Try.results11, go_sem]) rfl FIN.out
theorem rput_ok {w : World} {P : Nat → Prop} {v : Value} {su : List ByteArray} {l : List (Nat × ByteArray)} (h : RD w P v su l) (k : Nat) (hk : k < su.length) (s : ByteArray) (hs : s.size ≤ 128) (hl : l.length ≤ 1000000) (hsu : su.length ≤ 1000000) : Calls Try.prog 11 #[v, .int .i64 (k : Int), .string s] w (RPostE P w su (l ++ [(k, s)]) 0) := by
  obtain ⟨a, b, rfl, h1, h2⟩ := h.ex
  obtain ⟨A1, c1, rfl, hc1, hm1⟩ := h1.shape
  obtain ⟨A2, c2, rfl, hc2, hm2⟩ := h2.shape
  obtain ⟨W, hW⟩ : ∃ W, W = (w.alloc (.cells #[.slice A1 su.length c1, .slice A2 l.length c2] 31)).alloc (.cells #[.slice none 0 0, .slice none 0 0] 31) := ⟨_, rfl⟩
  have hB : Below w.heap.size w W := by rw [hW]; exact ((Below.refl _ w).alloc (Nat.le_refl _) _).alloc (by simp) _
  have hlt : W.heap.size = w.heap.size + 2 := by rw [hW]; simp
  have x : Row W w.heap.size 31 [.slice A1 su.length c1, .slice A2 l.length c2] := by
    rw [hW]
    have := Row.new w 31 [.slice A1 su.length c1, .slice A2 l.length c2]
    exact this.keep (heap_alloc_lt _ _ this.lt)
  have y : Row W (w.heap.size + 1) 31 [.slice none 0 0, .slice none 0 0] := by
    rw [hW]
    have := Row.new (w.alloc (.cells #[.slice A1 su.length c1, .slice A2 l.length c2] 31)) 31 [.slice none 0 0, .slice none 0 0]
    simpa using this
  have hz0 : w.heap.size < W.heap.size := by omega
  have hz1 : w.heap.size + 1 < W.heap.size := by omega
  have hkz : (k : Int) < (su.length : Int) := by omega
  have hsz : ¬ (128 : Int) < (s.size : Int) := by omega
  have hkz0 : ¬ (k : Int) < 0 := by omega
  have HX := Lib.hid (And.intro hB (And.intro (h1.below h.lt hB) (And.intro (h2.below h.lt hB) (And.intro x (And.intro y (And.intro hlt (And.intro h.lt (And.intro hl hW))))))))
  clear hB h1 h2 x y hlt h hW hs hl hk hc1 hm1 hc2 hm2
  go_enter Try.func11, Try.ntmps11
  go_wp2_with (first
    | (at_builtin; rw [← HX.out.2.2.2.2.2.2.2.2]; refine append_wrs rfl (.tmp 24) (.tmp 26) rfl W.heap.size (.slice none 0 0) 0 [] rfl (World.ownsRow_nil ..) P _ l.length l rfl HX.out.2.2.1 (by have := HX.out.2.2.2.2.2.2.2.1; omega) (Nat.le_refl _) ?_; intro v1 w1 hown1 hg1; rw [Nat.zero_add, List.nil_append] at hown1; have hb1 := (Below.refl W.heap.size W).grown hg1 (Nat.le_refl _) (fun g hg => by simp [Value.ownBlock] at hg); have x1 := HX.out.2.2.2.1.keep (hb1.block _ hz0); have H1 := Lib.hid (And.intro hown1 (And.intro hb1 x1)); clear hown1 hg1 hb1 x1)
    | (at_builtin; refine append_wr rfl (.tmp 28) (.tmp 32) rfl W.heap.size v1 l.length (l.flatMap wcell) (k, s) rfl H1.out.1 w1.heap.size rfl rfl HX.out.2.2.2.2.2.2.2.1 H1.out.2.1.size ?_; intro v2 w2 hown2 hg2; have hb2 := H1.out.2.1.grown hg2 H1.out.2.1.size (own_ge H1.out.1); obtain ⟨A3, c3, rfl, _, _⟩ := own_shape hown2; have x2 := HX.out.2.2.2.1.keep (hb2.block _ hz0); have y2 := HX.out.2.2.2.2.1.keep (hb2.block _ hz1); have xc := x2.cell (j := 0) rfl; have xd := x2.cell (j := 1) rfl; have xz := x2.frozen 1; have xl := x2.lt; have yc := y2.cell (j := 0) rfl; have yd := y2.cell (j := 1) rfl; have yz := y2.frozen 0; have yw := y2.frozen 1; have yl := y2.lt; have H2 := Lib.hid (And.intro hown2 (And.intro hb2 (And.intro x2 y2))); clear hown2 hg2 hb2 x2 y2)
    )
  have hneq : w.heap.size + 1 ≠ w.heap.size := by omega
  have y3 : Row (w2.setCell ⟨w.heap.size, 1, none⟩ (.slice A3 (l.length + 1) c3)) (w.heap.size + 1) 31 [.slice none 0 0, .slice none 0 0] := H2.out.2.2.2.keep (heap_set_ne _ _ _ (by show w.heap.size + 1 ≠ w.heap.size; omega))
  obtain ⟨q0, q1, q2⟩ := row2_set y3 (.slice A1 su.length c1) (.slice A3 (l.length + 1) c3)
  refine bodyPost_ret (v := .tuple #[.agg #[.slice A1 su.length c1, .slice A3 (l.length + 1) c3], .int .i64 0]) (by simp [results, Try.results11, go_sem, yl, q0, q1, q2]) rfl ?_
  have h1 := HX.out.2.1
  have hP := HX.out.2.2.2.2.2.2.1
  have hb2 := H2.out.2.1
  have hs2 := hb2.size
  have hfl : l.flatMap wcell ++ wcell (k, s) = (l ++ [(k, s)]).flatMap wcell := by simp
  have hown := H2.out.1
  rw [hfl] at hown
  have hR : RD w2 (fun b => P b ∨ (W.heap.size ≤ b ∧ b < w2.heap.size)) (.agg #[.slice A1 su.length c1, .slice A3 (l.length + 1) c3]) su (l ++ [(k, s)]) := by
    refine ⟨⟨_, _, rfl, (h1.keep (fun b hb => hb2.block b (Nat.lt_trans (hP b hb) (by omega)))).imp (fun b hb => .inl hb), ?_⟩, fun b hb => ?_⟩
    · have := (Sl.of_own hown).imp (P' := fun b => P b ∨ (W.heap.size ≤ b ∧ b < w2.heap.size)) (fun b hb => .inr hb)
      simpa using this
    · rcases hb with h | h
      · have := hP b h
        omega
      · exact h.2
  have hR' := hR.keep (w' := w2.setCell ⟨w.heap.size, 1, none⟩ (.slice A3 (l.length + 1) c3)) (fun b hb => heap_set_ne _ _ _ (by
    show b ≠ w.heap.size
    rcases hb with h | h
    · have := hP b h
      omega
    · omega)) (by simp)
  have hB := HX.out.1
  refine ⟨_, _, rfl, hR'.put (b := w.heap.size + 1) (fun h => ?_) _ _, fun b hb => hb.imp id (fun h => by omega), ?_⟩
  · rcases h with h | h
    · have := hP _ h
      omega
    · omega
  · exact below_setCell (below_setCell (below_setCell (hB.trans (hb2.mono (by omega))) (Nat.le_refl _) _) (by show w.heap.size ≤ w.heap.size + 1; omega) _) (by show w.heap.size ≤ w.heap.size + 1; omega) _
theorem rput_any {w : World} {P : Nat → Prop} {v : Value} {su : List ByteArray} {l : List (Nat × ByteArray)} (h : RD w P v su l) (z : Int) (s : ByteArray) (hl : l.length ≤ 1000000) (hsu : su.length ≤ 1000000) : Calls Try.prog 11 #[v, .int .i64 z, .string s] w (RPostE P w su (putL su.length l z s) (putE su.length z s)) := by
  by_cases hp : 0 ≤ z ∧ z < (su.length : Int) ∧ s.size ≤ 128
  · have hb : putB su.length z s = true := by simp [putB, hp.1, hp.2.1, hp.2.2]
    obtain ⟨k, rfl⟩ : ∃ k : Nat, z = k := ⟨z.toNat, by omega⟩
    unfold putE putL
    rw [hb]
    exact rput_ok h k (by omega) s hp.2.2 hl hsu
  · have hb : putB su.length z s = false := by
      by_cases h0 : 0 ≤ z
      · by_cases h1 : z < (su.length : Int)
        · have : ¬ s.size ≤ 128 := fun h2 => hp ⟨h0, h1, h2⟩
          simp only [putB, decide_eq_false this, Bool.and_false]
        · simp only [putB, decide_eq_false h1, Bool.and_false, Bool.false_and]
      · simp only [putB, decide_eq_false h0, Bool.false_and]
    unfold putE putL
    rw [hb]
    exact rput_no h z s (by omega)
theorem rget_all {w : World} {P : Nat → Prop} {v : Value} {su : List ByteArray} {l : List (Nat × ByteArray)} (h : RD w P v su l) (z : Int) (hl : l.length ≤ 1000000) (hs : su.length ≤ 1000000) : Calls Try.prog 14 #[v, .int .i64 z] w (GPost w (getS (setsP l su) z) (getE su.length z)) := by
  unfold getS getE
  rw [setsP_len]
  by_cases hp : 0 ≤ z ∧ z < (su.length : Int)
  · have hb : hasB su.length z = true := by simp [hasB, hp.1, hp.2]
    obtain ⟨k, rfl⟩ : ∃ k : Nat, z = k := ⟨z.toNat, by omega⟩
    rw [hb]
    exact rget_any h k (by omega) hl hs
  · have hb : hasB su.length z = false := by
      by_cases h0 : 0 ≤ z
      · have h1 : ¬ z < (su.length : Int) := fun h1 => hp ⟨h0, h1⟩
        simp only [hasB, decide_eq_false h1, Bool.and_false]
      · simp only [hasB, decide_eq_false h0, Bool.false_and]
    rw [hb]
    exact rget_no h z (by omega)
end Go.Proofs.Ytebcodbpgleoiaa
