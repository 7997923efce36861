/- The document's cut: a list's numbers but for so many from a place on, with others between, in new memory. Conditions: both lists read; what is left out lies within. -/
import Derived.Test.YtfojempmgonahaaWhPlace
import Derived.Test.YtfojempmgonahaaWhApp
set_option linter.unusedVariables false
set_option linter.unusedSimpArgs false
set_option maxRecDepth 100000
namespace Go.Proofs.Ytfojempmgonahaa.Wh
open Go Go.RowKit
def CutPost (w : World) (l : List Int) (e : Ending) (w' : World) : Prop := ∃ A1 c1, e = .returned (.slice A1 l.length c1) ∧ w'.ownsRow w.heap.size 3 1 (.slice A1 l.length c1) l.length (ints l) ∧ Below w.heap.size w w' ∧ l.length ≤ c1 ∧ c1 ≤ maxLen
theorem reads_pre {w : World} {B n k : Nat} {A : Option Addr} {l : List Int} (h : Reads w B 1 A n (ints l)) (hk : k ≤ n) : Reads w B 1 A k (ints (l.take k)) := by
  have hl := h.len
  refine ⟨by rw [ints_len, List.length_take]; omega, fun hn => ?_⟩
  obtain ⟨ad, rfl, hb, hc⟩ := h.2 (by omega)
  refine ⟨ad, rfl, hb, fun j u hu => hc j u ?_⟩
  unfold ints at hu ⊢
  rw [List.map_take, List.getElem?_take] at hu
  split at hu
  · exact hu
  · simp at hu
theorem ints_dropk (l : List Int) (k : Nat) : (ints l).drop (k * 1) = ints (l.drop k) := by rw [Nat.mul_one]; simp [ints]
theorem ints_app (a b : List Int) : ints a ++ ints b = ints (a ++ b) := by simp [ints]
set_option maxHeartbeats 8000000 in
theorem cut_any (l x : List Int) (a m : Nat) {w : World} {B : Nat} {A A2 : Option Addr} {n c n2 c2 : Nat} (hR : Reads w B 1 A n (ints l)) (hX : Reads w B 1 A2 n2 (ints x)) (hB : B ≤ w.heap.size) (hn : n ≤ 1000000) (hn2 : n2 ≤ 1000000) (ham : a + m ≤ n) (hnc : n ≤ c) (hcm : c ≤ maxLen) :
    Calls Try.prog 23 #[.slice A n c, .int .i64 (a : Int), .int .i64 (m : Int), .slice A2 n2 c2] w (CutPost w (cutL l a m x)) := by
  obtain ⟨i0, hi, hz0, hz1, hz2⟩ := info_parts int_row
  have hln := hR.len
  have hlx := hX.len
  have HT := Lib.hid (fun w1 (hb : Below w.heap.size w w1) => (reads_pre hR (show a ≤ n by omega)).below (hb.mono hB))
  have HX := Lib.hid (fun w1 (hb : Below w.heap.size w w1) => hX.below (hb.mono hB))
  obtain ⟨k, hk⟩ : ∃ k, a + m = k := ⟨_, rfl⟩
  have hkz : (a : Int) + (m : Int) = (k : Int) := by omega
  have hkw : IntKind.i64.wrap (k : Int) = (k : Int) := by rw [IntKind.wrap_i64]; omega
  have hCL : Hid (cutL l a m x = l.take a ++ x ++ l.drop k) := Lib.hid (by unfold cutL; rw [hk])
  have hDR := fun w1 (hb : Below w.heap.size w w1) => (hR.below (hb.mono hB)).cut (k := k) (cap := c) (by omega) hnc
  have hll : (cutL l a m x).length = a + n2 + (n - k) := by unfold cutL; simp; omega
  have HLL := Lib.hid hll
  have hac : (a : Int) ≤ (c : Int) := by omega
  have hkn : (k : Int) ≤ (n : Int) := by omega
  have hkc : (k : Int) ≤ (c : Int) := by omega
  have hnz : (n : Int) ≤ (c : Int) := by omega
  have ha0 : (0 : Int) ≤ (a : Int) := by omega
  have hk0 : (0 : Int) ≤ (k : Int) := by omega
  have hk1 : k ≤ n := by omega
  have ha1 : a ≤ n := by omega
  have hA0 : A = none → n = 0 := fun e => by
    rcases Nat.eq_zero_or_pos n with h0 | h0
    · exact h0
    · obtain ⟨ad, h, _⟩ := hR.2 h0
      rw [e] at h
      cases h
  have hd0 : n = k → l.drop k = [] := fun e => List.drop_eq_nil_of_le (by omega)
  clear hR hX hll hk hln hlx
  rcases A with _ | ad
  · obtain rfl := hA0 rfl
    obtain rfl : a = 0 := by omega
    obtain rfl : m = 0 := by omega
    obtain rfl : k = 0 := by omega
    have HD := Lib.hid (fun w1 (hb : Below w.heap.size w w1) => (Reads.none_ : Reads w1 B 1 none 0 []))
    have hCL : Hid (cutL l 0 0 x = l.take 0 ++ x) := Lib.hid (by rw [hCL.out, hd0 rfl, List.append_nil])
    have HLL : Hid ((cutL l 0 0 x).length = n2 + 0) := Lib.hid (by rw [HLL.out]; omega)
    clear hDR hA0 hd0 ham
    by_cases hck : c = 0
    · subst hck
      go_enter Try.func23, Try.ntmps23
      go_wp2_with (first
        | (at_builtin; refine wpList_append_any _ rfl (.tmp 10) (.tmp 13) 25 rfl w.heap.size 3 i0 (.int .i64 0) 1 8 Try.underlying25 hi hz0 hz1 hz2 rfl (by decide) (.slice none 0 0) 0 [] rfl (World.ownsRow_nil ..) B _ 0 _ (ints (l.take 0)) rfl (HT.out w (Below.refl _ _)) (ints_one _) (by unfold maxLen; omega) (by omega) (Nat.le_refl _) ?_; intro v1 w1 hown1 hgr1 _; rw [Nat.zero_add, List.nil_append] at hown1; obtain ⟨A1, c1, rfl, _, _⟩ := own_shape hown1; have hb1 := below_own (World.ownsRow_nil w w.heap.size 3 1) hgr1 (Nat.le_refl _); have H1 := Lib.hid (And.intro hown1 hb1); clear hown1 hgr1 hb1)
        | (at_builtin; refine wpList_append_any _ rfl (.tmp 15) (.tmp 16) 25 rfl w.heap.size 3 i0 (.int .i64 0) 1 8 Try.underlying25 hi hz0 hz1 hz2 rfl (by decide) (.slice A1 0 c1) 0 (ints (l.take 0)) rfl H1.out.1 B _ n2 _ (ints x) rfl (HX.out _ H1.out.2) (ints_one _) (by unfold maxLen; omega) (by omega) H1.out.2.size ?_; intro v2 w2 hown2 hgr2 _; rw [ints_app, Nat.zero_add] at hown2; obtain ⟨A5, c5, rfl, _, _⟩ := own_shape hown2; have hb2 := H1.out.2.trans (below_own H1.out.1 hgr2 H1.out.2.size); have H2 := Lib.hid (And.intro hown2 hb2); clear hown2 hgr2 hb2)
        | (at_builtin; refine wpList_append_any _ rfl (.tmp 18) (.tmp 23) 25 rfl w.heap.size 3 i0 (.int .i64 0) 1 8 Try.underlying25 hi hz0 hz1 hz2 rfl (by decide) (.slice A5 n2 c5) n2 (ints (l.take 0 ++ x)) rfl H2.out.1 B _ (0) _ ([]) rfl (HD.out _ H2.out.2) (fun _ h => by cases h) (by unfold maxLen; omega) (by omega) H2.out.2.size ?_; intro v3 w3 hown3 hgr3 _; rw [List.append_nil] at hown3; have hb3 := H2.out.2.trans (below_own H2.out.1 hgr3 H2.out.2.size); have H3 := Lib.hid (And.intro hown3 hb3); clear hown3 hgr3 hb3))
      go_ret
      have ho := H3.out.1
      rw [← hCL.out, ← HLL.out] at ho
      obtain ⟨A3, c3, rfl, q1, q2⟩ := own_shape ho
      exact ⟨A3, c3, rfl, ho, H3.out.2, q1, q2⟩
    · have hc0 : ¬ (0 : Nat) = c := by omega
      go_enter Try.func23, Try.ntmps23
      go_wp2_with (first
        | (at_builtin; refine wpList_append_any _ rfl (.tmp 10) (.tmp 13) 25 rfl w.heap.size 3 i0 (.int .i64 0) 1 8 Try.underlying25 hi hz0 hz1 hz2 rfl (by decide) (.slice none 0 0) 0 [] rfl (World.ownsRow_nil ..) B _ 0 _ (ints (l.take 0)) rfl (HT.out w (Below.refl _ _)) (ints_one _) (by unfold maxLen; omega) (by omega) (Nat.le_refl _) ?_; intro v1 w1 hown1 hgr1 _; rw [Nat.zero_add, List.nil_append] at hown1; obtain ⟨A1, c1, rfl, _, _⟩ := own_shape hown1; have hb1 := below_own (World.ownsRow_nil w w.heap.size 3 1) hgr1 (Nat.le_refl _); have H1 := Lib.hid (And.intro hown1 hb1); clear hown1 hgr1 hb1)
        | (at_builtin; refine wpList_append_any _ rfl (.tmp 15) (.tmp 16) 25 rfl w.heap.size 3 i0 (.int .i64 0) 1 8 Try.underlying25 hi hz0 hz1 hz2 rfl (by decide) (.slice A1 0 c1) 0 (ints (l.take 0)) rfl H1.out.1 B _ n2 _ (ints x) rfl (HX.out _ H1.out.2) (ints_one _) (by unfold maxLen; omega) (by omega) H1.out.2.size ?_; intro v2 w2 hown2 hgr2 _; rw [ints_app, Nat.zero_add] at hown2; obtain ⟨A5, c5, rfl, _, _⟩ := own_shape hown2; have hb2 := H1.out.2.trans (below_own H1.out.1 hgr2 H1.out.2.size); have H2 := Lib.hid (And.intro hown2 hb2); clear hown2 hgr2 hb2)
        | (at_builtin; refine wpList_append_any _ rfl (.tmp 18) (.tmp 23) 25 rfl w.heap.size 3 i0 (.int .i64 0) 1 8 Try.underlying25 hi hz0 hz1 hz2 rfl (by decide) (.slice A5 n2 c5) n2 (ints (l.take 0 ++ x)) rfl H2.out.1 B _ (0) _ ([]) rfl (HD.out _ H2.out.2) (fun _ h => by cases h) (by unfold maxLen; omega) (by omega) H2.out.2.size ?_; intro v3 w3 hown3 hgr3 _; rw [List.append_nil] at hown3; have hb3 := H2.out.2.trans (below_own H2.out.1 hgr3 H2.out.2.size); have H3 := Lib.hid (And.intro hown3 hb3); clear hown3 hgr3 hb3))
      go_ret
      have ho := H3.out.1
      rw [← hCL.out, ← HLL.out] at ho
      obtain ⟨A3, c3, rfl, q1, q2⟩ := own_shape ho
      exact ⟨A3, c3, rfl, ho, H3.out.2, q1, q2⟩
  · by_cases hck : c = k
    · obtain rfl : n = k := by omega
      subst hck
      have HD := Lib.hid (fun w1 (hb : Below w.heap.size w w1) (A : Option Addr) => (⟨rfl, fun h => absurd h (by omega)⟩ : Reads w1 B 1 A 0 []))
      have hCL : Hid (cutL l a m x = l.take a ++ x) := Lib.hid (by rw [hCL.out, hd0 rfl, List.append_nil])
      have HLL : Hid ((cutL l a m x).length = a + n2 + 0) := Lib.hid (by rw [HLL.out, Nat.sub_self])
      clear hDR hA0 hd0 ham
      go_enter Try.func23, Try.ntmps23
      go_wp2_with (first
        | (at_builtin; refine wpList_append_any _ rfl (.tmp 10) (.tmp 13) 25 rfl w.heap.size 3 i0 (.int .i64 0) 1 8 Try.underlying25 hi hz0 hz1 hz2 rfl (by decide) (.slice none 0 0) 0 [] rfl (World.ownsRow_nil ..) B _ a _ (ints (l.take a)) rfl (HT.out w (Below.refl _ _)) (ints_one _) (by unfold maxLen; omega) (by omega) (Nat.le_refl _) ?_; intro v1 w1 hown1 hgr1 _; rw [Nat.zero_add, List.nil_append] at hown1; obtain ⟨A1, c1, rfl, _, _⟩ := own_shape hown1; have hb1 := below_own (World.ownsRow_nil w w.heap.size 3 1) hgr1 (Nat.le_refl _); have H1 := Lib.hid (And.intro hown1 hb1); clear hown1 hgr1 hb1)
        | (at_builtin; refine wpList_append_any _ rfl (.tmp 15) (.tmp 16) 25 rfl w.heap.size 3 i0 (.int .i64 0) 1 8 Try.underlying25 hi hz0 hz1 hz2 rfl (by decide) (.slice A1 a c1) a (ints (l.take a)) rfl H1.out.1 B _ n2 _ (ints x) rfl (HX.out _ H1.out.2) (ints_one _) (by unfold maxLen; omega) (by omega) H1.out.2.size ?_; intro v2 w2 hown2 hgr2 _; rw [ints_app] at hown2; obtain ⟨A5, c5, rfl, _, _⟩ := own_shape hown2; have hb2 := H1.out.2.trans (below_own H1.out.1 hgr2 H1.out.2.size); have H2 := Lib.hid (And.intro hown2 hb2); clear hown2 hgr2 hb2)
        | (at_builtin; refine wpList_append_any _ rfl (.tmp 18) (.tmp 23) 25 rfl w.heap.size 3 i0 (.int .i64 0) 1 8 Try.underlying25 hi hz0 hz1 hz2 rfl (by decide) (.slice A5 (a + n2) c5) (a + n2) (ints (l.take a ++ x)) rfl H2.out.1 B _ (0) _ ([]) rfl (HD.out _ H2.out.2 _) (fun _ h => by cases h) (by unfold maxLen; omega) (by omega) H2.out.2.size ?_; intro v3 w3 hown3 hgr3 _; rw [List.append_nil] at hown3; have hb3 := H2.out.2.trans (below_own H2.out.1 hgr3 H2.out.2.size); have H3 := Lib.hid (And.intro hown3 hb3); clear hown3 hgr3 hb3))
      go_ret
      have ho := H3.out.1
      rw [← hCL.out, ← HLL.out] at ho
      obtain ⟨A3, c3, rfl, q1, q2⟩ := own_shape ho
      exact ⟨A3, c3, rfl, ho, H3.out.2, q1, q2⟩
    · have HD := Lib.hid (fun w1 hb => show Reads w1 B 1 (some (ad.add k)) (n - k) (ints (l.drop k)) from by
        have h := hDR w1 hb
        rw [ints_dropk, if_neg hck, Nat.mul_one] at h
        exact h)
      clear hDR hA0 hd0 ham
      go_enter Try.func23, Try.ntmps23
      go_wp2_with (first
        | (at_builtin; refine wpList_append_any _ rfl (.tmp 10) (.tmp 13) 25 rfl w.heap.size 3 i0 (.int .i64 0) 1 8 Try.underlying25 hi hz0 hz1 hz2 rfl (by decide) (.slice none 0 0) 0 [] rfl (World.ownsRow_nil ..) B _ a _ (ints (l.take a)) rfl (HT.out w (Below.refl _ _)) (ints_one _) (by unfold maxLen; omega) (by omega) (Nat.le_refl _) ?_; intro v1 w1 hown1 hgr1 _; rw [Nat.zero_add, List.nil_append] at hown1; obtain ⟨A1, c1, rfl, _, _⟩ := own_shape hown1; have hb1 := below_own (World.ownsRow_nil w w.heap.size 3 1) hgr1 (Nat.le_refl _); have H1 := Lib.hid (And.intro hown1 hb1); clear hown1 hgr1 hb1)
        | (at_builtin; refine wpList_append_any _ rfl (.tmp 15) (.tmp 16) 25 rfl w.heap.size 3 i0 (.int .i64 0) 1 8 Try.underlying25 hi hz0 hz1 hz2 rfl (by decide) (.slice A1 a c1) a (ints (l.take a)) rfl H1.out.1 B _ n2 _ (ints x) rfl (HX.out _ H1.out.2) (ints_one _) (by unfold maxLen; omega) (by omega) H1.out.2.size ?_; intro v2 w2 hown2 hgr2 _; rw [ints_app] at hown2; obtain ⟨A5, c5, rfl, _, _⟩ := own_shape hown2; have hb2 := H1.out.2.trans (below_own H1.out.1 hgr2 H1.out.2.size); have H2 := Lib.hid (And.intro hown2 hb2); clear hown2 hgr2 hb2)
        | (at_builtin; refine wpList_append_any _ rfl (.tmp 18) (.tmp 23) 25 rfl w.heap.size 3 i0 (.int .i64 0) 1 8 Try.underlying25 hi hz0 hz1 hz2 rfl (by decide) (.slice A5 (a + n2) c5) (a + n2) (ints (l.take a ++ x)) rfl H2.out.1 B _ (n - k) _ (ints (l.drop k)) rfl (HD.out _ H2.out.2) (ints_one _) (by unfold maxLen; omega) (by omega) H2.out.2.size ?_; intro v3 w3 hown3 hgr3 _; rw [ints_app] at hown3; have hb3 := H2.out.2.trans (below_own H2.out.1 hgr3 H2.out.2.size); have H3 := Lib.hid (And.intro hown3 hb3); clear hown3 hgr3 hb3))
      go_ret
      have ho := H3.out.1
      rw [← hCL.out, ← HLL.out] at ho
      obtain ⟨A3, c3, rfl, q1, q2⟩ := own_shape ho
      exact ⟨A3, c3, rfl, ho, H3.out.2, q1, q2⟩
end Go.Proofs.Ytfojempmgonahaa.Wh
