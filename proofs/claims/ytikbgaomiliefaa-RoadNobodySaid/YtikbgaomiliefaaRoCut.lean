/- The document's cut: a list's letters but for so many from a place on, with others between, in new memory. Conditions: both lists read; what is left out lies within. -/
import Derived.Test.YtikbgaomiliefaaRoMem
set_option linter.unusedVariables false
set_option linter.unusedSimpArgs false
set_option maxRecDepth 100000
namespace Go.Proofs.Ytikbgaomiliefaa.Ro
open Go Go.RowKit
def CutPost (w : World) (l : List Lt) (e : Ending) (w' : World) : Prop := ∃ A1 c1, e = .returned (.slice A1 l.length c1) ∧ w'.ownsRow w.heap.size 34 3 (.slice A1 l.length c1) l.length (lts l) ∧ Below w.heap.size w w' ∧ l.length ≤ c1 ∧ c1 ≤ maxLen
set_option maxHeartbeats 8000000 in
theorem cut_any (l x : List Lt) (a m : Nat) {w : World} {B : Nat} {A A2 : Option Addr} {n c n2 c2 : Nat} (hR : Reads w B 3 A n (lts l)) (hX : Reads w B 3 A2 n2 (lts x)) (hB : B ≤ w.heap.size) (hn : n ≤ 1000000) (hn2 : n2 ≤ 1000000) (ham : a + m ≤ n) (hnc : n ≤ c) (hcm : c ≤ maxLen) :
    Calls Try.prog 31 #[.slice A n c, .int .i64 (a : Int), .int .i64 (m : Int), .slice A2 n2 c2] w (CutPost w (cutT l a m x)) := by
  obtain ⟨i0, hi, hz0, hz1, hz2⟩ := info_parts letter_row
  have hln := Ro.Reads.lts_len hR
  have hlx := Ro.Reads.lts_len hX
  have HT := Lib.hid (fun w1 (hb : Below w.heap.size w w1) => (reads_pre3 hR (show a ≤ n by omega)).below (hb.mono hB))
  have HX := Lib.hid (fun w1 (hb : Below w.heap.size w w1) => hX.below (hb.mono hB))
  obtain ⟨k, hk⟩ : ∃ k, a + m = k := ⟨_, rfl⟩
  have hkz : (a : Int) + (m : Int) = (k : Int) := by omega
  have hkw : IntKind.i64.wrap (k : Int) = (k : Int) := by rw [IntKind.wrap_i64]; omega
  have hCL : Hid (cutT l a m x = l.take a ++ x ++ l.drop k) := Lib.hid (by unfold cutT; rw [hk])
  have hDR := fun w1 (hb : Below w.heap.size w w1) => (hR.below (hb.mono hB)).cut (k := k) (cap := c) (by omega) hnc
  have hll : (cutT l a m x).length = a + n2 + (n - k) := by unfold cutT; simp; omega
  have HLL := Lib.hid hll
  have hac : (a : Int) ≤ (c : Int) := by omega
  have hkn : (k : Int) ≤ (n : Int) := by omega
  have hkc : (k : Int) ≤ (c : Int) := by omega
  have hnz : (n : Int) ≤ (c : Int) := by omega
  have ha0 : (0 : Int) ≤ (a : Int) := by omega
  have hk0 : (0 : Int) ≤ (k : Int) := by omega
  have hk1 : k ≤ n := by omega
  have ha1 : a ≤ n := by omega
  have hA0 : A = none → n = 0 := fun e => by
    rcases Nat.eq_zero_or_pos n with h0 | h0
    · exact h0
    · obtain ⟨ad, h, _⟩ := hR.2 h0
      rw [e] at h
      cases h
  have hd0 : n = k → l.drop k = [] := fun e => List.drop_eq_nil_of_le (by omega)
  clear hR hX hll hk hln hlx
  rcases A with _ | ad
  · obtain rfl := hA0 rfl
    obtain rfl : a = 0 := by omega
    obtain rfl : m = 0 := by omega
    obtain rfl : k = 0 := by omega
    have HD := Lib.hid (fun w1 (hb : Below w.heap.size w w1) => (Reads.none_ : Reads w1 B 3 none 0 []))
    have hCL : Hid (cutT l 0 0 x = l.take 0 ++ x) := Lib.hid (by rw [hCL.out, hd0 rfl, List.append_nil])
    have HLL : Hid ((cutT l 0 0 x).length = n2 + 0) := Lib.hid (by rw [HLL.out]; omega)
    clear hDR hA0 hd0 ham
    by_cases hck : c = 0
    · subst hck
      go_enter Try.func31, Try.ntmps31
      go_wp2_with (first
        | (at_builtin; refine wpList_append_any _ rfl (.tmp 10) (.tmp 13) 58 rfl w.heap.size 34 i0 _ 3 32 Try.underlying58 hi hz0 hz1 hz2 rfl (by decide) (.slice none 0 0) 0 [] rfl (World.ownsRow_nil ..) B _ 0 _ (lts (l.take 0)) rfl (HT.out w (Below.refl _ _)) (lts_one _) (by unfold maxLen; omega) (by omega) (Nat.le_refl _) ?_; intro v1 w1 hown1 hgr1 _; rw [Nat.zero_add, List.nil_append] at hown1; obtain ⟨A1, c1, rfl, _, _⟩ := own_shape hown1; have hb1 := below_own (World.ownsRow_nil w w.heap.size 34 3) hgr1 (Nat.le_refl _); have H1 := Lib.hid (And.intro hown1 hb1); clear hown1 hgr1 hb1)
        | (at_builtin; refine wpList_append_any _ rfl (.tmp 15) (.tmp 16) 58 rfl w.heap.size 34 i0 _ 3 32 Try.underlying58 hi hz0 hz1 hz2 rfl (by decide) (.slice A1 0 c1) 0 (lts (l.take 0)) rfl H1.out.1 B _ n2 _ (lts x) rfl (HX.out _ H1.out.2) (lts_one _) (by unfold maxLen; omega) (by omega) H1.out.2.size ?_; intro v2 w2 hown2 hgr2 _; rw [lts_app, Nat.zero_add] at hown2; obtain ⟨A5, c5, rfl, _, _⟩ := own_shape hown2; have hb2 := H1.out.2.trans (below_own H1.out.1 hgr2 H1.out.2.size); have H2 := Lib.hid (And.intro hown2 hb2); clear hown2 hgr2 hb2)
        | (at_builtin; refine wpList_append_any _ rfl (.tmp 18) (.tmp 23) 58 rfl w.heap.size 34 i0 _ 3 32 Try.underlying58 hi hz0 hz1 hz2 rfl (by decide) (.slice A5 n2 c5) n2 (lts (l.take 0 ++ x)) rfl H2.out.1 B _ (0) _ ([]) rfl (HD.out _ H2.out.2) (fun _ h => by cases h) (by unfold maxLen; omega) (by omega) H2.out.2.size ?_; intro v3 w3 hown3 hgr3 _; rw [List.append_nil] at hown3; have hb3 := H2.out.2.trans (below_own H2.out.1 hgr3 H2.out.2.size); have H3 := Lib.hid (And.intro hown3 hb3); clear hown3 hgr3 hb3))
      go_ret
      have ho := H3.out.1
      rw [← hCL.out, ← HLL.out] at ho
      obtain ⟨A3, c3, rfl, q1, q2⟩ := own_shape ho
      exact ⟨A3, c3, rfl, ho, H3.out.2, q1, q2⟩
    · have hc0 : ¬ (0 : Nat) = c := by omega
      go_enter Try.func31, Try.ntmps31
      go_wp2_with (first
        | (at_builtin; refine wpList_append_any _ rfl (.tmp 10) (.tmp 13) 58 rfl w.heap.size 34 i0 _ 3 32 Try.underlying58 hi hz0 hz1 hz2 rfl (by decide) (.slice none 0 0) 0 [] rfl (World.ownsRow_nil ..) B _ 0 _ (lts (l.take 0)) rfl (HT.out w (Below.refl _ _)) (lts_one _) (by unfold maxLen; omega) (by omega) (Nat.le_refl _) ?_; intro v1 w1 hown1 hgr1 _; rw [Nat.zero_add, List.nil_append] at hown1; obtain ⟨A1, c1, rfl, _, _⟩ := own_shape hown1; have hb1 := below_own (World.ownsRow_nil w w.heap.size 34 3) hgr1 (Nat.le_refl _); have H1 := Lib.hid (And.intro hown1 hb1); clear hown1 hgr1 hb1)
        | (at_builtin; refine wpList_append_any _ rfl (.tmp 15) (.tmp 16) 58 rfl w.heap.size 34 i0 _ 3 32 Try.underlying58 hi hz0 hz1 hz2 rfl (by decide) (.slice A1 0 c1) 0 (lts (l.take 0)) rfl H1.out.1 B _ n2 _ (lts x) rfl (HX.out _ H1.out.2) (lts_one _) (by unfold maxLen; omega) (by omega) H1.out.2.size ?_; intro v2 w2 hown2 hgr2 _; rw [lts_app, Nat.zero_add] at hown2; obtain ⟨A5, c5, rfl, _, _⟩ := own_shape hown2; have hb2 := H1.out.2.trans (below_own H1.out.1 hgr2 H1.out.2.size); have H2 := Lib.hid (And.intro hown2 hb2); clear hown2 hgr2 hb2)
        | (at_builtin; refine wpList_append_any _ rfl (.tmp 18) (.tmp 23) 58 rfl w.heap.size 34 i0 _ 3 32 Try.underlying58 hi hz0 hz1 hz2 rfl (by decide) (.slice A5 n2 c5) n2 (lts (l.take 0 ++ x)) rfl H2.out.1 B _ (0) _ ([]) rfl (HD.out _ H2.out.2) (fun _ h => by cases h) (by unfold maxLen; omega) (by omega) H2.out.2.size ?_; intro v3 w3 hown3 hgr3 _; rw [List.append_nil] at hown3; have hb3 := H2.out.2.trans (below_own H2.out.1 hgr3 H2.out.2.size); have H3 := Lib.hid (And.intro hown3 hb3); clear hown3 hgr3 hb3))
      go_ret
      have ho := H3.out.1
      rw [← hCL.out, ← HLL.out] at ho
      obtain ⟨A3, c3, rfl, q1, q2⟩ := own_shape ho
      exact ⟨A3, c3, rfl, ho, H3.out.2, q1, q2⟩
  · by_cases hck : c = k
    · obtain rfl : n = k := by omega
      subst hck
      have HD := Lib.hid (fun w1 (hb : Below w.heap.size w w1) (A : Option Addr) => (⟨rfl, fun h => absurd h (by omega)⟩ : Reads w1 B 3 A 0 []))
      have hCL : Hid (cutT l a m x = l.take a ++ x) := Lib.hid (by rw [hCL.out, hd0 rfl, List.append_nil])
      have HLL : Hid ((cutT l a m x).length = a + n2 + 0) := Lib.hid (by rw [HLL.out, Nat.sub_self])
      clear hDR hA0 hd0 ham
      go_enter Try.func31, Try.ntmps31
      go_wp2_with (first
        | (at_builtin; refine wpList_append_any _ rfl (.tmp 10) (.tmp 13) 58 rfl w.heap.size 34 i0 _ 3 32 Try.underlying58 hi hz0 hz1 hz2 rfl (by decide) (.slice none 0 0) 0 [] rfl (World.ownsRow_nil ..) B _ a _ (lts (l.take a)) rfl (HT.out w (Below.refl _ _)) (lts_one _) (by unfold maxLen; omega) (by omega) (Nat.le_refl _) ?_; intro v1 w1 hown1 hgr1 _; rw [Nat.zero_add, List.nil_append] at hown1; obtain ⟨A1, c1, rfl, _, _⟩ := own_shape hown1; have hb1 := below_own (World.ownsRow_nil w w.heap.size 34 3) hgr1 (Nat.le_refl _); have H1 := Lib.hid (And.intro hown1 hb1); clear hown1 hgr1 hb1)
        | (at_builtin; refine wpList_append_any _ rfl (.tmp 15) (.tmp 16) 58 rfl w.heap.size 34 i0 _ 3 32 Try.underlying58 hi hz0 hz1 hz2 rfl (by decide) (.slice A1 a c1) a (lts (l.take a)) rfl H1.out.1 B _ n2 _ (lts x) rfl (HX.out _ H1.out.2) (lts_one _) (by unfold maxLen; omega) (by omega) H1.out.2.size ?_; intro v2 w2 hown2 hgr2 _; rw [lts_app] at hown2; obtain ⟨A5, c5, rfl, _, _⟩ := own_shape hown2; have hb2 := H1.out.2.trans (below_own H1.out.1 hgr2 H1.out.2.size); have H2 := Lib.hid (And.intro hown2 hb2); clear hown2 hgr2 hb2)
        | (at_builtin; refine wpList_append_any _ rfl (.tmp 18) (.tmp 23) 58 rfl w.heap.size 34 i0 _ 3 32 Try.underlying58 hi hz0 hz1 hz2 rfl (by decide) (.slice A5 (a + n2) c5) (a + n2) (lts (l.take a ++ x)) rfl H2.out.1 B _ (0) _ ([]) rfl (HD.out _ H2.out.2 _) (fun _ h => by cases h) (by unfold maxLen; omega) (by omega) H2.out.2.size ?_; intro v3 w3 hown3 hgr3 _; rw [List.append_nil] at hown3; have hb3 := H2.out.2.trans (below_own H2.out.1 hgr3 H2.out.2.size); have H3 := Lib.hid (And.intro hown3 hb3); clear hown3 hgr3 hb3))
      go_ret
      have ho := H3.out.1
      rw [← hCL.out, ← HLL.out] at ho
      obtain ⟨A3, c3, rfl, q1, q2⟩ := own_shape ho
      exact ⟨A3, c3, rfl, ho, H3.out.2, q1, q2⟩
    · have HD := Lib.hid (fun w1 hb => show Reads w1 B 3 (some (ad.add (k * 3))) (n - k) (lts (l.drop k)) from by
        have h := hDR w1 hb
        rw [lts_drop, if_neg hck] at h
        exact h)
      clear hDR hA0 hd0 ham
      go_enter Try.func31, Try.ntmps31
      go_wp2_with (first
        | (at_builtin; refine wpList_append_any _ rfl (.tmp 10) (.tmp 13) 58 rfl w.heap.size 34 i0 _ 3 32 Try.underlying58 hi hz0 hz1 hz2 rfl (by decide) (.slice none 0 0) 0 [] rfl (World.ownsRow_nil ..) B _ a _ (lts (l.take a)) rfl (HT.out w (Below.refl _ _)) (lts_one _) (by unfold maxLen; omega) (by omega) (Nat.le_refl _) ?_; intro v1 w1 hown1 hgr1 _; rw [Nat.zero_add, List.nil_append] at hown1; obtain ⟨A1, c1, rfl, _, _⟩ := own_shape hown1; have hb1 := below_own (World.ownsRow_nil w w.heap.size 34 3) hgr1 (Nat.le_refl _); have H1 := Lib.hid (And.intro hown1 hb1); clear hown1 hgr1 hb1)
        | (at_builtin; refine wpList_append_any _ rfl (.tmp 15) (.tmp 16) 58 rfl w.heap.size 34 i0 _ 3 32 Try.underlying58 hi hz0 hz1 hz2 rfl (by decide) (.slice A1 a c1) a (lts (l.take a)) rfl H1.out.1 B _ n2 _ (lts x) rfl (HX.out _ H1.out.2) (lts_one _) (by unfold maxLen; omega) (by omega) H1.out.2.size ?_; intro v2 w2 hown2 hgr2 _; rw [lts_app] at hown2; obtain ⟨A5, c5, rfl, _, _⟩ := own_shape hown2; have hb2 := H1.out.2.trans (below_own H1.out.1 hgr2 H1.out.2.size); have H2 := Lib.hid (And.intro hown2 hb2); clear hown2 hgr2 hb2)
        | (at_builtin; refine wpList_append_any _ rfl (.tmp 18) (.tmp 23) 58 rfl w.heap.size 34 i0 _ 3 32 Try.underlying58 hi hz0 hz1 hz2 rfl (by decide) (.slice A5 (a + n2) c5) (a + n2) (lts (l.take a ++ x)) rfl H2.out.1 B _ (n - k) _ (lts (l.drop k)) rfl (HD.out _ H2.out.2) (lts_one _) (by unfold maxLen; omega) (by omega) H2.out.2.size ?_; intro v3 w3 hown3 hgr3 _; rw [lts_app] at hown3; have hb3 := H2.out.2.trans (below_own H2.out.1 hgr3 H2.out.2.size); have H3 := Lib.hid (And.intro hown3 hb3); clear hown3 hgr3 hb3))
      go_ret
      have ho := H3.out.1
      rw [← hCL.out, ← HLL.out] at ho
      obtain ⟨A3, c3, rfl, q1, q2⟩ := own_shape ho
      exact ⟨A3, c3, rfl, ho, H3.out.2, q1, q2⟩
end Go.Proofs.Ytikbgaomiliefaa.Ro
