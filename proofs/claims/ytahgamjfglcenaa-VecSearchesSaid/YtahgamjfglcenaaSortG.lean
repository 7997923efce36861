/- choosePivot_func of package sort, and what it calls: which place is taken. Conditions: the row as SortA says; at least eight of them. -/
import Derived.Test.YtahgamjfglcenaaSortB
set_option linter.unusedVariables false
set_option linter.unusedSimpArgs false
namespace Go.Proofs.Ytahgamjfglcenaa
open Go Go.RowKit
/-- The row stands; the counter at cs has s; nothing else that was there has changed. -/
structure Cnt (c0 blk n cap cs s : Nat) (d : Array Hit) (W0 W : World) : Prop where
  st : St c0 blk n cap d W
  box : Box W cs 3 (.int .i64 s)
  n1 : cs ≠ blk
  n2 : cs ≠ c0
  since : W0.grownBy W (some cs)
section
variable {c0 blk n cap cs s s' : Nat} {d : Array Hit} {W0 W W' : World}
theorem Cnt.below (h : Cnt c0 blk n cap cs s d W0 W) (hb : Below W.heap.size W W') : Cnt c0 blk n cap cs s d W0 W' :=
  ⟨h.st.below hb, h.box.below hb h.box.lt, h.n1, h.n2, grown_then h.since (grown_below hb _)⟩
theorem Cnt.start (h : Cnt c0 blk n cap cs s d W0 W) : Cnt c0 blk n cap cs s d W W := ⟨h.st, h.box, h.n1, h.n2, World.grownBy.refl W _⟩
theorem Cnt.then (h : Cnt c0 blk n cap cs s d W0 W) (k : Cnt c0 blk n cap cs s' d W W') : Cnt c0 blk n cap cs s' d W0 W' := ⟨k.st, k.box, k.n1, k.n2, grown_then h.since k.since⟩
theorem grown_set (W : World) (c : Nat) (v : Value) : W.grownBy (W.setCell ⟨c, 0, none⟩ v) (some c) := by
  refine ⟨rfl, rfl, rfl, by simp, fun b _ hb => ?_⟩
  simp only [World.setCell, Array.getElem?_modify]
  rw [if_neg (fun h => hb (by rw [h]))]
theorem Cnt.set (h : Cnt c0 blk n cap cs s d W0 W) (s' : Nat) : Cnt c0 blk n cap cs s' d W0 (W.setCell ⟨cs, 0, none⟩ (.int .i64 s')) :=
  ⟨h.st.other (grown_set W cs _) h.n1 h.n2, h.box.set _, h.n1, h.n2, grown_then h.since (grown_set W cs _)⟩
end
def Ord (c0 blk n cap cs s a b : Nat) (d : Array Hit) (W : World) (e : Ending) (w' : World) : Prop :=
  ∃ x y s' : Nat, e = .returned (.tuple #[.int .i64 x, .int .i64 y]) ∧ ((x = a ∧ y = b) ∨ (x = b ∧ y = a)) ∧ s' ≤ s + 1 ∧ Cnt c0 blk n cap cs s' d W w'
set_option maxHeartbeats 2000000 in
theorem order2_any {c0 blk n cap cs s : Nat} {sb : Array Value} (a b : Nat) (d : Array Hit) (W : World) (hC : Cnt c0 blk n cap cs s d W W) (ha : a < n) (hb : b < n) (hs : s ≤ 1000) (hn : n ≤ 4611686018427387000) :
    Calls Try.prog 60 #[.agg #[lessV c0, swapV sb], .int .i64 a, .int .i64 b, .pointer (some ⟨cs, 0, none⟩)] W (Ord c0 blk n cap cs s a b d W) := by
  have hb0 : Below W.heap.size W (W.alloc (.cells #[lessV c0, swapV sb] 69)) := (Below.refl _ W).alloc (Nat.le_refl _) _
  have hC1 := hC.below hb0
  have hc := clo_any hC1.st b a hb ha (by omega)
  have HC := Lib.hid hc
  have HC1 := Lib.hid hC1
  clear hc hC hC1 hb0
  cases hv : hlt d[b]! d[a]! with
  | true =>
    rw [hv] at HC
    clear hv
    go_enter Try.func60, Try.ntmps60
    go_wp2_with fail
    refine HC.out.mono ?_
    rintro e w3 ⟨rfl, hb3⟩
    have hC3 := HC1.out.below hb3
    have k0 := hC3.box.cell
    have k1 := hC3.box.frozen
    have k2 := hC3.box.lt
    have HC3 := Lib.hid (hC3.set (s + 1))
    clear hC3 hb3
    go_wp2_with fail
    go_ret2
    refine ⟨b, a, s + 1, rfl, .inr ⟨rfl, rfl⟩, Nat.le_refl _, ?_⟩
    have h := HC3.out
    rw [show (((s + 1 : Nat) : Int)) = (s : Int) + 1 by omega] at h
    exact h
  | false =>
    rw [hv] at HC
    clear hv
    go_enter Try.func60, Try.ntmps60
    go_wp2_with fail
    refine HC.out.mono ?_
    rintro e w3 ⟨rfl, hb3⟩
    have HC3 := Lib.hid (HC1.out.below hb3)
    clear hb3
    go_wp2_with fail
    go_ret2
    exact ⟨a, b, s, rfl, .inl ⟨rfl, rfl⟩, by omega, HC3.out⟩
theorem pair_keep {c0 b cs : Nat} {sb : Array Value} {X Y : World} (hne : b ≠ cs) (hX : X.heap[b]? = some (.cells #[lessV c0, swapV sb] 69 (0, 0))) (hg : X.grownBy Y (some cs)) : Y.heap[b]? = some (.cells #[lessV c0, swapV sb] 69 (0, 0)) :=
  (hg.block _ (Array.getElem?_eq_some_iff.1 hX).1 (by simpa using hne)).trans hX
theorem pair_cells {c0 b : Nat} {sb : Array Value} {X : World} (hX : X.heap[b]? = some (.cells #[lessV c0, swapV sb] 69 (0, 0))) : X.cell? ⟨b, 0, none⟩ = some (lessV c0) ∧ X.cell? ⟨b, 1, none⟩ = some (swapV sb) := by
  constructor <;> (simp only [World.cell?, hX]; rfl)
def Med (c0 blk n cap cs s k lo hi : Nat) (d : Array Hit) (W : World) (e : Ending) (w' : World) : Prop :=
  ∃ x s' : Nat, e = .returned (.int .i64 x) ∧ (lo ≤ x ∧ x < hi) ∧ s' ≤ s + k ∧ Cnt c0 blk n cap cs s' d W w'
set_option maxHeartbeats 2000000 in
theorem median_any {c0 blk n cap cs s : Nat} {sb : Array Value} (a b c lo hi : Nat) (d : Array Hit) (W : World) (hC : Cnt c0 blk n cap cs s d W W) (ha : lo ≤ a ∧ a < hi) (hb : lo ≤ b ∧ b < hi) (hc : lo ≤ c ∧ c < hi) (hh : hi ≤ n) (hs : s ≤ 900) (hn : n ≤ 4611686018427387000) :
    Calls Try.prog 59 #[.agg #[lessV c0, swapV sb], .int .i64 a, .int .i64 b, .int .i64 c, .pointer (some ⟨cs, 0, none⟩)] W (Med c0 blk n cap cs s 3 lo hi d W) := by
  have hb0 : Below W.heap.size W (W.alloc (.cells #[lessV c0, swapV sb] 69)) := (Below.refl _ W).alloc (Nat.le_refl _) _
  have hC1 := hC.below hb0
  have h1 := order2_any (sb := sb) a b d _ hC1.start (by omega) (by omega) (by omega) hn
  have p0 : (W.alloc (.cells #[lessV c0, swapV sb] 69)).heap[W.heap.size]? = some (.cells #[lessV c0, swapV sb] 69 (0, 0)) := heap_alloc_new W _
  have hne : W.heap.size ≠ cs := by have := hC.box.lt; omega
  have H1 := Lib.hid h1
  have HC1 := Lib.hid hC1
  have HP := Lib.hid p0
  clear h1 hC1 hC hb0 p0
  go_enter Try.func59, Try.ntmps59
  go_wp2_with fail
  refine H1.out.mono ?_
  rintro e w1 ⟨a1, b1, s1, rfl, hab, hs1, hK1⟩
  have HP1 := Lib.hid (pair_keep hne HP.out hK1.since)
  obtain ⟨q0, q1⟩ := pair_cells HP1.out
  have h2 := order2_any (sb := sb) b1 c d _ hK1.start (by omega) (by omega) (by omega) hn
  have H2 := Lib.hid h2
  have HK1 := Lib.hid hK1
  clear h2 hK1
  go_wp2_with fail
  refine H2.out.mono ?_
  rintro e w2 ⟨b2, c2, s2, rfl, hbc, hs2, hK2⟩
  have HP2 := Lib.hid (pair_keep hne HP1.out hK2.since)
  clear q0 q1
  obtain ⟨q0, q1⟩ := pair_cells HP2.out
  have h3 := order2_any (sb := sb) a1 b2 d _ hK2.start (by omega) (by omega) (by omega) hn
  have H3 := Lib.hid h3
  have HK2 := Lib.hid hK2
  clear h3 hK2
  go_wp2_with fail
  refine H3.out.mono ?_
  rintro e w3 ⟨a3, b3, s3, rfl, hab3, hs3, hK3⟩
  have HK := Lib.hid (((HC1.out.then HK1.out).then HK2.out).then hK3)
  have HX : Hid ((lo ≤ b3 ∧ b3 < hi) ∧ s3 ≤ s + 3) := Lib.hid (by omega)
  clear hK3 hab hbc hab3 q0 q1
  go_wp2_with fail
  go_ret
  exact ⟨b3, s3, rfl, HX.out.1, HX.out.2, HK.out⟩
set_option maxHeartbeats 2000000 in
theorem adjacent_any {c0 blk n cap cs s : Nat} {sb : Array Value} (a lo hi : Nat) (d : Array Hit) (W : World) (hC : Cnt c0 blk n cap cs s d W W) (ha : lo + 1 ≤ a ∧ a + 1 < hi) (hh : hi ≤ n) (hs : s ≤ 900) (hn : n ≤ 4611686018427387000) :
    Calls Try.prog 58 #[.agg #[lessV c0, swapV sb], .int .i64 a, .pointer (some ⟨cs, 0, none⟩)] W (Med c0 blk n cap cs s 3 lo hi d W) := by
  have hb0 : Below W.heap.size W (W.alloc (.cells #[lessV c0, swapV sb] 69)) := (Below.refl _ W).alloc (Nat.le_refl _) _
  have hC1 := hC.below hb0
  have h1 := median_any (sb := sb) (a - 1) a (a + 1) lo hi d _ hC1.start (by omega) (by omega) (by omega) hh hs hn
  rw [show ((a - 1 : Nat) : Int) = (a : Int) - 1 by omega, show ((a + 1 : Nat) : Int) = (a : Int) + 1 by omega] at h1
  have H1 := Lib.hid h1
  have HC1 := Lib.hid hC1
  clear h1 hC1 hC hb0
  go_enter Try.func58, Try.ntmps58
  go_wp2_with fail
  refine H1.out.mono ?_
  rintro e w1 ⟨x, s1, rfl, hx, hs1, hK1⟩
  have HK := Lib.hid (HC1.out.then hK1)
  clear hK1
  go_wp2_with fail
  go_ret
  exact ⟨x, s1, rfl, hx, hs1, HK.out⟩
/-- A place between, and a hint; what was there is as it was. -/
def Piv (c0 blk n cap a l : Nat) (d : Array Hit) (W : World) (e : Ending) (w' : World) : Prop :=
  ∃ (x : Nat) (h : Int), e = .returned (.tuple #[.int .i64 x, .int .i64 h]) ∧ (a ≤ x ∧ x < a + l) ∧ (h = 0 ∨ h = 1 ∨ h = 2) ∧ Below W.heap.size W w'
theorem Cnt.end_ {c0 blk n cap s : Nat} {d : Array Hit} {W W1 W' : World} (h : Cnt c0 blk n cap W1.heap.size s d (W1.alloc (.cells #[.int .i64 0] 3)) W') (hb : Below W.heap.size W W1) : Below W.heap.size W W' := by
  have hs := hb.size
  have hg := h.since
  refine (hb.alloc (by omega) (.cells #[.int .i64 0] 3)).trans ?_
  refine ⟨hg.os, hg.tape, hg.output, by have := hg.size; simp at this ⊢; omega, fun b hb => hg.block b (by simp; omega) (by simp; omega)⟩
theorem quarter (l : Nat) : (l : Int).tdiv 4 = ((l / 4 : Nat) : Int) := by rw [Int.tdiv_eq_ediv_of_nonneg (by omega)]; simp
theorem cnt_start {c0 blk n cap : Nat} {d : Array Hit} {W1 : World} (h : St c0 blk n cap d W1) : Cnt c0 blk n cap W1.heap.size 0 d (W1.alloc (.cells #[.int .i64 0] 3)) (W1.alloc (.cells #[.int .i64 0] 3)) :=
  ⟨h.below ((Below.refl _ W1).alloc (Nat.le_refl _) _), Box.new W1 3 (.int .i64 0), by have := h.lt; omega, by have := h.box.lt; omega, World.grownBy.refl _ _⟩
set_option maxHeartbeats 8000000 in
theorem pivot_any {c0 blk n cap : Nat} {sb : Array Value} (E : Env blk n sb) (a l : Nat) (d : Array Hit) (W : World) (hS : St c0 blk n cap d W) (h8 : 8 ≤ l) (hb : a + l ≤ n) :
    Calls Try.prog 50 #[.agg #[lessV c0, swapV sb], .int .i64 a, .int .i64 ((a + l : Nat) : Int)] W (Piv c0 blk n cap a l d W) := by
  have hn := E.hn
  have hb0 : Below W.heap.size W (W.alloc (.cells #[lessV c0, swapV sb] 69)) := (Below.refl _ W).alloc (Nat.le_refl _) _
  have hS1 := hS.below hb0
  have p0 : (W.alloc (.cells #[lessV c0, swapV sb] 69)).heap[W.heap.size]? = some (.cells #[lessV c0, swapV sb] 69 (0, 0)) := heap_alloc_new W _
  have hsz : (W.alloc (.cells #[lessV c0, swapV sb] 69)).heap.size = W.heap.size + 1 := by simp
  have hC := cnt_start hS1
  have p1 : ((W.alloc (.cells #[lessV c0, swapV sb] 69)).alloc (.cells #[.int .i64 0] 3)).heap[W.heap.size]? = some (.cells #[lessV c0, swapV sb] 69 (0, 0)) := (Below.heap_alloc _ _ _ (by rw [hsz]; omega)).trans p0
  have HE := Lib.hid (fun (w' : World) (s : Nat) (h : Cnt c0 blk n cap (W.alloc (.cells #[lessV c0, swapV sb] 69)).heap.size s d ((W.alloc (.cells #[lessV c0, swapV sb] 69)).alloc (.cells #[.int .i64 0] 3)) w') => h.end_ hb0)
  rw [hsz] at hC HE
  generalize hW : (W.alloc (.cells #[lessV c0, swapV sb] 69)).alloc (.cells #[.int .i64 0] 3) = W2 at *
  have HW := Lib.hid hW
  have HC := Lib.hid hC
  have HP := Lib.hid p1
  have hne : W.heap.size ≠ W.heap.size + 1 := by omega
  have hlz : (a : Int) + (l : Int) - (a : Int) = (l : Int) := by omega
  have hqz := quarter l
  obtain ⟨q, hq⟩ : ∃ q, q = l / 4 := ⟨_, rfl⟩
  rw [← hq] at hqz
  have hq1 : 4 * q ≤ l := by omega
  have hq2 : 2 ≤ q := by omega
  have hqz2 : (l : Int) / 4 = (q : Int) := by omega
  rw [show ((a + l : Nat) : Int) = (a : Int) + (l : Int) by omega]
  clear hS hS1 p0 p1 hC hW hb0 hsz hq E
  by_cases h50 : 50 ≤ l
  · have h8z : (8 : Int) ≤ (l : Int) := by omega
    have h50z : (50 : Int) ≤ (l : Int) := by omega
    have hm1 := adjacent_any (sb := sb) (a + q) a (a + l) d W2 HC.out (by omega) hb (by omega) hn
    rw [show ((a + q : Nat) : Int) = (a : Int) + (q : Int) by omega] at hm1
    have HM1 := Lib.hid hm1
    clear hm1
    obtain ⟨q0, q1⟩ := pair_cells HP.out
    go_enter Try.func50, Try.ntmps50
    go_wp2_with fail
    rw [HW.out]
    refine HM1.out.mono ?_
    rintro e w1 ⟨x1, s1, rfl, hx1, hs1, hK1⟩
    have HP1 := Lib.hid (pair_keep hne HP.out hK1.since)
    clear q0 q1
    obtain ⟨q0, q1⟩ := pair_cells HP1.out
    have hm2 := adjacent_any (sb := sb) (a + q * 2) a (a + l) d w1 hK1.start (by omega) hb (by omega) hn
    rw [show ((a + q * 2 : Nat) : Int) = (a : Int) + (q : Int) * 2 by omega] at hm2
    have HM2 := Lib.hid hm2
    have HK1 := Lib.hid hK1
    clear hm2 hK1
    go_wp2_with fail
    refine HM2.out.mono ?_
    rintro e w2 ⟨x2, s2, rfl, hx2, hs2, hK2⟩
    have HP2 := Lib.hid (pair_keep hne HP1.out hK2.since)
    clear q0 q1
    obtain ⟨q0, q1⟩ := pair_cells HP2.out
    have hm3 := adjacent_any (sb := sb) (a + q * 3) a (a + l) d w2 hK2.start (by omega) hb (by omega) hn
    rw [show ((a + q * 3 : Nat) : Int) = (a : Int) + (q : Int) * 3 by omega] at hm3
    have HM3 := Lib.hid hm3
    have HK2 := Lib.hid hK2
    clear hm3 hK2
    go_wp2_with fail
    refine HM3.out.mono ?_
    rintro e w3 ⟨x3, s3, rfl, hx3, hs3, hK3⟩
    have HP3 := Lib.hid (pair_keep hne HP2.out hK3.since)
    clear q0 q1
    obtain ⟨q0, q1⟩ := pair_cells HP3.out
    have hm4 := median_any (sb := sb) x1 x2 x3 a (a + l) d w3 hK3.start hx1 hx2 hx3 hb (by omega) hn
    have HM4 := Lib.hid hm4
    have HK3 := Lib.hid hK3
    clear hm4 hK3
    go_wp2_with fail
    refine HM4.out.mono ?_
    rintro e w4 ⟨x, s4, rfl, hx, hs4, hK4⟩
    have k0 := hK4.box.cell
    have HF := Lib.hid (HE.out _ _ ((((HC.out.then HK1.out).then HK2.out).then HK3.out).then hK4))
    clear hK4 q0 q1
    by_cases h0 : s4 = 0
    · subst h0
      go_wp2_with fail
      go_ret2
      exact ⟨x, 1, rfl, hx, by simp, HF.out⟩
    · by_cases h12 : s4 = 12
      · subst h12
        go_wp2_with fail
        go_ret2
        exact ⟨x, 2, rfl, hx, by simp, HF.out⟩
      · have t0 : ((s4 : Int) == 0) = false := by rw [beq_eq_false_iff_ne]; omega
        have t12 : ((s4 : Int) == 12) = false := by rw [beq_eq_false_iff_ne]; omega
        go_wp2_with fail
        go_ret2
        exact ⟨x, 0, rfl, hx, by simp, HF.out⟩
  · have h8z : (8 : Int) ≤ (l : Int) := by omega
    have h50z : ¬ (50 : Int) ≤ (l : Int) := by omega
    have hm := median_any (sb := sb) (a + q * 1) (a + q * 2) (a + q * 3) a (a + l) d W2 HC.out (by omega) (by omega) (by omega) hb (by omega) hn
    rw [show ((a + q * 1 : Nat) : Int) = (a : Int) + (q : Int) by omega, show ((a + q * 2 : Nat) : Int) = (a : Int) + (q : Int) * 2 by omega, show ((a + q * 3 : Nat) : Int) = (a : Int) + (q : Int) * 3 by omega] at hm
    have HM := Lib.hid hm
    clear hm
    go_enter Try.func50, Try.ntmps50
    go_wp2_with fail
    rw [HW.out]
    refine HM.out.mono ?_
    rintro e w1 ⟨x, s1, rfl, hx, hs1, hK1⟩
    have k0 := hK1.box.cell
    have HF := Lib.hid (HE.out _ _ (HC.out.then hK1))
    clear hK1
    by_cases h0 : s1 = 0
    · subst h0
      go_wp2_with fail
      go_ret2
      exact ⟨x, 1, rfl, hx, by simp, HF.out⟩
    · by_cases h12 : s1 = 12
      · subst h12
        go_wp2_with fail
        go_ret2
        exact ⟨x, 2, rfl, hx, by simp, HF.out⟩
      · have t0 : ((s1 : Int) == 0) = false := by rw [beq_eq_false_iff_ne]; omega
        have t12 : ((s1 : Int) == 12) = false := by rw [beq_eq_false_iff_ne]; omega
        go_wp2_with fail
        go_ret2
        exact ⟨x, 0, rfl, hx, by simp, HF.out⟩
end Go.Proofs.Ytahgamjfglcenaa
