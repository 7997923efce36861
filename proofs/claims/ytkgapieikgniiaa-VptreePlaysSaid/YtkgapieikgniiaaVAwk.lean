/- Top of a tree by its points alone; awake of the laws. Conditions: a tree that New gave, in memory. -/
import Derived.Test.YtkgapieikgniiaaVTop
import Derived.Test.YtkgapieikgniiaaVSame
set_option linter.unusedVariables false
set_option linter.unusedSimpArgs false
namespace Go.Proofs.Ytkgapieikgniiaa
open Go Go.RowKit Go.Maps
section
variable {w w' : World} {F : Nat → Prop} {t dim : Nat} {T : List Pnt}
theorem t_top_bad (h : Tree w F t dim T) {A : Option Addr} {n c C : Nat} {vec : List Int} (hR : Reads w C 1 A n (ints vec)) (hC : C ≤ w.heap.size) (hn : n ≤ maxLen) (kz lim : Int) (hk : ck vec dim = 50) :
    Calls Try.prog 21 #[.pointer (some ⟨t, 0, none⟩), .slice A n c, .int .i64 kz, .int .i64 lim] w fun e w' => e = .returned (.tuple #[.slice none 0 0, .int .i64 50]) ∧ Below w.heap.size w w' := by
  obtain ⟨⟨bm, fm, rv, N, B, U, hm, hp⟩, hr⟩ := h
  exact top_bad hm hR hC hn kz lim hk
theorem t_top_k (h : Tree w F t dim T) {A : Option Addr} {n c C : Nat} {vec : List Int} (hR : Reads w C 1 A n (ints vec)) (hC : C ≤ w.heap.size) (hn : n ≤ maxLen) (kz lim : Int) (hk : ck vec dim = 0) (hkz : kz < 1 ∨ 64 < kz) :
    Calls Try.prog 21 #[.pointer (some ⟨t, 0, none⟩), .slice A n c, .int .i64 kz, .int .i64 lim] w fun e w' => e = .returned (.tuple #[.slice none 0 0, .int .i64 51]) ∧ Below w.heap.size w w' := by
  obtain ⟨⟨bm, fm, rv, N, B, U, hm, hp⟩, hr⟩ := h
  exact top_k hm hR hC hn kz lim hk hkz
theorem t_top (h : Tree w F t dim T) {A : Option Addr} {n c C k : Nat} {vec : List Int} (hR : Reads w C 1 A n (ints vec)) (hC : C ≤ w.heap.size) (hn : n ≤ maxLen) (lim : Int) (hk : ck vec dim = 0) (hk1 : 1 ≤ k) (hk2 : k ≤ 64) :
    Calls Try.prog 21 #[.pointer (some ⟨t, 0, none⟩), .slice A n c, .int .i64 (k : Int), .int .i64 lim] w (TopPost T vec k lim w) := by
  obtain ⟨⟨bm, fm, rv, N, B, U, hm, hp⟩, hr⟩ := h
  exact top_any hm (hR.more hC) hn lim hk hk1 hk2 hp
end
/-- A tree of the call's own: all its blocks lie from a place on, and nothing below has turned. -/
structure Mine (b0 : Nat) (w0 w : World) (F : Nat → Prop) (t dim : Nat) (T : List Pnt) : Prop where
  tree : Tree w F t dim T
  up : ∀ b, F b → b0 ≤ b
  below : Below b0 w0 w
  le : b0 ≤ w.heap.size
section
variable {b0 : Nat} {w0 w w' : World} {F F' : Nat → Prop} {t dim : Nat} {T T' : List Pnt}
theorem Mine.turn (h : Mine b0 w0 w F t dim T) (ht : Tree w' F' t dim T') (k : Turn F w F' w') : Mine b0 w0 w' F' t dim T' :=
  ⟨ht, fun b hb => (k.foot b hb).elim (h.up b) (Nat.le_trans h.le), h.below.trans (k.down h.up h.le), Nat.le_trans h.le k.size⟩
theorem Mine.under (h : Mine b0 w0 w F t dim T) (hb : Below w.heap.size w w') : Mine b0 w0 w' F t dim T := ⟨h.tree.below hb, h.up, h.below.trans (hb.mono h.le), Nat.le_trans h.le hb.size⟩
theorem Mine.drewN (h : Mine b0 w0 w F t dim T) (q : Nat) : Mine b0 w0 (w.drewN q) F t dim T := h.under (below_drewN (Below.refl _ w) q)
end
theorem Mine.new {w0 w w' : World} {b0 dim t : Nat} {F : Nat → Prop} (hB : Below b0 w0 w) (hb : b0 ≤ w.heap.size) (ht : Tree w' F t dim []) (hF : ∀ b, F b → w.heap.size ≤ b) (hw : Below w.heap.size w w') : Mine b0 w0 w' F t dim [] :=
  ⟨ht, fun b hb' => Nat.le_trans hb (hF b hb'), hB.trans (hw.mono hb), Nat.le_trans hb hw.size⟩
theorem known_puts : putT 3 [9] (putT 2 [5] (putT 1 [0] [])) = [(1, [0]), (2, [5]), (3, [9])] := by decide +kernel
theorem known_topH : topH [(1, [0]), (2, [5]), (3, [9])] [4] 2 4 = [(2, 1), (1, 4)] := by decide +kernel
theorem news1 (W : World) (z : Int) : Reads (W.alloc (.cells #[.int .i64 z] 3)) (W.heap.size + 1) 1 (some ⟨W.heap.size, 0, none⟩) 1 (ints [z]) := news_int W [z] (by simp)
/-- Put of a point whose vector the text writes. -/
theorem put_new {b0 : Nat} {w0 w : World} {F : Nat → Prop} {t : Nat} {T : List Pnt} {dim : Nat} (h : Mine b0 w0 w F t dim T) (x : Int) (l : List Int) (hl0 : l ≠ []) (hx : (Lit.int .i64 x).wf = true) (hk : ck l dim = 0) (hf : hasT x T = true ∨ T.length < 512) :
    Calls Try.prog 19 #[.pointer (some ⟨t, 0, none⟩), .agg #[.int .i64 x, .slice (some ⟨w.heap.size, 0, none⟩) l.length l.length]] (w.alloc (.cells (ints l).toArray 3)) fun e w' => e = .returned (.tuple #[.bool (hasT x T), .int .i64 0]) ∧ ∃ F', Mine b0 w0 w' F' t dim (putT x l T) := by
  have h0 := h.under ((Below.refl _ w).alloc (Nat.le_refl _) (.cells (ints l).toArray 3))
  have hl16 := ((okV_iff l).1 (ck_len hk).1).2.1
  refine (t_put h0.tree hx (news_int w l hl0) (by simp) (by unfold maxLen; omega) (fun ad e => ?_) hk hf).mono ?_
  · injection e with e
    subst e
    exact fun hF => by have := h.tree.lt _ hF; simp at this
  · rintro e w' ⟨rfl, F', ht, hT⟩
    exact ⟨rfl, F', h0.turn ht hT⟩
set_option maxHeartbeats 1000000 in
theorem awake_any (w : World) : Calls Try.prog 13 #[] w (Gives (.bool true) w) := by
  have hnew := vnew_any 1 w (by omega) (by omega)
  go_enter Try.func13, Try.ntmps13
  go_wp2_with fail
  refine hnew.mono ?_
  rintro e w1 ⟨F1, t, rfl, ht1, hF1, hb1⟩
  have M1 := Mine.new (Below.refl _ w) (Nat.le_refl _) ht1 hF1 hb1
  have hp1 := put_new M1 1 [0] (by simp) (by decide) (by decide +kernel) (.inr (by simp))
  have HM1 := Lib.hid M1
  clear ht1 hF1 hb1 M1 hnew
  simp only [ints, List.map_cons, List.map_nil, List.length_cons, List.length_nil] at hp1
  go_wp2_with fail
  refine hp1.mono ?_
  rintro e w2 ⟨rfl, F2, M2⟩
  have hp2 := put_new M2 2 [5] (by simp) (by decide) (by decide +kernel) (.inr (by decide +kernel))
  have HM2 := Lib.hid M2
  clear M2 hp1
  simp only [ints, List.map_cons, List.map_nil, List.length_cons, List.length_nil] at hp2
  go_wp2_with fail
  refine hp2.mono ?_
  rintro e w3 ⟨rfl, F3, M3⟩
  have hp3 := put_new M3 3 [9] (by simp) (by decide) (by decide +kernel) (.inr (by decide +kernel))
  have h3 : hasT 3 (putT 2 [5] (putT 1 [0] [])) = false := by decide +kernel
  rw [h3, known_puts] at hp3
  clear M3 hp2 h3 HM2
  simp only [ints, List.map_cons, List.map_nil, List.length_cons, List.length_nil] at hp3
  go_wp2_with fail
  refine hp3.mono ?_
  rintro e w4 ⟨rfl, F4, M4⟩
  have M5 := M4.under ((Below.refl _ w4).alloc (Nat.le_refl _) (.cells #[.int .i64 4] 3))
  have htp := t_top M5.tree (c := 1) (news1 w4 4) (by simp) (by unfold maxLen; omega) 4 (by decide +kernel) (k := 2) (by omega) (by omega)
  have HM5 := Lib.hid M5
  clear M4 M5 hp3
  go_wp2_with fail
  refine htp.mono ?_
  rintro e w6 ⟨A6, m6, rfl, hR6, hm6, hb6⟩
  rw [known_topH] at hR6
  have M6 := HM5.out.under hb6
  have hb7 : Below w6.heap.size w6 (w6.alloc (.cells #[.int .i64 2, .int .i64 1, .int .i64 1, .int .i64 4] 57)) := (Below.refl _ w6).alloc (Nat.le_refl _) _
  have M7 := M6.under hb7
  have hsm := same_any A6 (some ⟨w6.heap.size, 0, none⟩) m6 2 m6 2 w6.heap.size (w6.heap.size + 1) [(2, 1), (1, 4)] [(2, 1), (1, 4)] (w6.alloc (.cells #[.int .i64 2, .int .i64 1, .int .i64 1, .int .i64 4] 57)) (hR6.alloc (Nat.le_refl _) _) (news_hit w6 [(2, 1), (1, 4)] (by simp)) (by unfold maxLen; omega) (by unfold maxLen; omega)
  rw [decide_eq_true rfl] at hsm
  have HM7 := Lib.hid M7
  have hln := fun q => t_len (M7.tree.drewN q)
  simp only [List.length_cons, List.length_nil] at hln
  clear htp M6 M7 hb7 hR6 hb6
  go_wp2_with fail
  refine hsm.mono ?_
  rintro e w8 ⟨rfl, q8, rfl⟩
  go_wp2_with fail
  refine (hln q8).mono ?_
  rintro e w9 ⟨rfl, q9, rfl⟩
  go_wp2_with fail
  go_ret
  exact ⟨rfl, by first | exact below_drewN HM7.out.below _ | exact below_drewN (below_drewN HM7.out.below q8) q9⟩
end Go.Proofs.Ytkgapieikgniiaa
