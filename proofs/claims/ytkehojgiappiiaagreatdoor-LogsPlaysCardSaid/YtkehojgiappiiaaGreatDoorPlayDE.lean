/- PlayD, PlayE in one text. Conditions: as each part says. -/
import Derived.Test.YtkehojgiappiiaaGreatDoorPlayAC
section
set_option linter.unusedVariables false
set_option linter.unusedSimpArgs false
namespace Go.Proofs.YtkehojgiappiiaaGreatDoor
open Go Go.RowKit
theorem own_lower {w : World} {base base' : Nat} {e : TypeId} {size : Nat} {v : Value} {n : Nat} {xs : List Value} (h : w.ownsRow base e size v n xs) (hb : base' ≤ base) : w.ownsRow base' e size v n xs :=
  ⟨h.1, h.2.imp id fun ⟨g, cap, cur, hv, hg, r⟩ => ⟨g, cap, cur, hv, Nat.le_trans hb hg, r⟩⟩
theorem below_grown {X : Nat} {w0 w w' : World} {row : Option Nat} (h : Below X w0 w) (hX : X ≤ w.heap.size) (hg : w.grownBy w' row) (hr : ∀ g, row = some g → X ≤ g) : Below X w0 w' :=
  ⟨hg.os.trans h.os, hg.tape.trans h.tape, hg.output.trans h.output, Nat.le_trans h.size hg.size, fun b hb => (hg.block b (by omega) (fun e => by have := hr b e.symm; omega)).trans (h.block b hb)⟩
set_option maxHeartbeats 8000000 in
set_option maxRecDepth 100000 in
theorem adds_ok (N t sr : Nat) (h4 : 4 ≤ N) (hN : N ≤ 4000) (R : List (List UInt8)) (ad : Addr) (n c : Nat) (r : List UInt8) (w : World) (hR : Reads w w.heap.size 1 (some ad) n (strL R)) (hn : n ≤ maxLen) (hl : (encs R).length ≤ 128 * hB N t) (hr : r.length ≤ 32768) (hfit : (encs R).length + (r.length + 14) ≤ 128 * hB N t) :
    Calls Tryz.prog 7 #[stV N sr (t % 2) (some ad) n c, .string ⟨r.toArray⟩] w fun e w' => ∃ A' c', e = .returned (.tuple #[stV N sr (t % 2) A' (n + 1) c', .int .i64 0]) ∧ w'.ownsRow w.heap.size 9 1 (.slice A' (n + 1) c') (n + 1) (strL (R ++ [r])) ∧ Below w.heap.size w w' := by
  obtain ⟨W1, hW1⟩ : ∃ W1, W1 = w.alloc (.cells #[.int .i64 (N : Int), .int .i64 (sr : Int), .int .i64 ((t % 2 : Nat) : Int), .slice (some ad) n c] 25) := ⟨_, rfl⟩
  have hb1 : Below w.heap.size w W1 := by rw [hW1]; exact (Below.refl _ _).alloc (Nat.le_refl _) _
  have hrm := fun w => proom_any N t h4 hN w
  have hsz := fun (w' : World) (hb : Below w.heap.size w w') => size_any R (some ad) n c w' ((hR.below hb).more hb.size) hn (by have := hB_half N t; omega)
  have hnr : ¬ (r.length : Int) > 32768 := by omega
  have hB4 : 128 * hB N t ≤ 600000 := by have := hB_half N t; omega
  obtain ⟨m, hm⟩ : ∃ m, m = 128 * hB N t := ⟨_, rfl⟩
  obtain ⟨z, hz⟩ : ∃ z, z = (encs R).length := ⟨_, rfl⟩
  rw [← hm, ← hz] at hl hfit
  rw [← hm] at hrm hB4
  rw [← hz] at hsz
  have hfz : ¬ (m : Int) - (z : Int) < (r.length : Int) + 14 := by omega
  have hfz2 : (r.length : Int) + 14 ≤ (m : Int) - (z : Int) := by omega
  have hlenR := strL_len R
  have hnR := reads_len hR
  have HNR := Lib.hid (And.intro hlenR hnR)
  clear hlenR hnR
  have hcz := encs_count R
  rw [← hz] at hcz
  have hn6 : n ≤ 600000 := by have := reads_len hR; omega
  obtain ⟨i0, hi, hz0, hz1, hz2⟩ := info_parts string_row
  have HRD := Lib.hid hR
  have HN6 := Lib.hid hn6
  clear hR hn6 hcz
  have hmz : (m : Int) ≤ 600000 := by omega
  have hzm : (z : Int) ≤ (m : Int) := by omega
  have hrz : (r.length : Int) ≤ 32768 := by omega
  generalize hq : t % 2 = q at *
  have HRM := Lib.hid hrm
  have HSZ := Lib.hid hsz
  have HB1 := Lib.hid hb1
  have HW1 := Lib.hid hW1
  unfold stV
  clear hrm hsz hb1 hm hz hl hfit hn hq hW1 hB4
  go_enter Tryz.func7, Tryz.ntmps7
  go_wp2_with fail
  rw [← HW1.out]
  generalize hW2 : W1.alloc (.cells #[.int .i64 0, .int .i64 0, .int .i64 0, .slice none 0 0] 25) = W2
  have hr1 : Row W2 w.heap.size 25 [.int .i64 (N : Int), .int .i64 (sr : Int), .int .i64 (q : Int), .slice (some ad) n c] := by
    have h0 : Row W1 w.heap.size 25 [.int .i64 (N : Int), .int .i64 (sr : Int), .int .i64 (q : Int), .slice (some ad) n c] := by rw [HW1.out]; exact Row.new w _ _
    rw [← hW2]
    exact h0.keep (heap_alloc_lt W1 _ h0.lt)
  have hs1 : W1.heap.size = w.heap.size + 1 := by rw [HW1.out]; simp
  have hr2 : Row W2 (w.heap.size + 1) 25 [.int .i64 0, .int .i64 0, .int .i64 0, .slice none 0 0] := by rw [← hW2, ← hs1]; exact Row.new W1 _ _
  have hb2 : Below w.heap.size w W2 := by rw [← hW2]; exact HB1.out.alloc (by omega) _
  clear hW2 HW1 HB1
  obtain ⟨X, hX⟩ : ∃ X, X = w.heap.size := ⟨_, rfl⟩
  rw [← hX] at hr1 hr2 hb2 HSZ ⊢
  have HX := Lib.hid hX
  clear hX
  have c0 := hr1.cell (j := 0) rfl
  have c2 := hr1.cell (j := 2) rfl
  have c3 := hr1.cell (j := 3) rfl
  have hX2 : X + 2 ≤ W2.heap.size := hr2.lt
  have hX1 : X < W2.heap.size := hr1.lt
  have HRS := Lib.hid (And.intro hr1 (And.intro hr2 hb2))
  clear hr1 hr2 hb2 hs1
  have hw1 : IntKind.i64.wrap ((r.length : Int) + 14) = (r.length : Int) + 14 := by simp only [IntKind.wrap_i64]; omega
  have hw2 : IntKind.i64.wrap ((m : Int) - (z : Int)) = (m : Int) - (z : Int) := by simp only [IntKind.wrap_i64]; omega
  go_region_held3 (fun w' => w'.cell? ⟨X, 0, none⟩ = some (.int .i64 (N : Int)) ∧ w'.cell? ⟨X, 2, none⟩ = some (.int .i64 (q : Int)) ∧ w'.cell? ⟨X, 3, none⟩ = some (.slice (some ad) n c))
    (first | exact ⟨e0, e2, e3⟩ | exact ⟨d0, d2, d3⟩ | exact ⟨c0, c2, c3⟩)
    (first
      | (go_at_call 19; refine (HRM.out _).mono ?_; rintro e w3 ⟨rfl, hb3⟩; have HT3 := Lib.hid hb3; have HR3 := Lib.hid (HRS.out.1.keep (hb3.block _ hX1)); have hX3 := HR3.out.lt; have d0 := HR3.out.cell (j := 0) rfl; have d2 := HR3.out.cell (j := 2) rfl; have d3 := HR3.out.cell (j := 3) rfl; clear hb3)
      | (go_at_call 20; refine (HSZ.out w3 ((HRS.out.2.2.trans (below_drewN (Below.refl _ W2) 1)).trans (HT3.out.mono (show X ≤ W2.heap.size by omega)))).mono ?_; rintro e w4 ⟨rfl, hb4⟩; have HT4 := Lib.hid hb4; have HR4 := Lib.hid (HR3.out.keep (hb4.block _ hX3)); have e0 := HR4.out.cell (j := 0) rfl; have e2 := HR4.out.cell (j := 2) rfl; have e3 := HR4.out.cell (j := 3) rfl; clear hb4))
  have e1 := HR4.out.cell (j := 1) rfl
  have hX4 := HR4.out.lt
  have hS3 := HRS.out.2.1.keep (HT3.out.block _ hX2)
  have hS4 := hS3.keep (HT4.out.block _ hS3.lt)
  have hS4l := hS4.lt
  have f0 := hS4.cell (j := 0) rfl
  have f1 := hS4.cell (j := 1) rfl
  have f2 := hS4.cell (j := 2) rfl
  have f3 := hS4.cell (j := 3) rfl
  have y0 := hS4.frozen 0
  have y1 := hS4.frozen 1
  have y2 := hS4.frozen 2
  have y3 := hS4.frozen 3
  clear c0 c2 c3 d0 d2 d3 hw1 hw2
  have hx4 : X + 2 ≤ w4.heap.size := by have := HT3.out.size; have := HT4.out.size; show X + 2 ≤ _; exact Nat.le_trans hX2 (Nat.le_trans (show W2.heap.size ≤ _ from HT3.out.size) HT4.out.size)
  have hb4 := ((HRS.out.2.2.trans (below_drewN (Below.refl _ W2) 1)).trans (HT3.out.mono (show X ≤ W2.heap.size by omega))).trans (HT4.out.mono (show X ≤ w3.heap.size by omega))
  have hrd4 := (HRD.out.below (by rw [← HX.out]; exact hb4))
  have HC4 := Lib.hid (show ∀ (j : Nat) (u : Value), (strL R)[j]? = some u → w4.cell? (ad.add j) = some u from fun j u hu => by obtain ⟨ad', e, _, hc⟩ := hrd4.2 (by have := HNR.out; have := (List.getElem?_eq_some_iff.1 hu).1; omega); injection e with e; subst e; exact hc j u hu)
  have HB4 := Lib.hid hb4
  have HS4 := Lib.hid hS4
  clear hb4 hrd4
  go_wp2_with (first
    | (at_builtin; refine append_str rfl (.tmp 29) (.tmp 31) rfl (X + 2) v5 n (strL R) ⟨r.toArray⟩ rfl HO5.out w5.heap.size (by simp) rfl (by have := HN6.out; omega) hx5 ?_; intro v6 w6 hown6 hg6; rw [strL_snoc] at hown6; obtain ⟨A6, c6, rfl, hq1, hq2⟩ := own_shape hown6; have HO6 := Lib.hid hown6; have HR6 := Lib.hid (HR5.out.keep (hg6.block X HR5.out.lt (by intro h; have := (HO5.out.lt X h.symm).1; omega))); have HS6 := Lib.hid (HS5.out.keep (hg6.block (X + 1) HS5.out.lt (by intro h; have := (HO5.out.lt (X + 1) h.symm).1; omega))); have HG6 := Lib.hid hg6; have k3 := HR6.out.cell (j := 3) rfl; have z3 := HR6.out.frozen 3; have l6 := HR6.out.lt; have k0 := HR6.out.cell (j := 0) rfl; have k1 := HR6.out.cell (j := 1) rfl; have k2 := HR6.out.cell (j := 2) rfl; have s0 := HS6.out.cell (j := 0) rfl; have s1 := HS6.out.cell (j := 1) rfl; have s2 := HS6.out.cell (j := 2) rfl; have s3 := HS6.out.cell (j := 3) rfl; have z0 := HS6.out.frozen 0; have z1 := HS6.out.frozen 1; have z2 := HS6.out.frozen 2; have z4 := HS6.out.frozen 3; have l7 := HS6.out.lt; clear hown6 hg6 hq1 hq2)
    | (at_builtin; go_loud (refine wpList_append_own _ rfl (.tmp 25) (.tmp 27) 23 rfl (X + 2) 9 i0 (.string ⟨#[]⟩) 1 16 Tryz.underlying23 hi hz0 hz1 hz2 rfl (by decide) _ 0 [] rfl (World.ownsRow_nil ..) ad n c (strL R) rfl (by have := HNR.out; omega) (HC4.out) (strL_one R) (by have := HN6.out; unfold maxLen; omega) (by have := HN6.out; omega) hx4 ?_; intro v5 w5 hown5 hg5 _; rw [Nat.zero_add, List.nil_append] at hown5; have HO5 := Lib.hid hown5; have HR5 := Lib.hid (HR4.out.keep (hg5.block X hX4 (by intro h; cases h))); have HS5 := Lib.hid (HS4.out.keep (hg5.block (X + 1) hS4l (by intro h; cases h))); have HG5 := Lib.hid hg5; have hx5 : X + 2 ≤ w5.heap.size := Nat.le_trans hx4 hg5.size; clear hown5 hg5)))
  have hf := (((((HS6.out.keep (w' := w6.setCell ⟨X, 3, none⟩ (.slice A6 (n + 1) c6)) (heap_set_ne w6 ⟨X, 3, none⟩ _ (show X + 1 ≠ X by omega)))).set 0 (.int .i64 (N : Int))).set 1 (.int .i64 (sr : Int))).set 2 (.int .i64 (q : Int))).set 3 (.slice A6 (n + 1) c6)
  have ho := ownsRow_setCell_below (ownsRow_setCell_below (ownsRow_setCell_below (ownsRow_setCell_below (ownsRow_setCell_below HO6.out (a := ⟨X, 3, none⟩) (show X < X + 2 by omega) (.slice A6 (n + 1) c6)) (a := ⟨X + 1, 0, none⟩) (show X + 1 < X + 2 by omega) (.int .i64 (N : Int))) (a := ⟨X + 1, 1, none⟩) (show X + 1 < X + 2 by omega) (.int .i64 (sr : Int))) (a := ⟨X + 1, 2, none⟩) (show X + 1 < X + 2 by omega) (.int .i64 (q : Int))) (a := ⟨X + 1, 3, none⟩) (show X + 1 < X + 2 by omega) (.slice A6 (n + 1) c6)
  have hb5 := below_grown HB4.out (show X ≤ w4.heap.size by omega) HG5.out (fun g e => by cases e)
  have hb6 := below_grown hb5 (show X ≤ w5.heap.size by have := HG5.out.size; omega) HG6.out (fun g e => by have := (HO5.out.lt g e).1; omega)
  have hb7 := below_setCell (p := ⟨X + 1, 3, none⟩) (below_setCell (p := ⟨X + 1, 2, none⟩) (below_setCell (p := ⟨X + 1, 1, none⟩) (below_setCell (p := ⟨X + 1, 0, none⟩) (below_setCell (p := ⟨X, 3, none⟩) hb6 (Nat.le_refl X) (.slice A6 (n + 1) c6)) (Nat.le_succ X) (.int .i64 (N : Int))) (Nat.le_succ X) (.int .i64 (sr : Int))) (Nat.le_succ X) (.int .i64 (q : Int))) (Nat.le_succ X) (.slice A6 (n + 1) c6)
  generalize (((((w6.setCell ⟨X, 3, none⟩ (.slice A6 (n + 1) c6)).setCell ⟨X + 1, 0, none⟩ (.int .i64 (N : Int))).setCell ⟨X + 1, 1, none⟩ (.int .i64 (sr : Int))).setCell ⟨X + 1, 2, none⟩ (.int .i64 (q : Int))).setCell ⟨X + 1, 3, none⟩ (.slice A6 (n + 1) c6)) = W7 at *
  have g0 := hf.cell (j := 0) rfl
  have g1 := hf.cell (j := 1) rfl
  have g2 := hf.cell (j := 2) rfl
  have g3 := hf.cell (j := 3) rfl
  refine bodyPost_ret (v := .tuple #[.agg #[.int .i64 (N : Int), .int .i64 (sr : Int), .int .i64 (q : Int), .slice A6 (n + 1) c6], .int .i64 0]) (by simp [results, Tryz.results7, go_sem, g0, g1, g2, g3]) rfl ⟨A6, c6, rfl, ?_, ?_⟩
  · rw [← HX.out]
    exact own_lower ho (by omega)
  · rw [← HX.out]
    exact hb7
end Go.Proofs.YtkehojgiappiiaaGreatDoor
end
section
set_option linter.unusedVariables false
set_option linter.unusedSimpArgs false
namespace Go.Proofs.YtkehojgiappiiaaGreatDoor
open Go Go.RowKit
set_option maxHeartbeats 8000000 in
set_option maxRecDepth 100000 in
theorem adds_nil (N t sr : Nat) (h4 : 4 ≤ N) (hN : N ≤ 4000)  (r : List UInt8) (w : World)  (hr : r.length ≤ 32768) (hfit : r.length + 14 ≤ 128 * hB N t) :
    Calls Tryz.prog 7 #[stV N sr (t % 2) none 0 0, .string ⟨r.toArray⟩] w fun e w' => ∃ A' c', e = .returned (.tuple #[stV N sr (t % 2) A' 1 c', .int .i64 0]) ∧ w'.ownsRow w.heap.size 9 1 (.slice A' 1 c') 1 (strL [r]) ∧ Below w.heap.size w w' := by
  obtain ⟨W1, hW1⟩ : ∃ W1, W1 = w.alloc (.cells #[.int .i64 (N : Int), .int .i64 (sr : Int), .int .i64 ((t % 2 : Nat) : Int), .slice none 0 0] 25) := ⟨_, rfl⟩
  have hb1 : Below w.heap.size w W1 := by rw [hW1]; exact (Below.refl _ _).alloc (Nat.le_refl _) _
  have hrm := fun w => proom_any N t h4 hN w
  have hsz := fun (w' : World) (hb : Below w.heap.size w w') => size_any [] none 0 0 w' Reads.none_ (Nat.zero_le _) (by simp [encs])
  have hnr : ¬ (r.length : Int) > 32768 := by omega
  have hB4 : 128 * hB N t ≤ 600000 := by have := hB_half N t; omega
  obtain ⟨m, hm⟩ : ∃ m, m = 128 * hB N t := ⟨_, rfl⟩
  obtain ⟨z, hz⟩ : ∃ z, z = (encs []).length := ⟨_, rfl⟩
  rw [← hm] at hrm hB4 hfit
  rw [← hz] at hsz
  have hz00 : z = 0 := by rw [hz]; rfl
  have hfz : ¬ (m : Int) - (z : Int) < (r.length : Int) + 14 := by omega
  have hfz2 : (r.length : Int) + 14 ≤ (m : Int) - (z : Int) := by omega
  have hmz : (m : Int) ≤ 600000 := by omega
  have hzm : (z : Int) ≤ (m : Int) := by omega
  clear hz00
  have hrz : (r.length : Int) ≤ 32768 := by omega
  generalize hq : t % 2 = q at *
  have HRM := Lib.hid hrm
  have HSZ := Lib.hid hsz
  have HB1 := Lib.hid hb1
  have HW1 := Lib.hid hW1
  unfold stV
  clear hrm hsz hb1 hm hz hfit hq hW1 hB4
  go_enter Tryz.func7, Tryz.ntmps7
  go_wp2_with fail
  rw [← HW1.out]
  generalize hW2 : W1.alloc (.cells #[.int .i64 0, .int .i64 0, .int .i64 0, .slice none 0 0] 25) = W2
  have hr1 : Row W2 w.heap.size 25 [.int .i64 (N : Int), .int .i64 (sr : Int), .int .i64 (q : Int), .slice none 0 0] := by
    have h0 : Row W1 w.heap.size 25 [.int .i64 (N : Int), .int .i64 (sr : Int), .int .i64 (q : Int), .slice none 0 0] := by rw [HW1.out]; exact Row.new w _ _
    rw [← hW2]
    exact h0.keep (heap_alloc_lt W1 _ h0.lt)
  have hs1 : W1.heap.size = w.heap.size + 1 := by rw [HW1.out]; simp
  have hr2 : Row W2 (w.heap.size + 1) 25 [.int .i64 0, .int .i64 0, .int .i64 0, .slice none 0 0] := by rw [← hW2, ← hs1]; exact Row.new W1 _ _
  have hb2 : Below w.heap.size w W2 := by rw [← hW2]; exact HB1.out.alloc (by omega) _
  clear hW2 HW1 HB1
  obtain ⟨X, hX⟩ : ∃ X, X = w.heap.size := ⟨_, rfl⟩
  rw [← hX] at hr1 hr2 hb2 HSZ ⊢
  have HX := Lib.hid hX
  clear hX
  have c0 := hr1.cell (j := 0) rfl
  have c2 := hr1.cell (j := 2) rfl
  have c3 := hr1.cell (j := 3) rfl
  have hX2 : X + 2 ≤ W2.heap.size := hr2.lt
  have hX1 : X < W2.heap.size := hr1.lt
  have HRS := Lib.hid (And.intro hr1 (And.intro hr2 hb2))
  clear hr1 hr2 hb2 hs1
  have hw1 : IntKind.i64.wrap ((r.length : Int) + 14) = (r.length : Int) + 14 := by simp only [IntKind.wrap_i64]; omega
  have hw2 : IntKind.i64.wrap ((m : Int) - (z : Int)) = (m : Int) - (z : Int) := by simp only [IntKind.wrap_i64]; omega
  go_region_held3 (fun w' => w'.cell? ⟨X, 0, none⟩ = some (.int .i64 (N : Int)) ∧ w'.cell? ⟨X, 2, none⟩ = some (.int .i64 (q : Int)) ∧ w'.cell? ⟨X, 3, none⟩ = some (.slice none 0 0))
    (first | exact ⟨e0, e2, e3⟩ | exact ⟨d0, d2, d3⟩ | exact ⟨c0, c2, c3⟩)
    (first
      | (go_at_call 19; refine (HRM.out _).mono ?_; rintro e w3 ⟨rfl, hb3⟩; have HT3 := Lib.hid hb3; have HR3 := Lib.hid (HRS.out.1.keep (hb3.block _ hX1)); have hX3 := HR3.out.lt; have d0 := HR3.out.cell (j := 0) rfl; have d2 := HR3.out.cell (j := 2) rfl; have d3 := HR3.out.cell (j := 3) rfl; clear hb3)
      | (go_at_call 20; refine (HSZ.out w3 ((HRS.out.2.2.trans (below_drewN (Below.refl _ W2) 1)).trans (HT3.out.mono (show X ≤ W2.heap.size by omega)))).mono ?_; rintro e w4 ⟨rfl, hb4⟩; have HT4 := Lib.hid hb4; have HR4 := Lib.hid (HR3.out.keep (hb4.block _ hX3)); have e0 := HR4.out.cell (j := 0) rfl; have e2 := HR4.out.cell (j := 2) rfl; have e3 := HR4.out.cell (j := 3) rfl; clear hb4))
  have e1 := HR4.out.cell (j := 1) rfl
  have hX4 := HR4.out.lt
  have hS3 := HRS.out.2.1.keep (HT3.out.block _ hX2)
  have hS4 := hS3.keep (HT4.out.block _ hS3.lt)
  have hS4l := hS4.lt
  have f0 := hS4.cell (j := 0) rfl
  have f1 := hS4.cell (j := 1) rfl
  have f2 := hS4.cell (j := 2) rfl
  have f3 := hS4.cell (j := 3) rfl
  have y0 := hS4.frozen 0
  have y1 := hS4.frozen 1
  have y2 := hS4.frozen 2
  have y3 := hS4.frozen 3
  clear c0 c2 c3 d0 d2 d3 hw1 hw2
  have hx4 : X + 2 ≤ w4.heap.size := by have := HT3.out.size; have := HT4.out.size; show X + 2 ≤ _; exact Nat.le_trans hX2 (Nat.le_trans (show W2.heap.size ≤ _ from HT3.out.size) HT4.out.size)
  have hb4 := ((HRS.out.2.2.trans (below_drewN (Below.refl _ W2) 1)).trans (HT3.out.mono (show X ≤ W2.heap.size by omega))).trans (HT4.out.mono (show X ≤ w3.heap.size by omega))
  have HB4 := Lib.hid hb4
  have HS4 := Lib.hid hS4
  clear hb4
  go_wp2_with (at_builtin; go_loud (refine append_str rfl (.tmp 29) (.tmp 31) rfl (X + 2) (.slice none 0 0) 0 (strL []) ⟨r.toArray⟩ rfl (World.ownsRow_nil ..) w4.heap.size (by simp) rfl (by omega) hx4 ?_; intro v6 w6 hown6 hg6; rw [strL_snoc] at hown6; obtain ⟨A6, c6, rfl, hq1, hq2⟩ := own_shape hown6; have HO6 := Lib.hid hown6; have HR6 := Lib.hid (HR4.out.keep (hg6.block X hX4 (by intro h; cases h))); have HS6 := Lib.hid (HS4.out.keep (hg6.block (X + 1) hS4l (by intro h; cases h))); have HG6 := Lib.hid hg6; have k3 := HR6.out.cell (j := 3) rfl; have z3 := HR6.out.frozen 3; have l6 := HR6.out.lt; have k0 := HR6.out.cell (j := 0) rfl; have k1 := HR6.out.cell (j := 1) rfl; have k2 := HR6.out.cell (j := 2) rfl; have s0 := HS6.out.cell (j := 0) rfl; have s1 := HS6.out.cell (j := 1) rfl; have s2 := HS6.out.cell (j := 2) rfl; have s3 := HS6.out.cell (j := 3) rfl; have z0 := HS6.out.frozen 0; have z1 := HS6.out.frozen 1; have z2 := HS6.out.frozen 2; have z4 := HS6.out.frozen 3; have l7 := HS6.out.lt; clear hown6 hg6 hq1 hq2))
  have hf := (((((HS6.out.keep (w' := w6.setCell ⟨X, 3, none⟩ (.slice A6 1 c6)) (heap_set_ne w6 ⟨X, 3, none⟩ _ (show X + 1 ≠ X by omega)))).set 0 (.int .i64 (N : Int))).set 1 (.int .i64 (sr : Int))).set 2 (.int .i64 (q : Int))).set 3 (.slice A6 1 c6)
  have ho := ownsRow_setCell_below (ownsRow_setCell_below (ownsRow_setCell_below (ownsRow_setCell_below (ownsRow_setCell_below HO6.out (a := ⟨X, 3, none⟩) (show X < X + 2 by omega) (.slice A6 1 c6)) (a := ⟨X + 1, 0, none⟩) (show X + 1 < X + 2 by omega) (.int .i64 (N : Int))) (a := ⟨X + 1, 1, none⟩) (show X + 1 < X + 2 by omega) (.int .i64 (sr : Int))) (a := ⟨X + 1, 2, none⟩) (show X + 1 < X + 2 by omega) (.int .i64 (q : Int))) (a := ⟨X + 1, 3, none⟩) (show X + 1 < X + 2 by omega) (.slice A6 1 c6)
  have hb6 := below_grown HB4.out (show X ≤ w4.heap.size by omega) HG6.out (fun g e => by cases e)
  have hb7 := below_setCell (p := ⟨X + 1, 3, none⟩) (below_setCell (p := ⟨X + 1, 2, none⟩) (below_setCell (p := ⟨X + 1, 1, none⟩) (below_setCell (p := ⟨X + 1, 0, none⟩) (below_setCell (p := ⟨X, 3, none⟩) hb6 (Nat.le_refl X) (.slice A6 1 c6)) (Nat.le_succ X) (.int .i64 (N : Int))) (Nat.le_succ X) (.int .i64 (sr : Int))) (Nat.le_succ X) (.int .i64 (q : Int))) (Nat.le_succ X) (.slice A6 1 c6)
  generalize (((((w6.setCell ⟨X, 3, none⟩ (.slice A6 1 c6)).setCell ⟨X + 1, 0, none⟩ (.int .i64 (N : Int))).setCell ⟨X + 1, 1, none⟩ (.int .i64 (sr : Int))).setCell ⟨X + 1, 2, none⟩ (.int .i64 (q : Int))).setCell ⟨X + 1, 3, none⟩ (.slice A6 1 c6)) = W7 at *
  have g0 := hf.cell (j := 0) rfl
  have g1 := hf.cell (j := 1) rfl
  have g2 := hf.cell (j := 2) rfl
  have g3 := hf.cell (j := 3) rfl
  refine bodyPost_ret (v := .tuple #[.agg #[.int .i64 (N : Int), .int .i64 (sr : Int), .int .i64 (q : Int), .slice A6 1 c6], .int .i64 0]) (by simp [results, Tryz.results7, go_sem, g0, g1, g2, g3]) rfl ⟨A6, c6, rfl, ?_, ?_⟩
  · rw [← HX.out]
    exact own_lower ho (by omega)
  · rw [← HX.out]
    exact hb7
end Go.Proofs.YtkehojgiappiiaaGreatDoor
end
