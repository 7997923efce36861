/- PlayF, PlayG, PlayH in one text. Conditions: as each part says. -/
import Derived.Test.YtkehojgiappiiaaGreatDoorPlayDE
import Derived.Test.YtkehojgiappiiaaGreatDoorChecked
import Derived.ProofKit
import Derived.OpenShut
import Derived.Lib.SmallJoins
import Derived.Deep.Slices
section
set_option linter.unusedVariables false
set_option linter.unusedSimpArgs false
namespace Go.Proofs.YtkehojgiappiiaaGreatDoor
open Go Go.RowKit
/-- The statement's state and its answer, each in a box. -/
structure ABox (w : World) (N sr q : Nat) (sl : Value) (V : World) : Prop where
  r1 : Row V w.heap.size 25 [.int .i64 (N : Int), .int .i64 (sr : Int), .int .i64 (q : Int), sl]
  r2 : Row V (w.heap.size + 1) 25 [.int .i64 0, .int .i64 0, .int .i64 0, .slice none 0 0]
  below : Below w.heap.size w V
theorem ABox.new (w : World) (N sr q : Nat) (sl : Value) : ABox w N sr q sl ((w.alloc (.cells #[.int .i64 (N : Int), .int .i64 (sr : Int), .int .i64 (q : Int), sl] 25)).alloc (.cells #[.int .i64 0, .int .i64 0, .int .i64 0, .slice none 0 0] 25)) := by
  have e1 : (w.alloc (.cells #[.int .i64 (N : Int), .int .i64 (sr : Int), .int .i64 (q : Int), sl] 25)).heap.size = w.heap.size + 1 := by simp
  refine ⟨(Row.new w 25 [.int .i64 (N : Int), .int .i64 (sr : Int), .int .i64 (q : Int), sl]).keep (heap_alloc_lt _ _ (by omega)), ?_, ((Below.refl _ w).alloc (Nat.le_refl _) _).alloc (by omega) _⟩
  have := Row.new (w.alloc (.cells #[.int .i64 (N : Int), .int .i64 (sr : Int), .int .i64 (q : Int), sl] 25)) 25 [.int .i64 0, .int .i64 0, .int .i64 0, .slice none 0 0]
  rw [e1] at this
  exact this
theorem ABox.under {w V V' : World} {N sr q : Nat} {sl : Value} (h : ABox w N sr q sl V) (hb : Below V.heap.size V V') : ABox w N sr q sl V' :=
  ⟨h.r1.keep (hb.block _ h.r1.lt), h.r2.keep (hb.block _ h.r2.lt), h.below.trans (hb.mono (by have := h.r1.lt; omega))⟩
theorem ABox.under2 {w V V' : World} {N sr q : Nat} {sl : Value} (h : ABox w N sr q sl V) (hb : Below V.heap.size V V') : ABox w N sr q sl V' ∧ (V'.cell? ⟨w.heap.size, 0, none⟩ = some (.int .i64 (N : Int)) ∧ V'.cell? ⟨w.heap.size, 2, none⟩ = some (.int .i64 (q : Int))) :=
  ⟨h.under hb, (h.under hb).r1.cell (j := 0) rfl, (h.under hb).r1.cell (j := 2) rfl⟩
set_option maxHeartbeats 8000000 in
set_option maxRecDepth 100000 in
theorem anew_full_ (N t sr : Nat) (h4 : 4 ≤ N) (hN : N ≤ 4000) (A0 : Option Addr) (n0 k0 : Nat) (R : List (List UInt8)) (A : Option Addr) (n c : Nat) (w : World) (hR : Reads w w.heap.size 1 A n (strL R)) (hn : n ≤ maxLen) (hs : ∀ r ∈ R, r.length ≤ 32768) (hl : (encs R).length ≤ 600000) (hfull : 128 * hB N (t + 1) < (encs R).length) :
    Calls Tryz.prog 10 #[stV N sr (t % 2) A0 n0 k0, .slice A n c] w fun e w' => e = .returned (.tuple #[stV N sr (t % 2) A0 n0 k0, .int .i64 70]) ∧ Below w.heap.size w w' := by
  have hrm := fun w => proom_any N (t + 1) h4 hN w
  have hqq : (1 : Int) - ((t % 2 : Nat) : Int) = (((t + 1) % 2 : Nat) : Int) := by omega
  obtain ⟨q1, hq1⟩ : ∃ q1, q1 = (t + 1) % 2 := ⟨_, rfl⟩
  rw [← hq1] at hqq hrm
  have hq12 : q1 ≤ 1 := by omega
  have hB4 : 128 * hB N (t + 1) ≤ 600000 := by have := hB_half N (t + 1); omega
  obtain ⟨m, hm⟩ : ∃ m, m = 128 * hB N (t + 1) := ⟨_, rfl⟩
  rw [← hm] at hfull hrm hB4
  clear hq1 hm
  generalize hq : t % 2 = q at *
  clear hq
  have hA := ABox.new w N sr q (.slice A0 n0 k0)
  generalize hW : (w.alloc (.cells #[.int .i64 (N : Int), .int .i64 (sr : Int), .int .i64 (q : Int), .slice A0 n0 k0] 25)).alloc (.cells #[.int .i64 0, .int .i64 0, .int .i64 0, .slice none 0 0] 25) = W at *
  have HW := Lib.hid hW
  clear hW
  have hlg : Calls Tryz.prog 28 #[.slice A n c] W (Gives (.bool false) W) := long_not R A n c W ((hR.below hA.below).more hA.below.size) hn hs
  have HSZ := Lib.hid (show ∀ w3 : World, Below W.heap.size W w3 → Calls Tryz.prog 20 #[.slice A n c] w3.drew (fun e w4 => e = .returned (.int .i64 ((encs R).length : Int)) ∧ ABox w N sr q (.slice A0 n0 k0) w4 ∧ (w4.cell? ⟨w.heap.size, 0, none⟩ = some (.int .i64 (N : Int)) ∧ w4.cell? ⟨w.heap.size, 2, none⟩ = some (.int .i64 (q : Int)))) from fun w3 hb => by
    have hb' : Below W.heap.size W w3.drew := below_drewN hb 1
    refine (size_any R A n c w3.drew ((hR.below (hA.below.trans (hb'.mono hA.below.size))).more (Nat.le_trans hA.below.size hb'.size)) hn (by omega)).mono ?_
    rintro e w4 ⟨rfl, hb4⟩
    exact ⟨rfl, (hA.under hb').under2 hb4⟩)
  have HRM := Lib.hid (show ∀ w4 : World, ABox w N sr q (.slice A0 n0 k0) w4 → Calls Tryz.prog 19 #[.int .i64 (N : Int), .int .i64 (q1 : Int)] w4 (fun e w5 => e = .returned (.int .i64 ((m : Nat) : Int)) ∧ ABox w N sr q (.slice A0 n0 k0) w5 ∧ (w5.cell? ⟨w.heap.size, 0, none⟩ = some (.int .i64 (N : Int)) ∧ w5.cell? ⟨w.heap.size, 2, none⟩ = some (.int .i64 (q : Int)))) from fun w4 h4' => (hrm w4).mono (fun e w5 hpost => ⟨hpost.1, h4'.under2 hpost.2⟩))
  have HA := Lib.hid hA
  unfold stV
  clear hrm hR hn hs hA h4 hN
  generalize (encs R).length = z at *
  have hzz : (z : Int) ≤ 600000 := by omega
  have hfz : (m : Int) < (z : Int) := by omega
  have hw1 : IntKind.i64.wrap ((1 : Int) - (q : Int)) = (q1 : Int) := by rw [hqq]; simp only [IntKind.wrap_i64]; omega
  clear hl hfull hqq hq12 hB4 hzz
  go_enter Tryz.func10, Tryz.ntmps10
  go_wp2_with fail
  rw [HW.out]
  refine hlg.mono ?_
  rintro e wl ⟨rfl, hbl⟩
  have hal := HA.out.under2 hbl
  have hsz := HSZ.out wl hbl
  have c0 := hal.2.1
  have c2 := hal.2.2
  clear hlg hal hbl
  go_wp2_with fail
  go_region_held3 (fun w' => w'.cell? ⟨w.heap.size, 0, none⟩ = some (.int .i64 (N : Int)) ∧ w'.cell? ⟨w.heap.size, 2, none⟩ = some (.int .i64 (q : Int)))
    (first | exact HS5.out | exact HS4.out | exact ⟨c0, c2⟩ | go_keep)
    (first
      | (go_at_call 20; with_reducible refine hsz.mono ?_; intro e w4 hpost; obtain ⟨rfl, ha4, hs4⟩ := hpost; have hrm := HRM.out w4 ha4; have HS4 := Lib.hid hs4; clear ha4 hs4)
      | (go_at_call 19; with_reducible refine hrm.mono ?_; intro e w5 hpost; obtain ⟨rfl, ha5, hs5⟩ := hpost; have HA5 := Lib.hid ha5; have HS5 := Lib.hid hs5; clear ha5 hs5))
  clear c0 c2 hsz hrm
  have e0 := HA5.out.r1.cell (j := 0) rfl
  have e1 := HA5.out.r1.cell (j := 1) rfl
  have e2 := HA5.out.r1.cell (j := 2) rfl
  have e3 := HA5.out.r1.cell (j := 3) rfl
  have el := HA5.out.r1.lt
  have f0 := HA5.out.r2.cell (j := 0) rfl
  have f1 := HA5.out.r2.cell (j := 1) rfl
  have f2 := HA5.out.r2.cell (j := 2) rfl
  have f3 := HA5.out.r2.cell (j := 3) rfl
  have fl := HA5.out.r2.lt
  have y0 := HA5.out.r2.frozen 0
  have y1 := HA5.out.r2.frozen 1
  have y2 := HA5.out.r2.frozen 2
  have y3 := HA5.out.r2.frozen 3
  go_wp2_with fail
  have hf := (((HA5.out.r2.set 0 (.int .i64 (N : Int))).set 1 (.int .i64 (sr : Int))).set 2 (.int .i64 (q : Int))).set 3 (.slice A0 n0 k0)
  have hb5 := below_setCell (p := ⟨w.heap.size + 1, 3, none⟩) (below_setCell (p := ⟨w.heap.size + 1, 2, none⟩) (below_setCell (p := ⟨w.heap.size + 1, 1, none⟩) (below_setCell (p := ⟨w.heap.size + 1, 0, none⟩) HA5.out.below (Nat.le_succ _) (.int .i64 (N : Int))) (Nat.le_succ _) (.int .i64 (sr : Int))) (Nat.le_succ _) (.int .i64 (q : Int))) (Nat.le_succ _) (.slice A0 n0 k0)
  have g0 := hf.cell (j := 0) rfl
  have g1 := hf.cell (j := 1) rfl
  have g2 := hf.cell (j := 2) rfl
  have g3 := hf.cell (j := 3) rfl
  clear hf
  generalize ((((w5.setCell ⟨w.heap.size + 1, 0, none⟩ (.int .i64 (N : Int))).setCell ⟨w.heap.size + 1, 1, none⟩ (.int .i64 (sr : Int))).setCell ⟨w.heap.size + 1, 2, none⟩ (.int .i64 (q : Int))).setCell ⟨w.heap.size + 1, 3, none⟩ (.slice A0 n0 k0)) = W5 at *
  refine bodyPost_ret (v := .tuple #[.agg #[.int .i64 (N : Int), .int .i64 (sr : Int), .int .i64 (q : Int), .slice A0 n0 k0], .int .i64 70]) (by simp [results, Tryz.results10, go_sem, g0, g1, g2, g3]) rfl ⟨rfl, ?_⟩
  exact hb5
set_option maxHeartbeats 8000000 in
set_option maxRecDepth 100000 in
theorem anew_ok_ (N t sr : Nat) (h4 : 4 ≤ N) (hN : N ≤ 4000) (A0 : Option Addr) (n0 k0 : Nat) (R : List (List UInt8)) (A : Option Addr) (n c : Nat) (w : World) (hR : Reads w w.heap.size 1 A n (strL R)) (hn : n ≤ maxLen) (hs : ∀ r ∈ R, r.length ≤ 32768) (hl : (encs R).length ≤ 600000) (hfit : (encs R).length ≤ 128 * hB N (t + 1)) :
    Calls Tryz.prog 10 #[stV N sr (t % 2) A0 n0 k0, .slice A n c] w fun e w' => e = .returned (.tuple #[stV N n ((t + 1) % 2) A n c, .int .i64 0]) ∧ Below w.heap.size w w' := by
  have hrm := fun w => proom_any N (t + 1) h4 hN w
  have hqq : (1 : Int) - ((t % 2 : Nat) : Int) = (((t + 1) % 2 : Nat) : Int) := by omega
  obtain ⟨q1, hq1⟩ : ∃ q1, q1 = (t + 1) % 2 := ⟨_, rfl⟩
  rw [← hq1] at hqq hrm ⊢
  have hq12 : q1 ≤ 1 := by omega
  have hB4 : 128 * hB N (t + 1) ≤ 600000 := by have := hB_half N (t + 1); omega
  obtain ⟨m, hm⟩ : ∃ m, m = 128 * hB N (t + 1) := ⟨_, rfl⟩
  rw [← hm] at hfit hrm hB4
  clear hq1 hm
  generalize hq : t % 2 = q at *
  clear hq
  have hA := ABox.new w N sr q (.slice A0 n0 k0)
  generalize hW : (w.alloc (.cells #[.int .i64 (N : Int), .int .i64 (sr : Int), .int .i64 (q : Int), .slice A0 n0 k0] 25)).alloc (.cells #[.int .i64 0, .int .i64 0, .int .i64 0, .slice none 0 0] 25) = W at *
  have HW := Lib.hid hW
  clear hW
  have hlg : Calls Tryz.prog 28 #[.slice A n c] W (Gives (.bool false) W) := long_not R A n c W ((hR.below hA.below).more hA.below.size) hn hs
  have HSZ := Lib.hid (show ∀ w3 : World, Below W.heap.size W w3 → Calls Tryz.prog 20 #[.slice A n c] w3.drew (fun e w4 => e = .returned (.int .i64 ((encs R).length : Int)) ∧ ABox w N sr q (.slice A0 n0 k0) w4 ∧ (w4.cell? ⟨w.heap.size, 0, none⟩ = some (.int .i64 (N : Int)) ∧ w4.cell? ⟨w.heap.size, 2, none⟩ = some (.int .i64 (q : Int)))) from fun w3 hb => by
    have hb' : Below W.heap.size W w3.drew := below_drewN hb 1
    refine (size_any R A n c w3.drew ((hR.below (hA.below.trans (hb'.mono hA.below.size))).more (Nat.le_trans hA.below.size hb'.size)) hn (by omega)).mono ?_
    rintro e w4 ⟨rfl, hb4⟩
    exact ⟨rfl, (hA.under hb').under2 hb4⟩)
  have HRM := Lib.hid (show ∀ w4 : World, ABox w N sr q (.slice A0 n0 k0) w4 → Calls Tryz.prog 19 #[.int .i64 (N : Int), .int .i64 (q1 : Int)] w4 (fun e w5 => e = .returned (.int .i64 ((m : Nat) : Int)) ∧ ABox w N sr q (.slice A0 n0 k0) w5 ∧ (w5.cell? ⟨w.heap.size, 0, none⟩ = some (.int .i64 (N : Int)) ∧ w5.cell? ⟨w.heap.size, 2, none⟩ = some (.int .i64 (q : Int)))) from fun w4 h4' => (hrm w4).mono (fun e w5 hpost => ⟨hpost.1, h4'.under2 hpost.2⟩))
  have HA := Lib.hid hA
  unfold stV
  clear hrm hR hn hs hA h4 hN
  generalize (encs R).length = z at *
  have hzz : (z : Int) ≤ 600000 := by omega
  have hfz : ¬ (m : Int) < (z : Int) := by omega
  have hw1 : IntKind.i64.wrap ((1 : Int) - (q : Int)) = (q1 : Int) := by rw [hqq]; simp only [IntKind.wrap_i64]; omega
  clear hl hfit hqq hq12 hB4 hzz
  go_enter Tryz.func10, Tryz.ntmps10
  go_wp2_with fail
  rw [HW.out]
  refine hlg.mono ?_
  rintro e wl ⟨rfl, hbl⟩
  have hal := HA.out.under2 hbl
  have hsz := HSZ.out wl hbl
  have c0 := hal.2.1
  have c2 := hal.2.2
  clear hlg hal hbl
  go_wp2_with fail
  go_region_held3 (fun w' => w'.cell? ⟨w.heap.size, 0, none⟩ = some (.int .i64 (N : Int)) ∧ w'.cell? ⟨w.heap.size, 2, none⟩ = some (.int .i64 (q : Int)))
    (first | exact HS5.out | exact HS4.out | exact ⟨c0, c2⟩ | go_keep)
    (first
      | (go_at_call 20; with_reducible refine hsz.mono ?_; intro e w4 hpost; obtain ⟨rfl, ha4, hs4⟩ := hpost; have hrm := HRM.out w4 ha4; have HS4 := Lib.hid hs4; clear ha4 hs4)
      | (go_at_call 19; with_reducible refine hrm.mono ?_; intro e w5 hpost; obtain ⟨rfl, ha5, hs5⟩ := hpost; have HA5 := Lib.hid ha5; have HS5 := Lib.hid hs5; clear ha5 hs5))
  clear c0 c2 hsz hrm
  have e0 := HA5.out.r1.cell (j := 0) rfl
  have e1 := HA5.out.r1.cell (j := 1) rfl
  have e2 := HA5.out.r1.cell (j := 2) rfl
  have e3 := HA5.out.r1.cell (j := 3) rfl
  have el := HA5.out.r1.lt
  have f0 := HA5.out.r2.cell (j := 0) rfl
  have f1 := HA5.out.r2.cell (j := 1) rfl
  have f2 := HA5.out.r2.cell (j := 2) rfl
  have f3 := HA5.out.r2.cell (j := 3) rfl
  have fl := HA5.out.r2.lt
  have y0 := HA5.out.r2.frozen 0
  have y1 := HA5.out.r2.frozen 1
  have y2 := HA5.out.r2.frozen 2
  have y3 := HA5.out.r2.frozen 3
  go_wp2_with fail
  have hf := (((HA5.out.r2.set 0 (.int .i64 (N : Int))).set 1 (.int .i64 (n : Int))).set 2 (.int .i64 (q1 : Int))).set 3 (.slice A n c)
  have hb5 := below_setCell (p := ⟨w.heap.size + 1, 3, none⟩) (below_setCell (p := ⟨w.heap.size + 1, 2, none⟩) (below_setCell (p := ⟨w.heap.size + 1, 1, none⟩) (below_setCell (p := ⟨w.heap.size + 1, 0, none⟩) HA5.out.below (Nat.le_succ _) (.int .i64 (N : Int))) (Nat.le_succ _) (.int .i64 (n : Int))) (Nat.le_succ _) (.int .i64 (q1 : Int))) (Nat.le_succ _) (.slice A n c)
  have g0 := hf.cell (j := 0) rfl
  have g1 := hf.cell (j := 1) rfl
  have g2 := hf.cell (j := 2) rfl
  have g3 := hf.cell (j := 3) rfl
  clear hf
  generalize ((((w5.setCell ⟨w.heap.size + 1, 0, none⟩ (.int .i64 (N : Int))).setCell ⟨w.heap.size + 1, 1, none⟩ (.int .i64 (n : Int))).setCell ⟨w.heap.size + 1, 2, none⟩ (.int .i64 (q1 : Int))).setCell ⟨w.heap.size + 1, 3, none⟩ (.slice A n c)) = W5 at *
  refine bodyPost_ret (v := .tuple #[.agg #[.int .i64 (N : Int), .int .i64 (n : Int), .int .i64 (q1 : Int), .slice A n c], .int .i64 0]) (by simp [results, Tryz.results10, go_sem, g0, g1, g2, g3]) rfl ⟨rfl, ?_⟩
  exact hb5
end Go.Proofs.YtkehojgiappiiaaGreatDoor
end
section
set_option linter.unusedVariables false
set_option linter.unusedSimpArgs false
namespace Go.Proofs.YtkehojgiappiiaaGreatDoor
open Go Go.RowKit
section
variable {w V V' : World} {B : Nat} {F G : Nat → Prop} {p d N t st : Nat} {R : List (List UInt8)} {sr s0 q : Nat} {su : List ByteArray} {l : List (Nat × ByteArray)} {A : Option Addr} {n c : Nat}
/-- The log, the list and the state's box, as right reads them. -/
structure RBox (w : World) (B : Nat) (F G : Nat → Prop) (p d N t st : Nat) (R : List (List UInt8)) (sr : Nat) (su : List ByteArray) (l : List (Nat × ByteArray)) (s0 q : Nat) (A : Option Addr) (n c : Nat) (V : World) : Prop where
  log : LogF V B F G p d N t st R sr su l
  row : Row V w.heap.size 25 [.int .i64 (N : Int), .int .i64 (s0 : Int), .int .i64 (q : Int), .slice A n c]
  rd : Reads V w.heap.size 1 A n (strL R)
  below : Below w.heap.size w V
theorem RBox.under (h : RBox w B F G p d N t st R sr su l s0 q A n c V) (hb : Below V.heap.size V V') : RBox w B F G p d N t st R sr su l s0 q A n c V' :=
  ⟨h.log.below hb, h.row.keep (hb.block _ h.row.lt), h.rd.below (hb.mono h.below.size), h.below.trans (hb.mono h.below.size)⟩
theorem RBox.cells (h : RBox w B F G p d N t st R sr su l s0 q A n c V) : V.cell? ⟨w.heap.size, 0, none⟩ = some (.int .i64 (N : Int)) ∧ V.cell? ⟨w.heap.size, 2, none⟩ = some (.int .i64 (q : Int)) ∧ V.cell? ⟨w.heap.size, 3, none⟩ = some (.slice A n c) :=
  ⟨h.row.cell (j := 0) rfl, h.row.cell (j := 2) rfl, h.row.cell (j := 3) rfl⟩
set_option maxHeartbeats 8000000 in
set_option maxRecDepth 100000 in
theorem right_any (h : LogF w B F G p d N t st R sr su l) (h4 : 4 ≤ N) (hN : N ≤ 4000) (hA : Reads w w.heap.size 1 A n (strL R)) (hn : n ≤ maxLen) :
    Calls Tryz.prog 15 #[.pointer (some ⟨p, 0, none⟩), stV N s0 (t % 2) A n c] w (fun e w' => e = .returned (.bool true) ∧ Below w.heap.size w w') := by
  obtain ⟨q, hq⟩ : ∃ q, q = t % 2 := ⟨_, rfl⟩
  unfold stV
  rw [← hq]
  have hfit : (encs R).length ≤ 128 * hB N t := h.log.ok.fit
  have hB4 : 128 * hB N t ≤ 600000 := by have := hB_half N t; omega
  obtain ⟨W, hW⟩ : ∃ W, W = w.alloc (.cells #[.int .i64 (N : Int), .int .i64 (s0 : Int), .int .i64 (q : Int), .slice A n c] 25) := ⟨_, rfl⟩
  have hb0 : Below w.heap.size w W := by rw [hW]; exact (Below.refl _ w).alloc (Nat.le_refl _) _
  have hX : RBox w B F G p d N t st R sr su l s0 q A n c W := ⟨h.below hb0, by rw [hW]; exact Row.new w _ [.int .i64 (N : Int), .int .i64 (s0 : Int), .int .i64 (q : Int), .slice A n c], hA.below hb0, hb0⟩
  have hXd := hX.under (below_drewN (Below.refl _ W) 1)
  have hall : Calls Tryz.prog 14 #[.pointer (some ⟨p, 0, none⟩)] W.drew (fun e w4 => ∃ A1 n1 c1, e = .returned (.slice A1 n1 c1) ∧ (Calls Tryz.prog 18 #[.slice A1 n1 c1, .slice A n c] w4 (fun e w5 => e = .returned (.bool true) ∧ RBox w B F G p d N t st R sr su l s0 q A n c w5)) ∧ (w4.cell? ⟨w.heap.size, 0, none⟩ = some (.int .i64 (N : Int)) ∧ w4.cell? ⟨w.heap.size, 2, none⟩ = some (.int .i64 (q : Int)) ∧ w4.cell? ⟨w.heap.size, 3, none⟩ = some (.slice A n c))) :=
    (logf_all hXd.log).mono (fun e w4 ⟨A1, n1, c1, he, _, hm, hR1, hb4⟩ => ⟨A1, n1, c1, he, (same_yes R R rfl A1 n1 c1 A n c w4.heap.size w4 hR1 ((hXd.under hb4).rd.more (hXd.under hb4).below.size) (Nat.le_refl _) hm hn).mono (fun e w5 ⟨he5, q, hq⟩ => ⟨he5, by rw [hq]; exact (hXd.under hb4).under (below_drewN (Below.refl _ w4) q)⟩), (hXd.under hb4).cells⟩)
  obtain ⟨m, hm⟩ : ∃ m, m = 128 * hB N t := ⟨_, rfl⟩
  obtain ⟨z, hz⟩ : ∃ z, z = (encs R).length := ⟨_, rfl⟩
  have HROOM := Lib.hid (show ∀ w5 : World, RBox w B F G p d N t st R sr su l s0 q A n c w5 → Calls Tryz.prog 17 #[.pointer (some ⟨p, 0, none⟩)] w5 (fun e w6 => e = .returned (.int .i64 ((m : Int) - (z : Int))) ∧ RBox w B F G p d N t st R sr su l s0 q A n c w6) from fun w5 h5 => (logf_room h5.log ((m : Int) - (z : Int)) (by rw [hm, hz]; omega)).mono (fun e w6 hpost => ⟨hpost.1, h5.under hpost.2⟩))
  have HRM := Lib.hid (show ∀ w6 : World, RBox w B F G p d N t st R sr su l s0 q A n c w6 → Calls Tryz.prog 19 #[.int .i64 (N : Int), .int .i64 (q : Int)] w6 (fun e w7 => e = .returned (.int .i64 (m : Int)) ∧ RBox w B F G p d N t st R sr su l s0 q A n c w7) from fun w6 h6 => by
    have hpr := proom_any N t h4 hN w6
    rw [← hq, ← hm] at hpr
    exact hpr.mono (fun e w7 hpost => ⟨hpost.1, h6.under hpost.2⟩))
  have HSZ := Lib.hid (show ∀ w7 : World, RBox w B F G p d N t st R sr su l s0 q A n c w7 → Calls Tryz.prog 20 #[.slice A n c] w7 (fun e w8 => e = .returned (.int .i64 (z : Int)) ∧ RBox w B F G p d N t st R sr su l s0 q A n c w8) from fun w7 h7 => by
    rw [hz]
    exact (size_any R A n c w7 (h7.rd.more h7.below.size) hn (by omega)).mono (fun e w8 hpost => ⟨hpost.1, h7.under hpost.2⟩))
  have hw : IntKind.i64.wrap ((m : Int) - (z : Int)) = (m : Int) - (z : Int) := by simp only [IntKind.wrap_i64]; omega
  have hee : ((m : Int) - (z : Int) == (m : Int) - (z : Int)) = true := by simp
  obtain ⟨c0, c2, c3⟩ := hX.cells
  have cl := hX.row.lt
  have HW := Lib.hid hW.symm
  clear hq hfit hB4 hW hX hXd hb0 hm hz h hA hn h4 hN
  go_enter Tryz.func15, Tryz.ntmps15
  go_wp2_with fail
  rw [HW.out]
  go_region_held3 (fun w' => w'.cell? ⟨w.heap.size, 0, none⟩ = some (.int .i64 (N : Int)) ∧ w'.cell? ⟨w.heap.size, 2, none⟩ = some (.int .i64 (q : Int)) ∧ w'.cell? ⟨w.heap.size, 3, none⟩ = some (.slice A n c))
    (first | exact HX8.out.cells | exact HX7.out.cells | exact HX6.out.cells | exact HX5.out.cells | exact HS4.out | exact ⟨c0, c2, c3⟩ | go_keep)
    (first
      | (go_at_call 14; with_reducible refine hall.mono ?_; intro e w4 hpost; obtain ⟨A1, n1, c1, rfl, hsm, hs4⟩ := hpost; have HS4 := Lib.hid hs4; clear hs4)
      | (go_at_call 18; with_reducible refine hsm.mono ?_; intro e w5 hpost; obtain ⟨rfl, hx5⟩ := hpost; have hrm := HROOM.out w5 hx5; have HX5 := Lib.hid hx5; clear hx5)
      | (go_at_call 17; with_reducible refine hrm.mono ?_; intro e w6 hpost; obtain ⟨rfl, hx6⟩ := hpost; have hpr := HRM.out w6 hx6; have HX6 := Lib.hid hx6; clear hx6)
      | (go_at_call 19; with_reducible refine hpr.mono ?_; intro e w7 hpost; obtain ⟨rfl, hx7⟩ := hpost; have hsz := HSZ.out w7 hx7; have HX7 := Lib.hid hx7; clear hx7)
      | (go_at_call 20; with_reducible refine hsz.mono ?_; intro e w8 hpost; obtain ⟨rfl, hx8⟩ := hpost; have HX8 := Lib.hid hx8; clear hx8))
  all_goals
    go_wp2_with fail
    go_ret
    exact ⟨rfl, HX8.out.below⟩
end
end Go.Proofs.YtkehojgiappiiaaGreatDoor
end
section
set_option linter.unusedVariables false
set_option linter.unusedSimpArgs false
set_option maxRecDepth 100000
namespace Go.Proofs.YtkehojgiappiiaaGreatDoor
open Go Go.RowKit
section
variable {w w' V V' : World} {F F' G G' : Nat → Prop} {p d N t st B xb : Nat} {R R' : List (List UInt8)} {sr : Nat} {su : List ByteArray} {l : List (Nat × ByteArray)} {A A' : Option Addr} {n c n' c' k : Nat}
theorem logt_add (h : LogF w B F G p d N t st R sr su l) (r : List UInt8) (hr : r.length ≤ 32768) (hfit : (encs R).length + (r.length + 14) ≤ 128 * hB N t) (hl : l.length ≤ 900000) : Calls Tryz.prog 8 #[.pointer (some ⟨p, 0, none⟩), .string ⟨r.toArray⟩] w fun e w' =>
    e = .returned (.int .i64 0) ∧ ∃ F' G' l', LogF w' B F' G' p d N t st (R ++ [r]) sr su l' ∧ l'.length ≤ l.length + 300 ∧ Turn (Un F G) w (Un F' G') w' := by
  refine (add_ok h.log r hr hfit hl h.tab.t1).mono ?_
  rintro e w' ⟨rfl, F', G', l', hL, hl', hT⟩
  exact ⟨rfl, F', G', l', (h.next hL hT).1, hl', hT⟩
theorem logt_flush (h : LogF w B F G p d N t st R sr su l) (hl : l.length ≤ 900000) : Calls Tryz.prog 9 #[.pointer (some ⟨p, 0, none⟩)] w fun e w' =>
    e = .returned (.int .i64 0) ∧ ∃ F' G' st' su', LogF w' B F' G' p d N t st' R R.length su' [] ∧ Turn (Un F G) w (Un F' G') w' := by
  refine (flush_any h.log hl).mono ?_
  rintro e w' ⟨rfl, F', G', st', hL, hT⟩
  exact ⟨rfl, F', G', st', _, (h.next hL hT).1, hT⟩
theorem logt_anew (h : LogF w B F G p d N t st R sr su l) (ht : t + 1 ≤ 1000000) (rs : List (List UInt8)) (A0 : Option Addr) (n0 c0 : Nat) (hR : Reads w w.heap.size 1 A0 n0 (strL rs)) (hA0 : ∀ ad, A0 = some ad → 0 < n0 → ¬ Un F G ad.block) (hn0 : n0 ≤ maxLen) (hs : ∀ r ∈ rs, r.length ≤ 32768) (hfit : (encs rs).length ≤ 128 * hB N (t + 1)) (hl : l.length ≤ 900000) (hP : Tabs w B) :
    Calls Tryz.prog 11 #[.pointer (some ⟨p, 0, none⟩), .slice A0 n0 c0] w fun e w' => e = .returned (.int .i64 0) ∧ ∃ F' G' st' su', LogF w' B F' G' p d N (t + 1) st' rs rs.length su' [] ∧ Turn (Un F G) w (Un F' G') w' := by
  refine (anew_ok h.log ht rs A0 n0 c0 hR hA0 hn0 hs hfit hl h.tab hP h.far).mono ?_
  rintro e w' ⟨rfl, F', G', st', su', hL, hT⟩
  exact ⟨rfl, F', G', st', su', (h.next hL hT).1, hT⟩
/-- A disk that has failed: it holds the list's beginning, all that was sure in it. -/
structure DskT (w : World) (B : Nat) (F : Nat → Prop) (d N t : Nat) (R : List (List UInt8)) (sr : Nat) (su : List ByteArray) : Prop where
  disk : Disk w F d N su []
  at_ : ∃ m, DiskD N t R m su ∧ sr ≤ wh R m
  far : ∀ b, F b → B ≤ b
  tab : Tab w B
theorem logt_fail (h : LogF w B F G p d N t st R sr su l) (hl : l.length ≤ 1000000) (keep torn : Int) (hk1 : -9223372036854775808 ≤ keep) (hk2 : keep ≤ 9223372036854775807) (ht1 : -9223372036854775808 ≤ torn) (ht2 : torn ≤ 9223372036854775807) :
    Calls Tryz.prog 12 #[.pointer (some ⟨d, 0, none⟩), .int .i64 keep, .int .i64 torn] w fun e w' => e = .returned (.int .i64 0) ∧ DskT w' B F d N t R sr (failP l su keep torn) ∧ Turn F w F w' := by
  refine (fail_any h hl keep torn hk1 hk2 ht1 ht2).mono ?_
  rintro e w' ⟨rfl, hD, hT, ht, hb⟩
  obtain ⟨m, h1, h2, h3⟩ := h.log.ok.fail keep torn
  exact ⟨rfl, ⟨hD, ⟨m, h1, h2⟩, fun b hb => h.far b (.inl hb), ht⟩, hT⟩
theorem logt_open (h : DskT w B F d N t R sr su) (hN : N ≤ 4000) : Calls Tryz.prog 13 #[.pointer (some ⟨d, 0, none⟩)] w fun e w' =>
    ∃ p F' G' st' su' m, e = .returned (.tuple #[.pointer (some ⟨p, 0, none⟩), .int .i64 0]) ∧ sr ≤ m ∧ m ≤ R.length ∧ LogF w' B F' G' p d N t st' (R.take m) m su' [] ∧ Turn F w (Un F' G') w' := by
  obtain ⟨m, hd, hm⟩ := h.at_
  refine (open_any h.disk hd hN h.tab.t1).mono ?_
  rintro e w' ⟨p, F', G', st', rfl, hL, hTn⟩
  have hle := (wh_len R m).1
  have hlen : (R.take (wh R m)).length = wh R m := by rw [List.length_take]; omega
  have hdn := hTn.down h.far h.tab.le
  rw [hlen] at hL
  exact ⟨p, F', G', st', _, wh R m, rfl, hm, hle, ⟨hL, hTn.far h.far h.tab.le, h.tab.on hdn⟩, hTn⟩
theorem LogF.keep (h : LogF w B F G p d N t st R sr su l) (hk : ∀ b, Un F G b → w'.heap[b]? = w.heap[b]?) (hs : w.heap.size ≤ w'.heap.size) (hb : Below B w w') : LogF w' B F G p d N t st R sr su l :=
  ⟨⟨h.log.disk.keep (fun b hb => hk b (.inl hb)) hs, by
    obtain ⟨vr, A, m, c, hM⟩ := h.log.mem
    exact ⟨vr, A, m, c, hM.keep (fun b hb => hk b (.inr hb)) hs⟩, h.log.apart, h.log.ok, h.log.stE⟩, h.far, h.tab.on hb⟩
/-- What lies beside the log: the statement's state in its box, and its list. -/
structure Beside (V : World) (Z : Nat → Prop) (B xb N sr q : Nat) (A : Option Addr) (n c : Nat) (R : List (List UInt8)) : Prop where
  row : Row V xb 25 [.int .i64 (N : Int), .int .i64 (sr : Int), .int .i64 (q : Int), .slice A n c]
  xF : ¬ Z xb
  xB : B ≤ xb
  rd : Reads V V.heap.size 1 A n (strL R)
  out : ∀ ad, A = some ad → 0 < n → ¬ Z ad.block ∧ ad.block ≠ xb
  hn : n ≤ maxLen
  hc : n ≤ c
  hm : c ≤ maxLen
  hz : A = none → c = 0
theorem reads_turnZ {Z Z' : Nat → Prop} {xs : List Value} (h : Reads V V.heap.size 1 A n xs) (T : Turn Z V Z' V') (hA : ∀ ad, A = some ad → 0 < n → ¬ Z ad.block) : Reads V' V'.heap.size 1 A n xs :=
  ⟨h.1, fun h0 => by
    obtain ⟨ad, e, hb, hc⟩ := h.2 h0
    exact ⟨ad, e, Nat.lt_of_lt_of_le hb T.size, fun j u hj => (World.cell?_of_block (by rw [block_of_add]; exact T.block _ hb (hA ad e h0))).trans (hc j u hj)⟩⟩
theorem Beside.turn {Z Z' : Nat → Prop} {q : Nat} (h : Beside V Z B xb N sr q A n c R) (T : Turn Z V Z' V') : Beside V' Z' B xb N sr q A n c R :=
  ⟨h.row.keep (T.block _ h.row.lt h.xF), fun hf => (T.foot _ hf).elim h.xF (fun h1 => by have := h.row.lt; omega), h.xB, reads_turnZ h.rd T (fun ad e h0 => (h.out ad e h0).1), fun ad e h0 => ⟨fun hf => (T.foot _ hf).elim (h.out ad e h0).1 (fun h1 => by
    obtain ⟨a2, e2, hb2, _⟩ := h.rd.2 h0
    rw [e] at e2
    injection e2 with e2
    subst e2
    omega), (h.out ad e h0).2⟩, h.hn, h.hc, h.hm, h.hz⟩
theorem Beside.below {Z : Nat → Prop} {q : Nat} (h : Beside V Z B xb N sr q A n c R) (hb : Below V.heap.size V V') : Beside V' Z B xb N sr q A n c R := h.turn (Turn.below Z hb)
/-- The whole state between two calls. -/
structure PSt (w0 : World) (B N xb : Nat) (V : World) (F G : Nat → Prop) (p d t st : Nat) (R : List (List UInt8)) (sr : Nat) (su : List ByteArray) (l : List (Nat × ByteArray)) (A : Option Addr) (n c k : Nat) : Prop where
  log : LogF V B F G p d N t st R sr su l
  by_ : Beside V (Un F G) B xb N sr (t % 2) A n c R
  ll : l.length ≤ 300 * k
  tk : t ≤ k
  below : Below B w0 V
end
end Go.Proofs.YtkehojgiappiiaaGreatDoor
end
