/- What some, light and awake of the statements return. Conditions: the message reads; the tables lie as start-up lays them. -/
import Derived.Test.YtcbkgcnajplagaaDoorJ26
import Derived.Test.YtcbkgcnajplagaaDoorJ27
set_option linter.unusedVariables false
set_option linter.unusedSimpArgs false
set_option maxRecDepth 100000
namespace Go.Proofs.YtcbkgcnajplagaaDoor.Po
open Go Go.RowKit
open Be (T kindsOk kindsOkL deepT deepL wfT wfL tidy tidyL onlyRes takeRes gdT RdL Rd RdA ReadsP Keeps)
def sM : M := ⟨3, 3, 7, 0, 0, 9, 0, 5, 3, 0, 4, [1, -2], 0, false, [], ⟨#[120]⟩⟩
theorem sM_may : mayM sM = true := by decide +kernel
theorem sM_fit : FitM sM := ⟨⟨by decide, by decide⟩, fun x hx => by simp [sM] at hx⟩
theorem res_msg1 {fn : Func} {p : Tmp} (hf : fn.results = #[.cell p 30]) (tmps : Array Value) {w : World} {b : Nat} {xs : List Value} (h : Row w b 30 xs) (hl : xs.length = 16) (hp : tmps.getD p undef = .pointer (some ⟨b, 0, none⟩)) :
    (results fn tmps).run Tryd.prog w = .ok (.agg xs.toArray) w := by
  have a1 := run_loadVar_mid w b 0 30 xs _ (fun j v hv => by rw [Nat.zero_add]; exact h.cell hv) Tryd.underlying30 rfl (by rw [hl]; exact msg16)
  have hp' : tmps[p]?.getD undef = .pointer (some ⟨b, 0, none⟩) := by simpa using hp
  simp only [results, hf]
  simp [Sem.run_bind, Result.andThen, hp', asAddr, a1]
def SomePost (w : World) (e : Ending) (w' : World) : Prop := ∃ A, e = .returned (.agg (msgV sM A 2 2 none 0 0).toArray) ∧ Reads w' w'.heap.size 1 A 2 (ints [1, -2]) ∧ Below w.heap.size w w'
set_option maxHeartbeats 4000000 in
theorem some_any (w : World) : Calls Tryd.prog 16 #[] w (SomePost w) := by
  obtain ⟨W, hW⟩ : ∃ W, W = (w.alloc (.cells zC.toArray 30)).alloc (.cells #[.int .i64 1, .int .i64 (-2)] 3) := ⟨_, rfl⟩
  have hb0 : Below w.heap.size w W := by rw [hW]; exact ((Below.refl _ w).alloc (Nat.le_refl _) _).alloc (by simp) _
  have hRz : Row W w.heap.size 30 zC := by rw [hW]; exact (Row.new w 30 zC).keep (heap_alloc_lt _ _ (by simp))
  have hRV : Reads W (w.heap.size + 1 + 1) 1 (some ⟨w.heap.size + 1, 0, none⟩) 2 (ints [1, -2]) := by
    have := news_int (w.alloc (.cells zC.toArray 30)) [1, -2] (by simp)
    rw [World.size_alloc] at this
    rw [hW]
    exact this
  have hsW : W.heap.size = w.heap.size + 1 + 1 := by rw [hW]; simp
  have HW := Lib.hid hW
  have HX := Lib.hid (And.intro hRz (And.intro hb0 (And.intro hRV hsW)))
  clear hW hb0 hRz hRV hsW
  go_enter Tryd.func16, Tryd.ntmps16
  unfold zC msgC zM at HW
  go_upto_region 1 with fail
  go_wp2_with (first
    | (refine st_msg (W := W) (ys := msgV sM (some ⟨w.heap.size + 1, 0, none⟩) 2 2 none 0 0) HX.out.1 rfl rfl (msgC_one sM (some ⟨w.heap.size + 1, 0, none⟩) 2 2 none 0 0) rfl _ _ rfl rfl rfl ?_; intro W' hr' hs' hg')
    | (rw [← HW.out]; refine st_msg (ys := msgV sM (some ⟨w.heap.size + 1, 0, none⟩) 2 2 none 0 0) HX.out.1 rfl rfl (msgC_one sM (some ⟨w.heap.size + 1, 0, none⟩) 2 2 none 0 0) rfl _ _ rfl rfl rfl ?_; intro W' hr' hs' hg'))
  refine bodyPost_ret (res_msg1 Tryd.results16 _ hr' rfl rfl) rfl ⟨_, rfl, ?_, HX.out.2.1.grown hg' HX.out.2.1.size (fun g e => by cases e; exact Nat.le_refl _)⟩
  have := reads_grown_ne (p := w.heap.size) HX.out.2.2.1 (fun ad e => by injection e with e; subst e; show w.heap.size + 1 ≠ w.heap.size; omega) hg' hs'
  exact this.more (by rw [hs']; have := HX.out.2.2.2; omega)
set_option maxHeartbeats 4000000 in
theorem light_any (m : M) (A : Option Addr) (n c : Nat) (A' : Option Addr) (n' c' : Nat) (w : World) : Calls Tryd.prog 8 #[.agg (msgV m A n c A' n' c').toArray] w (Gives (.bool (decide (m.tx.size ≤ 2048 ∧ n ≤ 100 ∧ n' ≤ 100))) w) := by
  obtain ⟨W, hW⟩ : ∃ W, W = w.alloc (.cells (msgV m A n c A' n' c').toArray 30) := ⟨_, rfl⟩
  have hb0 : Below w.heap.size w W := by rw [hW]; exact (Below.refl _ w).alloc (Nat.le_refl _) _
  have hR : Row W w.heap.size 30 (msgV m A n c A' n' c') := by rw [hW]; exact Row.new w _ _
  have c10 := hR.cell (j := 10) rfl
  have c14 := hR.cell (j := 14) rfl
  have c15 := hR.cell (j := 15) rfl
  have lw := hR.lt
  have HW := Lib.hid hW
  have HB := Lib.hid hb0
  clear hW hb0 hR
  by_cases h1 : m.tx.size ≤ 2048
  rotate_left
  · have h1z : ¬ (m.tx.size : Int) ≤ 2048 := by omega
    rw [decide_eq_false (fun h => h1 h.1)]
    go_enter Tryd.func8, Tryd.ntmps8
    unfold msgV at HW
    unfold msgV
    go_upto_region 1 with fail
    rw [← HW.out]
    go_wp2_with fail
    go_ret
    exact ⟨rfl, HB.out⟩
  have h1z : (m.tx.size : Int) ≤ 2048 := by omega
  by_cases h2 : n ≤ 100
  rotate_left
  · have h2z : ¬ (n : Int) ≤ 100 := by omega
    rw [decide_eq_false (fun h => h2 h.2.1)]
    go_enter Tryd.func8, Tryd.ntmps8
    unfold msgV at HW
    unfold msgV
    go_upto_region 1 with fail
    rw [← HW.out]
    go_wp2_with fail
    go_ret
    exact ⟨rfl, HB.out⟩
  have h2z : (n : Int) ≤ 100 := by omega
  by_cases h3 : n' ≤ 100
  rotate_left
  · have h3z : ¬ (n' : Int) ≤ 100 := by omega
    rw [decide_eq_false (fun h => h3 h.2.2)]
    go_enter Tryd.func8, Tryd.ntmps8
    unfold msgV at HW
    unfold msgV
    go_upto_region 1 with fail
    rw [← HW.out]
    go_wp2_with fail
    go_ret
    exact ⟨rfl, HB.out⟩
  have h3z : (n' : Int) ≤ 100 := by omega
  rw [decide_eq_true ⟨h1, h2, h3⟩]
  go_enter Tryd.func8, Tryd.ntmps8
  unfold msgV at HW
  unfold msgV
  go_upto_region 1 with fail
  rw [← HW.out]
  go_wp2_with fail
  go_ret
  exact ⟨rfl, HB.out⟩
end Go.Proofs.YtcbkgcnajplagaaDoor.Po
