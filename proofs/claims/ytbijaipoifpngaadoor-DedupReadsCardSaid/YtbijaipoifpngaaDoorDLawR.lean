/- DedupReads: its walk. Conditions: Go's table of powers of ten lies below. -/
import Derived.Test.YtbijaipoifpngaaDoorDLawB
import Derived.Test.YtbijaipoifpngaaDoorDROf
set_option linter.unusedVariables false
set_option linter.unusedSimpArgs false
set_option maxRecDepth 100000
namespace Go.Proofs.YtbijaipoifpngaaDoor.Be
open Go Go.RowKit
set_option maxHeartbeats 8000000 in
theorem dedupReads_walk (s : ByteArray) (w : World) (hT : Tabs w w.heap.size) : Calls Tryd.prog 4 #[.string s] w (Gives (.bool true) w) := by
  by_cases hs : s.size ≤ 4096
  · have hsz : ¬ (4096 : Int) < (s.size : Int) := by omega
    have hof := of_any s (by omega) w
    have hrf := fun (W : World) => rof_any s (by omega) W
    simp only [refOf_is] at hrf
    cases ho : ofM s.data.toList with
    | none =>
      rw [ho] at hof
      simp only [ho] at hrf
      have HRF := Lib.hid hrf
      clear hrf ho
      go_enter Tryd.func4, Tryd.ntmps4
      go_wp2_with fail
      refine hof.mono ?_
      rintro e w1 ⟨rfl, hb1⟩
      clear hof
      go_wp2_with fail
      refine (HRF.out w1).mono ?_
      rintro e w2 ⟨q, hq, rfl, hb2⟩
      simp only [Option.isSome_none, Bool.false_eq_true, if_false]
      go_wp2_with (refine st_tab (q' := q) (TabV.zero (b := w2.heap.size) rfl) hq rfl _ _ rfl rfl rfl ?_; intro W3 f1 f2 f3)
      have hb3 : Below w2.heap.size w2 W3 := below_grown_new ((Below.refl _ w2).alloc (Nat.le_refl _) _) f3 (Nat.le_refl _)
      have hb : Below w.heap.size w W3 := hb1.trans ((hb2.mono (Nat.le_refl _)).trans (hb3.mono hb2.size) |>.mono hb1.size)
      have haw := fun (W : World) (h : Below w.heap.size w W) => awake_any w.heap.size W (hT.on h) h.size
      have HAW := Lib.hid haw
      clear haw f1 f2 f3
      go_wp2_with (first | (go_at_call 18; refine (HAW.out _ hb).mono ?_; rintro e w9 ⟨rfl, hb9⟩))
      go_ret
      exact ⟨rfl, hb.trans (hb9.mono hb.size)⟩
    | some q0' =>
      obtain ⟨hok, hE⟩ := ofM_some ho
      have HE := Lib.hid hE
      clear hE
      rw [ho] at hof
      simp only [ho] at hrf
      have HRF := Lib.hid hrf
      clear hrf ho
      go_enter Tryd.func4, Tryd.ntmps4
      go_wp2_with fail
      refine hof.mono ?_
      rintro e w1 ⟨p, rfl, ht1, hp1, hb1⟩
      clear hof
      go_wp2_with fail
      refine (HRF.out w1).mono ?_
      rintro e w2 ⟨q, hq, rfl, hb2⟩
      simp only [Option.isSome_some, if_true]
      go_wp2_with (refine st_tab (q' := q) (TabV.zero (b := w2.heap.size) rfl) hq rfl _ _ rfl rfl rfl ?_; intro W3 f1 f2 f3)
      have hb3 : Below w2.heap.size w2 W3 := below_grown_new ((Below.refl _ w2).alloc (Nat.le_refl _) _) f3 (Nat.le_refl _)
      have hb23 : Below w1.heap.size w1 W3 := hb2.trans (hb3.mono hb2.size)
      have hb : Below w.heap.size w W3 := hb1.trans (hb23.mono hb1.size)
      have ht3 := ht1.on hb23
      have hx := fun (W : World) (h : Below W3.heap.size W3 W) => ttext_any (ht3.on h) ((hT.on (hb.trans (h.mono hb.size))).up (Nat.le_trans hb.size h.size))
      have haw := fun (W : World) (h : Below w.heap.size w W) => awake_any w.heap.size W (hT.on h) h.size
      simp only [← HE.out] at hx
      have HX := Lib.hid hx
      have HAW := Lib.hid haw
      clear haw hx f1 f2 f3 ht3 ht1
      go_wp2_with (first
        | ((go_at_call 15; (with_reducible refine (HX.out _ (Below.refl _ _)).mono ?_); rintro e w8 ⟨rfl, hb8⟩))
        | ((go_at_call 18; refine (HAW.out _ (hb.trans (hb8.mono hb.size))).mono ?_; rintro e w9 ⟨rfl, hb9⟩)))
      go_ret
      exact ⟨rfl, (hb.trans (hb8.mono hb.size)).trans (hb9.mono (hb.trans (hb8.mono hb.size)).size)⟩
  · have hsz : (4096 : Int) < (s.size : Int) := by omega
    have haw := awake_any w.heap.size w hT (Nat.le_refl _)
    go_enter Tryd.func4, Tryd.ntmps4
    go_wp2_with (refine haw.mono ?_; rintro e w9 ⟨rfl, hb9⟩)
    go_ret
    exact ⟨rfl, hb9⟩
end Go.Proofs.YtbijaipoifpngaaDoor.Be
