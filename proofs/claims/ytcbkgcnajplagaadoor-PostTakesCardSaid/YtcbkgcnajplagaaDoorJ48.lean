/- PostTakes returns true. Conditions: the tables lie as start-up lays them. -/
import Derived.Test.YtcbkgcnajplagaaDoorJ29
import Derived.Test.YtcbkgcnajplagaaDoorJ47
set_option linter.unusedVariables false
set_option linter.unusedSimpArgs false
set_option maxRecDepth 100000
namespace Go.Proofs.YtcbkgcnajplagaaDoor.Po
open Go Go.RowKit
open Be (T kindsOk kindsOkL deepT deepL wfT wfL tidy tidyL onlyRes takeRes gdT RdL Rd RdA ReadsP Keeps)
def tkCode : Option M → Int
  | none => 130
  | some _ => 0
theorem tkPost_all {r : Option M} {w w' : World} {e : Ending} (h : TkPost r w e w') : ∃ A n c A' n' c', e = .returned (.tuple #[.agg (msgV (r.getD zM) A n c A' n' c').toArray, .int .i64 (tkCode r)]) ∧ Below w.heap.size w w' ∧ Reads w' w'.heap.size 1 A n (ints (r.getD zM).vs) ∧ Reads w' w'.heap.size 2 A' n' (hits (r.getD zM).hs) ∧ n ≤ 70000 ∧ n' ≤ 70000 := by
  cases r with
  | none =>
    obtain ⟨hb, rfl⟩ := h
    exact ⟨none, 0, 0, none, 0, 0, rfl, hb, ⟨rfl, fun h => absurd h (by omega)⟩, ⟨rfl, fun h => absurd h (by omega)⟩, by omega, by omega⟩
  | some m =>
    obtain ⟨hb, A, n, c, A', n', c', rfl, h1, h2, h3, h4⟩ := h
    exact ⟨A, n, c, A', n', c', rfl, hb, h1, h2, h3, h4⟩
set_option maxHeartbeats 16000000 in
theorem postTakes_walk (s : ByteArray) {w : World} (hT : Four w) : Calls Tryd.prog 4 #[.string s] w (Gives (.bool true) w) := by
  have HAW := Lib.hid (fun w1 (hb : Below w.heap.size w w1) => show Calls Tryd.prog 9 #[] w1 (fun e w' => e = .returned (.bool true) ∧ Below w.heap.size w w') from by
    refine (awake_any w1 (hT.on hb)).mono ?_
    rintro e w2 ⟨rfl, hb2⟩
    exact ⟨rfl, below_then hb hb2⟩)
  by_cases hs : s.size ≤ 4096
  rotate_left
  · as_aux_lemma =>
    have hz : (s.size : Int) > 4096 := by omega
    have HA := Lib.hid (HAW.out w (Below.refl _ _))
    clear hT hs
    go_enter Tryd.func4, Tryd.ntmps4
    go_wp2_with fail
    refine HA.out.mono ?_
    rintro en w2 ⟨rfl, hb2⟩
    go_wp2_with fail
    go_ret
    exact ⟨rfl, hb2⟩
  have hz : ¬ (s.size : Int) > 4096 := by omega
  have ht1 := take_any s (by omega) hT
  have ht2 := fun w1 => rtake_any (w := w1) s (by omega)
  obtain ⟨r, hr⟩ : ∃ r, takeM s = r := ⟨_, rfl⟩
  rw [hr] at ht1 ht2
  have HT1 := Lib.hid ht1
  have HT2 := Lib.hid ht2
  clear ht1 ht2 hr hT
  go_enter Tryd.func4, Tryd.ntmps4
  go_wp2_with fail
  refine HT1.out.mono ?_
  intro en w1 hpost
  obtain ⟨A, n, c, A2, n2, c2, rfl, hb1, hR, hH, hn, hn2⟩ := tkPost_all hpost
  have ht2 := fun w1 => (HT2.out w1).mono (fun e w' h => tkPost_all h)
  obtain ⟨m, hm⟩ : ∃ m, r.getD zM = m := ⟨_, rfl⟩
  obtain ⟨z, hzc⟩ : ∃ z, tkCode r = z := ⟨_, rfl⟩
  rw [hm, hzc] at ht2
  rw [hm] at hR hH ⊢
  rw [hzc]
  have HT3 := Lib.hid ht2
  obtain ⟨V, hV⟩ : ∃ V, V = w1.alloc (.cells (msgV m A n c A2 n2 c2).toArray 30) := ⟨_, rfl⟩
  have hbV : Below w1.heap.size w1 V := by rw [hV]; exact (Below.refl _ w1).alloc (Nat.le_refl _) _
  have rV : Row V w1.heap.size 30 (msgV m A n c A2 n2 c2) := by rw [hV]; exact Row.new w1 _ _
  have HK := Lib.hid (show Row V w1.heap.size 30 (msgV m A n c A2 n2 c2) ∧ Below w.heap.size w V ∧ Reads V V.heap.size 1 A n (ints m.vs) ∧ Reads V V.heap.size 2 A2 n2 (hits m.hs) from
    ⟨rV, hb1.trans (hbV.mono hb1.size), (hR.below hbV).more hbV.size, (hH.below hbV).more hbV.size⟩)
  have HV := Lib.hid hV
  clear hpost ht2 hb1 hR hH hV hbV rV hm hzc HT2
  unfold msgV
  unfold msgV at HV
  go_upto_region 4 with fail
  rw [← HV.out]
  go_wp2_with fail
  refine (HT3.out V).mono ?_
  rintro en w3 ⟨A3, n3, c3, A4, n4, c4, rfl, hb3, hR3, hH3, hn3, hn4⟩
  obtain ⟨U, hU⟩ : ∃ U, U = w3.alloc (.cells (msgV m A3 n3 c3 A4 n4 c4).toArray 30) := ⟨_, rfl⟩
  have hbU : Below w3.heap.size w3 U := by rw [hU]; exact (Below.refl _ w3).alloc (Nat.le_refl _) _
  have rU : Row U w3.heap.size 30 (msgV m A3 n3 c3 A4 n4 c4) := by rw [hU]; exact Row.new w3 _ _
  have hVU : Below V.heap.size V U := hb3.trans (hbU.mono hb3.size)
  have hsa := rsame_any m m (c := c) (c' := c3) (c2 := c2) (c2' := c4) (w := U) ((HK.out.2.2.1.below hVU).more hVU.size) ((hR3.below hbU).more hbU.size) ((HK.out.2.2.2.below hVU).more hVU.size) ((hH3.below hbU).more hbU.size) (Nat.le_refl _) (by unfold maxLen; omega) (by unfold maxLen; omega) (by unfold maxLen; omega) (by unfold maxLen; omega)
  rw [decide_eq_true (rfl : m = m)] at hsa
  have HSA := Lib.hid hsa
  have HU := Lib.hid hU
  have HL := Lib.hid (show Row U w1.heap.size 30 (msgV m A n c A2 n2 c2) ∧ Row U w3.heap.size 30 (msgV m A3 n3 c3 A4 n4 c4) ∧ Below w.heap.size w U from
    ⟨HK.out.1.keep (hVU.block _ HK.out.1.lt), rU, HK.out.2.1.trans (hVU.mono HK.out.2.1.size)⟩)
  clear hb3 hR3 hH3 hU hbU rU hVU hsa
  unfold msgV
  unfold msgV at HU HSA
  go_upto_region 5 with fail
  rw [← HU.out]
  go_wp2_with (first
    | refine ld_msg HL.out.1 rfl rfl _ rfl rfl ?_
    | refine ld_msg HL.out.2.1 rfl rfl _ rfl rfl ?_)
  refine HSA.out.mono ?_
  rintro en w6 ⟨rfl, hb6⟩
  have HA := Lib.hid (HAW.out w6 (HL.out.2.2.trans (hb6.mono HL.out.2.2.size)))
  clear hb6
  go_wp2_with fail
  refine HA.out.mono ?_
  rintro en w7 ⟨rfl, hb7⟩
  go_wp2_with fail
  go_ret
  exact ⟨rfl, hb7⟩
end Go.Proofs.YtcbkgcnajplagaaDoor.Po
