/- What Take of package post returns. Conditions: up to 300000 bytes; the tables lie as start-up lays them. -/
import Derived.Test.YtcbkgcnajplagaaDoorJ25
set_option linter.unusedVariables false
set_option linter.unusedSimpArgs false
set_option maxRecDepth 100000
namespace Go.Proofs.YtcbkgcnajplagaaDoor.Po
open Go Go.RowKit
def TkPost (r : Option M) (w : World) (e : Ending) (w' : World) : Prop :=
  Below w.heap.size w w' ∧ match r with
  | none => e = .returned (.tuple #[.agg zC.toArray, .int .i64 130])
  | some m => ∃ A n c A' n' c', e = .returned (.tuple #[.agg (msgV m A n c A' n' c').toArray, .int .i64 0]) ∧ Reads w' w'.heap.size 1 A n (ints m.vs) ∧ Reads w' w'.heap.size 2 A' n' (hits m.hs) ∧ n ≤ 70000 ∧ n' ≤ 70000
theorem tkPost_no {r : Option M} {w w1 w' : World} (hr : r = none) (hb : Below w.heap.size w w1) (hg : w1.grownBy w' (some w.heap.size)) : TkPost r w (.returned (.tuple #[.agg zC.toArray, .int .i64 130])) w' := by
  subst hr
  exact ⟨hb.grown hg hb.size (fun g e => by cases e; exact Nat.le_refl _), rfl⟩
theorem takeP_no {s : ByteArray} (h : readP s.data.toList = none) : takeM s = none := by
  rw [← takeP_eq]
  unfold takeP
  rw [h]
theorem takeP_if {s : ByteArray} {m : M} (h : readP s.data.toList = some m) : takeM s = if mayM m = true ∧ txtB m = s then some m else none := by
  rw [← takeP_eq]
  unfold takeP
  rw [h]
set_option maxHeartbeats 16000000 in
theorem take_any (s : ByteArray) (hs : s.size ≤ 300000) {w : World} (hT : Four w) : Calls Tryd.prog 13 #[.string s] w (TkPost (takeM s) w) := by
  obtain ⟨W, hW⟩ : ∃ W, W = w.alloc (.cells zC.toArray 30) := ⟨_, rfl⟩
  have hb0 : Below w.heap.size w W := by rw [hW]; exact (Below.refl _ w).alloc (Nat.le_refl _) _
  have hRz : Row W w.heap.size 30 zC := by rw [hW]; exact Row.new w 30 zC
  have KR := Lib.hid (fun w1 (hb : Below W.heap.size W w1) => show Row w1 w.heap.size 30 zC ∧ Below w.heap.size w w1 ∧ Four w1 from
    ⟨hRz.keep (hb.block _ hRz.lt), hb0.trans (hb.mono hb0.size), hT.on (hb0.trans (hb.mono hb0.size))⟩)
  have HRD := Lib.hid (read_any s hs (KR.out W (Below.refl _ W)).2.2)
  have HW := Lib.hid hW
  have hWl : w.heap.size < W.heap.size := hRz.lt
  clear hRz hb0 hW hT
  go_enter Tryd.func13, Tryd.ntmps13
  unfold zC msgC zM at HW
  go_wp2_with fail
  rw [← HW.out]
  refine HRD.out.mono ?_
  intro en w1 hpost
  unfold RdPost at hpost
  obtain ⟨hb1, hm⟩ := hpost
  cases hrd : readP s.data.toList with
  | none =>
    rw [hrd] at hm
    simp only at hm
    obtain ⟨tx, rfl⟩ := hm
    have HN := Lib.hid (takeP_no hrd)
    obtain ⟨U, hU⟩ : ∃ U, U = w1.alloc (.cells (zTC tx).toArray 30) := ⟨_, rfl⟩
    have hbU : Below w1.heap.size w1 U := by rw [hU]; exact (Below.refl _ w1).alloc (Nat.le_refl _) _
    have HU := Lib.hid hU
    have HK := Lib.hid (KR.out U (hb1.trans (hbU.mono hb1.size)))
    clear hrd hb1 hU hbU
    unfold zTC msgC zT
    unfold zTC msgC zT at HU
    go_upto_region 2 with fail
    rw [← HU.out]
    go_wp2_with (refine st_msg (ys := zC) HK.out.1 rfl rfl zC_one rfl _ _ rfl rfl rfl ?_; intro W' hr' hs' hg')
    exact bodyPost_ret (res_msg Tryd.results13 _ hr' rfl rfl rfl) rfl (tkPost_no HN.out HK.out.2.1 hg')
  | some m =>
    rw [hrd] at hm
    simp only at hm
    obtain ⟨A, n, c, A', n', c', rfl, hR, hR', hn, hn', ha, ha'⟩ := hm
    have hfit := readP_fit hrd
    have HN := Lib.hid (takeP_if hrd)
    obtain ⟨U, hU⟩ : ∃ U, U = w1.alloc (.cells (msgV m A n c A' n' c').toArray 30) := ⟨_, rfl⟩
    have hbU : Below w1.heap.size w1 U := by rw [hU]; exact (Below.refl _ w1).alloc (Nat.le_refl _) _
    have rU : Row U w1.heap.size 30 (msgV m A n c A' n' c') := by rw [hU]; exact Row.new w1 _ _
    have hbWU := hb1.trans (hbU.mono hb1.size)
    have HP := Lib.hid (put_any (c := c) (c' := c') m hfit (hR.below hbU) (hR'.below hbU) hbU.size hn hn' (KR.out U hbWU).2.2)
    have HU := Lib.hid hU
    have HR := Lib.hid (show Row U w1.heap.size 30 (msgV m A n c A' n' c') ∧ Below W.heap.size W U ∧ Reads U w1.heap.size 1 A n (ints m.vs) ∧ Reads U w1.heap.size 2 A' n' (hits m.hs) ∧ n ≤ 70000 ∧ n' ≤ 70000 ∧ (∀ ad, A = some ad → ad.block ≠ w.heap.size) ∧ (∀ ad, A' = some ad → ad.block ≠ w.heap.size) ∧ w1.heap.size ≤ U.heap.size from
      ⟨rU, hbWU, hR.below hbU, hR'.below hbU, hn, hn', fun ad e => by have := ha ad e; omega, fun ad e => by have := ha' ad e; omega, hbU.size⟩)
    clear hrd hb1 hU hbU rU hbWU hR hR' hn hn' ha ha' hfit
    unfold msgV
    unfold msgV at HU HP
    go_upto_region 2 with fail
    rw [← HU.out]
    go_wp2_with (refine ld_msg HR.out.1 rfl rfl _ rfl rfl ?_)
    refine HP.out.mono ?_
    rintro en w2 ⟨rfl, hb2⟩
    have HK := Lib.hid (And.intro (HR.out.1.keep (hb2.block _ HR.out.1.lt)) (And.intro (KR.out w2 (HR.out.2.1.trans (hb2.mono HR.out.2.1.size))) (And.intro (HR.out.2.2.1.below (hb2.mono HR.out.2.2.2.2.2.2.2.2)) (And.intro (HR.out.2.2.2.1.below (hb2.mono HR.out.2.2.2.2.2.2.2.2)) (Nat.le_trans HR.out.2.2.2.2.2.2.2.2 hb2.size)))))
    clear hb2
    cases hmm : mayM m with
    | false =>
      have HNN := Lib.hid (show takeM s = none by rw [HN.out, if_neg (by rw [hmm]; simp)])
      rw [eM_f hmm]
      clear hmm
      generalize txP m = X at *
      go_wp2_with (refine st_msg (ys := zC) HK.out.2.1.1 rfl rfl zC_one rfl _ _ rfl rfl rfl ?_; intro W' hr' hs' hg')
      exact bodyPost_ret (res_msg Tryd.results13 _ hr' rfl rfl rfl) rfl (tkPost_no HNN.out HK.out.2.1.2.1 hg')
    | true =>
      rw [eM_t hmm]
      have htx : txP m = txtB m := by unfold txP; rw [if_pos hmm]
      rw [htx]
      by_cases hts : txtB m = s
      · have HNN := Lib.hid (show takeM s = some m by rw [HN.out, if_pos ⟨hmm, hts⟩])
        rw [hts]
        clear hmm htx hts
        go_wp2_with (first
          | refine ld_msg HK.out.1 rfl rfl _ rfl rfl ?_
          | (refine st_msg (ys := msgV m A n c A' n' c') HK.out.2.1.1 rfl rfl (msgC_one m A n c A' n' c') rfl _ _ rfl rfl rfl ?_; intro W' hr' hs' hg'))
        have hk1 := reads_grown_ne HK.out.2.2.1 HR.out.2.2.2.2.2.2.1 hg' hs'
        have hk2 := reads_grown_ne HK.out.2.2.2.1 HR.out.2.2.2.2.2.2.2.1 hg' hs'
        refine bodyPost_ret (res_msg Tryd.results13 _ hr' rfl rfl rfl) rfl ⟨HK.out.2.1.2.1.grown hg' HK.out.2.1.2.1.size (fun g e => by cases e; exact Nat.le_refl _), ?_⟩
        rw [HNN.out]
        exact ⟨A, n, c, A', n', c', rfl, hk1.more (by rw [hs']; exact HK.out.2.2.2.2), hk2.more (by rw [hs']; exact HK.out.2.2.2.2), HR.out.2.2.2.2.1, HR.out.2.2.2.2.2.1⟩
      · have HNN := Lib.hid (show takeM s = none by rw [HN.out, if_neg (fun h => hts h.2)])
        have htb : ((txtB m).toList == s.toList) = false := by rw [Be.str_eq_dec]; exact decide_eq_false hts
        clear hmm htx hts
        generalize txtB m = X at *
        go_wp2_with (refine st_msg (ys := zC) HK.out.2.1.1 rfl rfl zC_one rfl _ _ rfl rfl rfl ?_; intro W' hr' hs' hg')
        exact bodyPost_ret (res_msg Tryd.results13 _ hr' rfl rfl rfl) rfl (tkPost_no HNN.out HK.out.2.1.2.1 hg')
end Go.Proofs.YtcbkgcnajplagaaDoor.Po
