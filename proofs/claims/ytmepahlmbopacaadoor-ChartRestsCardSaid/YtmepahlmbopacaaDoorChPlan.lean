/- What Plan of package chart returns. Conditions: chart and nodes read as lists; the tables lie as start-up lays them. -/
import Derived.Test.YtmepahlmbopacaaDoorChFirst
set_option linter.unusedVariables false
set_option linter.unusedSimpArgs false
set_option maxRecDepth 100000
namespace Go.Proofs.YtmepahlmbopacaaDoor.Ct
open Go Go.RowKit Go.Maps
def planE (e : Int) (a l : List Int) (P : Int) : Int := if mayC e a = false then 1 else firstE l P (a.length : Int)
/-- The error, and the moves to what the ring says. -/
def PlanPost (e : Int) (a l : List Int) (P : Int) (w : World) (en : Ending) (w' : World) : Prop := ∃ (v : Value) (D : List Mv), en = .returned (.tuple #[v, .int .i64 (planE e a l P)]) ∧ w'.ownsRow w.heap.size 39 3 v D.length (mvs D) ∧
  (planE e a l P = 0 ∧ (∃ H, H.length = a.length ∧ Homes (zof l P.toNat) (a.length : Int) H ∧ D = dm a H a.length) ∨ planE e a l P ≠ 0 ∧ D = []) ∧ Below w.heap.size w w'
theorem PlanPost.bad {e : Int} {a l : List Int} {P k : Int} {w w' : World} (h : planE e a l P = k) (hk : k ≠ 0) (hb : Below w.heap.size w w') : PlanPost e a l P w (.returned (.tuple #[.slice none 0 0, .int .i64 k])) w' :=
  ⟨_, [], by rw [h], World.ownsRow_nil .., .inr ⟨by omega, rfl⟩, hb⟩
theorem homes_good {l : List Int} {P : Nat} {n : Int} {H : List Int} (hg : GoodN l) (h : Homes (zof l P) n H) : ∀ x ∈ H, 0 ≤ x ∧ x < 8 := fun x hx => by
  obtain ⟨j, hj, rfl⟩ := List.getElem_of_mem hx
  obtain ⟨q, hq, _⟩ := h j hj
  rw [List.getD_eq_getElem?_getD, List.getElem?_eq_getElem hj] at hq
  exact hg.2 _ (mem_zof.1 hq).1
theorem homes_may {l : List Int} {P : Nat} {n : Int} {H : List Int} (hg : GoodN l) (h : Homes (zof l P) n H) (h1 : 1 ≤ H.length) (h16 : H.length ≤ 16) : mayC 1 H = true := mayC_iff.2 ⟨by omega, ⟨h1, h16⟩, homes_good hg h⟩
theorem firstE_zero {l : List Int} {P n : Int} (h : firstE l P n = 0) : newB l P = true ∧ mayS n = true ∧ l ≠ [] := by
  unfold firstE at h
  split at h
  · omega
  · rename_i h1
    split at h
    · omega
    · rename_i h2
      simp only [not_or, Bool.not_eq_false] at h1
      exact ⟨h1.1, h1.2, h2⟩
theorem newB_good {l : List Int} {P : Int} (h : newB l P = true) : GoodN l ∧ 1 ≤ P ∧ P ≤ 64 := by
  unfold newB at h
  rw [Bool.and_eq_true] at h
  exact ⟨goodB_iff.1 h.1, by simpa using h.2⟩
set_option maxHeartbeats 4000000 in
theorem plan_any {w : World} {B B' : Nat} {A A' : Option Addr} {n m c c' : Nat} {a l : List Int} (e : Int) (hR : Reads w B 1 A n (ints a)) (hB : B ≤ w.heap.size) (hR' : Reads w B' 1 A' m (ints l)) (hB' : B' ≤ w.heap.size) (hm : m ≤ maxLen) (P : Int) (hT : Four w) :
    Calls Tryd.prog 9 #[.agg #[.int .i64 e, .slice A n c], .slice A' m c', .int .i64 P] w (PlanPost e a l P w) := by
  have hln := hR.len
  obtain ⟨W, hW⟩ : ∃ W, W = w.alloc (.cells #[.int .i64 e, .slice A n c] 24) := ⟨_, rfl⟩
  have hB0 : Below w.heap.size w W := by rw [hW]; exact (Below.refl _ w).alloc (Nat.le_refl _) _
  have r0 : Row W w.heap.size 24 [.int .i64 e, .slice A n c] := by rw [hW]; exact Row.new w 24 [.int .i64 e, .slice A n c]
  have h1 := (hR.more hB).below hB0
  have h2 := (hR'.more hB').below hB0
  have hTW := hT.on hB0
  have HC := Lib.hid (check_any (c := c) e h1 hB0.size)
  have KF := Lib.hid (fun w1 (hb : Below W.heap.size W w1) => first_any (c := c') (h2.below (hb.mono hB0.size)) (Nat.le_trans hB0.size hb.size) hm P (n : Int) (hTW.on hb))
  have KR := Lib.hid (fun w1 (hb : Below W.heap.size W w1) => And.intro (r0.keep (hb.block _ r0.lt)) (h1.below (hb.mono hB0.size)))
  have HW := Lib.hid hW
  have HB0 := Lib.hid hB0
  have HL := Lib.hid hln
  have hpe : planE e a l P = if mayC e a = false then 1 else firstE l P (n : Int) := by unfold planE; rw [hln]
  clear hR hR' hB hB' hB0 r0 hW hT h1 h2 hTW hln
  cases hmc : mayC e a with
  | false =>
    have HE := Lib.hid (show planE e a l P = 1 by rw [hpe, if_pos hmc])
    rw [hmc, okV_f] at HC
    clear hpe hmc
    go_enter Tryd.func9, Tryd.ntmps9
    go_wp2_with fail
    rw [← HW.out]
    refine HC.out.mono ?_
    rintro en w1 ⟨rfl, hb1⟩
    have HB1 := Lib.hid (HB0.out.trans (hb1.mono HB0.out.size))
    clear hb1
    go_wp2_with fail
    go_ret2
    exact PlanPost.bad HE.out (by decide) HB1.out
  | true =>
    rw [if_neg (by rw [hmc]; simp)] at hpe
    rw [hmc, okV_t] at HC
    have HPE := Lib.hid hpe
    have HMC := Lib.hid hmc
    clear hpe hmc
    go_enter Tryd.func9, Tryd.ntmps9
    go_wp2_with fail
    rw [← HW.out]
    refine HC.out.mono ?_
    rintro en w1 ⟨rfl, hb1⟩
    obtain ⟨rr, _⟩ := KR.out w1 hb1
    have x0 := rr.cell (j := 0) rfl
    have x1 := rr.cell (j := 1) rfl
    have xl := rr.lt
    have HF := Lib.hid (KF.out w1 hb1)
    have HB1 := Lib.hid hb1
    clear hb1 rr
    go_wp2_with fail
    refine HF.out.mono ?_
    rintro en w2 ⟨E, A1, n1, c1, H, rfl, hRH, hnc, hcm, hor, hb2⟩
    have hb02 := below_then HB1.out hb2
    clear x0 x1 xl
    obtain ⟨rr, hRa⟩ := KR.out w2 hb02
    have x0 := rr.cell (j := 0) rfl
    have x1 := rr.cell (j := 1) rfl
    have xl := rr.lt
    rcases hor with ⟨h0, rfl, hn1, hHs⟩ | ⟨hne, rfl, rfl⟩
    · obtain rfl : n1 = n := by omega
      have hH := hRH.len
      obtain ⟨hnb, hms, _⟩ := firstE_zero h0
      obtain ⟨hg, _, _⟩ := newB_good hnb
      have hm2 := mayC_iff.1 HMC.out
      have hmH : mayC 1 H = true := homes_may hg hHs (by have := HL.out; omega) (by have := HL.out; omega)
      rw [h0]
      have hE : diffE e a 1 H = 0 := by unfold diffE; rw [if_pos ⟨HMC.out, hmH, by have := HL.out; omega⟩]
      have hD : diffL e a 1 H = dm a H a.length := by unfold diffL; rw [if_pos ⟨HMC.out, hmH, by have := HL.out; omega⟩]
      obtain ⟨U, hU⟩ : ∃ U, U = w2.alloc (.cells #[.int .i64 1, .slice A1 n1 c1] 24) := ⟨_, rfl⟩
      have hbU : Below w2.heap.size w2 U := by rw [hU]; exact (Below.refl _ w2).alloc (Nat.le_refl _) _
      have HD := Lib.hid (diff_any (w := U) (c := c) (c' := c1) e 1 (hRa.below (hbU.mono (Nat.le_trans HB0.out.size hb02.size))) (Nat.le_trans HB0.out.size (Nat.le_trans hb02.size hbU.size)) (hRH.below hbU) hbU.size)
      rw [hE, hD] at HD
      have HH := Lib.hid (And.intro (show planE e a l P = 0 by rw [HPE.out, h0]) (And.intro (show H.length = a.length by have := HL.out; omega) (And.intro (show Homes (zof l P.toNat) (a.length : Int) H by rw [← HL.out]; exact hHs) (And.intro (show Below w.heap.size w U from HB0.out.trans ((hb02.trans (hbU.mono hb02.size)).mono HB0.out.size)) (Nat.le_trans (Nat.le_trans HB0.out.size hb02.size) hbU.size)))))
      have HU := Lib.hid hU
      clear hRH hnc hcm hb2 hb02 rr hRa h0 hn1 hHs hH hnb hms hg hm2 hmH hE hD hU hbU
      go_wp2_with fail
      rw [← HU.out]
      refine HD.out.mono ?_
      rintro en w3 ⟨v, rfl, hown, hb3⟩
      have HO := Lib.hid (And.intro hown hb3)
      clear hown hb3
      go_wp2_with fail
      go_ret2
      exact ⟨v, dm a H a.length, by rw [HH.out.1]; rfl, own_base HO.out.1 HH.out.2.2.2.2, .inl ⟨HH.out.1, H, HH.out.2.1, HH.out.2.2.1, rfl⟩, HH.out.2.2.2.1.trans (HO.out.2.mono HH.out.2.2.2.2)⟩
    · have hnb : (firstE l P (n : Int) != 0) = true := by rw [bne_iff_ne]; exact hne
      have HE := Lib.hid (show planE e a l P = firstE l P (n : Int) from HPE.out)
      have HNE := Lib.hid hne
      have HBX := Lib.hid (show Below w.heap.size w (w2.alloc (.cells #[.int .i64 0, .slice A1 n1 c1] 24)) from (HB0.out.trans (hb02.mono HB0.out.size)).alloc (Nat.le_trans HB0.out.size hb02.size) _)
      clear hRH hnc hcm hb2 hb02 rr hRa hne
      generalize firstE l P (n : Int) = k at *
      go_wp2_with fail
      go_ret2
      exact PlanPost.bad HE.out HNE.out HBX.out
end Go.Proofs.YtmepahlmbopacaaDoor.Ct
