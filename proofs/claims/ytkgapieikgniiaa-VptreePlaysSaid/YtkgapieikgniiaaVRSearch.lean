/- What the document's Search returns. Conditions: the slices read as lists. -/
import Derived.Test.YtkgapieikgniiaaVRTop
import Derived.Test.YtkgapieikgniiaaVOpen
set_option linter.unusedVariables false
set_option linter.unusedSimpArgs false
namespace Go.Proofs.Ytkgapieikgniiaa
open Go Go.RowKit
theorem dstR_comm_no {a b : List Int} (h : ¬ (okV a = true ∧ okV b = true ∧ b.length = a.length)) : dstR b a = (0, 50) := dstR_no (fun k => h ⟨k.2.1, k.1, k.2.2.symm⟩)
theorem dstR_comm (a b : List Int) : dstR b a = dstR a b := by
  by_cases h : okV a = true ∧ okV b = true ∧ b.length = a.length
  · rw [dstR_yes h, dstR_yes ⟨h.2.1, h.1, h.2.2.symm⟩, far_comm]
  · rw [dstR_no h, dstR_comm_no h]
/-- The point's vector and v stand against one another. -/
def OkP (v : List Int) (p : Pt) : Prop := okV p.2.2 = true ∧ okV v = true ∧ v.length = p.2.2.length
def hitOf (v : List Int) (p : Pt) : Hit := (p.1, far p.2.2 v)
def hsOf (v : List Int) (l : List Pt) : List Hit := l.map (hitOf v)
def AllOk (v : List Int) (l : List Pt) : Prop := okV v = true ∧ ∀ p ∈ l, OkP v p
def Ans (l : List Pt) (v : List Int) (k : Int) (S X : List Hit) (er : Int) : Prop :=
  (¬ AllOk v l ∧ X = [] ∧ er = 50) ∨ (AllOk v l ∧ (k < 1 ∨ 64 < k) ∧ X = [] ∧ er = 51) ∨ (AllOk v l ∧ 1 ≤ k ∧ k ≤ 64 ∧ TopR (hsOf v l) S ∧ X = S.take k.toNat ∧ er = 0)
def SPost (l : List Pt) (v : List Int) (k : Int) (S : List Hit) (w : World) (e : Ending) (w' : World) : Prop :=
  ∃ A m c X er, e = .returned (.tuple #[.slice A m c, .int .i64 er]) ∧ Ans l v k S X er ∧ Reads w' w'.heap.size 2 A m (hits X) ∧ m ≤ maxLen ∧ Below w.heap.size w w' ∧ ∀ ad, A = some ad → 0 < m → w.heap.size ≤ ad.block
theorem SPost.bad {l : List Pt} {v : List Int} {k : Int} {S : List Hit} {w w' : World} (h : ¬ AllOk v l) (hb : Below w.heap.size w w') : SPost l v k S w (.returned (.tuple #[.slice none 0 0, .int .i64 50])) w' := ⟨none, 0, 0, [], 50, rfl, .inl ⟨h, rfl, rfl⟩, Reads.none_, by decide, hb, fun ad e => by cases e⟩
theorem SPost.off {l : List Pt} {v : List Int} {k : Int} {S : List Hit} {w w' : World} (h : AllOk v l) (hk : k < 1 ∨ 64 < k) (hb : Below w.heap.size w w') : SPost l v k S w (.returned (.tuple #[.slice none 0 0, .int .i64 51])) w' := ⟨none, 0, 0, [], 51, rfl, .inr (.inl ⟨h, hk, rfl, rfl⟩), Reads.none_, by decide, hb, fun ad e => by cases e⟩
theorem allOk_upto {v : List Int} {l : List Pt} (h1 : okV v = true) (h : ∀ p ∈ l.take l.length, OkP v p) : AllOk v l := ⟨h1, by rwa [List.take_length] at h⟩
theorem take_pt {l : List Pt} {i : Nat} (hi : i < l.length) : l.take (i + 1) = l.take i ++ [ptAt l i] := by
  unfold ptAt
  rw [List.take_add_one, List.getD_eq_getElem?_getD, List.getElem?_eq_getElem hi]
  rfl
theorem okP_next {v : List Int} {l : List Pt} {i : Nat} (hi : i < l.length) (h : ∀ p ∈ l.take i, OkP v p) (k : OkP v (ptAt l i)) : ∀ p ∈ l.take (i + 1), OkP v p := by
  rw [take_pt hi]
  intro p hp
  rcases List.mem_append.1 hp with g | g
  · exact h p g
  · rw [List.mem_singleton] at g
    rw [g]
    exact k
theorem hsOf_next {v : List Int} {l : List Pt} {i : Nat} (hi : i < l.length) : hsOf v (l.take (i + 1)) = hsOf v (l.take i) ++ [hitOf v (ptAt l i)] := by
  rw [take_pt hi]
  simp [hsOf]
theorem okP_not {v : List Int} {l : List Pt} {i : Nat} (hi : i < l.length) (k : ¬ OkP v (ptAt l i)) : ¬ AllOk v l := fun h => k (h.2 _ (ptAt_mem hi))
theorem dst_yes {v : List Int} {p : Pt} (h : OkP v p) : dstR p.2.2 v = ((hitOf v p).2, 0) := dstR_yes h
theorem dst_not {v : List Int} {p : Pt} (h : ¬ OkP v p) : dstR p.2.2 v = (0, 50) := dstR_no h
set_option maxHeartbeats 8000000 in
set_option maxRecDepth 100000 in
theorem rsearch_any (A : Option Addr) (n c : Nat) (l : List Pt) (A' : Option Addr) (n' c' : Nat) (v : List Int) (k : Int) (S : List Hit) (w : World) (hP : Pts w w.heap.size A n l) (hv : Reads w w.heap.size 1 A' n' (ints v)) (hm : n ≤ 1000) (hm' : n' ≤ maxLen)
    (hT : AllOk v l → 1 ≤ k → k ≤ 64 → TopR (hsOf v l) S) : Calls Try.prog 36 #[.slice A n c, .slice A' n' c', .int .i64 k] w (SPost l v k S w) := by
  have HL := Lib.hid hP.len
  have HP := Lib.hid hP
  have HV := Lib.hid hv
  have HT := Lib.hid hT
  have HI := Lib.hid (is_any A' n' c' _ v w hv hm')
  have HM := Lib.hid hm'
  clear hP hv hT hm'
  by_cases hok : okV v = true
  · rw [hok] at HI
    have HOK := Lib.hid hok
    clear hok
    go_enter Try.func36, Try.ntmps36
    go_wp2_with fail
    refine HI.out.mono ?_
    rintro e w1 ⟨rfl, q, rfl⟩
    clear HI
    go_wp2_with fail
    go_loopw [8, 9] (fun vh vi wr => ∃ i : Nat, i ≤ n ∧ vi = .int .i64 i ∧ wr.ownsRow w.heap.size 57 2 vh i (hits (hsOf v (l.take i))) ∧ Hid (∀ p ∈ l.take i, OkP v p) ∧ Below w.heap.size w wr) (fun _ vi _ => n - (intOf vi).toNat)
    case atStart => exact ⟨0, Nat.zero_le _, rfl, World.ownsRow_nil .., Lib.hid (fun p hp => by simp at hp), below_drewN (Below.refl _ _) q⟩
    case round =>
      obtain ⟨i, hi, rfl, hown, HA, hb⟩ := hrel
      obtain ⟨A5, c5, rfl, hq1, hq2⟩ := own_shape hown
      by_cases hin : i < n
      · have hinz : (i : Int) < (n : Int) := by omega
        obtain ⟨ad, rfl, had, hil, x0, x1, ⟨hg1, hg2⟩, _⟩ := (HP.out.below hb).at_ hin
        have hd := rdist_any A' (ptAt l i).2.1.1 n' (ptAt l i).2.1.2.1 c' (ptAt l i).2.1.2.2 _ _ v (ptAt l i).2.2 wr (HV.out.below hb) hg1 HM.out hg2
        rw [dstR_comm (ptAt l i).2.2 v] at hd
        have HAD : Hid (∀ j, (ad.add j).block < w.heap.size) := Lib.hid (fun j => by rw [block_of_add]; exact had)
        have HOWN := Lib.hid hown
        have HB := Lib.hid hb
        have hbs := hb.size
        by_cases hp : OkP v (ptAt l i)
        · rw [dst_yes hp] at hd
          have HD := Lib.hid hd
          have HN := Lib.hid (okP_next hil HA.out hp)
          have HH := Lib.hid (hsOf_next (v := v) hil)
          have e1 : (hitOf v (ptAt l i)).1 = (ptAt l i).1 := rfl
          rw [← e1] at x0
          clear hd hp hown hb had hg1 hg2 hq1 hq2 e1
          generalize hitOf v (ptAt l i) = X at *
          generalize (ptAt l i).2.1.1 = B1 at *
          generalize (ptAt l i).2.1.2.1 = B2 at *
          generalize (ptAt l i).2.1.2.2 = B3 at *
          unfold two at HD
          go_wp2_with fail
          refine HD.out.mono ?_
          rintro e w5 ⟨rfl, q5, rfl⟩
          have HOWN5 : Hid ((wr.drewN q5).ownsRow w.heap.size 57 2 (.slice A5 i c5) i (hits (hsOf v (l.take i)))) := Lib.hid HOWN.out
          go_wp2_with (at_builtin; refine append_hit rfl (.tmp 34) (.tmp 42) rfl w.heap.size _ i (hsOf v (l.take i)) X rfl HOWN5.out _ (by simp) rfl (by omega) hbs ?_; intro v2 w2 hown2 hg2 hv2)
          go_roundw
          case rel => exact ⟨i + 1, by omega, by go_num, by rw [HH.out]; exact hown2, HN, (below_drewN HB.out q5).trans (below_own HOWN5.out hg2 hbs)⟩
          case measure => simp [intOf]; omega
        · rw [dst_not hp] at hd
          have HD := Lib.hid hd
          have HN := Lib.hid (okP_not hil hp)
          clear hd hp hown had hg1 hg2 hq1 hq2 hb
          generalize (ptAt l i).2.1.1 = B1 at *
          generalize (ptAt l i).2.1.2.1 = B2 at *
          generalize (ptAt l i).2.1.2.2 = B3 at *
          unfold two at HD
          go_wp2_with fail
          refine HD.out.mono ?_
          rintro e w5 ⟨rfl, q5, rfl⟩
          go_wp2_with fail
          go_ret2
          exact SPost.bad HN.out (below_drewN HB.out q5)
      · have hinz : ¬ (i : Int) < (n : Int) := by omega
        have hi2 : i = l.length := by rw [← HL.out]; omega
        have hall : AllOk v l := allOk_upto HOK.out (by rw [← hi2]; exact HA.out)
        have hfull : l.take i = l := by rw [hi2, List.take_length]
        rw [hfull] at hown
        have HALL := Lib.hid hall
        have HB := Lib.hid hb
        have hin2 : i ≤ 1000 := by omega
        by_cases hk : k < 1
        · clear hown hall hfull hi2 hb
          go_wp2_with fail
          go_ret2
          exact SPost.off HALL.out (.inl hk) HB.out
        · by_cases hk2 : 64 < k
          · clear hown hall hfull hi2 hb
            go_wp2_with fail
            go_ret2
            exact SPost.off HALL.out (.inr hk2) HB.out
          · obtain ⟨kn, rfl⟩ := Int.eq_ofNat_of_zero_le (show 0 ≤ k by omega)
            have ht := HT.out hall (by omega) (by omega)
            have HR := Lib.hid (rtop_any A5 i c5 (hsOf v l) S kn wr (Reads.of_own hown) ht (by omega) (by omega))
            have HTT := Lib.hid ht
            have hk3 : 1 ≤ kn := by omega
            have hk4 : kn ≤ 64 := by omega
            clear hown hall hfull hi2 hb ht HT
            go_wp2_with fail
            refine HR.out.mono ?_
            rintro e w6 ⟨vv, m6, rfl, hown6, hb6⟩
            obtain ⟨A6, c6, rfl, h61, h62⟩ := own_shape hown6
            have hfr : ∀ ad, A6 = some ad → 0 < m6 → w.heap.size ≤ ad.block := fun ad e h0 => by
              obtain ⟨g, cap, hv, hbg, _⟩ := hown6.form h0
              have hv1 : A6 = some ⟨g, 0, none⟩ := by injection hv
              rw [e] at hv1
              injection hv1 with hv1
              rw [hv1]
              exact Nat.le_trans HB.out.size hbg
            have HF := Lib.hid (And.intro (Reads.of_own hown6) (And.intro (Nat.le_trans h61 h62) (And.intro (below_then HB.out hb6) hfr)))
            clear hfr
            clear hown6 hb6 h61 h62 HR
            go_wp2_with fail
            go_ret2
            exact ⟨A6, m6, c6, S.take kn, 0, rfl, .inr (.inr ⟨HALL.out, by omega, by omega, HTT.out, rfl, rfl⟩), HF.out.1, HF.out.2.1, HF.out.2.2.1, HF.out.2.2.2⟩
  · have hn : ¬ AllOk v l := fun h => hok h.1
    have hok' : okV v = false := by simpa using hok
    rw [hok'] at HI
    have HN := Lib.hid hn
    clear hok hok' hn HT
    go_enter Try.func36, Try.ntmps36
    go_wp2_with fail
    refine HI.out.mono ?_
    rintro e w1 ⟨rfl, q, rfl⟩
    go_wp2_with fail
    go_ret2
    exact SPost.bad HN.out (below_drewN (Below.refl _ _) q)
end Go.Proofs.Ytkgapieikgniiaa
