/- What read and Take of package post return. Conditions: up to 300000 bytes; the tables lie as start-up lays them. -/
import Derived.Test.YtcbkgcnajplagaaDoorJ19
import Derived.Test.YtcbkgcnajplagaaDoorJ21
import Derived.Test.YtcbkgcnajplagaaDoorJ24
import Derived.Test.YtcbkgcnajplagaaDoorJ20
set_option linter.unusedVariables false
set_option linter.unusedSimpArgs false
set_option maxRecDepth 100000
namespace Go.Proofs.YtcbkgcnajplagaaDoor.Po
open Go Go.RowKit
open Be (T kindsOk kindsOkL deepT deepL wfT wfL tidy tidyL onlyRes takeRes gdT RdL Rd RdA ReadsP Keeps)
def zT (tx : ByteArray) : M := ⟨0, 0, 0, 0, 0, 0, 0, 0, 0, 0, 0, [], 0, false, [], tx⟩
def zTC (tx : ByteArray) : List Value := msgC (zT tx) (.slice none 0 0) (.slice none 0 0)
theorem zT_zC : zTC ⟨#[]⟩ = zC := rfl
def RdPost (r : Option M) (w : World) (e : Ending) (w' : World) : Prop :=
  Below w.heap.size w w' ∧ match r with
  | none => ∃ tx, e = .returned (.tuple #[.agg (zTC tx).toArray, .bool false])
  | some m => ∃ A n c A' n' c', e = .returned (.tuple #[.agg (msgV m A n c A' n' c').toArray, .bool true]) ∧ Reads w' w'.heap.size 1 A n (ints m.vs) ∧ Reads w' w'.heap.size 2 A' n' (hits m.hs) ∧ n ≤ 70000 ∧ n' ≤ 70000 ∧ (∀ ad, A = some ad → w.heap.size ≤ ad.block) ∧ (∀ ad, A' = some ad → w.heap.size ≤ ad.block)
theorem rdPost_no {r : Option M} {w w' : World} (h : r = none) (hb : Below w.heap.size w w') : RdPost r w (.returned (.tuple #[.agg zC.toArray, .bool false])) w' := by
  subst h
  exact ⟨hb, ⟨#[]⟩, rfl⟩
theorem read_1 {l : List UInt8} (h : (tkL l).2.2 ≠ 0) : readP l = none := by
  unfold readP
  rw [if_neg (fun h2 => h h2.1)]
theorem read_2 {l : List UInt8} (h : (tkL (l.drop (tkL l).2.1)).2.2 ≠ 0) : readP l = none := by
  unfold readP
  rw [if_neg (fun h2 => h h2.2)]
theorem read_3 {l : List UInt8} {x : Int} (h : onlyRes (tkL l).1 = .error x) : readP l = none := by
  unfold readP
  split
  · rw [h]
  · rfl
theorem reads_grown_ne {w w' : World} {B size n p : Nat} {A : Option Addr} {xs : List Value} (h : Reads w B size A n xs) (ha : ∀ ad, A = some ad → ad.block ≠ p) (hg : w.grownBy w' (some p)) (hs : w'.heap.size = w.heap.size) : Reads w' B size A n xs :=
  ⟨h.1, fun hn => by
    obtain ⟨ad, e, hb, hc⟩ := h.2 hn
    refine ⟨ad, e, hb, fun j u hu => ?_⟩
    have h1 := hc j u hu
    by_cases hl : ad.block < w.heap.size
    · rw [← h1]
      exact World.cell?_of_block (by rw [block_of_add]; exact hg.block _ hl (fun e2 => by injection e2 with e2; exact ha ad e e2))
    · exfalso
      have h2 : w.heap[(ad.add j).block]? = none := by rw [block_of_add]; exact Array.getElem?_eq_none (by omega)
      simp [World.cell?, h2] at h1⟩
set_option maxHeartbeats 16000000 in
theorem read_any (s : ByteArray) (hs : s.size ≤ 300000) {w : World} (hT : Four w) : Calls Tryd.prog 29 #[.string s] w (RdPost (readP s.data.toList) w) := by
  obtain ⟨W, hW⟩ : ∃ W, W = w.alloc (.cells zC.toArray 30) := ⟨_, rfl⟩
  have hb0 : Below w.heap.size w W := by rw [hW]; exact (Below.refl _ w).alloc (Nat.le_refl _) _
  have hRz : Row W w.heap.size 30 zC := by rw [hW]; exact Row.new w 30 zC
  have KR := Lib.hid (fun w1 (hb : Below W.heap.size W w1) => show Row w1 w.heap.size 30 zC ∧ Below w.heap.size w w1 ∧ Four w1 from
    ⟨hRz.keep (hb.block _ hRz.lt), hb0.trans (hb.mono hb0.size), hT.on (hb0.trans (hb.mono hb0.size))⟩)
  have htk := take_any s hs W (KR.out W (Below.refl _ W)).2.2.tab
  have HW := Lib.hid hW
  have HZ1 := Lib.hid (fun w1 (h : Row w1 w.heap.size 30 zC) (hb : Below w.heap.size w w1) (r : Option M) (hr : r = none) W' (hg : w1.grownBy W' (some w.heap.size)) => show RdPost r w (.returned (.tuple #[.agg zC.toArray, .bool false])) W' from
    rdPost_no hr (hb.grown hg hb.size (fun g e => by cases e; exact Nat.le_refl _)))
  clear hRz hb0 hW hT
  have hcase : (tkL s.data.toList).2.2 ≠ 0 ∨ ∃ a n, tkL s.data.toList = (a, n, 0) := by
    by_cases h : (tkL s.data.toList).2.2 = 0
    · exact .inr ⟨_, _, by rw [← h]⟩
    · exact .inl h
  rcases hcase with h1 | ⟨a, n1, h1⟩
  · have HN := Lib.hid (read_1 h1)
    generalize tkL s.data.toList = R at *
    obtain ⟨t, m, e0⟩ := R
    unfold tkV at htk
    have HTK := Lib.hid htk
    have hne : ((e0 : Int) != 0) = true := by rw [bne_iff_ne]; simp only at h1; omega
    clear htk h1
    go_enter Tryd.func29, Tryd.ntmps29
    unfold zC msgC zM at HW
    go_wp2_with fail
    rw [← HW.out]
    refine HTK.out.mono ?_
    rintro en w1 ⟨rfl, hb1⟩
    have HB := Lib.hid (KR.out w1 hb1)
    clear hb1
    go_wp2_with (refine st_msg (ys := zC) HB.out.1 rfl rfl zC_one rfl _ _ rfl rfl rfl ?_; intro W' hr' hs' hg')
    exact bodyPost_ret (res_msg Tryd.results29 _ hr' rfl rfl rfl) rfl (HZ1.out w1 HB.out.1 HB.out.2.1 _ HN.out W' hg')
  · have hp := tkL_pos h1
    rw [size_list] at hp
    have hne1 : (0 : Int) ≤ (n1 : Int) := by omega
    have hne2 : (n1 : Int) ≤ (s.size : Int) := by omega
    rw [h1] at htk
    unfold tkV at htk
    have htk2 := fun w' (hT : TabW w') => take_any (s.extract n1 s.size) (by rw [ByteArray.size_extract]; omega) w' hT
    rw [Lib.extract_to_end] at htk2
    have hN2 := read_2 (l := s.data.toList)
    have hN3 := fun x => read_3 (l := s.data.toList) (x := x)
    have hN4 : ∀ t b n2, tkL (s.data.toList.drop n1) = (b, n2, 0) → onlyRes a = .ok t → readP s.data.toList = (ofVals t.l ⟨#[]⟩).map fun m => { m with tx := ⟨b.toArray⟩ } := fun t b n2 e1 e2 => by
      unfold readP
      rw [h1]
      simp only
      rw [e1, if_pos (by simp), e2]
      exact ofVals_tx _ _
    rw [h1] at hN2 hN3
    simp only at hN2 hN3
    have hal : (⟨a.toArray⟩ : ByteArray).size ≤ 300000 := by
      have := (tkL_ok h1)
      have h6 := this.2.2.2.2.2.1
      rw [h6]
      show ((s.data.toList.drop 13).take (nL s.data.toList).1).toArray.size ≤ 300000
      simp
      omega
    have HON := Lib.hid (fun w' => Be.only_any ⟨a.toArray⟩ (by omega) w')
    rw [show (⟨a.toArray⟩ : ByteArray).data.toList = a from rfl] at HON
    obtain ⟨S, hS⟩ : ∃ S : ByteArray, (⟨a.toArray⟩ : ByteArray) = S := ⟨_, rfl⟩
    rw [hS] at htk HON hal
    clear h1 hS
    have hcase2 : (tkL (s.data.toList.drop n1)).2.2 ≠ 0 ∨ ∃ b n, tkL (s.data.toList.drop n1) = (b, n, 0) := by
      by_cases h : (tkL (s.data.toList.drop n1)).2.2 = 0
      · exact .inr ⟨_, _, by rw [← h]⟩
      · exact .inl h
    have HTK := Lib.hid htk
    rcases hcase2 with h2 | ⟨b, n2, h2⟩
    · have HN := Lib.hid (hN2 h2)
      clear hN2 hN3 hN4 htk
      generalize tkL (s.data.toList.drop n1) = R at *
      obtain ⟨t, m, e0⟩ := R
      unfold tkV at htk2
      have HTK2 := Lib.hid htk2
      have hne : ((e0 : Int) != 0) = true := by rw [bne_iff_ne]; simp only at h2; omega
      clear htk2 h2
      go_enter Tryd.func29, Tryd.ntmps29
      unfold zC msgC zM at HW
      go_wp2_with fail
      rw [← HW.out]
      refine HTK.out.mono ?_
      rintro en w1 ⟨rfl, hb1⟩
      have HB := Lib.hid (And.intro hb1 (KR.out w1 hb1))
      clear hb1
      go_wp2_with fail
      refine (HTK2.out w1 HB.out.2.2.2.tab).mono ?_
      rintro en w2 ⟨rfl, hb2⟩
      have HB2 := Lib.hid (KR.out w2 (HB.out.1.trans (hb2.mono HB.out.1.size)))
      clear hb2
      go_wp2_with (refine st_msg (ys := zC) HB2.out.1 rfl rfl zC_one rfl _ _ rfl rfl rfl ?_; intro W' hr' hs' hg')
      exact bodyPost_ret (res_msg Tryd.results29 _ hr' rfl rfl rfl) rfl (HZ1.out w2 HB2.out.1 HB2.out.2.1 _ HN.out W' hg')
    · rw [h2] at htk2
      unfold tkV at htk2
      obtain ⟨TX, hTX⟩ : ∃ TX : ByteArray, (⟨b.toArray⟩ : ByteArray) = TX := ⟨_, rfl⟩
      simp only at htk2
      rw [hTX] at htk2
      have hN5 := fun t => hN4 t b n2 h2
      rw [hTX] at hN5
      have HTK2 := Lib.hid htk2
      clear htk2 h2 hN4 hN2 htk hTX
      cases ho : onlyRes a with
      | error x =>
        rw [ho] at HON
        have hx := only_err ho
        have hxb : (x != 0) = true := by simpa using hx
        have HN := Lib.hid (hN3 x ho)
        clear ho hx hN3 hN5
        go_enter Tryd.func29, Tryd.ntmps29
        unfold zC msgC zM at HW
        go_wp2_with fail
        rw [← HW.out]
        refine HTK.out.mono ?_
        rintro en w1 ⟨rfl, hb1⟩
        have HB := Lib.hid (And.intro hb1 (KR.out w1 hb1))
        clear hb1
        go_wp2_with fail
        refine (HTK2.out w1 HB.out.2.2.2.tab).mono ?_
        rintro en w2 ⟨rfl, hb2⟩
        have HB2 := Lib.hid (HB.out.1.trans (hb2.mono HB.out.1.size))
        clear hb2
        go_wp2_with fail
        refine (HON.out w2).mono ?_
        intro en w3 hpost
        unfold Be.OnPost at hpost
        obtain ⟨rfl, hb3⟩ := hpost
        have hb := (HB2.out.trans (hb3.mono HB2.out.size))
        have hba : Below w3.heap.size w3 (w3.alloc (.cells #[.int .i64 0, .int .i64 0, .string ⟨#[]⟩, .slice none 0 0] 47)) := (Below.refl _ w3).alloc (Nat.le_refl _) _
        have HB3 := Lib.hid (KR.out _ (hb.trans (hba.mono hb.size)))
        clear hb3 hb hba
        simp only [Be.zeroA]
        go_wp2_with (refine st_msg (ys := zC) HB3.out.1 rfl rfl zC_one rfl _ _ rfl rfl rfl ?_; intro W' hr' hs' hg')
        exact bodyPost_ret (res_msg Tryd.results29 _ hr' rfl rfl rfl) rfl (HZ1.out _ HB3.out.1 HB3.out.2.1 _ HN.out W' hg')
      | ok t =>
        rw [ho] at HON
        have hsm := len_small ho
        have HN := Lib.hid (hN5 t ho)
        clear ho hN3 hN5
        go_enter Tryd.func29, Tryd.ntmps29
        unfold zC msgC zM at HW
        go_wp2_with fail
        rw [← HW.out]
        refine HTK.out.mono ?_
        rintro en w1 ⟨rfl, hb1⟩
        have HB := Lib.hid (And.intro hb1 (KR.out w1 hb1))
        clear hb1
        go_wp2_with fail
        refine (HTK2.out w1 HB.out.2.2.2.tab).mono ?_
        rintro en w2 ⟨rfl, hb2⟩
        have HB2 := Lib.hid (HB.out.1.trans (hb2.mono HB.out.1.size))
        clear hb2
        go_wp2_with fail
        refine (HON.out w2).mono ?_
        intro en w3 hpost
        unfold Be.OnPost at hpost
        obtain ⟨v, rfl, hRA, hb3⟩ := hpost
        obtain ⟨A, c, xs, rfl, _, hlc, hcm, hr, hrl⟩ := hRA
        have hb := (HB2.out.trans (hb3.mono HB2.out.size))
        obtain ⟨V, hV⟩ : ∃ V, V = w3.alloc (.cells #[.int .i64 t.k, .int .i64 t.n, .string t.s, .slice A t.l.length c] 47) := ⟨_, rfl⟩
        have hba : Below w3.heap.size w3 V := by rw [hV]; exact (Below.refl _ w3).alloc (Nat.le_refl _) _
        have rV : Row V w3.heap.size 47 [.int .i64 t.k, .int .i64 t.n, .string t.s, .slice A t.l.length c] := by rw [hV]; exact Row.new w3 _ _
        have v3 := rV.cell (j := 3) rfl
        have vl := rV.lt
        have kp : Keeps (fun b => w2.heap.size ≤ b) w3 V := Keeps.of_below hba (fun b _ h => h)
        have HM := Lib.hid (message_any t.l A c xs (hr.keep kp) (RdL.keep kp _ _ hrl) hlc hcm hsm.1 hsm.2)
        have HBV := Lib.hid (hb.trans (hba.mono hb.size))
        have HV := Lib.hid hV
        clear hlc hcm hr hrl hb3 hb hV hba rV kp hsm
        go_wp2_with fail
        rw [← HV.out]
        refine HM.out.mono ?_
        intro en w4 hpost
        unfold MsgPost at hpost
        obtain ⟨hb4, hm⟩ := hpost
        have hbW4 := HBV.out.trans (hb4.mono HBV.out.size)
        cases hov : ofVals t.l ⟨#[]⟩ with
        | none =>
          rw [hov] at hm HN
          simp only at hm
          subst hm
          obtain ⟨U, hU⟩ : ∃ U, U = w4.alloc (.cells (zTC TX).toArray 30) := ⟨_, rfl⟩
          have hbU : Below w4.heap.size w4 U := by rw [hU]; exact (Below.refl _ w4).alloc (Nat.le_refl _) _
          have rU : Row U w4.heap.size 30 (zTC TX) := by rw [hU]; exact Row.new w4 _ _
          have HU := Lib.hid hU
          have HRU := Lib.hid (And.intro rU (KR.out U (hbW4.trans (hbU.mono hbW4.size))))
          clear hb4 hbW4 hov hU hbU rU v3 vl
          unfold zC msgC zM
          unfold zTC msgC zT at HU
          go_upto_region 12 with fail
          rw [← HU.out]
          go_wp2_with (first
            | refine ld_msg HRU.out.1 rfl rfl _ rfl rfl ?_
            | (refine st_msg (ys := zTC TX) HRU.out.2.1 rfl rfl (msgC_one (zT TX) none 0 0 none 0 0) rfl _ _ rfl rfl rfl ?_; intro W' hr' hs' hg'))
          refine bodyPost_ret (res_msg Tryd.results29 _ hr' rfl rfl rfl) rfl ⟨HRU.out.2.2.1.grown hg' HRU.out.2.2.1.size (fun g e => by cases e; exact Nat.le_refl _), ?_⟩
          rw [HN.out]
          exact ⟨TX, rfl⟩
        | some m' =>
          rw [hov] at hm HN
          simp only at hm
          obtain ⟨A1, n1', c1, A2, n2', c2, rfl, hR1, hR2, hq1, hq2, ha1, ha2⟩ := hm
          obtain ⟨U, hU⟩ : ∃ U, U = w4.alloc (.cells (msgV { m' with tx := TX } A1 n1' c1 A2 n2' c2).toArray 30) := ⟨_, rfl⟩
          have hbU : Below w4.heap.size w4 U := by rw [hU]; exact (Below.refl _ w4).alloc (Nat.le_refl _) _
          have rU : Row U w4.heap.size 30 (msgV { m' with tx := TX } A1 n1' c1 A2 n2' c2) := by rw [hU]; exact Row.new w4 _ _
          have HU := Lib.hid hU
          have HRU := Lib.hid (And.intro rU (KR.out U (hbW4.trans (hbU.mono hbW4.size))))
          have HRR := Lib.hid (show Reads U w4.heap.size 1 A1 n1' (ints m'.vs) ∧ Reads U w4.heap.size 2 A2 n2' (hits m'.hs) ∧ n1' ≤ 70000 ∧ n2' ≤ 70000 from ⟨hR1.below hbU, hR2.below hbU, hq1, hq2⟩)
          have hV1 : w.heap.size < V.heap.size := (KR.out V HBV.out).1.lt
          have HNE := Lib.hid (show (∀ ad, A1 = some ad → ad.block ≠ w.heap.size) ∧ (∀ ad, A2 = some ad → ad.block ≠ w.heap.size) ∧ (∀ ad, A1 = some ad → w.heap.size ≤ ad.block) ∧ (∀ ad, A2 = some ad → w.heap.size ≤ ad.block) from ⟨fun ad e => by have := ha1 ad e; omega, fun ad e => by have := ha2 ad e; omega, fun ad e => by have := ha1 ad e; omega, fun ad e => by have := ha2 ad e; omega⟩)
          clear hb4 hbW4 hov hU hbU rU v3 vl hR1 hR2 hq1 hq2 ha1 ha2 hV1
          unfold msgV
          unfold msgV at HU
          go_upto_region 12 with fail
          rw [← HU.out]
          go_wp2_with (first
            | refine ld_msg HRU.out.1 rfl rfl _ rfl rfl ?_
            | (refine st_msg (ys := msgV { m' with tx := TX } A1 n1' c1 A2 n2' c2) HRU.out.2.1 rfl rfl (msgC_one { m' with tx := TX } A1 n1' c1 A2 n2' c2) rfl _ _ rfl rfl rfl ?_; intro W' hr' hs' hg'))
          have hsz : w4.heap.size ≤ W'.heap.size := by have := HRU.out.1.lt; omega
          have hk1 := reads_grown_ne HRR.out.1 HNE.out.1 hg' hs'
          have hk2 := reads_grown_ne HRR.out.2.1 HNE.out.2.1 hg' hs'
          refine bodyPost_ret (res_msg Tryd.results29 _ hr' rfl rfl rfl) rfl ⟨HRU.out.2.2.1.grown hg' HRU.out.2.2.1.size (fun g e => by cases e; exact Nat.le_refl _), ?_⟩
          rw [HN.out]
          exact ⟨A1, n1', c1, A2, n2', c2, rfl, hk1.more hsz, hk2.more hsz, HRR.out.2.2.1, HRR.out.2.2.2, HNE.out.2.2.1, HNE.out.2.2.2⟩
end Go.Proofs.YtcbkgcnajplagaaDoor.Po
