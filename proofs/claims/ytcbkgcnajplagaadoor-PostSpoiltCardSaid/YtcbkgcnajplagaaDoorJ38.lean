/- PostSpoilt returns true. Conditions: the message's numbers and hits read as lists; its free numbers are numbers of Go; the tables lie as start-up lays them. -/
import Derived.Test.YtcbkgcnajplagaaDoorJ29
import Derived.Laws.IdiomStrings
import Derived.Laws.BitsAllLaws
set_option linter.unusedVariables false
set_option linter.unusedSimpArgs false
set_option maxRecDepth 100000
namespace Go.Proofs.YtcbkgcnajplagaaDoor.Po
open Go Go.RowKit
open Be (T kindsOk kindsOkL deepT deepL wfT wfL tidy tidyL onlyRes takeRes gdT RdL Rd RdA ReadsP Keeps)
theorem i64_and8 (n : Int) : bits .and .i64 n 255 = n % 256 := by
  have hm : (BitVec.ofInt 64 255).toNat = 2 ^ 8 - 1 := by decide
  have key : (BitVec.ofInt 64 n &&& BitVec.ofInt 64 255).toNat = (n % ((2 ^ 64 : Nat) : Int)).toNat % 2 ^ 8 := by
    rw [BitVec.toNat_and, BitVec.toNat_ofInt, hm, Nat.and_two_pow_sub_one_eq_mod]
  show IntKind.i64.wrap ((BitVec.ofInt 64 n &&& BitVec.ofInt 64 255).toNat : Nat) = n % 256
  rw [key, IntKind.wrap_i64]
  omega
theorem i64_and16 (n : Int) : bits .and .i64 n 65535 = n % 65536 := by
  have hm : (BitVec.ofInt 64 65535).toNat = 2 ^ 16 - 1 := by decide
  have key : (BitVec.ofInt 64 n &&& BitVec.ofInt 64 65535).toNat = (n % ((2 ^ 64 : Nat) : Int)).toNat % 2 ^ 16 := by
    rw [BitVec.toNat_and, BitVec.toNat_ofInt, hm, Nat.and_two_pow_sub_one_eq_mod]
  show IntKind.i64.wrap ((BitVec.ofInt 64 n &&& BitVec.ofInt 64 65535).toNat : Nat) = n % 65536
  rw [key, IntKind.wrap_i64]
  omega
theorem u8_xor_bytes (a b : UInt8) : bits .xor .u8 (a.toNat : Int) (b.toNat : Int) = ((a ^^^ b).toNat : Int) := by
  rw [u8_xor_nat _ _ (UInt8.toNat_lt a) (UInt8.toNat_lt b), UInt8.toNat_xor]
def byteAt (n : Int) : UInt8 := UInt8.ofNat (n % 256).toNat
theorem byteAt_nat (n : Int) : bits .and .i64 n 255 = ((byteAt n).toNat : Int) := by
  rw [i64_and8]
  unfold byteAt
  rw [UInt8.toNat_ofNat']
  omega
theorem xor_self {a x : UInt8} (h : a ^^^ x = a) : x = 0 := by
  have h2 : a ^^^ (a ^^^ x) = a ^^^ a := by rw [h]
  rw [← UInt8.xor_assoc, UInt8.xor_self, UInt8.zero_xor] at h2
  exact h2
set_option maxHeartbeats 16000000 in
theorem postSpoilt_walk (m : M) (at_ by_ : Int) (hf : FitM m) {w : World} {B : Nat} {A A2 : Option Addr} {n c n2 c2 : Nat} (hR : Reads w B 1 A n (ints m.vs)) (hH : Reads w B 2 A2 n2 (hits m.hs)) (hB : B ≤ w.heap.size) (hT : Four w) :
    Calls Tryd.prog 6 #[.agg (msgV m A n c A2 n2 c2).toArray, .int .i64 at_, .int .i64 by_] w (Gives (.bool true) w) := by
  obtain ⟨W, hW⟩ : ∃ W, W = w.alloc (.cells (msgV m A n c A2 n2 c2).toArray 30) := ⟨_, rfl⟩
  have hb0 : Below w.heap.size w W := by rw [hW]; exact (Below.refl _ w).alloc (Nat.le_refl _) _
  have r1 : Row W w.heap.size 30 (msgV m A n c A2 n2 c2) := by rw [hW]; exact Row.new w 30 (msgV m A n c A2 n2 c2)
  have KR := Lib.hid (fun w1 (hb : Below W.heap.size W w1) => show Row w1 w.heap.size 30 (msgV m A n c A2 n2 c2) ∧ Below w.heap.size w w1 ∧ Four w1 ∧ B ≤ w1.heap.size ∧ Reads w1 B 1 A n (ints m.vs) ∧ Reads w1 B 2 A2 n2 (hits m.hs) from by
    have hbw := hb0.trans (hb.mono hb0.size)
    exact ⟨r1.keep (hb.block _ r1.lt), hbw, hT.on hbw, Nat.le_trans hB hbw.size, hR.below (hbw.mono hB), hH.below (hbw.mono hB)⟩)
  have HAW := Lib.hid (fun w1 (hb : Below W.heap.size W w1) => show Calls Tryd.prog 9 #[] w1 (fun e w' => e = .returned (.bool true) ∧ Below w.heap.size w w') from by
    refine (awake_any w1 (KR.out w1 hb).2.2.1).mono ?_
    rintro e w2 ⟨rfl, hb2⟩
    exact ⟨rfl, below_then (KR.out w1 hb).2.1 hb2⟩)
  have HW := Lib.hid hW
  have HL1 := Lib.hid (light_any m A n c A2 n2 c2 W)
  clear hW hb0 r1 hT hB hR hH
  by_cases hl1 : m.tx.size ≤ 2048 ∧ n ≤ 100 ∧ n2 ≤ 100
  rotate_left
  · as_aux_lemma =>
    rw [decide_eq_false hl1] at HL1
    clear hl1
    go_enter Tryd.func6, Tryd.ntmps6
    go_upto_region 1 with fail
    rw [← HW.out]
    go_wp2_with (refine ld_msg (KR.out W (Below.refl _ W)).1 rfl rfl _ rfl rfl ?_)
    refine HL1.out.mono ?_
    rintro en w1 ⟨rfl, hb1⟩
    have HA := Lib.hid (HAW.out w1 hb1)
    clear hb1
    go_wp2_with fail
    refine HA.out.mono ?_
    rintro en w2 ⟨rfl, hb2⟩
    go_wp2_with fail
    go_ret
    exact ⟨rfl, hb2⟩
  rw [decide_eq_true hl1] at HL1
  have HPA := Lib.hid (fun w1 (hb : Below W.heap.size W w1) => put_any (c := c) (c' := c2) m hf (KR.out w1 hb).2.2.2.2.1 (KR.out w1 hb).2.2.2.2.2 (KR.out w1 hb).2.2.2.1 (by omega) (by omega) (KR.out w1 hb).2.2.1)
  obtain ⟨X, hX⟩ : ∃ X, txP m = X := ⟨_, rfl⟩
  rw [hX] at HPA
  cases hmm : mayM m with
  | false =>
    as_aux_lemma =>
    rw [eM_f hmm] at HPA
    clear hmm hl1 hf hX
    go_enter Tryd.func6, Tryd.ntmps6
    go_upto_region 1 with fail
    rw [← HW.out]
    go_wp2_with (refine ld_msg (KR.out W (Below.refl _ W)).1 rfl rfl _ rfl rfl ?_)
    refine HL1.out.mono ?_
    rintro en w1 ⟨rfl, hb1⟩
    have HB1 := Lib.hid hb1
    clear hb1
    go_wp2_with (refine ld_msg (KR.out w1 HB1.out).1 rfl rfl _ rfl rfl ?_)
    refine (HPA.out w1 HB1.out).mono ?_
    rintro en w2 ⟨rfl, hb2⟩
    have HB2 := Lib.hid (HB1.out.trans (hb2.mono HB1.out.size))
    clear hb2
    have HA := Lib.hid (HAW.out w2 HB2.out)
    go_wp2_with fail
    refine HA.out.mono ?_
    rintro en w5 ⟨rfl, hb5⟩
    go_wp2_with fail
    go_ret
    exact ⟨rfl, hb5⟩
  | true =>
    as_aux_lemma =>
    rw [eM_t hmm] at HPA
    have hxt : X = txtB m := by rw [← hX]; unfold txP; rw [if_pos hmm]
    have hxs : X.size ≤ 300000 := by rw [hxt]; have := txt_le hmm hf; omega
    have hx45 : 45 ≤ X.size := by rw [hxt, txt_size]; have := val_ge hmm hf; omega
    have hx30 : ¬ (X.size : Int) < 30 := by omega
    have HTM := Lib.hid (show takeM X = some m by rw [hxt]; exact takeM_txt hmm hf)
    have hb16 := i64_and16 at_
    obtain ⟨k, hk⟩ : ∃ k : Nat, (at_ % 65536).tmod (X.size : Int) = (k : Int) := ⟨((at_ % 65536).tmod (X.size : Int)).toNat, by
      rw [Int.toNat_of_nonneg (Int.tmod_nonneg _ (by omega))]⟩
    have hkl : (k : Int) < (X.size : Int) := by
      rw [← hk]
      exact Int.tmod_lt_of_pos _ (by omega)
    have hk0 : (0 : Int) ≤ (k : Int) := by omega
    have hkx : (k : Int) ≤ (X.size : Int) := by omega
    have hXne : ¬ (X.size : Int) = 0 := by omega
    have HTN := Lib.hid (show takeM (X.extract 0 k) = none from take_torn hmm hf (k := k) (by rw [← hxt]; omega) (by rw [Lib.extract_data, hxt]; rfl))
    have hext : (X.extract 0 k).size ≤ 300000 := by rw [ByteArray.size_extract]; omega
    obtain ⟨q, hq⟩ : ∃ q : Nat, (at_ % 65536).tmod 3 = (q : Int) := ⟨((at_ % 65536).tmod 3).toNat, by
      rw [Int.toNat_of_nonneg (Int.tmod_nonneg _ (by omega))]⟩
    have hq3 : (q : Int) < 3 := by rw [← hq]; exact Int.tmod_lt_of_pos _ (by omega)
    obtain ⟨j, hj⟩ : ∃ j : Nat, j = 13 + q := ⟨_, rfl⟩
    have hjz : (13 : Int) + (q : Int) = (j : Int) := by omega
    have hjX : (j : Int) < (X.size : Int) := by omega
    have hjl : j < X.data.toList.length := by rw [size_list]; omega
    have d0 := byteAt_nat by_
    have hdm : ((byteAt by_).toNat : Int) % 256 = ((byteAt by_).toNat : Int) := by have := UInt8.toNat_lt (byteAt by_); omega
    have hcv := fun (w : World) => run_bytes_of_string (P := Tryd.prog) w 9 40 5 X Tryd.underlying9 Tryd.underlying40 Tryd.underlying5
    have hX0 : (X.data.toList.getD j 0).toNat < 256 := UInt8.toNat_lt _
    have HSP := Lib.hid (show ∀ dj : UInt8, dj ≠ 0 → takeM ⟨(X.data.toList.set j (X.data.toList.getD j 0 ^^^ dj)).toArray⟩ = none from fun dj hd => by
      subst hj
      refine take_spoilt hmm hf (i := q) (b := X.data.toList.getD (13 + q) 0 ^^^ dj) (by omega) ?_ ?_
      · rw [hxt, txt_list]
        exact fun e => hd (xor_self e)
      · show X.data.toList.set (13 + q) _ = _
        rw [hxt, txt_list])
    have HSE := Lib.hid (show (X.data.toList.set j (X.data.toList.getD j 0 ^^^ 0)) = X.data.toList from by
      rw [UInt8.xor_zero]
      refine List.ext_getElem (by simp) fun i h1 h2 => ?_
      rw [List.getElem_set]
      split
      · rename_i e
        subst e
        rw [List.getD_eq_getElem?_getD, List.getElem?_eq_getElem h2]
        rfl
      · rfl)
    have HXX := Lib.hid (show (⟨X.data.toList.toArray⟩ : ByteArray) = X by simp)
    have HJ := Lib.hid hj
    clear hmm hl1 hf hX hxt hj
    go_enter Tryd.func6, Tryd.ntmps6
    go_upto_region 1 with fail
    rw [← HW.out]
    go_wp2_with (refine ld_msg (KR.out W (Below.refl _ W)).1 rfl rfl _ rfl rfl ?_)
    refine HL1.out.mono ?_
    rintro en w1 ⟨rfl, hb1⟩
    have HB1 := Lib.hid hb1
    clear hb1
    go_wp2_with (refine ld_msg (KR.out w1 HB1.out).1 rfl rfl _ rfl rfl ?_)
    refine (HPA.out w1 HB1.out).mono ?_
    rintro en w2 ⟨rfl, hb2⟩
    have HB2 := Lib.hid (HB1.out.trans (hb2.mono HB1.out.size))
    clear hb2
    have htk := take_any (X.extract 0 k) hext (KR.out w2 HB2.out).2.2.1
    rw [HTN.out] at htk
    have HTK := Lib.hid htk
    clear htk
    go_wp2_with fail
    refine HTK.out.mono ?_
    intro en w3 hpost
    unfold TkPost at hpost
    obtain ⟨hb3, rfl⟩ := hpost
    obtain ⟨V, hV⟩ : ∃ V, V = w3.alloc (.cells zC.toArray 30) := ⟨_, rfl⟩
    have hbV := (HB2.out.trans (hb3.mono HB2.out.size)).trans ((show Below w3.heap.size w3 V by rw [hV]; exact (Below.refl _ w3).alloc (Nat.le_refl _) _).mono (Nat.le_trans HB2.out.size hb3.size))
    have HV := Lib.hid hV
    have HBV := Lib.hid hbV
    clear hb3 hV hbV HTK
    unfold zC msgC zM
    unfold zC msgC zM at HV
    go_upto_region 8 with fail
    rw [← HV.out]
    obtain ⟨W0, hW0⟩ : ∃ W0, W0 = (V.alloc (.cells (bytesRow X (grownCap V X.size 0 5)) 5 ((bytesRow X (grownCap V X.size 0 5)).size, (bytesRow X (grownCap V X.size 0 5)).size + 1))).drew := ⟨_, rfl⟩
    have hrow : RowB W0 V.heap.size X.data.toList := by
      rw [hW0]
      refine RowB.new V _ _ _ _ _ (.inl (by simp [bytesRow])) (fun j hj => ?_)
      have hj2 : j < X.data.size := by simpa using hj
      rw [bytesRow_at X _ j hj2]
      simp
    have hbe : Below V.heap.size V W0 := by
      rw [hW0]
      exact below_drewN ((Below.refl _ V).alloc (Nat.le_refl _) _) 1
    have hbW0 := HBV.out.trans (hbe.mono HBV.out.size)
    have hc := hrow.cell hjl
    have hfz := hrow.frozen hjl
    have hlt := hrow.lt
    have hget : X.data.toList[j] = X.data.toList.getD j 0 := by rw [List.getD_eq_getElem?_getD, List.getElem?_eq_getElem hjl]; rfl
    rw [hget] at hc
    have HST := Lib.hid (hrow.set hjl (X.data.toList.getD j 0 ^^^ byteAt by_))
    have hbs := Lib.hid (below_setCell hbW0 (p := ⟨V.heap.size, j, none⟩) (by have := HBV.out.size; exact this) (.int .u8 ((X.data.toList.getD j 0 ^^^ byteAt by_).toNat : Int)))
    have hxor := u8_xor_bytes (X.data.toList.getD j 0) (byteAt by_)
    have hv3 := UInt8.toNat_lt (X.data.toList.getD j 0 ^^^ byteAt by_)
    have HW0 := Lib.hid hW0
    clear hrow hbe hW0 hbW0 hget
    go_upto_region 9 with fail
    rw [← HW0.out]
    generalize grownCap V X.size 0 5 = cap at *
    clear hcv
    generalize V.heap.size = g at *
    generalize X.data.toList.getD j 0 = x0 at *
    generalize byteAt by_ = dj at *
    obtain ⟨U, hU⟩ : ∃ U, W0.setCell ⟨g, j, none⟩ (.int .u8 ((x0 ^^^ dj).toNat : Int)) = U := ⟨_, rfl⟩
    rw [hU] at HST hbs
    have hcs := HST.out.conv cap 40 9 Tryd.underlying40 Tryd.underlying9
    rw [List.length_set, size_list] at hcs
    have hnx : ((x0.toNat ^^^ dj.toNat : Nat) : Int) = ((x0 ^^^ dj).toNat : Int) := by rw [UInt8.toNat_xor]
    have HU := Lib.hid hU
    have hYs : (⟨(X.data.toList.set j (x0 ^^^ dj)).toArray⟩ : ByteArray).size ≤ 300000 := by
      show (X.data.toList.set j (x0 ^^^ dj)).toArray.size ≤ 300000
      simp
      exact hxs
    by_cases hd : dj = 0
    · as_aux_lemma =>
      have htk := take_any _ hYs (KR.out U hbs.out).2.2.1
      have htm : takeM ⟨(X.data.toList.set j (x0 ^^^ dj)).toArray⟩ = some m := by rw [hd, HSE.out, show (⟨X.data.toList.toArray⟩ : ByteArray) = X by simp]; exact HTM.out
      rw [htm] at htk
      have hdz : ((dj.toNat : Int) == 0) = true := by rw [hd]; rfl
      have HTK := Lib.hid htk
      clear htk hU htm
      generalize (⟨(X.data.toList.set j (x0 ^^^ dj)).toArray⟩ : ByteArray) = Y at *
      clear hYs hd
      go_upto_region 12 with fail
      first | skip | rw [hnx]
      rw [HU.out]
      go_wp2_with fail
      refine HTK.out.mono ?_
      intro en w5 hpost
      unfold TkPost at hpost
      obtain ⟨hb5, A5, n5, c5, A5', n5', c5', rfl, _, _, _, _⟩ := hpost
      have HA := Lib.hid (HAW.out _ ((hbs.out.trans (hb5.mono hbs.out.size)).trans (((Below.refl _ w5).alloc (o := .cells (msgV m A5 n5 c5 A5' n5' c5').toArray 30) (Nat.le_refl _)).mono (Nat.le_trans hbs.out.size hb5.size))))
      unfold msgV at HA
      unfold msgV
      clear hb5
      go_wp2_with fail
      refine HA.out.mono ?_
      rintro en w7 ⟨rfl, hb7⟩
      go_wp2_with fail
      go_ret
      exact ⟨rfl, hb7⟩
    · as_aux_lemma =>
      have htk := take_any _ hYs (KR.out U hbs.out).2.2.1
      rw [HSP.out dj hd] at htk
      have hdz : ((dj.toNat : Int) == 0) = false := by
        rw [beq_eq_false_iff_ne]
        intro h
        exact hd (UInt8.toNat_inj.1 (by show dj.toNat = 0; omega))
      have HTK := Lib.hid htk
      clear htk hU
      generalize (⟨(X.data.toList.set j (x0 ^^^ dj)).toArray⟩ : ByteArray) = Y at *
      clear hYs hd
      go_upto_region 12 with fail
      first | skip | rw [hnx]
      rw [HU.out]
      go_wp2_with fail
      refine HTK.out.mono ?_
      intro en w5 hpost
      unfold TkPost at hpost
      obtain ⟨hb5, rfl⟩ := hpost
      obtain ⟨V5, hV5⟩ : ∃ V5, V5 = w5.alloc (.cells zC.toArray 30) := ⟨_, rfl⟩
      have rV : Row V5 w5.heap.size 30 zC := by rw [hV5]; exact Row.new w5 _ _
      have hbw := (hbs.out.trans (hb5.mono hbs.out.size)).trans ((show Below w5.heap.size w5 V5 by rw [hV5]; exact (Below.refl _ w5).alloc (Nat.le_refl _) _).mono (Nat.le_trans hbs.out.size hb5.size))
      have q2 := rV
      have k0 := q2.cell (j := 0) rfl
      have k1 := q2.cell (j := 1) rfl
      have k2 := q2.cell (j := 2) rfl
      have k3 := q2.cell (j := 3) rfl
      have k4 := q2.cell (j := 4) rfl
      have k5 := q2.cell (j := 5) rfl
      have k6 := q2.cell (j := 6) rfl
      have k7 := q2.cell (j := 7) rfl
      have k8 := q2.cell (j := 8) rfl
      have k9 := q2.cell (j := 9) rfl
      have k10 := q2.cell (j := 10) rfl
      have k11 := q2.cell (j := 11) rfl
      have k12 := q2.cell (j := 12) rfl
      have k13 := q2.cell (j := 13) rfl
      have k14 := q2.cell (j := 14) rfl
      have k15 := q2.cell (j := 15) rfl
      have kl := q2.lt
      clear q2
      have hsa := rsame_any zM zM (c := 0) (c' := 0) (c2 := 0) (c2' := 0) (w := V5) (B := V5.heap.size) (Reads.none_ (A := none)) (Reads.none_ (A := none)) (Reads.none_ (A := none)) (Reads.none_ (A := none)) (Nat.le_refl _) (by simp [maxLen]) (by simp [maxLen]) (by simp [maxLen]) (by simp [maxLen])
      rw [decide_eq_true (rfl : zM = zM)] at hsa
      have HSA := Lib.hid hsa
      have HV5 := Lib.hid hV5
      have HBW := Lib.hid hbw
      clear hb5 hV5 hbw hsa HTK
      unfold msgV zM at HSA
      unfold zC msgC zM
      unfold zC msgC zM at HV5
      go_upto_region 13 with fail
      rw [← HV5.out]
      go_wp2_with fail
      refine HSA.out.mono ?_
      rintro en w6 ⟨rfl, hb6⟩
      have HA := Lib.hid (HAW.out w6 (HBW.out.trans (hb6.mono HBW.out.size)))
      clear hb6
      go_wp2_with fail
      refine HA.out.mono ?_
      rintro en w7 ⟨rfl, hb7⟩
      go_wp2_with fail
      go_ret
      exact ⟨rfl, hb7⟩
end Go.Proofs.YtcbkgcnajplagaaDoor.Po
