/- PDig, PByt, PRPut in one text. Conditions: as each part says. -/
import Derived.Test.YtcbkgcnajplagaaDoorJ33
import Derived.Test.YtcbkgcnajplagaaDoorJ02
section
set_option linter.unusedVariables false
set_option linter.unusedSimpArgs false
set_option maxRecDepth 100000
namespace Go.Proofs.YtcbkgcnajplagaaDoor.Be
open Go Go.RowKit
theorem itoa_minus {n : Nat} (h : n ≠ 0) : Lib.itoa (-(n : Int)) = 45 :: D' n := by
  rw [itoa_neg h]
  unfold D'
  rw [if_neg h]
theorem D'_len2 {a : Nat} (h : a ≤ 9223372036854775808) : (D' a).length ≤ 19 := by
  unfold D'
  split
  · simp
  · exact dec_len 19 a (by omega) (by omega)
set_option maxHeartbeats 8000000 in
theorem digits_neg (n : Nat) (h0 : n ≠ 0) (hn : n ≤ 9223372036854775808) (w : World) : Calls Tryd.prog 63 #[.int .i64 (-(n : Int))] w (Gives (.string ⟨(Lib.itoa (-(n : Int))).toArray⟩) w) := by
  obtain ⟨z0, hz0⟩ : ∃ z0 : Int, z0 = -(n : Int) := ⟨_, rfl⟩
  rw [itoa_minus h0, ← hz0]
  have hnb : (z0 == 0) = false := by rw [beq_eq_false_iff_ne]; omega
  have hl19 := D'_len2 hn
  have hneg : z0 < 0 := by omega
  have hlow : -9223372036854775808 ≤ z0 := by omega
  have HZ0 := Lib.hid hz0
  clear hz0
  go_enter Tryd.func63, Tryd.ntmps63
  go_wp2_with fail
  go_loopw [3, 4] (fun low k wr => ∃ (z : Int) (a : Nat) (bs : List UInt8), k = .int .i64 z ∧ Hid (z = -(a : Int)) ∧ a ≤ n ∧ DgR n w wr low a bs) (fun _ k _ => (intOf k).natAbs)
  case atStart => exact ⟨z0, n, [], rfl, HZ0, Nat.le_refl _, World.ownsRow_nil .., Below.refl _ _, by simp⟩
  case round =>
    obtain ⟨z, a, bs, rfl, HZ, ha, hR⟩ := hrel
    have hbl : bs.length ≤ 19 := by
      have := congrArg List.length hR.dig
      rw [List.length_append, List.length_reverse] at this
      omega
    by_cases ha0 : a = 0
    · obtain rfl : z = 0 := by have := HZ.out; omega
      subst ha0
      have hdig := hR.dig
      simp only [D', if_true, List.nil_append] at hdig
      have HD := Lib.hid (show D' n = bs.reverse from hdig)
      have hown := hR.own
      have hbel := hR.bel
      have hsz := hbel.size
      clear hR hdig
      obtain ⟨cs, hcs0⟩ : ∃ cs, bs ++ [(45 : UInt8)] = cs := ⟨_, rfl⟩
      have hlc : cs.length = bs.length + 1 := by rw [← hcs0]; simp
      have HD2 := Lib.hid (show (45 :: D' n : List UInt8) = cs.reverse by rw [← hcs0, List.reverse_append, HD.out]; rfl)
      obtain ⟨L, hL⟩ : ∃ L, cs.length = L := ⟨_, rfl⟩
      have HL := Lib.hid hL
      have hpos : 0 < cs.length := by omega
      have hbl2 : L ≤ 20 := by omega
      have hLz : IntKind.i64.wrap ((L : Int) - 1) = (L : Int) - 1 := by rw [IntKind.wrap_i64]; omega
      have HP := Lib.hid hpos
      have HC0 := Lib.hid hcs0
      clear hcs0 hlc hL hpos HD
      go_wp2_with (at_builtin; refine append_byte rfl (.tmp 29) (.tmp 30) rfl w.heap.size _ bs.length (Lib.byteCells bs) (.int .u8 45) rfl rfl hown rfl (by omega) hsz ?_; intro v1 w1 hown1 hgr1 hob1; have HB1 := Lib.hid (hbel.grown hgr1 hsz (fun g hg => (hown.lt g hg).1)); have hownC := own_byte (45 : UInt8) rfl hown1; rw [HC0.out] at hownC; obtain ⟨g, cap, rfl, hg1, hg2⟩ := hownC.form HP.out; have hcs_ := hownC.cells (g := g) rfl; rw [HL.out]; clear hown1 hgr1 hob1 hownC)
      have hbel1 := HB1.out
      have hsz1 := HB1.out.size
      clear HB1 hown hbel hsz hbl
      obtain ⟨wo, hwo⟩ : ∃ wo, wo = w1 := ⟨_, rfl⟩
      subst hwo
      go_wp2_with fail
      go_loopw [6, 7] (fun out i wr => ∃ j : Nat, i = .int .i64 ((j : Int) - 1) ∧ j ≤ L ∧ wr.ownsRow wo.heap.size 5 1 out (cs.drop j).reverse.length (Lib.byteCells (cs.drop j).reverse) ∧ Below wo.heap.size wo wr) (fun _ i _ => (intOf i + 1).toNat)
      case atStart =>
        refine ⟨L, rfl, Nat.le_refl _, ?_, Below.refl _ _⟩
        rw [List.drop_of_length_le (by have := HL.out; omega)]
        exact World.ownsRow_nil ..
      case round =>
        obtain ⟨j, rfl, hj, hown2, hb2⟩ := hrel
        rcases j with _ | j
        · rw [List.drop_zero] at hown2
          have hcv := conv_row hown2 (by rw [List.length_reverse]; exact HP.out)
          rw [← HD2.out] at hcv
          have HCV := Lib.hid (hcv 40 9 Tryd.underlying40 Tryd.underlying9)
          have hcv2 := HCV.out
          clear hown2 hcv
          go_wp2_with fail
          go_ret
          exact ⟨rfl, hbel1.trans (hb2.mono hsz1)⟩
        · have e1 : ((j + 1 : Nat) : Int) - 1 = (j : Int) := by omega
          rw [e1]
          have hjl : j < cs.length := by have := HL.out; omega
          have hjz : (j : Int) < (L : Int) := by omega
          have hjL : j < L := by omega
          have hdr : (cs.drop j).reverse = (cs.drop (j + 1)).reverse ++ [cs[j]] := by
            rw [List.drop_eq_getElem_cons hjl, List.reverse_cons]
          have cj : wr.cell? ⟨g, j, none⟩ = some (.int .u8 (cs[j].toNat : Int)) := by
            have h1 := hcs_ j (.int .u8 (cs[j].toNat : Int)) (by unfold Lib.byteCells; rw [List.getElem?_map, List.getElem?_eq_getElem hjl]; rfl)
            rw [add_flat, Nat.zero_add] at h1
            exact (hb2.cell (p := ⟨g, j, none⟩) hg2).trans h1
          have hjw : IntKind.i64.wrap ((j : Int) - 1) = (j : Int) - 1 := by rw [IntKind.wrap_i64]; omega
          have hlen : (cs.drop (j + 1)).reverse.length ≤ 1000 := by rw [List.length_reverse, List.length_drop]; have := HL.out; omega
          generalize cs[j] = c at *
          have HDR := Lib.hid hdr
          have HOW2 := Lib.hid hown2
          have hsz2 := hb2.size
          clear hdr e1 hown2
          go_wp2_with (at_builtin; refine append_byte rfl (.tmp 39) (.tmp 44) rfl wo.heap.size _ _ (Lib.byteCells (cs.drop (j + 1)).reverse) (.int .u8 (c.toNat : Int)) rfl rfl HOW2.out rfl (by omega) hsz2 ?_; intro v3 w3 hown3 hgr3 hob3; have HOW := Lib.hid hown3; have HGR := Lib.hid hgr3; clear hown3 hgr3 hob3)
          refine ⟨⟨j, rfl, by omega, ?_, hb2.grown HGR.out hsz2 (fun g hg => (HOW2.out.lt g hg).1)⟩, by simp [intOf]⟩
          rw [HDR.out]
          exact own_byte c rfl HOW.out
    · have hzn : z < 0 := by have := HZ.out; omega
      have hab : (z != 0) = true := by rw [bne_iff_ne]; omega
      have hzl : -9223372036854775808 ≤ z := by have := HZ.out; omega
      obtain ⟨d, hd, hd10⟩ : ∃ d : Nat, z.tmod 10 = -(d : Int) ∧ d < 10 := ⟨a % 10, by rw [HZ.out, Int.neg_tmod, Int.tmod_eq_emod_of_nonneg (by omega)]; omega, by omega⟩
      obtain ⟨a', ha', ha2⟩ : ∃ a' : Nat, z.tdiv 10 = -(a' : Int) ∧ a' = a / 10 := ⟨a / 10, by rw [HZ.out, Int.neg_tdiv, Int.tdiv_eq_ediv_of_nonneg (by omega)]; omega, rfl⟩
      have hst := D'_step ha0
      rw [← ha2, show a % 10 = d by have := HZ.out; rw [HZ.out, Int.neg_tmod, Int.tmod_eq_emod_of_nonneg (by omega)] at hd; omega] at hst
      have hown0 := hR.own
      have hbel := hR.bel
      have HDG := Lib.hid hR.dig
      have HST := Lib.hid hst
      have hle : a' ≤ n := by omega
      have hlt : a' < a := by omega
      have HC := Lib.hid (u8_ofNat (n := 48 + d) (by omega))
      obtain ⟨y, hy⟩ : ∃ y : Int, -(a' : Int) = y := ⟨_, rfl⟩
      rw [hy] at ha'
      have HY := Lib.hid hy
      have hyb : -9223372036854775808 ≤ y := by omega
      have hyc : y ≤ 0 := by omega
      have HLT := Lib.hid (show y.natAbs < z.natAbs by have := HZ.out; omega)
      clear hst hR hy ha2
      by_cases hdz : d = 0
      · subst hdz
        rw [show -((0 : Nat) : Int) = 0 from rfl] at hd
        go_wp2_with (at_builtin; refine append_byte rfl (.tmp 21) (.tmp 25) rfl w.heap.size _ bs.length (Lib.byteCells bs) (.int .u8 48) rfl rfl hown0 rfl (by omega) hbel.size ?_; intro v1 w1 hown1 hgr1 hob1; have HOW := Lib.hid hown1; have HGR := Lib.hid hgr1; clear hown1 hgr1 hob1)
        refine ⟨⟨y, a', bs ++ [UInt8.ofNat (48 + 0)], rfl, Lib.hid HY.out.symm, hle, own_byte (UInt8.ofNat (48 + 0)) (by have := HC.out; omega) HOW.out, hbel.grown HGR.out hbel.size (fun g hg => (hown0.lt g hg).1), ?_⟩, by simpa [intOf] using HLT.out⟩
        rw [HDG.out, HST.out]
        simp
      · have hdp : 0 < (d : Int) := by omega
        have hdn : -(d : Int) < 0 := by omega
        have hdt : (d : Int) < 10 := by omega
        go_wp2_with (at_builtin; refine append_byte rfl (.tmp 21) (.tmp 25) rfl w.heap.size _ bs.length (Lib.byteCells bs) (.int .u8 (48 + (d : Int))) rfl rfl hown0 rfl (by omega) hbel.size ?_; intro v1 w1 hown1 hgr1 hob1; have HOW := Lib.hid hown1; have HGR := Lib.hid hgr1; clear hown1 hgr1 hob1)
        refine ⟨⟨y, a', bs ++ [UInt8.ofNat (48 + d)], rfl, Lib.hid HY.out.symm, hle, own_byte (UInt8.ofNat (48 + d)) (by have := HC.out; omega) HOW.out, hbel.grown HGR.out hbel.size (fun g hg => (hown0.lt g hg).1), ?_⟩, by simpa [intOf] using HLT.out⟩
        rw [HDG.out, HST.out]
        simp
theorem idigits_any (n : Int) (h0 : -9223372036854775808 ≤ n) (h1 : n ≤ 9223372036854775807) (w : World) : Calls Tryd.prog 63 #[.int .i64 n] w (Gives (.string ⟨(Lib.itoa n).toArray⟩) w) := by
  by_cases hn : 0 ≤ n
  · obtain ⟨m, rfl⟩ : ∃ m : Nat, n = (m : Int) := ⟨n.toNat, by omega⟩
    exact digits_nat m (by omega) w
  · obtain ⟨m, rfl⟩ : ∃ m : Nat, n = -(m : Int) := ⟨n.natAbs, by omega⟩
    exact digits_neg m (by omega) (by omega) w
end Go.Proofs.YtcbkgcnajplagaaDoor.Be
end
section
set_option linter.unusedVariables false
set_option linter.unusedSimpArgs false
set_option maxRecDepth 100000
namespace Go.Proofs.YtcbkgcnajplagaaDoor.Be
open Go Go.RowKit
mutual
/-- A list of lists and numbers. -/
def numT : T → Bool
  | .mk k n _ l => (decide (k = 1) && decide (-9223372036854775808 ≤ n ∧ n ≤ 9223372036854775807)) || (decide (k = 3) && numL l)
def numL : List T → Bool
  | [] => true
  | t :: ts => numT t && numL ts
end
theorem numL_get : ∀ {l : List T} {k : Nat}, numL l = true → (hk : k < l.length) → numT l[k] = true
  | t :: ts, 0, h, _ => by simp only [numL, Bool.and_eq_true] at h; exact h.1
  | t :: ts, k + 1, h, hk => by
    simp only [numL, Bool.and_eq_true] at h
    exact numL_get h.2 (by simp at hk; omega : k < ts.length)
theorem num_cases {k n : Int} {s : ByteArray} {l : List T} (h : numT (.mk k n s l) = true) : (k = 1 ∧ -9223372036854775808 ≤ n ∧ n ≤ 9223372036854775807) ∨ (k = 3 ∧ numL l = true) := by
  simpa [numT] using h
theorem own_one (w : World) {base g : Nat} (hg : w.heap.size = g) (hb : base ≤ g) (c : UInt8) {z : Int} (hz : z = (c.toNat : Int)) : (w.alloc (.cells #[.int .u8 z] 5)).ownsRow base 5 1 (.slice (some ⟨g, 0, none⟩) 1 1) [c].length (Lib.byteCells [c]) := by
  subst hz
  subst hg
  refine ⟨rfl, .inr ⟨w.heap.size, 1, #[.int .u8 (c.toNat : Int)], rfl, hb, heap_alloc_new w _, Nat.le_refl _, by decide, rfl, rfl⟩⟩
theorem own_below {w w' : World} {base : Nat} {e : TypeId} {size : Nat} {v : Value} {n : Nat} {xs : List Value} (h : w.ownsRow base e size v n xs) (hb : Below w.heap.size w w') : w'.ownsRow base e size v n xs := h.kept (grown_below hb none) (by
  cases h : v.ownBlock with
  | none => exact .inl rfl
  | some g => exact .inr (by simp))
theorem encL_len_take (l : List T) (k : Nat) : (encL (l.take k)).length ≤ (encL l).length := by
  have : encL l = encL (l.take k) ++ encL (l.drop k) := by rw [← encL_append, List.take_append_drop]
  rw [this, List.length_append]
  omega
theorem bytes_app3 (a b c : List UInt8) : ((⟨a.toArray⟩ : ByteArray) ++ ⟨b.toArray⟩) ++ ⟨c.toArray⟩ = ⟨(a ++ (b ++ c)).toArray⟩ := by
  refine ByteArray.ext (Array.toList_inj.1 ?_)
  simp [ByteArray.data_append]
set_option maxHeartbeats 8000000 in
theorem rbytes_of (N : Nat) : ∀ (t : T) (v : Value) (ok : Nat → Prop) (w : World), SizeOf.sizeOf t < N → RdA ok w t v → numT t = true → (enc t).length ≤ 65536 → Calls Tryd.prog 44 #[v] w (Gives (.string ⟨(enc t).toArray⟩) w) := by
  induction N with
  | zero => intro t v ok w h; omega
  | succ N ih =>
    intro t v ok w hN ht hk hlen
    obtain ⟨A, c, xs, rfl, h2, h3, h4, h5, h6⟩ := ht
    obtain ⟨k, n, s, l⟩ := t
    simp only [T.k, T.n, T.s, T.l] at *
    unfold maxLen at h2 h4
    rcases num_cases hk with ⟨rfl, hn0, hn1⟩ | ⟨rfl, hkl⟩
    · have hdig := fun w' => idigits_any n hn0 hn1 w'
      have henc := enc_num n s l
      have hil := itoa_len n hn0 hn1
      have HD := Lib.hid hdig
      obtain ⟨I, hI⟩ : ∃ I, Lib.itoa n = I := ⟨_, rfl⟩
      rw [hI] at henc hil
      have HE := Lib.hid (show (⟨(enc (T.mk 1 n s l)).toArray⟩ : ByteArray) = (⟨[105].toArray⟩ ++ ⟨I.toArray⟩) ++ ⟨[101].toArray⟩ from by rw [henc, bytes_app3]; rfl)
      have HI := Lib.hid hI
      clear hk ih h5 h6 hdig henc hI hlen
      go_enter Tryd.func44, Tryd.ntmps44
      go_wp2_with fail
      refine (HD.out _).mono ?_
      rw [HI.out]
      rintro e w1 ⟨rfl, hb1⟩
      have hb2 : Below w.heap.size w w1 := ((Below.refl _ _).alloc (Nat.le_refl _) _).trans (hb1.mono (by simp))
      obtain ⟨S, hS⟩ : ∃ S : ByteArray, (⟨I.toArray⟩ : ByteArray) = S := ⟨_, rfl⟩
      have hsz : S.size ≤ 20 := by rw [← hS]; show I.toArray.size ≤ 20; simpa using hil
      have HSS := Lib.hid hS
      rw [hS]
      clear hS
      go_wp2_with fail
      go_ret
      exact ⟨by rw [HE.out, HSS.out]; rfl, hb2⟩
    · obtain ⟨i0, hi, hz0, hz1, hz2⟩ := info_parts byte_row
      have henc := enc_list n s l
      have HE := Lib.hid (show (⟨(enc (T.mk 3 n s l)).toArray⟩ : ByteArray) = ⟨(108 :: encL l ++ [101]).toArray⟩ from by rw [henc]; rfl)
      have hll2 : (encL l).length ≤ 65534 := by rw [henc] at hlen; simp at hlen; omega
      have hl3 := fun k => encL_len_take l k
      clear hk henc hlen
      generalize hll : l.length = len at *
      have HLEN := Lib.hid hll
      clear hll
      obtain ⟨hblk, hb0, hsz⟩ := box_start w (.int .i64 3) (.int .i64 n) (.string s) (.slice A len c)
      go_enter Tryd.func44, Tryd.ntmps44
      go_wp2_with fail
      generalize w.alloc (.cells #[.int .i64 3, .int .i64 n, .string s, .slice A len c] 47) = w0 at hblk hb0 hsz
      have HB := Lib.hid hblk
      have hs1 : w0.heap.size = w.heap.size + 1 := hsz
      have HS := Lib.hid hsz
      clear hblk hsz
      go_loopw [3, 4] (fun out i wr => ∃ (k : Nat), i = .int .i64 (k : Int) ∧ k ≤ len ∧ wr.ownsRow w0.heap.size 5 1 out (108 :: encL (l.take k)).length (Lib.byteCells (108 :: encL (l.take k))) ∧ Below w0.heap.size w0 wr) (fun _ i _ => len - (intOf i).toNat)
      case atStart => exact ⟨0, rfl, Nat.zero_le _, own_one w0 hs1 (by omega) 108 rfl, (Below.refl _ _).alloc (Nat.le_refl _) _⟩
      case round =>
        obtain ⟨k, rfl, hk, hown, hbw⟩ := hrel
        have hbw' : Below w.heap.size w wr := hb0.trans (hbw.mono (by have := HS.out; omega))
        obtain ⟨e0, e1, e2, e3, ef⟩ := val_block ((hbw.block w.heap.size (by have := HS.out; omega)).trans HB.out)
        obtain ⟨Ao, co, rfl, _, _⟩ := own_shape hown
        have hsw := hbw.size
        by_cases hlt : k < len
        · have hltz : (k : Int) < (len : Int) := by omega
          have hk1 : k < l.length := by have := HLEN.out; omega
          have hl4 := hl3 k
          have hl5 := hl3 (k + 1)
          have het := encL_take l k hk1
          obtain ⟨b, o, B', d', rfl, hok, hblt, hfr, hRA, g0, g1, g2, g3⟩ := elem_at (HLEN.out ▸ h5) h6 hk1
          have hRA2 := hRA.keep (Keeps.of_below hbw' (fun b _ h => h))
          rw [← hbw'.cell (p := ⟨b, o + k * 4, none⟩) hblt] at g0
          rw [← hbw'.cell (p := ⟨b, o + k * 4 + 1, none⟩) hblt] at g1
          rw [← hbw'.cell (p := ⟨b, o + k * 4 + 2, none⟩) hblt] at g2
          rw [← hbw'.cell (p := ⟨b, o + k * 4 + 3, none⟩) hblt] at g3
          have hszk : SizeOf.sizeOf l[k] < N := by have := sz_mem (k := 3) (n := n) (s := s) (List.getElem_mem hk1); omega
          have hcall := ih l[k] _ _ _ hszk hRA2 (numL_get hkl hk1) (by rw [het, List.length_append] at hl5; omega)
          generalize l[k] = x at *
          have HCALL := Lib.hid hcall
          have HET := Lib.hid (show 108 :: encL (l.take (k + 1)) = (108 :: encL (l.take k)) ++ enc x from by rw [het]; rfl)
          have hL1 : (108 :: encL (l.take k)).length ≤ 65535 := by simp; omega
          have hL2 : (enc x).length ≤ 65536 := by rw [het, List.length_append] at hl5; omega
          clear hcall het hl4 hl5
          generalize 108 :: encL (l.take k) = pre at *
          generalize enc x = ex at *
          have HOW := Lib.hid hown
          obtain ⟨S, hS⟩ : ∃ S : ByteArray, (⟨ex.toArray⟩ : ByteArray) = S := ⟨_, rfl⟩
          have hSz : S.size = ex.length := by rw [← hS]; show ex.toArray.size = _; simp
          have hSc : Lib.strCells S = Lib.byteCells ex := by rw [← hS, strCells_eq]
          have HSC := Lib.hid hSc
          have HSZ := Lib.hid hSz
          have hSz2 : S.size ≤ 65536 := by omega
          rw [hS] at HCALL
          have hLz : ((pre.length : Int)) ≤ 65536 := by omega
          clear hown hS hSc hSz
          go_wp2_with fail
          refine HCALL.out.mono ?_
          rintro e w1 ⟨rfl, hb1⟩
          have hown1 := own_below HOW.out hb1
          have hsz1 : w0.heap.size ≤ w1.heap.size := Nat.le_trans hsw hb1.size
          have HOW1 := Lib.hid hown1
          clear hown1
          go_wp2_with (at_builtin; refine wpList_append_string rfl (.tmp 37) (.tmp 43) 40 9 rfl w0.heap.size 5 i0 Tryd.underlying40 Tryd.underlying9 hi hz0 hz1 hz2 _ pre.length _ rfl HOW1.out S rfl (by unfold maxLen; omega) (by omega) hsz1 ?_; intro v2 w2 hown2 hgr2; have HOW2 := Lib.hid hown2; have HGR2 := Lib.hid hgr2; clear hown2 hgr2)
          refine ⟨⟨k + 1, by go_num, by omega, ?_, (hbw.trans (hb1.mono hsw)).grown HGR2.out hsz1 (fun g hg => (HOW1.out.lt g hg).1)⟩, by simp [intOf]; omega⟩
          rw [HET.out, List.length_append, Lib.byteCells_append, ← HSC.out, ← HSZ.out]
          exact HOW2.out
        · have hltz : ¬ (k : Int) < (len : Int) := by omega
          have htk : l.take k = l := List.take_of_length_le (by have := HLEN.out; omega)
          rw [htk] at hown ⊢
          have hpl : (108 :: encL l).length ≤ 65535 := by simp; omega
          generalize 108 :: encL l = pre at *
          have HOW := Lib.hid hown
          clear hown htk hl3
          go_wp2_with (at_builtin; refine append_byte rfl (.tmp 45) (.tmp 46) rfl w0.heap.size _ pre.length _ (.int .u8 101) rfl rfl HOW.out rfl (by omega) hsw ?_; intro v2 w2 hown2 hgr2 hob2; have hcv := conv_row (own_byte 101 rfl hown2) (by simp) 40 9 Tryd.underlying40 Tryd.underlying9; have HGR := Lib.hid hgr2; clear hown2 hgr2 hob2)
          go_ret
          exact ⟨by rw [HE.out]; rfl, hb0.trans ((hbw.grown HGR.out hsw (fun g hg => (HOW.out.lt g hg).1)).mono (by omega))⟩
theorem rbytes_any (t : T) (v : Value) (ok : Nat → Prop) (w : World) (h : RdA ok w t v) (hk : numT t = true) (hl : (enc t).length ≤ 65536) : Calls Tryd.prog 44 #[v] w (Gives (.string ⟨(enc t).toArray⟩) w) := rbytes_of (SizeOf.sizeOf t + 1) t v ok w (by omega) h hk hl
end Go.Proofs.YtcbkgcnajplagaaDoor.Be
end
section
set_option linter.unusedVariables false
set_option linter.unusedSimpArgs false
set_option maxRecDepth 100000
namespace Go.Proofs.YtcbkgcnajplagaaDoor.Be
open Go Go.RowKit
set_option maxHeartbeats 8000000 in
theorem rbput_any (t : T) (v : Value) (ok : Nat → Prop) (w : World) (h : RdA ok w t v) (hk : kindsOk t = true) (hn : numT t = true) (hd : deepT t ≤ 8) (hl : (enc t).length ≤ 65536) : Calls Tryd.prog 22 #[v] w fun e w' => e = .returned (.tuple #[.string ⟨(enc t).toArray⟩, .int .i64 0]) ∧ Below w.heap.size w w' := by
  have hk0 := h
  obtain ⟨A, c, xs, rfl, h2, h3, h4, h5, h6⟩ := h
  have hb0 : Below w.heap.size w (w.alloc (.cells #[.int .i64 t.k, .int .i64 t.n, .string t.s, .slice A t.l.length c] 47)) := (Below.refl _ _).alloc (Nat.le_refl _) _
  have hkeep := fun (w' : World) (hb : Below w.heap.size w w') => (hk0.mono (ok' := fun b => ok b ∧ b < w.heap.size) (fun b h1 h2 => ⟨h1, h2⟩)).keep (Keeps.of_below (w' := w') hb (fun b hb _ => hb.2))
  have HK := Lib.hid (fun (w' : World) (hb : Below w.heap.size w w') => rkinds_any t _ _ w' (hkeep w' hb) hk)
  have HD := Lib.hid (fun (w' : World) (hb : Below w.heap.size w w') => rdeep_any t _ _ w' (hkeep w' hb) (by omega))
  have HB := Lib.hid (fun (w' : World) (hb : Below w.heap.size w w') => rbytes_any t _ _ w' (hkeep w' hb) hn hl)
  have hrow := Row.new w 47 [.int .i64 t.k, .int .i64 t.n, .string t.s, .slice A t.l.length c]
  clear hk0 h2 h3 h4 h5 h6 hkeep
  obtain ⟨S, hS⟩ : ∃ S : ByteArray, (⟨(enc t).toArray⟩ : ByteArray) = S := ⟨_, rfl⟩
  have hsz : S.size ≤ 65536 := by rw [← hS]; show (enc t).toArray.size ≤ _; simpa using hl
  rw [hS] at HB ⊢
  have hszz : ¬ (65536 : Int) < (S.size : Int) := by omega
  obtain ⟨D, hD⟩ : ∃ D, deepT t = D := ⟨_, rfl⟩
  rw [hD] at HD hd
  have hdz : ¬ (8 : Int) < (D : Int) := by omega
  clear hS hD hl
  go_enter Tryd.func22, Tryd.ntmps22
  go_wp2_with fail
  generalize w.alloc (.cells #[.int .i64 t.k, .int .i64 t.n, .string t.s, .slice A t.l.length c] 47) = w0 at *
  refine (HK.out w0 hb0).mono ?_
  rintro e w1 ⟨rfl, hb1⟩
  have hb01 := hb0.trans (hb1.mono hb0.size)
  have hr1 := hrow.keep (hb1.block _ hrow.lt)
  have f0 : w1.cell? ⟨w.heap.size, 0, none⟩ = some (.int .i64 t.k) := hr1.cell rfl
  have f1 : w1.cell? ⟨w.heap.size, 1, none⟩ = some (.int .i64 t.n) := hr1.cell rfl
  have f2 : w1.cell? ⟨w.heap.size, 2, none⟩ = some (.string t.s) := hr1.cell rfl
  have f3 : w1.cell? ⟨w.heap.size, 3, none⟩ = some (.slice A t.l.length c) := hr1.cell rfl
  go_wp2_with fail
  refine (HD.out w1 hb01).mono ?_
  rintro e w2 ⟨rfl, hb2⟩
  have hb02 := hb01.trans (hb2.mono hb01.size)
  have hr2 := hr1.keep (hb2.block _ hr1.lt)
  clear f0 f1 f2 f3
  have f0 : w2.cell? ⟨w.heap.size, 0, none⟩ = some (.int .i64 t.k) := hr2.cell rfl
  have f1 : w2.cell? ⟨w.heap.size, 1, none⟩ = some (.int .i64 t.n) := hr2.cell rfl
  have f2 : w2.cell? ⟨w.heap.size, 2, none⟩ = some (.string t.s) := hr2.cell rfl
  have f3 : w2.cell? ⟨w.heap.size, 3, none⟩ = some (.slice A t.l.length c) := hr2.cell rfl
  go_wp2_with fail
  refine (HB.out w2 hb02).mono ?_
  rintro e w3 ⟨rfl, hb3⟩
  have hb03 := hb02.trans (hb3.mono hb02.size)
  go_wp2_with fail
  go_ret2
  exact ⟨rfl, hb03⟩
end Go.Proofs.YtcbkgcnajplagaaDoor.Be
end
