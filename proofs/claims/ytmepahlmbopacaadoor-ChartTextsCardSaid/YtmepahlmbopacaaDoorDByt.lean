/- What bytes and Put of the document's answers return, of lists and of numbers that are not below nought. Conditions: the value reads as such a tree. -/
import Derived.Test.YtmepahlmbopacaaDoorDDig
set_option linter.unusedVariables false
set_option linter.unusedSimpArgs false
set_option maxRecDepth 100000
namespace Go.Proofs.YtmepahlmbopacaaDoor.Be
open Go Go.RowKit
mutual
/-- A list of lists and numbers, none of them below nought. -/
def numT : T → Bool
  | .mk k n _ l => (decide (k = 1) && decide (0 ≤ n ∧ n ≤ 9223372036854775807)) || (decide (k = 3) && numL l)
def numL : List T → Bool
  | [] => true
  | t :: ts => numT t && numL ts
end
theorem numL_get : ∀ {l : List T} {k : Nat}, numL l = true → (hk : k < l.length) → numT l[k] = true
  | t :: ts, 0, h, _ => by simp only [numL, Bool.and_eq_true] at h; exact h.1
  | t :: ts, k + 1, h, hk => by
    simp only [numL, Bool.and_eq_true] at h
    exact numL_get h.2 (by simp at hk; omega : k < ts.length)
theorem num_cases {k n : Int} {s : ByteArray} {l : List T} (h : numT (.mk k n s l) = true) : (k = 1 ∧ 0 ≤ n ∧ n ≤ 9223372036854775807) ∨ (k = 3 ∧ numL l = true) := by
  simpa [numT] using h
theorem own_one (w : World) {base g : Nat} (hg : w.heap.size = g) (hb : base ≤ g) (c : UInt8) {z : Int} (hz : z = (c.toNat : Int)) : (w.alloc (.cells #[.int .u8 z] 5)).ownsRow base 5 1 (.slice (some ⟨g, 0, none⟩) 1 1) [c].length (Lib.byteCells [c]) := by
  subst hz
  subst hg
  refine ⟨rfl, .inr ⟨w.heap.size, 1, #[.int .u8 (c.toNat : Int)], rfl, hb, heap_alloc_new w _, Nat.le_refl _, by decide, rfl, rfl⟩⟩
theorem own_below {w w' : World} {base : Nat} {e : TypeId} {size : Nat} {v : Value} {n : Nat} {xs : List Value} (h : w.ownsRow base e size v n xs) (hb : Below w.heap.size w w') : w'.ownsRow base e size v n xs := h.kept (grown_below hb none) (by
  cases h : v.ownBlock with
  | none => exact .inl rfl
  | some g => exact .inr (by simp))
theorem encL_len_take (l : List T) (k : Nat) : (encL (l.take k)).length ≤ (encL l).length := by
  have : encL l = encL (l.take k) ++ encL (l.drop k) := by rw [← encL_append, List.take_append_drop]
  rw [this, List.length_append]
  omega
theorem bytes_app3 (a b c : List UInt8) : ((⟨a.toArray⟩ : ByteArray) ++ ⟨b.toArray⟩) ++ ⟨c.toArray⟩ = ⟨(a ++ (b ++ c)).toArray⟩ := by
  refine ByteArray.ext (Array.toList_inj.1 ?_)
  simp [ByteArray.data_append]
set_option maxHeartbeats 8000000 in
theorem rbytes_of (N : Nat) : ∀ (t : T) (v : Value) (ok : Nat → Prop) (w : World), SizeOf.sizeOf t < N → RdA ok w t v → numT t = true → (enc t).length ≤ 65536 → Calls Tryd.prog 48 #[v] w (Gives (.string ⟨(enc t).toArray⟩) w) := by
  induction N with
  | zero => intro t v ok w h; omega
  | succ N ih =>
    intro t v ok w hN ht hk hlen
    obtain ⟨A, c, xs, rfl, h2, h3, h4, h5, h6⟩ := ht
    obtain ⟨k, n, s, l⟩ := t
    simp only [T.k, T.n, T.s, T.l] at *
    unfold maxLen at h2 h4
    rcases num_cases hk with ⟨rfl, hn0, hn1⟩ | ⟨rfl, hkl⟩
    · obtain ⟨m, rfl⟩ : ∃ m : Nat, n = (m : Int) := ⟨n.toNat, by omega⟩
      have hdig := fun w' => digits_nat m (by omega) w'
      have henc := enc_num (m : Int) s l
      have hil := itoa_len (m : Int) (by omega) (by omega)
      have HD := Lib.hid hdig
      obtain ⟨I, hI⟩ : ∃ I, Lib.itoa (m : Int) = I := ⟨_, rfl⟩
      rw [hI] at henc hil
      have HE := Lib.hid (show (⟨(enc (T.mk 1 (m : Int) s l)).toArray⟩ : ByteArray) = (⟨[105].toArray⟩ ++ ⟨I.toArray⟩) ++ ⟨[101].toArray⟩ from by rw [henc, bytes_app3]; rfl)
      have HI := Lib.hid hI
      clear hk ih h5 h6 hdig henc hI hlen
      go_enter Tryd.func48, Tryd.ntmps48
      go_wp2_with fail
      refine (HD.out _).mono ?_
      rw [HI.out]
      rintro e w1 ⟨rfl, hb1⟩
      have hb2 : Below w.heap.size w w1 := ((Below.refl _ _).alloc (Nat.le_refl _) _).trans (hb1.mono (by simp))
      obtain ⟨S, hS⟩ : ∃ S : ByteArray, (⟨I.toArray⟩ : ByteArray) = S := ⟨_, rfl⟩
      have hsz : S.size ≤ 20 := by rw [← hS]; show I.toArray.size ≤ 20; simpa using hil
      have HSS := Lib.hid hS
      rw [hS]
      clear hS
      go_wp2_with fail
      go_ret
      exact ⟨by rw [HE.out, HSS.out]; rfl, hb2⟩
    · obtain ⟨i0, hi, hz0, hz1, hz2⟩ := info_parts byte_row
      have henc := enc_list n s l
      have HE := Lib.hid (show (⟨(enc (T.mk 3 n s l)).toArray⟩ : ByteArray) = ⟨(108 :: encL l ++ [101]).toArray⟩ from by rw [henc]; rfl)
      have hll2 : (encL l).length ≤ 65534 := by rw [henc] at hlen; simp at hlen; omega
      have hl3 := fun k => encL_len_take l k
      clear hk henc hlen
      generalize hll : l.length = len at *
      have HLEN := Lib.hid hll
      clear hll
      obtain ⟨hblk, hb0, hsz⟩ := box_start w (.int .i64 3) (.int .i64 n) (.string s) (.slice A len c)
      go_enter Tryd.func48, Tryd.ntmps48
      go_wp2_with fail
      generalize w.alloc (.cells #[.int .i64 3, .int .i64 n, .string s, .slice A len c] 60) = w0 at hblk hb0 hsz
      have HB := Lib.hid hblk
      have hs1 : w0.heap.size = w.heap.size + 1 := hsz
      have HS := Lib.hid hsz
      clear hblk hsz
      go_loopw [3, 4] (fun out i wr => ∃ (k : Nat), i = .int .i64 (k : Int) ∧ k ≤ len ∧ wr.ownsRow w0.heap.size 5 1 out (108 :: encL (l.take k)).length (Lib.byteCells (108 :: encL (l.take k))) ∧ Below w0.heap.size w0 wr) (fun _ i _ => len - (intOf i).toNat)
      case atStart => exact ⟨0, rfl, Nat.zero_le _, own_one w0 hs1 (by omega) 108 rfl, (Below.refl _ _).alloc (Nat.le_refl _) _⟩
      case round =>
        obtain ⟨k, rfl, hk, hown, hbw⟩ := hrel
        have hbw' : Below w.heap.size w wr := hb0.trans (hbw.mono (by have := HS.out; omega))
        obtain ⟨e0, e1, e2, e3, ef⟩ := val_block ((hbw.block w.heap.size (by have := HS.out; omega)).trans HB.out)
        obtain ⟨Ao, co, rfl, _, _⟩ := own_shape hown
        have hsw := hbw.size
        by_cases hlt : k < len
        · have hltz : (k : Int) < (len : Int) := by omega
          have hk1 : k < l.length := by have := HLEN.out; omega
          have hl4 := hl3 k
          have hl5 := hl3 (k + 1)
          have het := encL_take l k hk1
          obtain ⟨b, o, B', d', rfl, hok, hblt, hfr, hRA, g0, g1, g2, g3⟩ := elem_at (HLEN.out ▸ h5) h6 hk1
          have hRA2 := hRA.keep (Keeps.of_below hbw' (fun b _ h => h))
          rw [← hbw'.cell (p := ⟨b, o + k * 4, none⟩) hblt] at g0
          rw [← hbw'.cell (p := ⟨b, o + k * 4 + 1, none⟩) hblt] at g1
          rw [← hbw'.cell (p := ⟨b, o + k * 4 + 2, none⟩) hblt] at g2
          rw [← hbw'.cell (p := ⟨b, o + k * 4 + 3, none⟩) hblt] at g3
          have hszk : SizeOf.sizeOf l[k] < N := by have := sz_mem (k := 3) (n := n) (s := s) (List.getElem_mem hk1); omega
          have hcall := ih l[k] _ _ _ hszk hRA2 (numL_get hkl hk1) (by rw [het, List.length_append] at hl5; omega)
          generalize l[k] = x at *
          have HCALL := Lib.hid hcall
          have HET := Lib.hid (show 108 :: encL (l.take (k + 1)) = (108 :: encL (l.take k)) ++ enc x from by rw [het]; rfl)
          have hL1 : (108 :: encL (l.take k)).length ≤ 65535 := by simp; omega
          have hL2 : (enc x).length ≤ 65536 := by rw [het, List.length_append] at hl5; omega
          clear hcall het hl4 hl5
          generalize 108 :: encL (l.take k) = pre at *
          generalize enc x = ex at *
          have HOW := Lib.hid hown
          obtain ⟨S, hS⟩ : ∃ S : ByteArray, (⟨ex.toArray⟩ : ByteArray) = S := ⟨_, rfl⟩
          have hSz : S.size = ex.length := by rw [← hS]; show ex.toArray.size = _; simp
          have hSc : Lib.strCells S = Lib.byteCells ex := by rw [← hS, strCells_eq]
          have HSC := Lib.hid hSc
          have HSZ := Lib.hid hSz
          have hSz2 : S.size ≤ 65536 := by omega
          rw [hS] at HCALL
          have hLz : ((pre.length : Int)) ≤ 65536 := by omega
          clear hown hS hSc hSz
          go_wp2_with fail
          refine HCALL.out.mono ?_
          rintro e w1 ⟨rfl, hb1⟩
          have hown1 := own_below HOW.out hb1
          have hsz1 : w0.heap.size ≤ w1.heap.size := Nat.le_trans hsw hb1.size
          have HOW1 := Lib.hid hown1
          clear hown1
          go_wp2_with (at_builtin; refine wpList_append_string rfl (.tmp 37) (.tmp 43) 80 9 rfl w0.heap.size 5 i0 Tryd.underlying80 Tryd.underlying9 hi hz0 hz1 hz2 _ pre.length _ rfl HOW1.out S rfl (by unfold maxLen; omega) (by omega) hsz1 ?_; intro v2 w2 hown2 hgr2; have HOW2 := Lib.hid hown2; have HGR2 := Lib.hid hgr2; clear hown2 hgr2)
          refine ⟨⟨k + 1, by go_num, by omega, ?_, (hbw.trans (hb1.mono hsw)).grown HGR2.out hsz1 (fun g hg => (HOW1.out.lt g hg).1)⟩, by simp [intOf]; omega⟩
          rw [HET.out, List.length_append, Lib.byteCells_append, ← HSC.out, ← HSZ.out]
          exact HOW2.out
        · have hltz : ¬ (k : Int) < (len : Int) := by omega
          have htk : l.take k = l := List.take_of_length_le (by have := HLEN.out; omega)
          rw [htk] at hown ⊢
          have hpl : (108 :: encL l).length ≤ 65535 := by simp; omega
          generalize 108 :: encL l = pre at *
          have HOW := Lib.hid hown
          clear hown htk hl3
          go_wp2_with (at_builtin; refine append_byte rfl (.tmp 45) (.tmp 46) rfl w0.heap.size _ pre.length _ (.int .u8 101) rfl rfl HOW.out rfl (by omega) hsw ?_; intro v2 w2 hown2 hgr2 hob2; have hcv := conv_row (own_byte 101 rfl hown2) (by simp) 80 9 Tryd.underlying80 Tryd.underlying9; have HGR := Lib.hid hgr2; clear hown2 hgr2 hob2)
          go_ret
          exact ⟨by rw [HE.out]; rfl, hb0.trans ((hbw.grown HGR.out hsw (fun g hg => (HOW.out.lt g hg).1)).mono (by omega))⟩
theorem rbytes_any (t : T) (v : Value) (ok : Nat → Prop) (w : World) (h : RdA ok w t v) (hk : numT t = true) (hl : (enc t).length ≤ 65536) : Calls Tryd.prog 48 #[v] w (Gives (.string ⟨(enc t).toArray⟩) w) := rbytes_of (SizeOf.sizeOf t + 1) t v ok w (by omega) h hk hl
end Go.Proofs.YtmepahlmbopacaaDoor.Be
