/- What laying bytes into a half's blocks does: what is there already is not written again. Conditions: a disk in memory; the blocks lie on it. -/
import Derived.Test.YtkehojgiappiiaaGreatDoorLog
set_option linter.unusedVariables false
set_option linter.unusedSimpArgs false
namespace Go.Proofs.YtkehojgiappiiaaGreatDoor
open Go Go.RowKit
section
variable {w w' : World} {F : Nat → Prop} {d N : Nat} {su : List ByteArray} {l : List (Nat × ByteArray)}
def LayRel (w W1 : World) (F : Nat → Prop) (d N : Nat) (su : List ByteArray) (l : List (Nat × ByteArray)) (nw : List ByteArray) (b a c : Nat) (s : ByteArray) (vs vi : Value) (wr : World) : Prop :=
  ∃ (k : Nat) (s' : ByteArray) (F' : Nat → Prop) (l' : List (Nat × ByteArray)), vs = .string s' ∧ vi = .int .i64 ((a : Int) + (k : Int)) ∧ k ≤ c ∧ s'.size ≤ s.size ∧ Disk wr F' d N su l' ∧ l' ++ layW nw (b + k) (c - k) s'.data.toList = l ++ layW nw b c s.data.toList ∧
    l'.length ≤ l.length + k ∧ (∀ j, b + k ≤ j → (setsP l' su).getD j ⟨#[]⟩ = nw.getD j ⟨#[]⟩) ∧ Turn F W1 F' wr
set_option maxHeartbeats 4000000 in
set_option maxRecDepth 100000 in
theorem lay_any (h : Disk w F d N su l) (f n0 a c : Nat) (s : ByteArray) (hfn : f + a + c ≤ N) (hN : N ≤ 16384) (hl : l.length + c ≤ 1000000) (hs : s.size ≤ 1000000000) :
    Calls Tryz.prog 23 #[halfV d f n0, .int .i64 (a : Int), .int .i64 (c : Int), .string s] w fun e w' => e = .returned (.int .i64 0) ∧ ∃ F', Disk w' F' d N su (l ++ layW (setsP l su) (f + a) c s.data.toList) ∧ Turn F w F' w' := by
  obtain ⟨W1, hW1⟩ : ∃ W1, W1 = w.alloc (.cells #[.pointer (some ⟨d, 0, none⟩), .int .i64 (f : Int), .int .i64 (n0 : Int)] 57) := ⟨_, rfl⟩
  have s1 : W1.heap.size = w.heap.size + 1 := by rw [hW1]; simp
  have hx1 : Hf W1 w.heap.size d f n0 := by rw [hW1]; exact Hf.new w d f n0
  have hD1 : Disk W1 F d N su l := by rw [hW1]; exact h.alloc _
  have hT1 : Turn F w F W1 := by rw [hW1]; exact Turn.alloc F w _
  have hnF : ¬ F w.heap.size := fun hf => by have := h.lt _ hf; omega
  have H := Lib.hid (And.intro hD1 (And.intro hx1 (And.intro hT1 (And.intro hnF s1))))
  generalize hnw : setsP l su = nw at *
  have HNW := Lib.hid hnw
  have HFN := Lib.hid hfn
  have hac : (a : Int) + (c : Int) ≤ 20000 := by omega
  clear h hx1 hD1 hT1 hnF s1 hnw hfn
  unfold halfV
  go_enter Tryz.func23, Tryz.ntmps23
  go_wp2_with fail
  rw [← hW1]
  clear hW1
  go_loopw [3, 9] (fun vs vi wr => Hid (LayRel w W1 F d N su l nw (f + a) a c s vs vi wr)) (fun _ vi _ => a + c - (intOf vi).toNat)
  case atStart => exact Lib.hid ⟨0, s, F, l, rfl, by simp, Nat.zero_le _, Nat.le_refl _, H.out.1, rfl, Nat.le_refl _, fun j _ => by rw [HNW.out], Turn.refl F W1⟩
  case round =>
    obtain ⟨k, s', F', l', rfl, rfl, hk, hss, hD, hE, hll, hnx, hT⟩ := hrel.out
    have hH : Hf wr w.heap.size d f n0 := H.out.2.1.keep (hT.block _ (by have := H.out.2.2.2.2; omega) H.out.2.2.2.1)
    have c0 := hH.c0
    have c1 := hH.c1
    have hl0 := hH.lt
    by_cases hlt : k < c
    · have hltz : (a : Int) + (k : Int) < (a : Int) + (c : Int) := by omega
      have hff := HFN.out
      have hfz : (f : Int) + ((a : Int) + (k : Int)) ≤ 40000 := by omega
      have hf0 : 0 ≤ (f : Int) + ((a : Int) + (k : Int)) := by omega
      have hg := a_get hD (f + (a + k)) (by omega)
      have hgd : (setsP l' su).getD (f + (a + k)) ⟨#[]⟩ = nw.getD (f + a + k) ⟨#[]⟩ := by
        rw [show f + (a + k) = f + a + k by omega]
        exact hnx _ (Nat.le_refl _)
      rw [hgd, Int.natCast_add, Int.natCast_add] at hg
      have hm1 : s'.extract 0 (min 128 (s'.size : Int)).toNat = chk s'.data.toList 0 := by
        refine bytes_ext ?_
        simp only [Lib.extract_data, List.drop_zero, Nat.mul_zero, Nat.sub_zero, ← size_list]
        rcases Nat.lt_or_ge s'.data.toList.length 128 with hz | hz
        · rw [List.take_of_length_le (by omega), List.take_of_length_le (by omega)]
        · congr 1
          omega
      have hm2 : (s'.extract (min (min 128 (s'.size : Int)).toNat s'.size) s'.size).data.toList = s'.data.toList.drop 128 := by
        rw [Lib.extract_to_end, ← size_list]
        rcases Nat.lt_or_ge s'.data.toList.length 128 with hz | hz
        · rw [List.drop_eq_nil_of_le (by omega), List.drop_eq_nil_of_le (by omega)]
        · congr 1
          omega
      have hms : (chk s'.data.toList 0).size ≤ 128 := chk_le _ _
      have hsz2 : (s'.extract (min (min 128 (s'.size : Int)).toNat s'.size) s'.size).size ≤ s'.size := by rw [ByteArray.size_extract]; omega
      have hln : layW nw (f + a + k) (c - k) s'.data.toList = (if nw.getD (f + a + k) ⟨#[]⟩ = chk s'.data.toList 0 then [] else [(f + a + k, chk s'.data.toList 0)]) ++ layW nw (f + a + (k + 1)) (c - (k + 1)) (s'.data.toList.drop 128) := by
        rw [show c - k = (c - (k + 1)) + 1 by omega]
        rfl
      rw [hln] at hE
      have hput := fun q => a_put (hD.drewN q) (f + (a + k)) (by omega) (chk s'.data.toList 0) hms (by omega)
      rw [Int.natCast_add, Int.natCast_add] at hput
      have hset : ∀ j, f + a + (k + 1) ≤ j → (setsP (l' ++ [(f + (a + k), chk s'.data.toList 0)]) su).getD j ⟨#[]⟩ = nw.getD j ⟨#[]⟩ := fun j hj => by
        rw [setsP_snoc, List.getD_eq_getElem?_getD, List.getElem?_set_ne (by simp only; omega), ← List.getD_eq_getElem?_getD]
        exact hnx j (by omega)
      generalize nw.getD (f + a + k) ⟨#[]⟩ = hd at *
      have HG := Lib.hid hg
      have HP := Lib.hid hput
      have HM1 := Lib.hid hm1
      have HM2 := Lib.hid (And.intro hm2 hsz2)
      have HD := Lib.hid (And.intro hD (And.intro hE (And.intro hll (And.intro hset (And.intro hT hnx)))))
      have HS := Lib.hid hss
      clear hgd hln hg hput hm1 hm2 hD hE hll hset hT hH hnx hsz2 hrel hff hss
      go_wp2_with fail
      generalize s'.extract (min (min 128 (s'.size : Int)).toNat s'.size) s'.size = Rs at *
      rw [HM1.out]
      generalize chk s'.data.toList 0 = M at *
      refine HG.out.mono ?_
      rintro e w1 ⟨rfl, q, rfl⟩
      by_cases hne : hd = M
      · subst hne
        have hE := HD.out.2.1
        rw [if_pos rfl, List.nil_append, ← HM2.out.1] at hE
        have HE := Lib.hid hE
        clear hE
        go_wp2_with fail
        go_roundw
        case rel => exact Lib.hid ⟨k + 1, Rs, F', l', rfl, by go_num, by omega, Nat.le_trans HM2.out.2 HS.out, HD.out.1.drewN q, HE.out, by have := HD.out.2.2.1; omega, fun j hj => HD.out.2.2.2.2.2 j (by omega), HD.out.2.2.2.2.1.trans (Turn.drewN F' wr q)⟩
        case measure => simp [intOf]; omega
      · have hE := HD.out.2.1
        rw [if_neg hne, List.singleton_append, ← HM2.out.1] at hE
        have HE := Lib.hid hE
        have hnb : (hd.toList == M.toList) = false := bytes_ne hne
        clear hE
        have c0 := c0
        go_wp2_with fail
        refine (HP.out q).mono ?_
        rintro e w2 ⟨rfl, F2, hD2, hT2⟩
        have HY := Lib.hid (And.intro hD2 hT2)
        clear hD2 hT2
        go_wp2_with fail
        go_roundw
        case rel => exact Lib.hid ⟨k + 1, Rs, F2, _, rfl, by go_num, by omega, Nat.le_trans HM2.out.2 HS.out, HY.out.1, by
            rw [List.append_assoc, List.singleton_append, show f + (a + k) = f + a + k by omega]
            exact HE.out, by rw [List.length_append]; have := HD.out.2.2.1; simp; omega, HD.out.2.2.2.1, HD.out.2.2.2.2.1.trans ((Turn.drewN F' wr q).trans HY.out.2)⟩
        case measure => simp [intOf]; omega
    · obtain rfl : k = c := by omega
      have hnl : ¬ (a : Int) + (k : Int) < (a : Int) + (k : Int) := by omega
      rw [Nat.sub_self] at hE
      have HY := Lib.hid (And.intro hD (And.intro hE hT))
      clear hrel hD hE hll hnx hT
      go_wp2_with fail
      go_ret
      have hE := HY.out.2.1
      rw [show layW nw (f + a + k) 0 s'.data.toList = [] from rfl, List.append_nil] at hE
      rw [← hE]
      exact ⟨rfl, F', HY.out.1, H.out.2.2.1.trans HY.out.2.2⟩
end
end Go.Proofs.YtkehojgiappiiaaGreatDoor
