/- What join of package logs returns: records as frames, one behind the other, or why not. Conditions: the table of four bits lies as start-up lays it. -/
import Derived.Test.YtkehojgiappiiaaGreatDoorLog
set_option linter.unusedVariables false
set_option linter.unusedSimpArgs false
namespace Go.Proofs.YtkehojgiappiiaaGreatDoor
open Go Go.RowKit
/-- Why records are refused, where there is so much room; 0: they are not. -/
def joinE (rs : List (List UInt8)) (M : Nat) : Int := if rs.all fun r => decide (r.length ≤ 32768) then (if (encs rs).length ≤ M then 0 else 70) else 23
def joinV (rs : List (List UInt8)) (M : Nat) : Value := .tuple #[.string (if joinE rs M = 0 then ⟨(encs rs).toArray⟩ else ⟨#[]⟩), .int .i64 (joinE rs M)]
theorem joinE_long {rs : List (List UInt8)} {M : Nat} {r : List UInt8} (hr : r ∈ rs) (h : ¬ r.length ≤ 32768) : joinE rs M = 23 := by
  unfold joinE
  rw [if_neg]
  intro hall
  rw [List.all_eq_true] at hall
  exact h (of_decide_eq_true (hall r hr))
theorem joinE_full {rs : List (List UInt8)} {M : Nat} (hr : ∀ r ∈ rs, r.length ≤ 32768) (h : M < (encs rs).length) : joinE rs M = 70 := by
  unfold joinE
  rw [if_pos (List.all_eq_true.2 fun r h => decide_eq_true (hr r h)), if_neg (by omega)]
theorem joinE_ok {rs : List (List UInt8)} {M : Nat} (hr : ∀ r ∈ rs, r.length ≤ 32768) (h : (encs rs).length ≤ M) : joinE rs M = 0 := by
  unfold joinE
  rw [if_pos (List.all_eq_true.2 fun r h => decide_eq_true (hr r h)), if_pos h]
theorem joinE_iff {rs : List (List UInt8)} {M : Nat} (h : joinE rs M = 0) : (∀ r ∈ rs, r.length ≤ 32768) ∧ (encs rs).length ≤ M := by
  unfold joinE at h
  by_cases ha : (rs.all fun r => decide (r.length ≤ 32768)) = true
  · rw [if_pos ha] at h
    by_cases hb : (encs rs).length ≤ M
    · rw [List.all_eq_true] at ha
      exact ⟨fun r hr => of_decide_eq_true (ha r hr), hb⟩
    · rw [if_neg hb] at h; omega
  · rw [if_neg ha] at h; omega
theorem encs_next (rs : List (List UInt8)) (k : Nat) (hk : k < rs.length) : encs (rs.take (k + 1)) = encs (rs.take k) ++ enc (rs.getD k []) := by
  rw [List.take_succ_eq_append_getElem hk, encs_append, List.getD_eq_getElem?_getD, List.getElem?_eq_getElem hk]
  simp [encs]
theorem encs_part (rs : List (List UInt8)) (k : Nat) : (encs (rs.take k)).length ≤ (encs rs).length := by
  rw [encs_take_pre rs k, List.length_append]
  omega
set_option maxHeartbeats 4000000 in
set_option maxRecDepth 100000 in
theorem join_any (rs : List (List UInt8)) (M : Nat) (hM : M ≤ 3000000) (A : Option Addr) (n c : Nat) (w : World) (hR : Reads w w.heap.size 1 A n (strL rs)) (hn : n ≤ maxLen) (hT : TabW w) :
    Calls Tryz.prog 22 #[.int .i64 (M : Int), .slice A n c] w (Gives (joinV rs M) w) := by
  have hlen := reads_len hR
  have HL := Lib.hid hlen
  have H := Lib.hid (And.intro hR hT)
  have hnm : (n : Int) ≤ 9223372036854775807 := by unfold maxLen at hn; omega
  clear hR hT hlen hn
  go_enter Tryz.func22, Tryz.ntmps22
  go_wp2_with fail
  go_loopw [15] (fun i wr => ∃ (k q : Nat), i = .int .i64 (k : Int) ∧ k ≤ n ∧ Hid (∀ r ∈ rs.take k, r.length ≤ 32768) ∧ wr = w.drewN q) (fun i _ => n - (intOf i).toNat)
  case atStart => exact ⟨0, 0, rfl, Nat.zero_le _, Lib.hid (by simp), rfl⟩
  case round =>
    obtain ⟨k, q, rfl, hk, HA, rfl⟩ := hrel
    by_cases hlt : k < n
    · have hltz : (k : Int) < (n : Int) := by omega
      have hkl : k < rs.length := by have := HL.out; omega
      obtain ⟨ad, rfl, hb, hcell⟩ := reads_str (H.out.1.drewN q) hlt
      have hmem : rs.getD k [] ∈ rs := by rw [List.getD_eq_getElem?_getD, List.getElem?_eq_getElem hkl]; exact List.getElem_mem _
      have hsz : (⟨(rs.getD k []).toArray⟩ : ByteArray).size = (rs.getD k []).length := rfl
      have hbk : (ad.add k).block < w.heap.size := by rw [block_of_add]; exact hb
      by_cases hlong : (rs.getD k []).length ≤ 32768
      · have HN : Hid (∀ r ∈ rs.take (k + 1), r.length ≤ 32768) := Lib.hid (by
          rw [List.take_succ_eq_append_getElem hkl]
          intro r hr
          rcases List.mem_append.1 hr with hr | hr
          · exact HA.out r hr
          · simp only [List.mem_singleton] at hr
            rw [hr]
            rw [List.getD_eq_getElem?_getD, List.getElem?_eq_getElem hkl] at hlong
            exact hlong)
        have hzz : ((⟨(rs.getD k []).toArray⟩ : ByteArray).size : Int) ≤ 32768 := by rw [hsz]; omega
        clear HA hsz hmem hlong hkl
        generalize (⟨(rs.getD k []).toArray⟩ : ByteArray) = s at *
        go_wp2_with fail
        go_roundw
        case rel => exact ⟨k + 1, q, by go_num, by omega, HN, rfl⟩
        case measure => simp [intOf]; omega
      · have HE := Lib.hid (joinE_long (M := M) hmem hlong)
        have hzz : 32768 < ((⟨(rs.getD k []).toArray⟩ : ByteArray).size : Int) := by rw [hsz]; omega
        clear HA hsz hmem hlong hkl
        generalize (⟨(rs.getD k []).toArray⟩ : ByteArray) = s at *
        go_wp2_with fail
        go_ret2
        unfold joinV
        rw [HE.out]
        exact ⟨rfl, below_drewN (Below.refl _ _) q⟩
    · obtain rfl : k = n := by omega
      have hnl : ¬ (k : Int) < (k : Int) := by omega
      have HALL : Hid (∀ r ∈ rs, r.length ≤ 32768) := Lib.hid (by
        have := HA.out
        rw [List.take_of_length_le (by have := HL.out; omega)] at this
        exact this)
      have hW0 : ∃ W0, W0 = (w.drewN q).alloc (.cells #[.pointer none, .slice none 0 0] 80) := ⟨_, rfl⟩
      obtain ⟨W0, hW0⟩ := hW0
      have hbd : Bld w.heap.size w.heap.size [] W0 := by rw [hW0]; exact bld_new (w.drewN q)
      have hb0 : Below w.heap.size w W0 := by rw [hW0]; exact (below_drewN (Below.refl _ w) q).alloc (Nat.le_refl _) _
      have hs0 : w.heap.size + 1 ≤ W0.heap.size := by rw [hW0]; simp
      have HW := Lib.hid (And.intro hbd (And.intro hb0 hs0))
      clear hbd hb0 hs0 HA
      go_wp2_with fail
      rw [← hW0]
      clear hW0
      go_loopw [25] (fun i wr => ∃ (j : Nat), i = .int .i64 (j : Int) ∧ j ≤ k ∧ Hid ((encs (rs.take j)).length ≤ M) ∧ Bld w.heap.size w.heap.size (encs (rs.take j)) wr ∧ Below w.heap.size w wr ∧ w.heap.size + 1 ≤ wr.heap.size) (fun i _ => k - (intOf i).toNat)
      case atStart => exact ⟨0, rfl, Nat.zero_le _, Lib.hid (Nat.zero_le _), HW.out.1, HW.out.2.1, HW.out.2.2⟩
      case round =>
        clear HW hlt hnl
        obtain ⟨j, rfl, hj, HJ, hB, hb, hsw⟩ := hrel
        by_cases hlt : j < k
        · have hltz : (j : Int) < (k : Int) := by omega
          have hkl : j < rs.length := by have := HL.out; omega
          obtain ⟨ad, rfl, hbk, hcell⟩ := reads_str (H.out.1.below hb) hlt
          have hmem : rs.getD j [] ∈ rs := by rw [List.getD_eq_getElem?_getD, List.getElem?_eq_getElem hkl]; exact List.getElem_mem _
          have hbk : (ad.add j).block < wr.heap.size := by rw [block_of_add]; omega
          have hput := put_any ⟨(rs.getD j []).toArray⟩ (by have := HALL.out _ hmem; show (rs.getD j []).length ≤ 300000; omega) wr (H.out.2.below hb H.out.2.size)
          have hpv : putV ⟨(rs.getD j []).toArray⟩ = .tuple #[.string (encS ⟨(rs.getD j []).toArray⟩), .int .i64 0] := by
            unfold putV
            rw [if_pos (by have := HALL.out _ hmem; show (rs.getD j []).length ≤ 262144; omega)]
          rw [hpv] at hput
          have hes : (encS ⟨(rs.getD j []).toArray⟩).data.toList = enc (rs.getD j []) := rfl
          have hez : (encS ⟨(rs.getD j []).toArray⟩).size = (enc (rs.getD j [])).length := rfl
          have hnx := encs_next rs j hkl
          have hnl := congrArg List.length hnx
          rw [List.length_append, ← hez] at hnl
          have HP := Lib.hid hput
          have HN := Lib.hid (And.intro hnx hnl)
          have hJ := HJ.out
          have hel : (encS ⟨(rs.getD j []).toArray⟩).size ≤ 300000 := by rw [hez, enc_len]; have := HALL.out _ hmem; omega
          clear hput hpv hmem hnx hkl
          generalize hS : encS ⟨(rs.getD j []).toArray⟩ = S at *
          generalize (⟨(rs.getD j []).toArray⟩ : ByteArray) = s at *
          have HES := Lib.hid hes
          have HB := Lib.hid (And.intro hB (And.intro hb hsw))
          clear hes hS hB hb hsw hez
          by_cases hfit : S.size ≤ M - (encs (rs.take j)).length
          · have hfz : ¬ (M : Int) - ((encs (rs.take j)).length : Int) < (S.size : Int) := by omega
            have HJ2 : Hid ((encs (rs.take (j + 1))).length ≤ M) := Lib.hid (by omega)
            have hbl := fun (w' : World) (hb' : Below wr.heap.size wr w') => blen_any w.heap.size w.heap.size (encs (rs.take j)) w' (bld_kept HB.out.1 hb')
            have hbw := fun (w' : World) (hb' : Below wr.heap.size wr w') => bwrite_any w.heap.size w.heap.size (encs (rs.take j)) S w' (bld_kept HB.out.1 hb') (by omega) (by have := hb'.size; have := HB.out.2.2; omega)
            have HBL := Lib.hid hbl
            have HBW := Lib.hid hbw
            clear hbl hbw hfit hnl HJ
            generalize (encs (rs.take j)).length = eN at *
            go_wp2_with fail
            refine HP.out.mono ?_
            rintro e w1 ⟨rfl, hb1⟩
            go_wp2_with fail
            refine (HBL.out w1 hb1).mono ?_
            rintro e w2 ⟨rfl, rfl⟩
            go_wp2_with fail
            refine (HBW.out w1 hb1).mono ?_
            rintro e w3 ⟨rfl, hB3, hb3⟩
            rw [HES.out, ← HN.out.1] at hB3
            have HY := Lib.hid (And.intro hB3 (And.intro (HB.out.2.1.trans ((hb1.mono (B' := w.heap.size) (by have := HB.out.2.2; omega)).trans hb3)) (show w.heap.size + 1 ≤ w3.heap.size by have := HB.out.2.2; have := hb1.size; have := hb3.size; omega)))
            clear hB3 hb3 hb1
            go_wp2_with fail
            go_roundw
            case rel => exact ⟨j + 1, by go_num, by omega, HJ2, HY.out.1, HY.out.2.1, HY.out.2.2⟩
            case measure => simp [intOf]; omega
          · have hfz : (M : Int) - ((encs (rs.take j)).length : Int) < (S.size : Int) := by omega
            have HE := Lib.hid (joinE_full (M := M) HALL.out (by have := encs_part rs (j + 1); omega))
            have hbl := fun (w' : World) (hb' : Below wr.heap.size wr w') => blen_any w.heap.size w.heap.size (encs (rs.take j)) w' (bld_kept HB.out.1 hb')
            have HBL := Lib.hid hbl
            clear hbl hfit hnl HJ
            generalize (encs (rs.take j)).length = eN at *
            go_wp2_with fail
            refine HP.out.mono ?_
            rintro e w1 ⟨rfl, hb1⟩
            go_wp2_with fail
            refine (HBL.out w1 hb1).mono ?_
            rintro e w2 ⟨rfl, rfl⟩
            go_wp2_with fail
            go_ret2
            unfold joinV
            rw [HE.out]
            exact ⟨rfl, HB.out.2.1.trans (hb1.mono (B' := w.heap.size) (by have := HB.out.2.2; omega))⟩
        · obtain rfl : j = k := by omega
          have hnl : ¬ (j : Int) < (j : Int) := by omega
          have hfull : rs.take j = rs := List.take_of_length_le (by have := HL.out; omega)
          rw [hfull] at HJ hB
          have HE := Lib.hid (joinE_ok HALL.out HJ.out)
          have HB := Lib.hid (And.intro hB (And.intro hb hsw))
          clear hB hb hsw hfull HJ
          go_wp2_with fail
          refine (bstring_any w.heap.size w.heap.size (encs rs) wr HB.out.1 (by have := HB.out.2.2; omega)).mono ?_
          rintro e w3 ⟨rfl, hb3⟩
          go_wp2_with fail
          go_ret2
          unfold joinV
          rw [HE.out]
          exact ⟨rfl, HB.out.2.1.trans hb3⟩
end Go.Proofs.YtkehojgiappiiaaGreatDoor
