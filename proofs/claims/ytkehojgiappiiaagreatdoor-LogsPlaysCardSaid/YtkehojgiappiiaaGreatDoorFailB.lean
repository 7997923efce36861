/- What Fail of package block does to a disk in memory. Conditions: those named in each. -/
import Derived.Test.YtkehojgiappiiaaGreatDoorFail
set_option linter.unusedVariables false
set_option linter.unusedSimpArgs false
namespace Go.Proofs.YtkehojgiappiiaaGreatDoor
open Go Go.RowKit
section
variable {w w' : World} {F : Nat → Prop} {d bn bs N : Nat} {v : Value} {nw su : List ByteArray} {L : List (Nat × Nat × ByteArray)}
theorem fail_some (h : DkW w F d bn bs N v nw su L) (hL : L.length ≤ 1000000) (hsu : ∀ s ∈ su, s.size ≤ 128) (keep torn : Int) (hk1 : -9223372036854775808 ≤ keep) (hk2 : keep ≤ 9223372036854775807) (ht1 : -9223372036854775808 ≤ torn) (ht2' : torn ≤ 9223372036854775807) (m : Nat) (hall : shr keep L.length = m) (hm : m < L.length) :
    Calls Tryz.prog 12 #[.pointer (some ⟨d, 0, none⟩), .int .i64 keep, .int .i64 torn] w fun e w' => e = .returned (.int .i64 0) ∧ DkW w' F d bn bs N (.slice none 0 0) (forgets (L.drop m) (tornS L[m] (sets (L.take m) su) torn) nw) (tornS L[m] (sets (L.take m) su) torn) [] ∧ Turn F w F w' := by
  obtain ⟨g, c, rfl, hgl, -⟩ := h.loose_at hm
  obtain ⟨A0, c', hcc, hq1, hq2⟩ := own_shape h.own
  injection hcc with hA _ hcc
  subst hA hcc
  obtain ⟨W2, hW2⟩ : ∃ W2, W2 = (w.alloc (.cells #[.pointer (some ⟨d, 0, none⟩)] 26)).alloc (.cells #[.int .i64 torn] 3) := ⟨_, rfl⟩
  have h2 : DkW W2 F d bn bs N (.slice (some ⟨g, 0, none⟩) L.length c) nw su L := by rw [hW2]; exact (h.alloc _).alloc _
  have hb1 : Box W2 w.heap.size 26 (.pointer (some ⟨d, 0, none⟩)) := by rw [hW2]; exact (Box.new w 26 _).keep (heap_alloc_lt _ _ (by simp))
  have ht2 : Turn F w F W2 := by rw [hW2]; exact (Turn.alloc F w _).trans (Turn.alloc F _ _)
  have hnF : ¬ F w.heap.size := fun hf => by have := h.lt _ hf; omega
  have hg := given_any h2
  have hsh := share_any keep L.length hk1 hk2 hL
  rw [hall] at hsh
  have HG := Lib.hid hg
  have HS := Lib.hid hsh
  have hb2 : Box W2 (w.heap.size + 1) 3 (.int .i64 torn) := by rw [hW2]; have := Box.new (w.alloc (.cells #[.pointer (some ⟨d, 0, none⟩)] 26)) 3 (.int .i64 torn); simpa using this
  have hnF2 : ¬ F (w.heap.size + 1) := fun hf => by have := h.lt _ hf; omega
  have H := Lib.hid (And.intro h2 (And.intro hb1 (And.intro ht2 (And.intro hnF (And.intro hb2 hnF2)))))
  have hck : ¬ c = m := by omega
  have hl1 := hb1.lt
  have hc1 := hb1.cell
  clear h h2 hb1 hb2 ht2 hg hsh hall hnF hnF2
  go_enter Tryz.func12, Tryz.ntmps12
  go_wp2_with fail
  rw [← hW2]
  clear hW2
  go_at_call 33
  refine HG.out.mono ?_
  rintro e w1 ⟨rfl, q, rfl⟩
  have hc := H.out.1.c3
  have hl := H.out.1.lt d H.out.1.fd
  go_wp2_with (go_at_call 34; refine (HS.out _).mono ?_; rintro e w3 ⟨rfl, rfl⟩)
  go_quiet (fail)
  obtain ⟨W3, hq⟩ : ∃ W3, W3 = (W2.drewN q).drewN nq := ⟨_, rfl⟩
  have H3 := Lib.hid (show DkW W3 F d bn bs N (.slice (some ⟨g, 0, none⟩) L.length c) nw su L ∧ Turn F w F W3 ∧ Box W3 w.heap.size 26 (.pointer (some ⟨d, 0, none⟩)) ∧ Box W3 (w.heap.size + 1) 3 (.int .i64 torn) by rw [hq]; exact ⟨(H.out.1.drewN q).drewN nq, H.out.2.2.1.trans ((Turn.drewN F _ q).trans (Turn.drewN F _ nq)), H.out.2.1, H.out.2.2.2.2.1⟩)
  rw [← hq]
  clear hq
  generalize c - m = c2
  obtain ⟨n2, hn2⟩ : ∃ n2, n2 = L.length - m := ⟨_, rfl⟩
  rw [← hn2]
  have hn20 : 0 < n2 := by omega
  have hn21 : n2 ≤ 1000000 := by omega
  have hn2z : (0 : Int) < (n2 : Int) := by omega
  have HN := Lib.hid hn2
  clear hn2
  go_wp2_with fail
  go_loopw [38] (fun i wr => ∃ k : Nat, i = .int .i64 (k : Int) ∧ k ≤ m ∧ DkW wr F d bn bs N (.slice (some ⟨g, 0, none⟩) L.length c) nw (sets (L.take k) su) L ∧ Turn F w F wr ∧ Box wr w.heap.size 26 (.pointer (some ⟨d, 0, none⟩)) ∧ Box wr (w.heap.size + 1) 3 (.int .i64 torn)) (fun i _ => m - (intOf i).toNat)
  case atStart => exact ⟨0, rfl, Nat.zero_le _, H3.out⟩
  case round =>
    obtain ⟨k, rfl, hk, hD, hT, hB, hB2⟩ := hrel
    by_cases hlt : k < m
    · have hltz : (k : Int) < (m : Int) := by omega
      have hlL : k < L.length := by omega
      obtain ⟨g', c', hv, hg, hcell⟩ := hD.loose_at hlL
      have hka := again_keep hD L[k] (List.getElem_mem _)
      obtain ⟨⟨p1, p2, p3⟩, hp⟩ : ∃ p, L[k] = p := ⟨_, rfl⟩
      rw [hp] at hcell hka
      simp only at hcell hka
      injection hv with hA _ hcc
      injection hA with hA
      injection hA with hA _ _
      subst hA hcc
      have hcb := hB.cell
      have hlb := hB.lt
      have HD := Lib.hid (And.intro hD (And.intro hT (And.intro hB hB2)))
      have HP := Lib.hid hp
      clear hD hT hp hB hB2
      go_wp2_with (go_at_call 61; refine hka.mono ?_; rintro e w3 ⟨rfl, rfl⟩)
      have hN : DkW (wr.setCell ⟨bs, p2, none⟩ (.string p3)) F d bn bs N (.slice (some ⟨g, 0, none⟩) L.length c) nw (sets (L.take (k + 1)) su) L := by
        have := HD.out.1.setSure p2 p3
        rw [sets_take L su k hlL, HP.out]
        exact this
      have hT : Turn F w F (wr.setCell ⟨bs, p2, none⟩ (.string p3)) := HD.out.2.1.trans (Turn.set F _ (a := ⟨bs, p2, none⟩) HD.out.1.fs _)
      go_roundw
      case rel => exact ⟨k + 1, by go_num, by omega, hN, hT, HD.out.2.2.1.keep (heap_set_ne _ _ _ (fun e => H.out.2.2.2.1 (e ▸ HD.out.1.fs))), HD.out.2.2.2.keep (heap_set_ne _ _ _ (fun e => H.out.2.2.2.2.2 (e ▸ HD.out.1.fs)))⟩
      case measure => simp [intOf]; omega
    · obtain rfl : k = m := by omega
      have hnl : ¬ (k : Int) < (k : Int) := by omega
      have hcb := hB.cell
      have hlb := hB.lt
      have hlb2 := hB2.lt
      obtain ⟨g', c', hv, hg, hcell⟩ := hD.loose_at hm
      injection hv with hA _ hcc
      injection hA with hA
      injection hA with hA _ _
      subst hA hcc
      have hte := again_tear hD L[k] (List.getElem_mem _) (sets_small (fun p hp => (hD.boxes p (List.mem_of_mem_take hp)).2.2.2) su hsu) _ _ hB torn ht1 ht2' hB2 H.out.2.2.2.1 H.out.2.2.2.2.2
      have HX := Lib.hid hsu
      have HD := Lib.hid (And.intro hD (And.intro hT (And.intro hB hB2)))
      clear hD hT hB hB2 hsu
      obtain ⟨S2, hS2⟩ : ∃ S2, S2 = tornS L[k] (sets (L.take k) su) torn := ⟨_, rfl⟩
      rw [← hS2] at hte
      have HS2 := Lib.hid hS2
      clear hS2
      have HTE := Lib.hid hte
      clear hte
      go_wp2_with (go_at_call 61; refine HTE.out.mono ?_; rintro e w3 ⟨rfl, hD4, hT4, hF4⟩)
      have hB4 : Box w3 w.heap.size 26 (.pointer (some ⟨d, 0, none⟩)) := HD.out.2.2.1.keep (hF4 _ H.out.2.2.2.1)
      have H4 := Lib.hid (And.intro hD4 (And.intro (HD.out.2.1.trans hT4) hB4))
      clear hD4 hT4 hF4 hB4 hcb hlb hcell hlb2
      go_loopw [57] (fun i wq => ∃ j : Nat, i = .int .i64 (j : Int) ∧ j ≤ n2 ∧ DkW wq F d bn bs N (.slice (some ⟨g, 0, none⟩) L.length c) (forgets ((L.drop k).take j) S2 nw) S2 L ∧ Turn F w F wq ∧ Box wq w.heap.size 26 (.pointer (some ⟨d, 0, none⟩))) (fun i _ => n2 - (intOf i).toNat)
      case atStart => exact ⟨0, rfl, Nat.zero_le _, H4.out⟩
      case round =>
        clear H4 HTE HD
        obtain ⟨j, rfl, hj, hD, hT, hB⟩ := hrel
        by_cases hlt : j < n2
        · have hltz : (j : Int) < (n2 : Int) := by omega
          have hlL : k + j < L.length := by have := HN.out; omega
          obtain ⟨g', c', hv, hg, hcell⟩ := hD.loose_at hlL
          have hka := again_forget hD L[k + j] (List.getElem_mem _)
          obtain ⟨⟨p1, p2, p3⟩, hp⟩ : ∃ p, L[k + j] = p := ⟨_, rfl⟩
          rw [hp] at hcell hka
          simp only at hcell hka
          injection hv with hA _ hcc
          injection hA with hA
          injection hA with hA _ _
          subst hA hcc
          have hcb := hB.cell
          have hlb := hB.lt
          have HD := Lib.hid (And.intro hD (And.intro hT hB))
          have HP := Lib.hid hp
          have HKA := Lib.hid hka
          clear hD hT hp hB hka
          have HL := Lib.hid hlL
          go_wp2_with (go_at_call 61; refine HKA.out.mono ?_; rintro e w3 ⟨rfl, q3, rfl⟩)
          have hN : DkW ((wr.setCell ⟨bn, p2, none⟩ (.string (S2.getD p2 ⟨#[]⟩))).drewN q3) F d bn bs N (.slice (some ⟨g, 0, none⟩) L.length c) (forgets ((L.drop k).take (j + 1)) S2 nw) S2 L := by
            have := (HD.out.1.setNow p2 (S2.getD p2 ⟨#[]⟩)).drewN q3
            have hl' : j < (L.drop k).length := by rw [List.length_drop]; have := HL.out; omega
            rw [forgets_take (L.drop k) S2 nw j hl']
            rw [List.getElem_drop, HP.out]
            exact this
          have hT : Turn F w F ((wr.setCell ⟨bn, p2, none⟩ (.string (S2.getD p2 ⟨#[]⟩))).drewN q3) := (HD.out.2.1.trans (Turn.set F _ (a := ⟨bn, p2, none⟩) HD.out.1.fn _)).trans (Turn.drewN F _ q3)
          go_roundw
          case rel => exact ⟨j + 1, by go_num, by omega, hN, hT, HD.out.2.2.keep (heap_set_ne _ _ _ (fun e => H.out.2.2.2.1 (e ▸ HD.out.1.fn)))⟩
          case measure => simp [intOf]; omega
        · obtain rfl : j = n2 := by omega
          have hnl : ¬ (j : Int) < (j : Int) := by omega
          have hcb := hB.cell
          have hlb := hB.lt
          have HD := Lib.hid (And.intro hD (And.intro hT hB))
          have hl := hD.lt d hD.fd
          have hc := hD.c3
          have hz := hD.z3
          clear hD hT hB
          go_wp2_with fail
          go_ret
          refine ⟨rfl, ?_, HD.out.2.1.trans (Turn.set F _ (a := ⟨d, 3, none⟩) HD.out.1.fd _)⟩
          have := HD.out.1.clear
          rw [List.take_of_length_le (by rw [List.length_drop]; have := HN.out; omega), HS2.out] at this
          exact this
end
end Go.Proofs.YtkehojgiappiiaaGreatDoor
