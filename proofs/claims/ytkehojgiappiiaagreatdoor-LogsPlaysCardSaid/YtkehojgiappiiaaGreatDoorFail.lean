/- What Fail of package block does to a disk in memory. Conditions: those named in each. -/
import Derived.Test.YtkehojgiappiiaaGreatDoorSync
set_option linter.unusedVariables false
set_option linter.unusedSimpArgs false
namespace Go.Proofs.YtkehojgiappiiaaGreatDoor
open Go Go.RowKit
/-- Blocks get back what is sure of them. -/
def forgets (L : List (Nat × Nat × ByteArray)) (su nw : List ByteArray) : List ByteArray := L.foldl (fun s p => s.set p.2.1 (su.getD p.2.1 ⟨#[]⟩)) nw
theorem forgets_take (L : List (Nat × Nat × ByteArray)) (su nw : List ByteArray) (k : Nat) (h : k < L.length) : forgets (L.take (k + 1)) su nw = (forgets (L.take k) su nw).set (L[k]'h).2.1 (su.getD (L[k]'h).2.1 ⟨#[]⟩) := by
  unfold forgets
  rw [List.take_succ_eq_append_getElem h, List.foldl_append]
  rfl
/-- A write that is torn. -/
def tornS (p : Nat × Nat × ByteArray) (su : List ByteArray) (torn : Int) : List ByteArray := su.set p.2.1 (tearB p.2.2 (su.getD p.2.1 ⟨#[]⟩) (shr torn p.2.2.size))
theorem sets_small {L : List (Nat × Nat × ByteArray)} (hL : ∀ p ∈ L, p.2.2.size ≤ 128) : ∀ su : List ByteArray, (∀ s ∈ su, s.size ≤ 128) → ∀ s ∈ sets L su, s.size ≤ 128 := by
  induction L with
  | nil => intro su h; exact h
  | cons p L ih =>
    intro su h
    refine ih (fun q hq => hL q (List.mem_cons_of_mem _ hq)) _ fun s hs => ?_
    rcases List.mem_or_eq_of_mem_set hs with h1 | h1
    · exact h s h1
    · rw [h1]; exact hL p (List.mem_cons_self ..)
theorem getD_small {su : List ByteArray} (h : ∀ s ∈ su, s.size ≤ 128) (k : Nat) : (su.getD k ⟨#[]⟩).size ≤ 128 := by
  rw [List.getD_eq_getElem?_getD]
  rcases hk : su[k]? with _ | s
  · exact Nat.zero_le _
  · exact h s (List.mem_of_getElem? hk)
section
variable {w w' : World} {F : Nat → Prop} {d bn bs N : Nat} {v : Value} {nw su : List ByteArray} {L : List (Nat × Nat × ByteArray)}
theorem again_tear (h : DkW w F d bn bs N v nw su L) (p : Nat × Nat × ByteArray) (hp : p ∈ L) (hsu : ∀ s ∈ su, s.size ≤ 128) (b1 b2 : Nat) (hb1 : Box w b1 26 (.pointer (some ⟨d, 0, none⟩))) (torn : Int) (ht1 : -9223372036854775808 ≤ torn) (ht2 : torn ≤ 9223372036854775807) (hb2 : Box w b2 3 (.int .i64 torn)) (hn1 : ¬ F b1) (hn2 : ¬ F b2) :
    Calls Tryz.prog 61 #[.func (.func 36) #[] #[.pointer (some ⟨b1, 0, none⟩), .pointer (some ⟨b2, 0, none⟩)], .pointer (some ⟨p.1, 0, none⟩), .pointer (some ⟨p.1 + 1, 0, none⟩)] w fun e w' => e = .returned (.tuple #[]) ∧ DkW w' F d bn bs N v nw (tornS p su torn) L ∧ Turn F w F w' ∧ ∀ b, ¬ F b → w'.heap[b]? = w.heap[b]? := by
  have hb := h.boxes p hp
  obtain ⟨c, k, s⟩ := p
  have h1 := hb.1.cell
  have h2 := hb.2.1.cell
  have hl1 := hb.1.lt
  have hl2 := hb.2.1.lt
  have hk := tears_any h b1 b2 hb1 torn ht1 ht2 hb2 k hb.2.2.1 s (by have := hb.2.2.2; simp only at this; omega) (by have := getD_small hsu k; omega) (fun e => hn1 (e ▸ h.fs)) (fun e => hn2 (e ▸ h.fs))
  have H := Lib.hid h
  have HK := Lib.hid hk
  simp only at h1 h2 hl1 hl2 ⊢
  clear h hb hk
  go_enter Tryz.func61, Tryz.ntmps61
  go_wp2_with fail
  go_at_call 36
  refine HK.out.mono ?_
  rintro e w1 ⟨rfl, q, rfl⟩
  go_wp2_with fail
  go_end0
  exact ⟨rfl, (H.out.drewN q).setSure k _, (Turn.drewN F w q).trans (Turn.set F _ (a := ⟨bs, k, none⟩) H.out.fs _), fun b hb => heap_set_ne (w.drewN q) ⟨bs, k, none⟩ _ (fun e => hb (e ▸ H.out.fs))⟩
theorem fail_all (h : DkW w F d bn bs N v nw su L) (hL : L.length ≤ 1000000) (keep torn : Int) (hk1 : -9223372036854775808 ≤ keep) (hk2 : keep ≤ 9223372036854775807) (hall : shr keep L.length = L.length) :
    Calls Tryz.prog 12 #[.pointer (some ⟨d, 0, none⟩), .int .i64 keep, .int .i64 torn] w fun e w' => e = .returned (.int .i64 0) ∧ DkW w' F d bn bs N (.slice none 0 0) nw (sets L su) [] ∧ Turn F w F w' := by
  obtain ⟨A, c, rfl, hq1, hq2⟩ := own_shape h.own
  obtain ⟨W2, hW2⟩ : ∃ W2, W2 = (w.alloc (.cells #[.pointer (some ⟨d, 0, none⟩)] 26)).alloc (.cells #[.int .i64 torn] 3) := ⟨_, rfl⟩
  have h2 : DkW W2 F d bn bs N (.slice A L.length c) nw su L := by rw [hW2]; exact (h.alloc _).alloc _
  have hb1 : Box W2 w.heap.size 26 (.pointer (some ⟨d, 0, none⟩)) := by rw [hW2]; exact (Box.new w 26 _).keep (heap_alloc_lt _ _ (by simp))
  have ht2 : Turn F w F W2 := by rw [hW2]; exact (Turn.alloc F w _).trans (Turn.alloc F _ _)
  have hnF : ¬ F w.heap.size := fun hf => by have := h.lt _ hf; omega
  have hg := given_any h2
  have hsh := share_any keep L.length hk1 hk2 hL
  rw [hall] at hsh
  have HG := Lib.hid hg
  have HS := Lib.hid hsh
  have H := Lib.hid (And.intro h2 (And.intro hb1 (And.intro ht2 hnF)))
  have hl1 := hb1.lt
  have hc1 := hb1.cell
  clear h h2 hb1 ht2 hg hsh hall
  go_enter Tryz.func12, Tryz.ntmps12
  go_wp2_with fail
  rw [← hW2]
  clear hW2
  go_at_call 33
  refine HG.out.mono ?_
  rintro e w1 ⟨rfl, q, rfl⟩
  have hc := H.out.1.c3
  have hl := H.out.1.lt d H.out.1.fd
  go_wp2_with (go_at_call 34; refine (HS.out _).mono ?_; rintro e w3 ⟨rfl, rfl⟩)
  go_quiet (fail)
  obtain ⟨W3, hq⟩ : ∃ W3, W3 = (W2.drewN q).drewN nq := ⟨_, rfl⟩
  have H3 := Lib.hid (show DkW W3 F d bn bs N (.slice A L.length c) nw su L ∧ Turn F w F W3 ∧ Box W3 w.heap.size 26 (.pointer (some ⟨d, 0, none⟩)) by rw [hq]; exact ⟨(H.out.1.drewN q).drewN nq, H.out.2.2.1.trans ((Turn.drewN F _ q).trans (Turn.drewN F _ nq)), H.out.2.1⟩)
  rw [← hq]
  clear hq
  generalize (if c = L.length then A else Option.map (fun x => x.add L.length) A) = A2
  generalize c - L.length = c2
  go_wp2_with fail
  go_loopw [38] (fun i wr => ∃ k : Nat, i = .int .i64 (k : Int) ∧ k ≤ L.length ∧ DkW wr F d bn bs N (.slice A L.length c) nw (sets (L.take k) su) L ∧ Turn F w F wr ∧ Box wr w.heap.size 26 (.pointer (some ⟨d, 0, none⟩))) (fun i _ => L.length - (intOf i).toNat)
  case atStart => exact ⟨0, rfl, Nat.zero_le _, H3.out.1, H3.out.2.1, H3.out.2.2⟩
  case round =>
    obtain ⟨k, rfl, hk, hD, hT, hB⟩ := hrel
    by_cases hlt : k < L.length
    · have hltz : (k : Int) < (L.length : Int) := by omega
      obtain ⟨g, c', hv, hg, hcell⟩ := hD.loose_at hlt
      have hka := again_keep hD L[k] (List.getElem_mem _)
      obtain ⟨⟨p1, p2, p3⟩, hp⟩ : ∃ p, L[k] = p := ⟨_, rfl⟩
      rw [hp] at hcell hka
      simp only at hcell hka
      injection hv with hA _ hcc
      subst hA hcc
      have hcb := hB.cell
      have hlb := hB.lt
      have HD := Lib.hid (And.intro hD (And.intro hT hB))
      have HP := Lib.hid hp
      clear hD hT hp hB
      go_wp2_with (go_at_call 61; refine hka.mono ?_; rintro e w3 ⟨rfl, rfl⟩)
      have hN : DkW (wr.setCell ⟨bs, p2, none⟩ (.string p3)) F d bn bs N (.slice (some ⟨g, 0, none⟩) L.length c) nw (sets (L.take (k + 1)) su) L := by
        have := HD.out.1.setSure p2 p3
        rw [sets_take L su k hlt, HP.out]
        exact this
      have hT : Turn F w F (wr.setCell ⟨bs, p2, none⟩ (.string p3)) := HD.out.2.1.trans (Turn.set F _ (a := ⟨bs, p2, none⟩) HD.out.1.fs _)
      go_roundw
      case rel => exact ⟨k + 1, by go_num, by omega, hN, hT, HD.out.2.2.keep (heap_set_ne _ _ _ (fun e => H.out.2.2.2 (e ▸ HD.out.1.fs)))⟩
      case measure => simp [intOf]; omega
    · obtain rfl : k = L.length := by omega
      have hnl : ¬ (L.length : Int) < (L.length : Int) := by omega
      have hcb := hB.cell
      have hlb := hB.lt
      have HD := Lib.hid (And.intro hD (And.intro hT hB))
      have hl := hD.lt d hD.fd
      have hc := hD.c3
      have hz := hD.z3
      clear hD hT
      go_wp2_with fail
      go_loopw [57] (fun i wr2 => i = .int .i64 0 ∧ wr2 = wr) (fun i _ => 0)
      case atStart => exact ⟨rfl, rfl⟩
      case round =>
        obtain ⟨rfl, rfl⟩ := hrel
        go_wp2_with fail
        go_ret
        refine ⟨rfl, ?_, HD.out.2.1.trans (Turn.set F _ (a := ⟨d, 3, none⟩) HD.out.1.fd _)⟩
        have := HD.out.1.clear
        rw [List.take_length] at this
        exact this
end
end Go.Proofs.YtkehojgiappiiaaGreatDoor
