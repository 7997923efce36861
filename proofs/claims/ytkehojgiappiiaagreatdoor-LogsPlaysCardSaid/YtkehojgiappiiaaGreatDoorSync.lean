/- What Sync and a refused Put of package block do to a disk in memory. Conditions: those named in each. -/
import Derived.Test.YtkehojgiappiiaaGreatDoorDPut
set_option linter.unusedVariables false
set_option linter.unusedSimpArgs false
namespace Go.Proofs.YtkehojgiappiiaaGreatDoor
open Go Go.RowKit
/-- Writes, one after the other. -/
def sets (L : List (Nat × Nat × ByteArray)) (su : List ByteArray) : List ByteArray := L.foldl (fun s p => s.set p.2.1 p.2.2) su
theorem sets_take (L : List (Nat × Nat × ByteArray)) (su : List ByteArray) (k : Nat) (h : k < L.length) : sets (L.take (k + 1)) su = (sets (L.take k) su).set (L[k]'h).2.1 (L[k]'h).2.2 := by
  unfold sets
  rw [List.take_succ_eq_append_getElem h, List.foldl_append]
  rfl
section
variable {w w' : World} {F : Nat → Prop} {d bn bs N : Nat} {v : Value} {nw su : List ByteArray} {L : List (Nat × Nat × ByteArray)}
theorem DkW.loose_at (h : DkW w F d bn bs N v nw su L) {k : Nat} (hk : k < L.length) : ∃ g c, v = .slice (some ⟨g, 0, none⟩) L.length c ∧ g < w.heap.size ∧ w.cell? ⟨g, k, none⟩ = some (.func (.func 61) #[] #[.pointer (some ⟨L[k].1, 0, none⟩), .pointer (some ⟨L[k].1 + 1, 0, none⟩)]) := by
  have ho := h.own
  obtain ⟨g, c, rfl, _, hlt⟩ := ho.form (by omega)
  refine ⟨g, c, rfl, hlt, ?_⟩
  have := ho.cells (g := g) rfl k (clo L[k].1) (by rw [List.getElem?_map, List.getElem?_eq_getElem hk]; rfl)
  rw [add_flat, Nat.zero_add] at this
  exact this
theorem put_no (h : DkW w F d bn bs N v nw su L) (z : Int) (s : ByteArray) (hs : s.size ≤ 9223372036854775807) (hz : z < 0 ∨ (N : Int) ≤ z ∨ 128 < s.size) : Calls Tryz.prog 50 #[.pointer (some ⟨d, 0, none⟩), .int .i64 z, .string s] w fun e w' => e = .returned (.int .i64 1) ∧ Below w.heap.size w w' := by
  obtain ⟨W2, hW2⟩ : ∃ W2, W2 = (w.alloc (.cells #[.int .i64 z] 3)).alloc (.cells #[.string s] 9) := ⟨_, rfl⟩
  have h2 : DkW W2 F d bn bs N v nw su L := by rw [hW2]; exact (h.alloc _).alloc _
  have hb1 : Box W2 w.heap.size 3 (.int .i64 z) := by rw [hW2]; exact (Box.new w 3 _).keep (heap_alloc_lt _ _ (by simp))
  have hb2 : Box W2 (w.heap.size + 1) 9 (.string s) := by rw [hW2]; have := Box.new (w.alloc (.cells #[.int .i64 z] 3)) 9 (.string s); simpa using this
  have hb0 : Below w.heap.size w W2 := by rw [hW2]; exact ((Below.refl _ w).alloc (Nat.le_refl _) _).alloc (by simp) _
  have hl1 := hb1.cell
  have hl2 := hb2.cell
  have hlt1 := hb1.lt
  have hlt2 := hb2.lt
  clear hb1 hb2
  by_cases hr : z < 0 ∨ (N : Int) ≤ z
  · have hh := has_no h2 z hr
    have HH := Lib.hid hh
    clear hh hz hr h h2
    go_enter Tryz.func50, Tryz.ntmps50
    go_wp2_with fail
    rw [← hW2]
    clear hW2
    go_at_call 60
    refine HH.out.mono ?_
    rintro e w1 ⟨rfl, q, rfl⟩
    go_wp2
    go_ret
    exact ⟨rfl, below_drewN hb0 q⟩
  · obtain ⟨k, rfl⟩ : ∃ k : Nat, z = k := ⟨z.toNat, by omega⟩
    have hh := has_yes h2 k (by omega)
    have hsz : (128 : Int) < s.size := by omega
    have HH := Lib.hid hh
    clear hh hz hr h h2
    go_enter Tryz.func50, Tryz.ntmps50
    go_wp2_with fail
    rw [← hW2]
    clear hW2
    go_at_call 60
    refine HH.out.mono ?_
    rintro e w1 ⟨rfl, q, rfl⟩
    go_wp2
    go_ret
    exact ⟨rfl, below_drewN hb0 q⟩
set_option maxHeartbeats 1000000 in
theorem sync_any (h : DkW w F d bn bs N v nw su L) (hL : L.length ≤ 1000000) : Calls Tryz.prog 26 #[.pointer (some ⟨d, 0, none⟩)] w fun e w' => e = .returned (.int .i64 0) ∧ DkW w' F d bn bs N (.slice none 0 0) nw (sets L su) [] ∧ Turn F w F w' := by
  have hg := given_any h
  obtain ⟨A, c, rfl, hq1, hq2⟩ := own_shape h.own
  have HG := Lib.hid hg
  have H := Lib.hid (And.intro h (And.intro hq1 hq2))
  clear h hg hq1 hq2
  go_enter Tryz.func26, Tryz.ntmps26
  go_wp2_with fail
  go_at_call 33
  refine HG.out.mono ?_
  rintro e w1 ⟨rfl, q, rfl⟩
  have hc := (H.out.1.drewN q).c3
  have hl := (H.out.1.drewN q).lt d H.out.1.fd
  go_wp2_with fail
  go_loopw [13] (fun i wr => ∃ k : Nat, i = .int .i64 (k : Int) ∧ k ≤ L.length ∧ DkW wr F d bn bs N (.slice A L.length c) nw (sets (L.take k) su) L ∧ Turn F w F wr) (fun i _ => L.length - (intOf i).toNat)
  case atStart => exact ⟨0, rfl, Nat.zero_le _, H.out.1.drewN q, Turn.drewN F w q⟩
  case round =>
    obtain ⟨k, rfl, hk, hD, hT⟩ := hrel
    by_cases hlt : k < L.length
    · have hltz : (k : Int) < (L.length : Int) := by omega
      obtain ⟨g, c', hv, hg, hcell⟩ := hD.loose_at hlt
      have hka := again_keep hD L[k] (List.getElem_mem _)
      obtain ⟨⟨p1, p2, p3⟩, hp⟩ : ∃ p, L[k] = p := ⟨_, rfl⟩
      rw [hp] at hcell hka
      simp only at hcell hka
      injection hv with hA _ hcc
      subst hA hcc
      have HD := Lib.hid (And.intro hD hT)
      have HP := Lib.hid hp
      clear hD hT hp
      go_wp2_with (go_at_call 61; refine hka.mono ?_; rintro e w3 ⟨rfl, rfl⟩)
      have hN : DkW (wr.setCell ⟨bs, p2, none⟩ (.string p3)) F d bn bs N (.slice (some ⟨g, 0, none⟩) L.length c) nw (sets (L.take (k + 1)) su) L := by
        have := HD.out.1.setSure p2 p3
        rw [sets_take L su k hlt, HP.out]
        exact this
      have hT : Turn F w F (wr.setCell ⟨bs, p2, none⟩ (.string p3)) := HD.out.2.trans (Turn.set F _ (a := ⟨bs, p2, none⟩) HD.out.1.fs _)
      go_roundw
      case rel => exact ⟨k + 1, by go_num, by omega, hN, hT⟩
      case measure => simp [intOf]; omega
    · obtain rfl : k = L.length := by omega
      have hnl : ¬ (L.length : Int) < (L.length : Int) := by omega
      have HD := Lib.hid (And.intro hD hT)
      have hl := hD.lt d hD.fd
      have hc := hD.c3
      have hz := hD.z3
      clear hD hT
      go_wp2_with fail
      go_ret
      refine ⟨rfl, ?_, HD.out.2.trans (Turn.set F _ (a := ⟨d, 3, none⟩) HD.out.1.fd _)⟩
      have := HD.out.1.clear
      rw [List.take_length] at this
      exact this
end
end Go.Proofs.YtkehojgiappiiaaGreatDoor
