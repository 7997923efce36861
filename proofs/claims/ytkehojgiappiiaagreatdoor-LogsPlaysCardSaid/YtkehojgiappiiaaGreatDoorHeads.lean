/- What headAt, lastTurn and putHead of package logs return: the turn that a disk's heads tell. Conditions: a disk in memory whose heads are none, or tell a turn; the tables lie as start-up lays them. -/
import Derived.Test.YtkehojgiappiiaaGreatDoorBenX
import Derived.Test.YtkehojgiappiiaaGreatDoorLogM
set_option linter.unusedVariables false
set_option linter.unusedSimpArgs false
namespace Go.Proofs.YtkehojgiappiiaaGreatDoor
open Go Go.RowKit
/-- A head's bytes. -/
def headS (t : Nat) : ByteArray := encS (numS t)
def HeadOf (s : ByteArray) (t : Nat) : Prop := (s = ⟨#[]⟩ ∧ t = 0) ∨ (s = headS t ∧ t ≤ 1000000000)
theorem headS_small (t : Nat) (ht : t ≤ 1000000000) : (headS t).size ≤ 36 := by
  unfold headS
  rw [encS_size]
  have := numS_small t (by omega)
  omega
theorem head_take (t : Nat) (ht : t ≤ 1000000000) : tkL (headS t).data.toList = (numB t, (numB t).length + 14, 0) := by
  have hs := numS_small t (by omega)
  have := tk_enc (numB t) [] (by show (numS t).size ≤ _; omega)
  rw [List.append_nil] at this
  exact this
section
variable {w w' : World} {F : Nat → Prop} {d N : Nat} {su : List ByteArray} {l : List (Nat × ByteArray)}
set_option maxRecDepth 100000 in
set_option maxHeartbeats 8000000 in
theorem headAt_any (h : Disk w F d N su l) (k : Nat) (hk : k < N) (t : Nat) (hh : HeadOf ((setsP l su).getD k ⟨#[]⟩) t) (hT : TabW w) : Calls Tryz.prog 54 #[.pointer (some ⟨d, 0, none⟩), .int .i64 (k : Int)] w (Gives (.int .i64 (t : Int)) w) := by
  have hg := a_get h k hk
  rcases hh with ⟨hs, rfl⟩ | ⟨hs, ht⟩
  · rw [hs] at hg
    have htk := fun q => take_any ⟨#[]⟩ (by decide) (w.drewN q) hT
    rw [show tkV (tkL (⟨#[]⟩ : ByteArray).data.toList) = .tuple #[.string ⟨#[]⟩, .int .i64 0, .int .i64 21] by rfl] at htk
    have HG := Lib.hid hg
    have HT := Lib.hid htk
    clear hg htk hs h hT
    go_enter Tryz.func54, Tryz.ntmps54
    go_wp2_with fail
    refine HG.out.mono ?_
    rintro e w1 ⟨rfl, q, rfl⟩
    go_wp2_with fail
    refine (HT.out q).mono ?_
    rintro e w2 ⟨rfl, hb⟩
    go_wp2_with fail
    go_ret
    exact ⟨rfl, (below_drewN (Below.refl _ w) q).trans hb⟩
  · rw [hs] at hg
    have htk := fun q => take_any (headS t) (by have := headS_small t ht; omega) (w.drewN q) hT
    rw [head_take t ht] at htk
    have hon := fun w => only_num t ht w
    unfold vNum at hon
    unfold tkV at htk
    have e1 : (⟨(numB t).toArray⟩ : ByteArray) = numS t := rfl
    simp only [e1] at htk
    have HG := Lib.hid hg
    have HT := Lib.hid htk
    have HO := Lib.hid hon
    clear hg htk hs h hT hon e1
    generalize numS t = s at *
    generalize (numB t).length + 14 = nn at *
    go_enter Tryz.func54, Tryz.ntmps54
    go_wp2_with fail
    refine HG.out.mono ?_
    rintro e w1 ⟨rfl, q, rfl⟩
    go_wp2_with fail
    refine (HT.out q).mono ?_
    rintro e w2 ⟨rfl, hb⟩
    go_wp2_with fail
    refine (HO.out _).mono ?_
    rintro e w3 ⟨rfl, hb3⟩
    go_wp2_with fail
    go_ret
    have hb4 := ((below_drewN (Below.refl _ w) q).trans hb).trans (hb3.mono (B' := w.heap.size) hb.size)
    exact ⟨rfl, hb4.alloc hb4.size _⟩
set_option maxRecDepth 100000 in
set_option maxHeartbeats 8000000 in
theorem lastTurn_any (h : Disk w F d N su l) (h4 : 4 ≤ N) (t0 t1 : Nat) (hh0 : HeadOf ((setsP l su).getD 0 ⟨#[]⟩) t0) (hh1 : HeadOf ((setsP l su).getD 1 ⟨#[]⟩) t1) (hT : TabW w) : Calls Tryz.prog 40 #[.pointer (some ⟨d, 0, none⟩)] w (Gives (.int .i64 ((max t0 t1 : Nat) : Int)) w) := by
  have ht0 : t0 ≤ 1000000000 := by rcases hh0 with ⟨_, h⟩ | ⟨_, h⟩ <;> omega
  have ht1 : t1 ≤ 1000000000 := by rcases hh1 with ⟨_, h⟩ | ⟨_, h⟩ <;> omega
  have hx := Row.new w 93 [.int .i64 0, .int .i64 0]
  have hb0 : Below w.heap.size w (w.alloc (.cells #[.int .i64 0, .int .i64 0] 93)) := (Below.refl _ w).alloc (Nat.le_refl _) _
  have H := Lib.hid (And.intro h (And.intro hh0 (And.intro hh1 hT)))
  have HX := Lib.hid (And.intro hx hb0)
  have hpos := hT.size
  clear h hh0 hh1 hT hx hb0
  go_enter Tryz.func40, Tryz.ntmps40
  go_wp2_with fail
  change Code.wp _ _ _ _ (w.alloc (.cells [Value.int .i64 0, Value.int .i64 0].toArray 93))
  generalize w.alloc (.cells [Value.int .i64 0, Value.int .i64 0].toArray 93) = w0 at *
  go_loopw [5] (fun i wr => ∃ (k : Nat), i = .int .i64 (k : Int) ∧ k ≤ 2 ∧ Row wr w.heap.size 93 [.int .i64 (if 0 < k then (t0 : Int) else 0), .int .i64 (if 1 < k then (t1 : Int) else 0)] ∧ Below w.heap.size w wr) (fun i _ => 2 - (intOf i).toNat)
  case atStart => exact ⟨0, rfl, by omega, HX.out.1, HX.out.2⟩
  case round =>
    obtain ⟨k, rfl, hk, hR, hb⟩ := hrel
    have hD := H.out.1.below hb
    have hT := H.out.2.2.2.below hb hpos
    rcases (show k = 0 ∨ k = 1 ∨ k = 2 by omega) with rfl | rfl | rfl
    · have hc := headAt_any hD 0 (by omega) t0 H.out.2.1 hT
      have HC := Lib.hid hc
      have HR := Lib.hid (And.intro hR hb)
      clear hc hR hb hD hT
      go_wp2_with fail
      refine HC.out.mono ?_
      rintro e w1 ⟨rfl, hb1⟩
      have hR1 := HR.out.1.keep (hb1.block _ HR.out.1.lt)
      have hc0 := hR1.cell (j := 0) rfl
      have hz0 := hR1.frozen 0
      have hl := hR1.lt
      go_wp2_with fail
      go_roundw
      case rel =>
        have := hR1.set 0 (.int .i64 (t0 : Int))
        exact ⟨1, rfl, by omega, this, below_setCell (HR.out.2.trans (hb1.mono (B' := w.heap.size) HR.out.2.size)) (p := ⟨w.heap.size, 0, none⟩) (Nat.le_refl _) _⟩
      case measure => simp [intOf]
    · have hc := headAt_any hD 1 (by omega) t1 H.out.2.2.1 hT
      have HC := Lib.hid hc
      have HR := Lib.hid (And.intro hR hb)
      clear hc hR hb hD hT
      go_wp2_with fail
      refine HC.out.mono ?_
      rintro e w1 ⟨rfl, hb1⟩
      have hR1 := HR.out.1.keep (hb1.block _ HR.out.1.lt)
      have hc0 := hR1.cell (j := 1) rfl
      have hz0 := hR1.frozen 1
      have hl := hR1.lt
      go_wp2_with fail
      go_roundw
      case rel =>
        have := hR1.set 1 (.int .i64 (t1 : Int))
        exact ⟨2, rfl, by omega, this, below_setCell (HR.out.2.trans (hb1.mono (B' := w.heap.size) HR.out.2.size)) (p := ⟨w.heap.size, 1, none⟩) (Nat.le_refl _) _⟩
      case measure => simp [intOf]
    · have hc0 := hR.cell (j := 0) rfl
      have hc1 := hR.cell (j := 1) rfl
      have hl := hR.lt
      rw [if_pos (by omega)] at hc0 hc1
      have HB := Lib.hid hb
      clear hR hb hD hT
      go_wp2_with fail
      go_ret
      refine ⟨?_, HB.out⟩
      rw [show ((max t0 t1 : Nat) : Int) = max (t0 : Int) (t1 : Int) by omega]
      rfl
set_option maxRecDepth 100000 in
set_option maxHeartbeats 8000000 in
theorem putHead_any (h : Disk w F d N su l) (h4 : 4 ≤ N) (t : Nat) (ht : t ≤ 1000000000) (hl : l.length ≤ 1000000) (hT : TabW w) (hP : Tabs w w.heap.size) : Calls Tryz.prog 31 #[.pointer (some ⟨d, 0, none⟩), .int .i64 (t : Int)] w fun e w' =>
    e = .returned (.int .i64 0) ∧ ∃ F', Disk w' F' d N su (l ++ [(t % 2, headS t)]) ∧ Turn F w F' w' := by
  have hpos := hT.size
  have hand := i64_and1 (t : Int)
  rw [show (t : Int) % 2 = ((t % 2 : Nat) : Int) by omega] at hand
  have hbi := bint_any (t : Int) w
  have hbp := fun w1 (hb : Below w.heap.size w w1) => bput_num t ht w1 ((hP.on hb).up hb.size)
  have hfp := fun w1 (hb : Below w.heap.size w w1) => put_any (numS t) (by have := numS_small t (by omega); omega) w1 (hT.below hb hpos)
  rw [show putV (numS t) = .tuple #[.string (headS t), .int .i64 0] by unfold putV; rw [if_pos (by have := numS_small t (by omega); omega)]; rfl] at hfp
  have hdp := fun w1 (hb : Below w.heap.size w w1) => a_put (h.below hb) (t % 2) (by omega) (headS t) (by have := headS_small t ht; omega) hl
  unfold vNum at hbp
  have H1 := Lib.hid hbi
  have H2 := Lib.hid hbp
  have H3 := Lib.hid hfp
  have H4 := Lib.hid hdp
  clear hbi hbp hfp hdp h hT hP hl hpos
  generalize headS t = hs at *
  generalize numS t = ns at *
  generalize t % 2 = par at *
  go_enter Tryz.func31, Tryz.ntmps31
  go_wp2_with fail
  refine H1.out.mono ?_
  rintro e w1 ⟨rfl, hb1⟩
  go_wp2_with fail
  refine (H2.out _ hb1).mono ?_
  rintro e w2 ⟨rfl, hb2⟩
  have hb2' := hb1.trans (hb2.mono (B' := w.heap.size) hb1.size)
  go_wp2_with fail
  refine (H3.out _ hb2').mono ?_
  rintro e w3 ⟨rfl, hb3⟩
  have hb3' := hb2'.trans (hb3.mono (B' := w.heap.size) hb2'.size)
  go_wp2_with fail
  refine (H4.out _ hb3').mono ?_
  rintro e w4 ⟨rfl, F', hD, hT⟩
  go_wp2_with fail
  go_ret
  exact ⟨rfl, F', hD, (Turn.below F hb3').trans hT⟩
end
end Go.Proofs.YtkehojgiappiiaaGreatDoor
