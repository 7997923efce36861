/- Whether numbers are those whose ticks are now, as the law asks. Conditions: both lists read. -/
import Derived.Test.YtfojempmgonahaaWhLawO
set_option linter.unusedVariables false
set_option linter.unusedSimpArgs false
set_option maxRecDepth 100000
namespace Go.Proofs.Ytfojempmgonahaa.Wh
open Go Go.RowKit Go.Maps
def ticks (f : Nat → Int) (m : Nat) : List Int := (List.range m).map f
theorem ticks_len (f : Nat → Int) (m : Nat) : (ticks f m).length = m := by simp [ticks]
theorem ticks_get (f : Nat → Int) {m i : Nat} (h : i < m) : (ticks f m).getD i 0 = f i := by
  unfold ticks
  rw [List.getD_eq_getElem?_getD, List.getElem?_map, List.getElem?_range h]
  rfl
theorem ticks_succ (f : Nat → Int) (m : Nat) : ticks f (m + 1) = ticks f m ++ [f m] := by unfold ticks; rw [List.range_succ, List.map_append]; rfl
set_option maxHeartbeats 8000000 in
theorem tells_any (f : Nat → Int) (t : Int) {w : World} {B1 B2 n m c c2 : Nat} {A A2 : Option Addr} (h1 : Reads w B1 1 A n (ints (outs t (seqL f m)))) (h2 : Reads w B2 1 A2 m (ints (ticks f m))) (hb1 : B1 ≤ w.heap.size) (hb2 : B2 ≤ w.heap.size) (hm : m ≤ 1000) :
    Calls Try.prog 21 #[.slice A n c, .slice A2 m c2, .int .i64 t] w fun e w' => e = .returned (.bool true) ∧ w = w' := by
  have hln := h1.len
  have hlm : (outs t (seqL f m)).length ≤ m := by
    have := List.length_filter_le (fun p : Tm => decide (p.2 = t)) (seqL f m)
    rw [seqL_len] at this
    simpa [outs, at_] using this
  have hn : n ≤ m := by omega
  have HLN := Lib.hid hln
  have H1 := Lib.hid h1
  have H2 := Lib.hid h2
  clear h1 h2 hln hlm
  go_enter Try.func21, Try.ntmps21
  go_wp2_with fail
  go_loopw [7, 8] (fun s7 s8 wr => ∃ i : Nat, s8 = .int .i64 (i : Int) ∧ i ≤ m ∧ s7 = .int .i64 ((outs t (seqL f i)).length : Int) ∧ wr = w) (fun _ s8 _ => ((m : Int) - intOf s8).toNat)
  case atStart => exact ⟨0, rfl, by omega, rfl, rfl⟩
  case round =>
    obtain ⟨i, rfl, hi, rfl, hwr⟩ := hrel
    subst hwr
    by_cases hik : i < m
    · have hikz : (i : Int) < (m : Int) := by omega
      obtain ⟨ad, rfl, hab, hc⟩ := H2.out.int_at hik
      rw [ticks_get f hik] at hc
      have hal : (ad.add i).block < wr.heap.size := by rw [block_of_add]; omega
      have hsu := outs_succ f i t
      by_cases hft : f i = t
      · obtain ⟨ha1, ha2⟩ := outs_at f hik hft
        rw [if_pos hft] at hsu
        have hsu2 : ((outs t (seqL f (i + 1))).length : Int) = ((outs t (seqL f i)).length : Int) + 1 := by rw [hsu, List.length_append]; rfl
        have HSU := Lib.hid hsu2
        clear hsu hsu2
        generalize (outs t (seqL f i)).length = j at *
        have hj : j < n := by rw [HLN.out]; exact ha1
        obtain ⟨ad6, rfl, hab6, hc6⟩ := H1.out.int_at hj
        rw [ha2] at hc6
        have hal6 : (ad6.add j).block < wr.heap.size := by rw [block_of_add]; omega
        have hjz : (j : Int) < (n : Int) := by omega
        have wj : j ≤ 1000 := by omega
        rw [hft] at hc
        clear ha1 ha2 hft hab hab6
        go_wp2
        exact ⟨⟨i + 1, by go_num, by omega, by rw [HSU.out], trivial⟩, by simp [intOf]; omega⟩
      · rw [if_neg hft] at hsu
        have HSU := Lib.hid (congrArg (fun l : List Int => (l.length : Int)) hsu)
        clear hsu
        generalize (outs t (seqL f i)).length = j at *
        generalize f i = y at *
        clear hab
        go_wp2
        exact ⟨⟨i + 1, by go_num, by omega, by rw [HSU.out], trivial⟩, by simp [intOf]; omega⟩
    · obtain rfl : i = m := by omega
      rw [← HLN.out]
      have hnl : ¬ (i : Int) < (i : Int) := by omega
      go_wp2
      go_ret
      exact ⟨rfl, rfl⟩
end Go.Proofs.Ytfojempmgonahaa.Wh
