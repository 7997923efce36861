/- As many timers as may be. Conditions: none. -/
import Derived.Test.YtfojempmgonahaaWhLawA
set_option linter.unusedVariables false
set_option linter.unusedSimpArgs false
set_option maxRecDepth 100000
namespace Go.Proofs.Ytfojempmgonahaa.Wh
open Go Go.RowKit Go.Maps
/-- Timers of the numbers from 0 on, each with its tick. -/
def seqL (f : Nat → Int) (k : Nat) : List Tm := (List.range k).map fun i : Nat => (((i : Int), f i) : Tm)
theorem seqL_succ (f : Nat → Int) (k : Nat) : seqL f (k + 1) = seqL f k ++ [((k : Int), f k)] := by unfold seqL; rw [List.range_succ, List.map_append]; rfl
theorem seqL_len (f : Nat → Int) (k : Nat) : (seqL f k).length = k := by simp [seqL]
theorem mem_seqL {f : Nat → Int} {k : Nat} {p : Tm} : p ∈ seqL f k ↔ ∃ i, i < k ∧ p = ((i : Int), f i) := by
  unfold seqL
  rw [List.mem_map]
  constructor
  · rintro ⟨i, hi, rfl⟩
    exact ⟨i, List.mem_range.1 hi, rfl⟩
  · rintro ⟨i, hi, rfl⟩
    exact ⟨i, List.mem_range.2 hi, rfl⟩
theorem has_seqL (f : Nat → Int) (k i : Nat) : has (i : Int) (seqL f k) = decide (i < k) := by
  rw [Bool.eq_iff_iff, has_iff, decide_eq_true_iff]
  constructor
  · rintro ⟨p, hp, e⟩
    obtain ⟨j, hj, rfl⟩ := mem_seqL.1 hp
    simp only at e
    omega
  · exact fun h => ⟨_, mem_seqL.2 ⟨i, h, rfl⟩, rfl⟩
theorem ins_last {x t : Int} : ∀ {L : List Tm}, (∀ p ∈ L, p.1 < x) → ins x t L = L ++ [(x, t)]
  | [], _ => rfl
  | p :: r, h => by
    unfold ins
    rw [if_pos (h p (List.mem_cons_self ..)), ins_last (fun q hq => h q (List.mem_cons_of_mem _ hq))]
    rfl
theorem set_seq (f : Nat → Int) {k : Nat} {n now : Int} (h1 : 1 ≤ n) (h2 : n ≤ 1000) (hk : k < 4096) (hf : now + n = f k) : setR (k : Int) n now (seqL f k) = (0, seqL f (k + 1)) := by
  unfold setR
  rw [if_neg (by omega), if_neg (fun h => by have := h.2; rw [seqL_len] at this; omega), off_self (by rw [has_seqL]; exact decide_eq_false (by omega)), ins_last (fun p hp => by obtain ⟨i, hi, rfl⟩ := mem_seqL.1 hp; show (i : Int) < k; omega), seqL_succ, hf]
theorem off_len_eq {x : Int} {L : List Tm} (h : L.Pairwise fun p q => p.1 < q.1) (hx : has x L = true) : (off x L).length + 1 = L.length := by
  have ha : Apart (endsE L) := List.pairwise_map.2 (h.imp fun {a b} h => by show a.1 ≠ b.1; omega)
  have h1 := noId_len (x := x) ha
  rw [noId_ends, isId_ends, hx] at h1
  simpa [endsE] using h1
set_option maxHeartbeats 8000000 in
theorem full_walk (x : Int) (w : World) : Calls Try.prog 6 #[.int .i64 x] w (Gives (.bool true) w) := by
  have H0 := Lib.hid (wnew_any w)
  have hx0 := Int.emod_nonneg x (show (4 : Int) ≠ 0 by decide)
  have hx1 := Int.emod_lt_of_pos x (show (0 : Int) < 4 by decide)
  have ex := i64_and3 x
  obtain ⟨n, hn⟩ : ∃ n : Nat, 4095 + x % 4 = (n : Int) := ⟨(4095 + x % 4).toNat, by omega⟩
  generalize x % 4 = a at *
  have wa : IntKind.i64.wrap (4095 + a) = (n : Int) := by rw [IntKind.wrap_i64]; omega
  have hn1 : 4095 ≤ n := by omega
  have hn2 : n ≤ 4098 := by omega
  clear hn hx0 hx1
  go_enter Try.func6, Try.ntmps6
  go_wp2_with fail
  refine H0.out.mono ?_
  rintro e w1 ⟨p, bm, dm, rfl, h1, hF, hB⟩
  have HF := Lib.hid hF
  have HB := Lib.hid hB
  have HH1 := Lib.hid h1
  clear h1 hF hB
  go_wp2_with fail
  go_loopw [5] (fun s wr => ∃ k : Nat, s = .int .i64 (k : Int) ∧ k ≤ n ∧ ∃ G, WheelW wr p bm dm 0 (seqL (fun i => 1 + (i : Int) % 7) (min k 4096)) G ∧ Turn (Foot p bm dm []) w1 (Foot p bm dm G) wr) (fun s _ => ((n : Int) - intOf s).toNat)
  case atStart => exact ⟨0, rfl, by omega, [], by rw [show min 0 4096 = 0 from rfl]; exact HH1.out, Turn.refl _ _⟩
  case round =>
    obtain ⟨k, rfl, hk, G4, h4, T4⟩ := hrel
    have HT4 := Lib.hid T4
    by_cases hlt : k < n
    · have hltz : (k : Int) < (n : Int) := by omega
      have hkw : (Lit.int .i64 (k : Int)).wf = true := wfn _ (by omega)
      have S := set_any h4 (by omega) (x := (k : Int)) (n := 1 + (k : Int) % 7) hkw
      have wm : IntKind.i64.wrap (1 + (k : Int) % 7) = 1 + (k : Int) % 7 := by rw [IntKind.wrap_i64]; omega
      by_cases hs : k < 4096
      · have hsz : (k : Int) < 4096 := by omega
        rw [show min k 4096 = k by omega, set_seq _ (by omega) (by omega) hs (by show (0 : Int) + _ = 1 + _; omega), show k + 1 = min (k + 1) 4096 by omega] at S
        have HS := Lib.hid S
        clear S h4 T4 hs
        go_wp2_with fail
        refine HS.out.mono ?_
        rintro e w5 ⟨rfl, G5, h5, T5⟩
        have H5 := Lib.hid h5
        have HT5 := Lib.hid (HT4.out.trans T5)
        clear h5 T5
        go_wp2
        exact ⟨⟨k + 1, by go_num, by omega, G5, H5.out, HT5.out⟩, by simp [intOf]; omega⟩
      · have hsz : ¬ (k : Int) < 4096 := by omega
        have hm : min k 4096 = min (k + 1) 4096 := by omega
        have hset : setR (k : Int) (1 + (k : Int) % 7) 0 (seqL (fun i => 1 + (i : Int) % 7) (min k 4096)) = (2, seqL (fun i => 1 + (i : Int) % 7) (min (k + 1) 4096)) := by
          unfold setR
          rw [if_neg (by omega), if_pos ⟨by rw [has_seqL]; exact decide_eq_false (by omega), by rw [seqL_len]; omega⟩, hm]
        rw [hset] at S
        have HS := Lib.hid S
        clear S h4 T4 hs hm hset
        go_wp2_with fail
        refine HS.out.mono ?_
        rintro e w5 ⟨rfl, G5, h5, T5⟩
        have H5 := Lib.hid h5
        have HT5 := Lib.hid (HT4.out.trans T5)
        clear h5 T5
        go_wp2
        exact ⟨⟨k + 1, by go_num, by omega, G5, H5.out, HT5.out⟩, by simp [intOf]; omega⟩
    · obtain rfl : k = n := by omega
      have S := set_any h4 (by omega) (x := 3) (n := 9) (wfn 3 (by omega))
      have hh : has 3 (seqL (fun i => 1 + (i : Int) % 7) (min k 4096)) = true := by
        have := has_seqL (fun i => 1 + (i : Int) % 7) (min k 4096) 3
        rw [decide_eq_true (by omega)] at this
        exact this
      have hset : (setR 3 9 0 (seqL (fun i => 1 + (i : Int) % 7) (min k 4096))).1 = 0 ∧ (setR 3 9 0 (seqL (fun i => 1 + (i : Int) % 7) (min k 4096))).2.length = min k 4096 := by
        have hol := off_len_eq h4.rise hh
        rw [seqL_len] at hol
        unfold setR
        rw [if_neg (by omega), if_neg (fun h => by rw [hh] at h; cases h.1)]
        exact ⟨rfl, by rw [ins_len]; exact hol⟩
      rw [hset.1] at S
      have hl2 := hset.2
      generalize (setR 3 9 0 (seqL (fun i => 1 + (i : Int) % 7) (min k 4096))).2 = L2 at *
      have hnl : ¬ (k : Int) < (k : Int) := by omega
      have HS := Lib.hid S
      have HL2 := Lib.hid hl2
      have HA := Lib.hid awake_any
      clear S h4 T4 hh hset hl2
      go_wp2_with fail
      refine HS.out.mono ?_
      rintro e w5 ⟨rfl, G5, h5, T5⟩
      have HT5 := Lib.hid (HT4.out.trans T5)
      have hlen := len_any h5
      rw [HL2.out] at hlen
      obtain ⟨mm, hmm⟩ : ∃ mm : Nat, min k 4096 = mm := ⟨_, rfl⟩
      have hmz : min (k : Int) 4096 = (mm : Int) := by omega
      rw [hmm] at hlen
      have HLN := Lib.hid hlen
      clear h5 T5 hlen hmm
      go_wp2_with fail
      refine HLN.out.mono ?_
      rintro e w6 ⟨rfl, rfl⟩
      go_wp2_with fail
      refine (HA.out w5).mono ?_
      rintro e w7 ⟨rfl, h7⟩
      have hfin := HB.out.trans (HT5.out.down HF.out HB.out.size)
      go_wp2
      go_ret
      exact ⟨rfl, hfin.trans (h7.mono hfin.size)⟩
end Go.Proofs.Ytfojempmgonahaa.Wh
